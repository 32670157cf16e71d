import Derived.Test.YtcimmfhbffofjaaRcAl
import Derived.Test.YtcimmfhbffofjaaRcEq
import Derived.Test.YtcimmfhbffofjaaRcRp
import Derived.Test.YtcimmfhbffofjaaTrue
namespace Go.Proofs.Ytcimmfhbffofjaa
open Wd U Go.ChangeShapes Go.WideShapes Go.RowKit Go.Sort
set_option linter.unusedVariables false
set_option linter.unusedSimpArgs false

/-! RecordDoes -/
def OfV (l : List Nat) (x : Eff) (r n err : Int) : Prop :=
  (∃ t, recB x r = true ∧ x.data = zer x.kind ∧ l = recW x r ++ t ∧ n = (manyR x : Int) ∧ err = 0) ∨
  ((∀ (x : Eff) (r : Int) (t : List Nat), recB x r = true → x.data = zer x.kind → l ≠ recW x r ++ t) ∧ x = zE ∧ r = 0 ∧ n = 0 ∧ err = 74)
theorem i64R0 : i64R 0 := by unfold i64R; omega
theorem zE_ok (w : World) (B : Nat) : zE.Ok w B := ⟨i64R0, i64R0, i64R0, i64R0, i64R0, i64R0, Nat.zero_le _, Nat.zero_le _, (fun x hx => by cases hx), Row.nil, Nat.zero_le _, Nat.zero_le _⟩
theorem ofr_form {l : List Nat} {W w : World} {e : Ending} (h : OfR l W e w) : ∃ (x : Eff) (r n err : Int), e = .returned (.tuple #[x.val, .int .i64 r, .int .i64 n, .int .i64 err]) ∧ x.Ok w w.heap.size ∧ Below W.heap.size W w ∧ OfV l x r n err := by
  rcases h with ⟨hb, ⟨x, r, t, h1, h2, h3, h4, _, h6⟩ | ⟨hno, he⟩⟩
  · exact ⟨x, r, _, _, h6, h4, hb, .inl ⟨t, h1, h2, h3, rfl, rfl⟩⟩
  · exact ⟨zE, 0, 0, 74, he, zE_ok _ _, hb, .inr ⟨hno, rfl, rfl, rfl, rfl⟩⟩
theorem many_core {a b : Eff} (h : core a = core b) : manyR a = manyR b := by rw [← recW_len a 0, ← recW_len b 0, recW_core 0 h]
theorem ofv_same {l : List Nat} {x y : Eff} {r n e q m f : Int} (h1 : OfV l x r n e) (h2 : OfV l y q m f) : sameB x y = true ∧ r = q ∧ n = m ∧ e = f := by
  rcases h1 with ⟨t, a1, a2, a3, rfl, rfl⟩ | ⟨hno, rfl, rfl, rfl, rfl⟩
  · rcases h2 with ⟨t', b1, b2, b3, rfl, rfl⟩ | ⟨hno, _⟩
    · obtain ⟨e1, e2, _⟩ := rec_inj a1 b1 (a3.symm.trans b3)
      refine ⟨same_core e1 (by rw [a2, b2, core_kind e1]), e2, by rw [many_core e1], rfl⟩
    · exact absurd a3 (hno _ _ _ a1 a2)
  · rcases h2 with ⟨t', b1, b2, b3, _⟩ | ⟨_, rfl, rfl, rfl, rfl⟩
    · exact absurd b3 (hno _ _ _ b1 b2)
    · exact ⟨same_core rfl rfl, rfl, rfl, rfl⟩
def AllV (l : List Nat) (ps : List (Eff × Int)) (err : Int) : Prop :=
  ((∀ p ∈ ps, goodP p) ∧ l = allW ps ∧ err = 0) ∨ ((∀ qs : List (Eff × Int), (∀ p ∈ qs, goodP p) → l ≠ allW qs) ∧ ps = [] ∧ err = 74)
theorem allr_form {l : List Nat} {W w : World} {e : Ending} (h : AllR l W e w) : ∃ (ps : List (Eff × Int)) (A D : Option Addr) (c d : Nat) (err : Int), e = .returned (.tuple #[.slice A ps.length c, .slice D ps.length d, .int .i64 err]) ∧ Effs w w.heap.size A (ps.map (·.1)) ∧ Row w w.heap.size D ps.length (ps.map (fun p => Value.int .i64 p.2)) ∧ Below W.heap.size W w ∧ AllV l ps err := by
  rcases h with ⟨hb, ⟨ps, A, D, c, d, h1, h2, h3, _, _, h6, h7⟩ | ⟨hno, he⟩⟩
  · exact ⟨ps, A, D, c, d, 0, h7, h3, h6, hb, .inl ⟨h1, h2, rfl⟩⟩
  · exact ⟨[], none, none, 0, 0, 74, he, ⟨fun hn => absurd hn (by simp), fun e he => by simp at he⟩, Row.nil, hb, .inr ⟨hno, rfl, rfl⟩⟩
theorem allv_same {l : List Nat} {ps qs : List (Eff × Int)} {e f : Int} (h1 : AllV l ps e) (h2 : AllV l qs f) : e = f ∧ ps.length = qs.length ∧ ps.map (·.2) = qs.map (·.2) ∧ ∀ (j : Nat) (a b : Eff), (ps.map (·.1))[j]? = some a → (qs.map (·.1))[j]? = some b → sameB a b = true := by
  rcases h1 with ⟨a1, a2, rfl⟩ | ⟨hno, rfl, rfl⟩
  · rcases h2 with ⟨b1, b2, rfl⟩ | ⟨hno, _⟩
    · have hm := all_same a1 b1 (a2.symm.trans b2)
      refine ⟨rfl, by simpa using congrArg List.length hm, ?_, fun j a b ha hb => ?_⟩
      · have := congrArg (List.map (·.2)) hm
        simpa [List.map_map, Function.comp_def] using this
      · have hj := congrArg (fun l => l[j]?) hm
        simp only [List.getElem?_map] at hj ha hb
        cases hp : ps[j]? with
        | none => rw [hp] at ha; cases ha
        | some p =>
          cases hq : qs[j]? with
          | none => rw [hq] at hb; cases hb
          | some q =>
            rw [hp] at ha hj
            rw [hq] at hb hj
            obtain rfl : p.1 = a := Option.some.inj ha
            obtain rfl : q.1 = b := Option.some.inj hb
            have h3 : core p.1 = core q.1 := (Prod.mk.inj (Option.some.inj hj)).1
            have gp := a1 p (List.mem_of_getElem? hp)
            have gq := b1 q (List.mem_of_getElem? hq)
            exact same_core h3 (by rw [gp.2, gq.2, core_kind h3])
    · exact absurd a2 (hno _ a1)
  · rcases h2 with ⟨b1, b2, _⟩ | ⟨_, rfl, rfl⟩
    · exact absurd b2 (hno _ b1)
    · exact ⟨rfl, rfl, rfl, fun j a b ha => by simp at ha⟩
set_option maxRecDepth 100000 in
set_option maxHeartbeats 8000000 in
theorem does_walk (hAw : ∀ w : World, Calls Try.prog 6 #[] w (TrueB w))
    (hOf : ∀ (l : List Nat) (L : Nat) (hL : l.length = L) (hl : Small l) (hle : L ≤ 100) (A : Option Addr) (c B : Nat) (hc : L ≤ c) (hcm : c ≤ maxLen) (w : World) (hB : B ≤ w.heap.size) (hr : Row w B A L (l.map wd)), Calls Try.prog 11 #[.slice A L c] w (OfR l w))
    (hAll : ∀ (l : List Nat) (L : Nat) (hL : l.length = L) (hl : Small l) (hle : L ≤ 100) (A : Option Addr) (c B : Nat) (hc : L ≤ c) (hcm : c ≤ maxLen) (w : World) (hB : B ≤ w.heap.size) (hr : Row w B A L (l.map wd)), Calls Try.prog 13 #[.slice A L c] w (AllR l w))
    {w : World} (e : Eff) (r : Int) (l : List Nat) (A : Option Addr) (c : Nat) (oe : e.Ok w w.heap.size) (hl : Small l) (hc : l.length ≤ c) (hcm : c ≤ maxLen) (hr : Row w w.heap.size A l.length (l.map wd)) : Calls Try.prog 3 #[e.val, .int .i64 r, .slice A l.length c] w (TrueB w) := by
  have hfol : Try.prog.follows Departure.mixedOrders = true := by kernel_rfl
  have k1 : Below w.heap.size w (w.alloc (.cells (effCells e) 24)) := (Below.refl _ _).alloc (Nat.le_refl _) _
  have HCE := Lib.hid (Cells.new w 24 (effCells e))
  have HB0 := Lib.hid k1
  have OE := Lib.hid oe; have HAW := Lib.hid hAw; have HR := Lib.hid hr; have HS := Lib.hid hl; have HCM := Lib.hid hcm
  obtain ⟨L, hL⟩ : ∃ L, l.length = L := ⟨_, rfl⟩
  have HL := Lib.hid hL
  have HOF := Lib.hid hOf; have HALL := Lib.hid hAll
  rw [hL] at hc ⊢
  rw [hL] at HR
  have hLm : L ≤ maxLen := Nat.le_trans hc hcm
  have hLm' : L ≤ 9223372036854775807 := by unfold maxLen at hLm; omega
  clear k1 oe hAw hr hl hcm hL hLm hOf hAll
  unfold Eff.val
  go_enter Try.func3, Try.ntmps3
  go_wp2_with fail
  refine (HAW.out _).mono ?_
  rintro e' w1 ⟨rfl, b1⟩
  have HB1 := Lib.hid (HB0.out.trans (b1.mono HB0.out.size))
  have HCE1 := Lib.hid (HCE.out.below' b1)
  clear b1
  obtain ⟨c0, c1, c2, c3, c4, c5, c6, c7, c8⟩ := cells9 HCE1.out
  go_wp2_with fail
  refine (few_any (l := [e]) (effs_one (OE.out.at_ HB1.out)) (by show 1 ≤ maxLen; unfold maxLen; omega)).mono ?_
  rintro e' w2 ⟨rfl, b2'⟩
  have b2 : Below w1.heap.size w1 w2 := ((Below.refl w1.heap.size w1).alloc (Nat.le_refl _) _).trans (b2'.mono (by simp))
  have HB2 := Lib.hid (HB1.out.trans (b2.mono HB1.out.size))
  have HCE2 := Lib.hid (HCE1.out.below' b2)
  clear b2 b2' c0 c1 c2 c3 c4 c5 c6 c7 c8
  cases hf : fewE [e]
  · clear hf
    go_wp2
    go_ret
    exact ⟨rfl, HB2.out⟩
  · have FE := Lib.hid ((fewE_iff.1 hf).1 e (by simp))
    clear hf
    by_cases h100 : 100 < L
    · have q1 : decide ((L : Int) > 100) = true := decide_eq_true (by omega)
      clear h100
      go_wp2
      go_ret
      exact ⟨rfl, HB2.out⟩
    · have q1 : decide ((L : Int) > 100) = false := decide_eq_false (by omega)
      have hL100 : L ≤ 100 := by omega
      clear h100
      have KP := Lib.hid (fun w ok => rPut e r w ok FE.out)
      have KD := Lib.hid (fun w ok => dPut e r w ok FE.out)
      unfold Eff.val at KP KD
      obtain ⟨c0, c1, c2, c3, c4, c5, c6, c7, c8⟩ := cells9 HCE2.out
      obtain ⟨P, hP⟩ : ∃ P, putL e r = P := ⟨_, rfl⟩
      obtain ⟨V, hV⟩ : ∃ V, errB (recB e r) 92 = V := ⟨_, rfl⟩
      have hPn : P.length ≤ 1000 := by
        rw [← hP]
        unfold putL
        cases hb : recB e r
        · exact Nat.zero_le _
        · show (recW e r).length ≤ 1000
          rw [recW_len]
          have := manyR_le (check_in (recB_parts hb).1)
          omega
      unfold PutR at KP KD
      rw [hP, hV] at KP KD
      obtain ⟨n1, hn1⟩ : ∃ n, P.length = n := ⟨_, rfl⟩
      rw [hn1] at KP KD hPn
      have HN1 := Lib.hid hn1
      clear hP hV hn1
      go_upto_region 7 with (first
        | (go_at_call 8; (with_reducible refine (KP.out _ (OE.out.at_ HB2.out)).mono ?_); rintro e' w3 ⟨b3, A3, k3, rfl, r3, l3⟩; have HR3 := Lib.hid r3; have HB3 := Lib.hid (HB2.out.trans (b3.mono HB2.out.size)); clear c0 c1 c2 c3 c4 c5 c6 c7 c8; have HCE3 := Lib.hid (HCE2.out.below' b3); obtain ⟨c0, c1, c2, c3, c4, c5, c6, c7, c8⟩ := cells9 HCE3.out; clear b3 r3 l3)
        | (go_at_call 9; (with_reducible refine (KD.out _ (OE.out.at_ HB3.out)).mono ?_); rintro e' w4 ⟨b4, A4, k4, rfl, r4, l4⟩; have HR4 := Lib.hid r4; have HR34 := Lib.hid ((HR3.out.below b4).more b4.size); have HB4 := Lib.hid (HB3.out.trans (b4.mono HB3.out.size)); clear b4 r4 l4 c0 c1 c2 c3 c4 c5 c6 c7 c8))
      go_upto_region 8 with (first
        | (go_at_call 10; (with_reducible refine (rOf l L HL.out HS.out (by omega) A c w.heap.size hc _ HB4.out.size (HR.out.below HB4.out)).mono ?_); rintro e' w5 h5; obtain ⟨x, xr, xn, xe, rfl, ox, b5, vx⟩ := ofr_form h5; unfold Eff.val; have OX := Lib.hid ox; have VX := Lib.hid vx; have B5 := Lib.hid b5; clear h5 ox vx b5))
      obtain ⟨w6, hw6⟩ : ∃ w6, w5.alloc (.cells (effCells x) 24) = w6 := ⟨_, rfl⟩
      have hcx := Cells.new w5 24 (effCells x)
      have hb6 : Below w5.heap.size w5 (w5.alloc (.cells (effCells x) 24)) := (Below.refl _ _).alloc (Nat.le_refl _) _
      rw [hw6] at hcx hb6
      unfold effCells at hw6
      rw [hw6]
      have hb46 := B5.out.trans (hb6.mono B5.out.size)
      have HCX := Lib.hid hcx; have OX6 := Lib.hid (OX.out.at_ hb6)
      have HB6 := Lib.hid (HB4.out.trans (hb46.mono HB4.out.size))
      have HP6 := Lib.hid ((HR34.out.below hb46).more hb46.size); have HQ6 := Lib.hid ((HR4.out.below hb46).more hb46.size)
      obtain ⟨gX, hgX⟩ : ∃ gX, w5.heap.size = gX := ⟨_, rfl⟩
      rw [hgX] at HCX ⊢
      clear hw6 hcx hb6 hb46 hgX
      go_upto_region 9 with (first
        | (go_at_call 11; (with_reducible refine (HOF.out l L HL.out HS.out (by omega) A c w.heap.size hc HCM.out _ HB6.out.size (HR.out.below HB6.out)).mono ?_); rintro e' w7 h7; obtain ⟨y, yr, yn, ye, rfl, oy, b7, vy⟩ := ofr_form h7; obtain ⟨sxy, e1, e2, e3⟩ := ofv_same VX.out vy; subst e1; subst e2; subst e3; unfold Eff.val; have OY := Lib.hid oy; have SXY := Lib.hid sxy; have B7 := Lib.hid b7; clear h7 oy vy b7 sxy))
      obtain ⟨w8, hw8⟩ : ∃ w8, w7.alloc (.cells (effCells y) 24) = w8 := ⟨_, rfl⟩
      have hcy := Cells.new w7 24 (effCells y)
      have hb8 : Below w7.heap.size w7 (w7.alloc (.cells (effCells y) 24)) := (Below.refl _ _).alloc (Nat.le_refl _) _
      rw [hw8] at hcy hb8
      unfold effCells at hw8
      rw [hw8]
      have hb68 := B7.out.trans (hb8.mono B7.out.size)
      have HCX8 := Lib.hid (HCX.out.below' hb68); have HCY := Lib.hid hcy
      have OX8 := Lib.hid (OX6.out.at_ hb68); have OY8 := Lib.hid (OY.out.at_ hb8)
      have HB8 := Lib.hid (HB6.out.trans (hb68.mono HB6.out.size))
      have HP8 := Lib.hid ((HP6.out.below hb68).more hb68.size); have HQ8 := Lib.hid ((HQ6.out.below hb68).more hb68.size)
      obtain ⟨gY, hgY⟩ : ∃ gY, w7.heap.size = gY := ⟨_, rfl⟩
      rw [hgY] at HCY ⊢
      clear hw8 hcy hb8 hb68 hgY
      go_upto_region 11 with (first
        | (go_at_call 12; (with_reducible refine (rAll l L HL.out HS.out (by omega) A c w.heap.size hc HCM.out _ HB8.out.size (HR.out.below HB8.out)).mono ?_); rintro e' w9 h9; obtain ⟨ps, PA, PD, pc, pd, pe, rfl, ep, rp, b9, vp⟩ := allr_form h9; have EP := Lib.hid ep; have RP := Lib.hid rp; have VP := Lib.hid vp; have B9 := Lib.hid b9; have HB9 := Lib.hid (HB8.out.trans (b9.mono HB8.out.size)); clear h9 ep rp vp b9)
        | (go_at_call 13; (with_reducible refine (HALL.out l L HL.out HS.out (by omega) A c w.heap.size hc HCM.out _ HB9.out.size (HR.out.below HB9.out)).mono ?_); rintro e' wa ha; obtain ⟨qs, QA, QD, qc, qd, qe, rfl, eq', rq, ba, vq⟩ := allr_form ha; obtain ⟨s1, s2, s3, s4⟩ := allv_same VP.out vq; subst s1; have EQ := Lib.hid eq'; have RQ := Lib.hid rq; have BA := Lib.hid ba; have HBA := Lib.hid (HB9.out.trans (ba.mono HB9.out.size)); have S2 := Lib.hid s2; have S3 := Lib.hid s3; have S4 := Lib.hid s4; clear ha eq' rq vq ba s2 s3 s4))
      have hb8a := B9.out.trans (BA.out.mono B9.out.size)
      have HXA := Lib.hid (HCX8.out.below' hb8a)
      have HYA := Lib.hid (HCY.out.below' hb8a)
      have OXA := Lib.hid (OX8.out.at_ hb8a); have OYA := Lib.hid (OY8.out.at_ hb8a)
      have HPA := Lib.hid (HP8.out.below hb8a); have HQA := Lib.hid (HQ8.out.below hb8a)
      have hs8a := hb8a.size
      obtain ⟨N, hN⟩ : ∃ N, ps.length = N := ⟨_, rfl⟩
      have hpsL : N ≤ 100 := by
        rw [← hN]
        rcases VP.out with ⟨v1, v2, _⟩ | ⟨_, v2, _⟩
        · have := all_len v1
          rw [← v2, HL.out] at this
          omega
        · rw [v2]; exact Nat.zero_le _
      have hqN : qs.length = N := by rw [← S2.out]; exact hN
      have hr1 := RP.out.below BA.out
      have hr2 := RQ.out
      have hri : (qs.map (fun p => Value.int .i64 p.2)) = (ps.map (·.2)).map (Value.int .i64) := by rw [S3.out, List.map_map]; rfl
      have hrj : (ps.map (fun p => Value.int .i64 p.2)) = (ps.map (·.2)).map (Value.int .i64) := by rw [List.map_map]; rfl
      rw [hrj, hN] at hr1
      rw [hri, hqN] at hr2
      have HR1 := Lib.hid (hr1.more BA.out.size); have HR2 := Lib.hid hr2
      have HE1 := Lib.hid ((EP.out.below BA.out).more BA.out.size)
      have HE2 := Lib.hid EQ.out
      have HNP := Lib.hid hN; have HNQ := Lib.hid hqN
      rw [hN, hqN]
      obtain ⟨a0, a1, a2, a3, a4, a5, a6, a7, a8⟩ := cells9 HXA.out
      obtain ⟨b0, b1, b2, b3, b4, b5, b6, b7, b8⟩ := cells9 HYA.out
      clear hb8a hN hqN hr1 hr2 hri hrj
      have KS := Lib.hid (fun w ox oy => refSame_any x y w ox oy)
      rw [SXY.out] at KS
      unfold Eff.val at KS
      go_wp2_with (first
        | (go_at_call 14; (with_reducible refine (sameWords_eq P n1 HN1.out hPn A3 A4 k3 k4 w8.heap.size _ HPA.out HQA.out).mono ?_); rintro e' wb hb; obtain ⟨rfl, bb⟩ := hb.below; clear hb a0 a1 a2 a3 a4 a5 a6 a7 a8 b0 b1 b2 b3 b4 b5 b6 b7 b8; obtain ⟨a0, a1, a2, a3, a4, a5, a6, a7, a8⟩ := cells9 (HXA.out.below' bb); obtain ⟨b0, b1, b2, b3, b4, b5, b6, b7, b8⟩ := cells9 (HYA.out.below' bb); have BB := Lib.hid bb; clear bb)
        | (go_at_call 15; (with_reducible refine (KS.out _ (OXA.out.at_ BB.out) (OYA.out.at_ BB.out)).mono ?_); rintro e' wc hc; obtain ⟨rfl, bc⟩ := hc.below; have BC := Lib.hid (BB.out.trans (bc.mono BB.out.size)); clear hc bc a0 a1 a2 a3 a4 a5 a6 a7 a8 b0 b1 b2 b3 b4 b5 b6 b7 b8)
        | (go_at_call 16; (with_reducible refine (sameAll_eq (ps.map (·.1)) (qs.map (·.1)) N (by rw [List.length_map]; exact HNP.out) (by rw [List.length_map]; exact HNQ.out) (by omega) S4.out PA QA pc qc _ ((HE1.out.below BC.out).more BC.out.size) ((HE2.out.below BC.out).more BC.out.size)).mono ?_); rintro e' wd hd; obtain ⟨rfl, bd⟩ := hd.below; have BD := Lib.hid (BC.out.trans (bd.mono BC.out.size)); clear hd bd)
        | (go_at_call 17; (with_reducible refine (sameI_eq (ps.map (·.2)) N (by rw [List.length_map]; exact HNP.out) (by omega) PD QD pd qd wa.heap.size _ BD.out.size (HR1.out.below BD.out) (HR2.out.below BD.out)).mono ?_); rintro e' we he; obtain ⟨rfl, be⟩ := he.below; have BE := Lib.hid (BD.out.trans (be.mono BD.out.size)); clear he be))
      go_ret
      exact ⟨rfl, HBA.out.trans (BE.out.mono HBA.out.size)⟩
end Go.Proofs.Ytcimmfhbffofjaa
