import Derived.Test.YtbejbiogabpmfaaGreatG18
import Derived.Test.YtbejbiogabpmfaaGreatG26
import Derived.Test.YtbejbiogabpmfaaGreatG22
import Derived.Test.YtbejbiogabpmfaaGreatG27
import Derived.Test.YtbejbiogabpmfaaGreatG28
import Derived.Maps.AppendAt
import Derived.Test.YtbejbiogabpmfaaGreatG00
import Derived.Test.YtbejbiogabpmfaaGreatG15
import Derived.Test.YtbejbiogabpmfaaGreatG25

/-! The document's State: an effect of kind 8 is done. -/
namespace Go.Proofs.YtbejbiogabpmfaaGreat
open Wd Ino Sm Go.RowKit Go.ChangeShapes Go.WideShapes Go.Sort
set_option linter.unusedVariables false
set_option maxRecDepth 100000
def DrpRel (P : List Int) (w : World) (gv i : Value) (wr : World) : Prop := ∃ k : Nat, k ≤ P.length ∧ i = .int .i64 k ∧ OwnI wr w.heap.size gv (refsP (P.take k)) ∧ Below w.heap.size w wr
section
variable {w w' : World} {base g : Nat} {Ls : List Nd} {v : Value} {S : Stt}
set_option maxHeartbeats 8000000 in
theorem rDo8 (h : DSx w base g Ls v S) (hown : OwnNs w base v Ls) (iv : Inv S) {k0 : Nat} (nm : Num k0 S) (hk0 : k0 ≤ 900) (e : Eff) (ec : EfC e) (ref : Int) (hrf : i64R ref) (hK : e.kind = 8) :
    Calls Tryz.prog 63 #[SPtr g, e.val, .int .i64 ref] w (DX (stepS S e ref) S base g Ls w) := by
  have hfol : Tryz.prog.follows .mixedOrders = true := by kernel_rfl
  obtain ⟨w1, hw1⟩ : ∃ w1, w.alloc (.cells (effCells e) 64) = w1 := ⟨_, rfl⟩
  have hg1 : Below w.heap.size w w1 := by rw [← hw1]; exact below_of_grown (World.grownBy_alloc w (.cells (effCells e) 64) none)
  have hc1 : Cells w1 w.heap.size 64 (effCells e) := by rw [← hw1]; exact Cells.new w 64 (effCells e)
  have h1 := h.below hg1
  have hlen : Ls.length ≤ 901 := by rw [← h.len]; have := nm.len; omega
  have hle : Ls.length ≤ 1000 := by omega
  obtain ⟨x0, x1, x2, x3, x4, x5, x6, x7, x8⟩ := cells9 hc1
  have ka := rAt h1 hle e.ino
  obtain ⟨I, hI⟩ : ∃ I, atI S.l e.ino = I := ⟨_, rfl⟩
  rw [hI] at ka
  have KA := Lib.hid ka; have HI := Lib.hid hI
  clear ka hI
  have SM := Lib.hid (iv.smN nm hk0); have BD := Lib.hid (iv.bad nm hk0); have IV := Lib.hid iv; have EC := Lib.hid ec; have H1 := Lib.hid h1; have OW1 := Lib.hid (hown.below hg1); have HC1 := Lib.hid hc1; have HG1 := Lib.hid hg1; have HLE := Lib.hid hle; have HLN := Lib.hid hlen
  have HBASE := Lib.hid (show base ≤ w.heap.size by have := h.lo; have := h.cells.lt; omega)
  have HRF := Lib.hid hrf
  have HS := Lib.hid (show stepS S e ref = dropS S e by unfold stepS; rw [hK]; simp)
  have HBW := Lib.hid (fun wx (hb : ∃ q os, wx = grow (w1.drewN q) os) => show Below base w wx from (HG1.out.trans ((grown_b hb).mono HG1.out.size)).mono HBASE.out)
  have HNO := Lib.hid (show dropS S e = none → ∀ wx, (∃ q os, wx = grow (w1.drewN q) os) → DX (stepS S e ref) S base g Ls w (.returned (.tuple #[.slice none 0 0, .bool false])) wx from fun hn wx hg => by
    rw [HS.out, hn]
    exact ⟨none, 0, 0, Ls, v, rfl, H1.out.below (grown_b hg), Nat.le_succ _, HBW.out wx hg⟩)
  obtain ⟨K0, hK0⟩ : ∃ K, kindS S.l e.ino = K := ⟨_, rfl⟩
  have KI0 := Lib.hid (fun wx (hb : ∃ q os, wx = grow (w1.drewN q) os) => rKind (h1.below (grown_b hb)) hle e.ino)
  have HK0 := Lib.hid hK0
  rw [hK0] at KI0
  clear hK0
  obtain ⟨kind, ino, dir, dst, page, size, name, other, A, cp, data⟩ := e
  dsimp only at hK
  subst hK
  unfold Eff.val
  unfold effCells at hw1
  dsimp only at *
  unfold SPtr at *
  clear h h1 hown iv nm ec hc1 hg1 hle hlen hrf
  go_enter Tryz.func63, Tryz.ntmps63
  go_wp2_with fail
  clear hw1
  refine (KA.out).mono ?_
  rintro e' w2 ⟨rfl, hw2⟩
  have HG2 := Lib.hid hw2
  have HC2 := Lib.hid (HC1.out.below' (grown_b hw2)); have H2 := Lib.hid (H1.out.below (grown_b hw2)); have OW2 := Lib.hid (OW1.out.below (grown_b hw2))
  clear hw2 x0 x1 x2 x3 x4 x5 x6 x7 x8 KA
  obtain ⟨e0, e1, e2, e3, e4, e5, e6, e7, e8⟩ := cells9 (e := ⟨8, ino, dir, dst, page, size, name, other, A, cp, data⟩) HC2.out
  go_wp2_with fail
  refine (KI0.out w2 HG2.out).mono ?_
  rintro e' w3 ⟨rfl, hwn⟩
  have HG3 := Lib.hid (grow_trans HG2.out hwn)
  have C3 := Lib.hid (HC1.out.below' (grown_b HG3.out))
  clear hwn e0 e1 e2 e3 e4 e5 e6 e7 e8
  obtain ⟨e0, e1, e2, e3, e4, e5, e6, e7, e8⟩ := cells9 (e := ⟨8, ino, dir, dst, page, size, name, other, A, cp, data⟩) C3.out
  by_cases p1 : K0 = 1
  · have q1 : (K0 != 1) = false := by simpa using p1
    obtain ⟨n0, a0, a1⟩ := at_of_kind (l := S.l) (i := ino) (by rw [HK0.out, p1]; decide)
    have hkk : kindS S.l ino = 1 := HK0.out.trans p1
    have hns := SM.out n0 (atS_mem a0)
    have D3 := H1.out.below (grown_b HG3.out)
    have OW3 := OW1.out.below (grown_b HG3.out)
    obtain ⟨n, kx, gL, cL, p4, p5, p6, hv, hcl, hbb, hkx, ho, hx⟩ := D3.at_ a0
    have hI2 : I = (kx : Int) := HI.out.symm.trans p6
    subst hv hI2
    have hlt2 : (kx : Int) < (Ls.length : Int) := Int.ofNat_lt.2 hkx
    obtain ⟨cur, hcu, hbu⟩ := D3.blk hkx
    have hJ : n.ino = ino := by
      have h6 := atS_ino a0
      rw [← p5] at h6
      exact h6
    have hgn : getS S.l ino = n.plain := by rw [a1, ← p5]
    rw [← p5] at hns
    have HP4 := Lib.hid p4; have HJ := Lib.hid hJ; have HGN := Lib.hid hgn; have HNS := Lib.hid hns; have HO3 := Lib.hid ho; have HCU := Lib.hid hcu; have HBU := Lib.hid hbu; have D3H := Lib.hid D3; have OW3H := Lib.hid OW3; have HKK := Lib.hid hkk; have HA0 := Lib.hid a0; have HKX := Lib.hid hkx
    obtain ⟨J, ki, l, t, u, A0, ac, P, B, bc, N⟩ := n
    have x0 := (hx 0 _ rfl).1; have x1 := (hx 1 _ rfl).1; have x2 := (hx 2 _ rfl).1; have x3 := (hx 3 _ rfl).1; have x4 := (hx 4 _ rfl).1; have x5 := (hx 5 _ rfl).1; have x6 := (hx 6 _ rfl).1
    rw [Nat.add_zero] at x0
    dsimp only at x0 x1 x2 x3 x4 x5 x6 HJ HNS HGN
    have c0 := D3.c0
    have g4 : Below w3.heap.size w3 (w3.alloc (.cells #[.int .i64 J, .int .i64 ki, .int .i64 l, .int .i64 t, .int .i64 u, .slice A0 P.length ac, .slice B N.length bc] 51)) := below_of_grown (World.grownBy_alloc w3 _ none)
    obtain ⟨W4, hW4⟩ : ∃ W, W = w3.alloc (.cells #[.int .i64 J, .int .i64 ki, .int .i64 l, .int .i64 t, .int .i64 u, .slice A0 P.length ac, .slice B N.length bc] 51) := ⟨_, rfl⟩
    have cb : Cells W4 w3.heap.size 51 (ncells J ki l t u (.slice A0 P.length ac) (.slice B N.length bc)) := by rw [hW4]; exact Cells.new _ _ _
    rw [← hW4] at g4
    have HG4 := Lib.hid g4; have CB := Lib.hid cb; have C4 := Lib.hid (C3.out.below' g4); have D4 := Lib.hid (D3.below g4); have OW4 := Lib.hid (OW3.below g4)
    have HB4 := Lib.hid ((HBW.out _ HG3.out).trans (g4.mono (by have := (HBW.out _ HG3.out).size; have := HBASE.out; omega)))
    have HS4 := Lib.hid (show base ≤ w3.heap.size by have := (HBW.out _ HG3.out).size; have := HBASE.out; omega)
    clear p1 a0 a1 hkk hns p4 p5 p6 hcl hbb hkx ho hx hcu hbu hJ hgn D3 OW3 g4 cb
    go_upto_region 28 with fail
    rw [← hW4]
    obtain ⟨f0, f1, f2, f3, f4, f5, f6, f7, f8⟩ := cells9 (e := ⟨8, ino, dir, dst, page, size, name, other, A, cp, data⟩) C4.out
    obtain ⟨y0, y1, y2, y3, y4, y5, y6⟩ := cells7 CB.out
    have d0 := D4.out.c0
    clear hW4 x0 x1 x2 x3 x4 x5 x6 c0 e0 e1 e2 e3 e4 e5 e6 e7 e8
    by_cases p2 : l = 0
    · have q2 : decide (0 < l) = false := decide_eq_false (by omega)
      have HL0 := Lib.hid p2
      clear p2
      have KR := Lib.hid (rRemoveT D4.out HLE.out BD.out.asc ino HA0.out)
      unfold SPtr at KR
      go_wp2_with fail
      refine (KR.out).mono ?_
      rintro e' w5 ⟨⟨rfl, L5, v5, D5, hl5, hb5, hk5⟩, t5⟩
      have CB5 := Lib.hid (show Cells w5 w3.heap.size 51 _ from (t5.block _ CB.out.lt (by simp; exact CB.out.ne D4.out.cells (by decide))).trans CB.out)
      obtain ⟨y0, y1, y2, y3, y4, y5, y6⟩ := cells7 CB5.out
      have hr : OwnI w5 base (.slice A0 P.length ac) P := hk5.own (by decide) ((HO3.out.below HG4.out).1)
      obtain ⟨A1, ac1, hv1, hrw⟩ := hr.row
      injection hv1 with hv1 hv2 hv3
      subst hv1 hv3
      have HRW := Lib.hid hrw; have HD5 := Lib.hid D5; have HL5 := Lib.hid hl5; have HB5 := Lib.hid (HB4.out.trans hb5)
      have hPl : P.length ≤ 1000 := HNS.out.p
      clear hv2 hrw hr D5 hl5 hb5 hk5 t5 KR f0 f1 f2 f3 f4 f5 f6 f7 f8 d0
      go_wp2
      go_loopw [16, 255] (fun gv i wr => DrpRel P w5 gv i wr) (fun _ i _ => P.length - (intOf i).toNat)
      case atStart => exact ⟨0, Nat.zero_le _, rfl, OwnI.nil _ _, Below.refl _ _⟩
      case round =>
        obtain ⟨k, hk, rfl, hown, hbl⟩ := hrel
        by_cases hlt : k < P.length
        · obtain ⟨b1, o1, x, hA, hbb, hx, cx⟩ := getI (HRW.out.below hbl) hlt
          have hlt9 : (k : Int) < (P.length : Int) := Int.ofNat_lt.2 hlt
          have ht := refs_take hx
          have hle := Nat.le_trans (refs_len (P.take k)) (by rw [List.length_take]; exact Nat.min_le_left k _)
          have HO := Lib.hid hown; have HBL := Lib.hid hbl
          have hsz := hbl.size
          have HLT := Lib.hid hlt
          by_cases hx0 : x = 0
          · have hz : (x != 0) = false := by simp [hx0]
            rw [if_pos hx0, List.append_nil] at ht
            have HT := Lib.hid ht
            clear hbl hown hx ht hx0 hle hlt
            subst hA
            go_wp2
            go_roundw
            case rel => exact ⟨k + 1, HLT.out, by go_num, by rw [HT.out]; exact HO.out, HBL.out⟩
            case measure => simp [intOf]; have := HLT.out; omega
          · have hz : (x != 0) = true := by simp [hx0]
            rw [if_neg hx0] at ht
            have HT := Lib.hid ht
            have hle2 : (refsP (P.take k)).length + 1 ≤ 1001 := by omega
            have HO2 := Lib.hid (show (wr.alloc (.cells #[.int .i64 x] 3)).ownsRow w5.heap.size 3 1 u16 (refsP (P.take k)).length ((refsP (P.take k)).map iv) from own_below hown ((Below.refl _ _).alloc (Nat.le_refl _) _))
            have HR2 := Lib.hid (Row.one wr (.int .i64 x) 3)
            clear hbl hown hx ht hx0 hle hlt
            subst hA
            go_wp2_with (at_builtin; refine wpList_append_row _ rfl (.tmp 261) (.tmp 263) 40 rfl w5.heap.size 3 (.int .i64 0) 8 Tryz.underlying40 infoI rfl u16 (refsP (P.take k)).length ((refsP (P.take k)).map iv) rfl HO2.out _ (some ⟨wr.heap.size, 0, none⟩) 1 1 [.int .i64 x] rfl HR2.out (by simp [Value.oneCell']) (by unfold maxLen; omega) (by omega) (by simp <;> omega) ?_; intro v6 w6 hown5 hgr5 hat5; have hb6 := Lib.hid (show Below w5.heap.size w5 w6 from (HBL.out.alloc hsz _).grown hgr5 (by simp <;> omega) (own_base HO2.out)); have HO5 := Lib.hid hown5; clear hown5 hgr5 hat5)
            go_roundw
            case rel => exact ⟨k + 1, HLT.out, by go_num, by rw [HT.out]; unfold OwnI; rw [List.length_append, List.map_append]; exact HO5.out, hb6.out⟩
            case measure => simp [intOf]; have := HLT.out; omega
        · obtain rfl : k = P.length := by omega
          obtain ⟨A9, c9, hv9, _⟩ := hown.row
          subst hv9
          have HBL := Lib.hid hbl
          clear hbl hown hk hlt
          have HST := Lib.hid (show dropS S ⟨8, ino, dir, dst, page, size, name, other, A, cp, data⟩ = some (⟨rmS S.l ino, S.last⟩, refsP (getS S.l ino).pages) by unfold dropS; rw [if_pos ⟨HKK.out, by rw [HGN.out]; exact HL0.out⟩])
          go_wp2
          go_ret2
          rw [HS.out, HST.out]
          exact ⟨A9, c9, _, _, _, rfl, HD5.out.below HBL.out, Nat.le_succ_of_le HL5.out, HB5.out.trans (HBL.out.mono (by have := HB5.out.size; have := HBASE.out; omega))⟩
    · have hl0 : 0 ≤ l := by
        have h := (BD.out.lk _ (atS_mem HA0.out)).1
        have h2 := HGN.out
        unfold getS at h2
        rw [HA0.out] at h2
        have h3 : n0.links = l := by rw [show n0 = _ from h2]; rfl
        omega
      have q2 : decide (0 < l) = true := decide_eq_true (by omega)
      have HT2 := Lib.hid p2
      clear p2 hl0
      go_wp2
      go_ret2
      rw [HS.out, show dropS S ⟨8, ino, dir, dst, page, size, name, other, A, cp, data⟩ = none by unfold dropS; rw [if_neg (fun h => HT2.out (by have h2 := h.2; rw [HGN.out] at h2; exact h2))]]
      exact ⟨none, 0, 0, _, _, rfl, D4.out, Nat.le_succ _, HB4.out⟩
  · have q1 : (K0 != 1) = true := by simpa using p1
    have HP1 := Lib.hid p1
    clear p1
    go_wp2
    go_ret2
    exact HNO.out (by unfold dropS; rw [if_neg (by rw [HK0.out]; first | exact HP1.out | exact fun h => HP1.out h.1)]) _ HG3.out
end
end Go.Proofs.YtbejbiogabpmfaaGreat

/-! The project's State: Apply. -/
namespace Go.Proofs.YtbejbiogabpmfaaGreat
open Wd Ino Sm Go.RowKit Go.ChangeShapes Go.WideShapes Go.Sort
set_option linter.unusedVariables false
set_option maxRecDepth 100000
theorem nd_of {n : Int} (h : ndB n = true) : 1 ≤ n ∧ n ≤ 1048576 := by unfold ndB at h; exact of_decide_eq_true h
theorem needP_page {page size : Int} (h0 : 0 ≤ page) (h1 : 256 * page < size) (h2 : size ≤ 16384) : putOk page size = true := by
  unfold putOk inB needP
  have h3 : ¬ size < 1 := by omega
  rw [if_neg h3, decide_eq_true h2, decide_eq_true h0, decide_eq_true (show page ≤ (size - 1) / 256 + 1 - 1 by omega)]
  rfl
theorem EfC.of {e : Eff} {w : World} {B : Nat} (ok : e.Ok w B) (hf : e.few) (hc : e.check = true) : EfC e := by
  unfold Eff.check at hc
  rw [Bool.and_eq_true] at hc
  obtain ⟨hm, hn⟩ := hc
  unfold Eff.mayBe at hm
  refine ⟨⟨nd_of hn, ok.kind, ok.dir, ok.dst, ok.page, ok.size, Nat.le_trans hf.2.1 (by decide), Nat.le_trans hf.2.2 (by decide)⟩, ?_, ?_, ?_⟩
  · by_cases h1 : e.kind = 1
    · exact .inl h1
    · rw [if_neg h1] at hm
      by_cases h2 : e.kind = 2 ∨ e.kind = 3 ∨ e.kind = 4
      · omega
      · rw [if_neg h2] at hm
        by_cases h5 : e.kind = 5
        · omega
        · rw [if_neg h5] at hm
          by_cases h6 : e.kind = 6
          · omega
          · rw [if_neg h6] at hm
            by_cases h7 : e.kind = 7
            · omega
            · rw [if_neg h7] at hm
              by_cases h8 : e.kind = 8
              · omega
              · rw [if_neg h8] at hm; cases hm
  · intro h6
    rw [if_neg (by omega), if_neg (by omega), if_neg (by omega), if_pos h6] at hm
    simp only [Bool.and_eq_true, decide_eq_true_eq] at hm
    unfold inB
    rw [decide_eq_true hm.1.2, decide_eq_true hm.2]; rfl
  · intro h7
    rw [if_neg (by omega), if_neg (by omega), if_neg (by omega), if_neg (by omega), if_pos h7] at hm
    simp only [Bool.and_eq_true, decide_eq_true_eq] at hm
    exact needP_page hm.1.1.1.2 hm.2 hm.1.2
/-- it tells refs that go, and what was wrong -/
def AGo (S : Stt) (e : Eff) (ref : Int) (base m g b : Nat) (w : World) (en : Ending) (w' : World) : Prop :=
  ∃ A c l, en = .returned (.tuple #[.slice A l c, .int .i64 (errS S e ref)]) ∧ PSt w' base (m + 8) g b (nextS S e ref) ∧ Trn w w' [g, b]
section
variable {w : World} {base m g b : Nat} {S : Stt}
set_option maxHeartbeats 4000000 in
theorem pApply (h : PSt w base m g b S) (ft : Fit S) (hm : m < 999900) (e : Eff) (ok : e.Ok w w.heap.size) (hf : e.few) (ref : Int) :
    Calls Tryz.prog 31 #[SPtr g, e.val, .int .i64 ref] w (AGo S e ref base m g b w) := by
  obtain ⟨w1, hw1⟩ : ∃ w1, w.alloc (.cells (effCells e) 64) = w1 := ⟨_, rfl⟩
  have hg1 : Below w.heap.size w w1 := by rw [← hw1]; exact below_of_grown (World.grownBy_alloc w (.cells (effCells e) 64) none)
  have hc1 : Cells w1 w.heap.size 64 (effCells e) := by rw [← hw1]; exact Cells.new w 64 (effCells e)
  have h1 := h.below hg1
  have KM := Lib.hid (pMade h1)
  have ok1 := ok.at_ hg1
  have KC := Lib.hid (fun wx (hb : ∃ q os, wx = grow (w1.drewN q) os) => eCheck e wx (ok1.at_ (grown_b hb)) hf)
  have KD := Lib.hid (fun wx (hb : ∃ q os, wx = grow (w1.drewN q) os) (ec : EfC e) => pDo (h1.below (grown_b hb)) ft hm e ec ref)
  have HEC := Lib.hid (fun hc => EfC.of ok hf hc)
  have H1 := Lib.hid h1; have HC1 := Lib.hid hc1; have HG1 := Lib.hid hg1
  obtain ⟨C, hC⟩ : ∃ C, e.check = C := ⟨_, rfl⟩
  obtain ⟨O, hO⟩ : ∃ O, stepS S e ref = O := ⟨_, rfl⟩
  have HN := Lib.hid (show nextS S e ref = if C = true then (O.map Prod.fst).getD S else S by unfold nextS; rw [hC, ← hO]; cases stepS S e ref <;> rfl)
  have HE := Lib.hid (show errS S e ref = if C = true then (if O.isSome = true then 0 else 93) else 92 by unfold errS; rw [hC, hO])
  rw [hC] at KC HEC
  rw [hO] at KD
  obtain ⟨kind, ino, dir, dst, page, size, name, other, A, cp, data⟩ := e
  unfold Eff.val at KC KD ⊢
  unfold effCells at hw1
  dsimp only at *
  unfold SPtr at *
  clear h h1 hc1 hg1 hm ok ok1 hf ft hC hO
  go_enter Tryz.func31, Tryz.ntmps31
  go_wp2_with fail
  clear hw1
  refine (KM.out).mono ?_
  rintro e' w2 ⟨rfl, hw2⟩
  have HG2 := Lib.hid hw2
  have HC2 := Lib.hid (HC1.out.below' (grown_b hw2))
  obtain ⟨x0, x1, x2, x3, x4, x5, x6, x7, x8⟩ := cells9 (e := ⟨kind, ino, dir, dst, page, size, name, other, A, cp, data⟩) HC2.out
  dsimp only at x0 x1 x2 x3 x4 x5 x6 x7 x8
  have KC2 := Lib.hid (KC.out _ hw2)
  clear hw2 KM KC
  go_wp2_with fail
  refine (KC2.out).mono ?_
  rintro e' w3 ⟨rfl, hw3⟩
  have HG3 := Lib.hid (grow_trans HG2.out hw3)
  have HC3 := Lib.hid (HC2.out.below' (grown_b hw3))
  clear hw3 KC2 x0 x1 x2 x3 x4 x5 x6 x7 x8
  obtain ⟨x0, x1, x2, x3, x4, x5, x6, x7, x8⟩ := cells9 (e := ⟨kind, ino, dir, dst, page, size, name, other, A, cp, data⟩) HC3.out
  dsimp only at x0 x1 x2 x3 x4 x5 x6 x7 x8
  have T3 := Lib.hid (Trn.of (S := [g, b]) (HG1.out.trans ((grown_b HG3.out).mono HG1.out.size)))
  cases C with
  | false =>
    go_wp2
    go_ret2
    exact ⟨none, 0, 0, by rw [HE.out]; rfl, by rw [HN.out]; exact (H1.out.below (grown_b HG3.out)).more (by omega), T3.out⟩
  | true =>
    have KD3 := Lib.hid (KD.out _ HG3.out (HEC.out rfl))
    clear KD HEC
    go_wp2_with fail
    refine (KD3.out).mono ?_
    rintro e' w4 ⟨v, rfl, ho, h4, t4⟩
    obtain ⟨A4, c4, rfl, _⟩ := ho.row
    have H4 := Lib.hid h4; have T4 := Lib.hid (T3.out.trans t4)
    clear ho h4 t4 KD3 x0 x1 x2 x3 x4 x5 x6 x7 x8
    cases O with
    | none =>
      go_wp2
      go_ret2
      exact ⟨none, 0, 0, by rw [HE.out]; rfl, by rw [HN.out]; exact H4.out, T4.out⟩
    | some x =>
      go_wp2
      go_ret2
      exact ⟨A4, c4, _, by rw [HE.out]; rfl, by rw [HN.out]; exact H4.out, T4.out⟩
end
end Go.Proofs.YtbejbiogabpmfaaGreat

/-! The document's State: an effect is applied. -/
namespace Go.Proofs.YtbejbiogabpmfaaGreat
open Wd Ino Sm Go.RowKit Go.ChangeShapes Go.WideShapes Go.Sort
set_option linter.unusedVariables false
set_option maxRecDepth 100000
section
variable {w w' : World} {base g : Nat} {Ls : List Nd} {v : Value} {S : Stt}
theorem rDo (h : DSx w base g Ls v S) (hown : OwnNs w base v Ls) (iv : Inv S) {k0 : Nat} (nm : Num k0 S) (hk0 : k0 ≤ 900) (e : Eff) (ec : EfC e) (ref : Int) (hrf : i64R ref) :
    Calls Tryz.prog 63 #[SPtr g, e.val, .int .i64 ref] w (DX (stepS S e ref) S base g Ls w) := by
  rcases ec.kinds with hk | hk | hk | hk | hk | hk | hk | hk
  · exact rDo1 h hown iv nm hk0 e ec ref hrf hk
  · exact rDo2 h hown iv nm hk0 e ec ref hrf hk
  · exact rDo3 h hown iv nm hk0 e ec ref hrf hk
  · exact rDo4 h hown iv nm hk0 e ec ref hrf hk
  · exact rDo5 h hown iv nm hk0 e ec ref hrf hk
  · exact rDo6 h hown iv nm hk0 e ec ref hrf hk
  · exact rDo7 h hown iv nm hk0 e ec ref hrf hk
  · exact rDo8 h hown iv nm hk0 e ec ref hrf hk
/-- a state takes another one's row and number -/
theorem DSx.take {w : World} {base b2 g g2 : Nat} {Ls Ls2 : List Nd} {v v2 : Value} {S S2 : Stt} (h : DSx w base g Ls v S) (h2 : DSx w b2 g2 Ls2 v2 S2) (hb : base ≤ b2) :
    DSx ((w.setCell ⟨g, 0, none⟩ v2).setCell ⟨g, 1, none⟩ (.int .i64 S2.last)) base g Ls2 v2 S2 ∧ DSx ((w.setCell ⟨g, 1, none⟩ (.int .i64 S2.last)).setCell ⟨g, 0, none⟩ v2) base g Ls2 v2 S2 := by
  have rowm : RowP w base 51 7 v2 Ls2.length (ndvals Ls2) := by
    refine ⟨h2.row.1, ?_⟩
    rcases h2.row.2 with h3 | ⟨gg, cap, cur, h3, h4, h5⟩
    · exact .inl h3
    · exact .inr ⟨gg, cap, cur, h3, Nat.le_trans hb h4, h5⟩
  have k0 := KeepC.set h.cells 0 v2
  have k1 := KeepC.set h.cells 1 (.int .i64 S2.last)
  have c0 := h.cells.set 0 v2
  have c1 := h.cells.set 1 (.int .i64 S2.last)
  have k01 := KeepC.set c0 1 (.int .i64 S2.last)
  have k10 := KeepC.set c1 0 v2
  exact ⟨⟨h.lo, c0.set 1 _, k01.rowP (by decide) (k0.rowP (by decide) rowm), fun n hn => (((h2.own n hn).mono hb).keep k0 (by decide) (by decide)).keep k01 (by decide) (by decide), h2.eq⟩,
    ⟨h.lo, c1.set 0 _, k10.rowP (by decide) (k1.rowP (by decide) rowm), fun n hn => (((h2.own n hn).mono hb).keep k1 (by decide) (by decide)).keep k10 (by decide) (by decide), h2.eq⟩⟩
/-- what the document's Apply leaves -/
def RA (S : Stt) (e : Eff) (ref : Int) (base g : Nat) (w : World) (en : Ending) (w' : World) : Prop :=
  ∃ A c l Ls' v', en = .returned (.tuple #[.slice A l c, .int .i64 (errS S e ref)]) ∧ DSx w' base g Ls' v' (nextS S e ref) ∧ Trn w w' [g]
set_option maxHeartbeats 8000000 in
theorem rApply (h : DSx w base g Ls v S) (iv : Inv S) {k0 : Nat} (nm : Num k0 S) (hk0 : k0 ≤ 900) (e : Eff) (ok : e.Ok w w.heap.size) (hf : e.few) (ref : Int) (hrf : i64R ref) :
    Calls Tryz.prog 32 #[SPtr g, e.val, .int .i64 ref] w (RA S e ref base g w) := by
  obtain ⟨w1, hw1⟩ : ∃ w1, w.alloc (.cells (effCells e) 64) = w1 := ⟨_, rfl⟩
  have hg1 : Below w.heap.size w w1 := by rw [← hw1]; exact below_of_grown (World.grownBy_alloc w (.cells (effCells e) 64) none)
  have hc1 : Cells w1 w.heap.size 64 (effCells e) := by rw [← hw1]; exact Cells.new w 64 (effCells e)
  have h1 := h.below hg1
  have hle : Ls.length ≤ 1000 := by rw [← h.len]; have := nm.len; omega
  have ok1 : e.Ok w1 w1.heap.size := ok.at_ hg1
  obtain ⟨x0, x1, x2, x3, x4, x5, x6, x7, x8⟩ := cells9 hc1
  have KC := Lib.hid (refCheck_any e w1 ok1 hf.2.1 hf.2.2 hf.1)
  have KP0 := Lib.hid (fun wx (hb : ∃ q os, wx = grow (w1.drewN q) os) => rCopyS (h1.below (grown_b hb)) hle (iv.smN nm hk0))
  have HEC := Lib.hid (fun hc => EfC.of ok hf hc)
  have H1 := Lib.hid h1; have HC1 := Lib.hid hc1; have HG1 := Lib.hid hg1
  obtain ⟨C, hC⟩ : ∃ C, e.check = C := ⟨_, rfl⟩
  obtain ⟨O, hO⟩ : ∃ O, stepS S e ref = O := ⟨_, rfl⟩
  have HN := Lib.hid (show nextS S e ref = if C = true then (O.map Prod.fst).getD S else S by unfold nextS; rw [hC, ← hO]; cases stepS S e ref <;> rfl)
  have HE := Lib.hid (show errS S e ref = if C = true then (if O.isSome = true then 0 else 93) else 92 by unfold errS; rw [hC, hO])
  rw [hC] at KC HEC
  have KD := Lib.hid (fun wx b gx Lx vx (h : DSx wx b gx Lx vx S) (hown : OwnNs wx b vx Lx) (ec : EfC e) => rDo h hown iv nm hk0 e ec ref hrf)
  rw [hO] at KD
  obtain ⟨kind, ino, dir, dst, page, size, name, other, A, cp, data⟩ := e
  unfold Eff.val at KC KD ⊢
  unfold effCells at hw1
  dsimp only at *
  unfold SPtr at *
  clear h h1 hc1 hg1 ok ok1 hf hC hO iv nm
  go_enter Tryz.func32, Tryz.ntmps32
  go_wp2_with fail
  clear hw1
  refine (KC.out).mono ?_
  rintro e' w2 ⟨rfl, hw2⟩
  have HG2 := Lib.hid hw2
  have HC2 := Lib.hid (HC1.out.below' (grown_b hw2))
  have T2 := Lib.hid (Trn.of (S := [g]) (HG1.out.trans ((grown_b hw2).mono HG1.out.size)))
  have KP := Lib.hid (KP0.out _ hw2)
  have H2 := Lib.hid (H1.out.below (grown_b hw2))
  have HB2 := Lib.hid (show base ≤ w2.heap.size by have := H2.out.lo; have := H2.out.cells.lt; omega)
  clear hw2 KC KP0 x0 x1 x2 x3 x4 x5 x6 x7 x8
  obtain ⟨x0, x1, x2, x3, x4, x5, x6, x7, x8⟩ := cells9 (e := ⟨kind, ino, dir, dst, page, size, name, other, A, cp, data⟩) HC2.out
  dsimp only at x0 x1 x2 x3 x4 x5 x6 x7 x8
  cases C with
  | false =>
    unfold errB
    simp only [Bool.false_eq_true, if_false]
    go_wp2
    go_ret2
    exact ⟨none, 0, 0, Ls, v, by rw [HE.out]; rfl, by rw [HN.out]; exact H2.out, T2.out⟩
  | true =>
    unfold errB
    simp only [if_true]
    go_wp2_with fail
    refine (KP.out).mono ?_
    rintro e' w3 ⟨L3, v3, g3, rfl, hg3, D3, OW3, hb3⟩
    have C3 := Lib.hid (HC2.out.below' hb3); have H3 := Lib.hid (H2.out.below hb3); have T3 := Lib.hid (T2.out.trans (Trn.of hb3))
    have KD3 := Lib.hid (KD.out _ _ _ _ _ D3 OW3 (HEC.out trivial))
    unfold SPtr
    unfold SPtr at KD3
    clear KP D3 OW3 x0 x1 x2 x3 x4 x5 x6 x7 x8
    obtain ⟨x0, x1, x2, x3, x4, x5, x6, x7, x8⟩ := cells9 (e := ⟨kind, ino, dir, dst, page, size, name, other, A, cp, data⟩) C3.out
    dsimp only at x0 x1 x2 x3 x4 x5 x6 x7 x8
    go_wp2_with fail
    refine (KD3.out).mono ?_
    rintro e' w4 ⟨A4, c4, l4, L4, v4, rfl, D4, hl4, hb4⟩
    have b24 := hb3.trans hb4
    have T4 := Lib.hid (T2.out.trans (Trn.of (S := [g]) b24))
    have H4 := Lib.hid (H2.out.below b24)
    have D4H := Lib.hid D4
    clear D4 hl4 hb4 hb3 b24 KD3 x0 x1 x2 x3 x4 x5 x6 x7 x8
    cases O with
    | none =>
      go_wp2
      go_ret2
      exact ⟨none, 0, 0, Ls, v, by rw [HE.out]; rfl, by rw [HN.out]; exact H4.out, T4.out⟩
    | some x =>
      have D5 : DSx w4 w2.heap.size g3 L4 v4 x.1 := D4H.out
      have HTK := Lib.hid ((H4.out.take D5 HB2.out).1.below (below_drewN (Below.refl _ _) 1 : Below _ _ (World.drew _)))
      obtain ⟨A5, c5, rfl, _, _⟩ := D5.form
      have y0 := D5.c0
      have y1 := D5.c1
      have z0 := H4.out.c0
      have z1 := H4.out.c1
      have f0 := H4.out.cells.free 0
      have f1 := H4.out.cells.free 1
      have hne : ¬ g3 = g := fun e => by
        have h1 := H2.out.cells.lt
        omega
      have hne2 : ¬ g = g3 := fun e => hne e.symm
      clear D5
      go_upto_region 7 with fail
      go_big_region
      have HT9 := Lib.hid (show Trn w (World.drew ((w4.setCell ⟨g, 0, none⟩ (.slice A5 L4.length c5)).setCell ⟨g, 1, none⟩ (.int .i64 x.1.last))) [g] from ((T4.out.trans (Trn.set w4 (p := ⟨g, 0, none⟩) (by simp) _)).trans (Trn.set _ (p := ⟨g, 1, none⟩) (by simp) _)).drew)
      clear y0 y1 z0 z1 f0 f1
      go_wp2
      go_ret2
      exact ⟨A4, c4, _, L4, _, by rw [HE.out]; rfl, by rw [HN.out]; exact HTK.out, HT9.out⟩
end
end Go.Proofs.YtbejbiogabpmfaaGreat

/-! The law's Few: whether deeds are few. -/
namespace Go.Proofs.YtbejbiogabpmfaaGreat
open Wd U Go.RowKit Go.ChangeShapes Go.WideShapes Go.ChangeAt Go.Deep Go.Maps
set_option linter.unusedVariables false
set_option maxRecDepth 100000
def effV (l : List Eff) : List Value := l.flatMap Eff.vals
theorem effV_snoc (l : List Eff) (p : Eff) : effV (l ++ [p]) = effV l ++ p.vals := by unfold effV; simp [List.flatMap_append]
theorem effV_at : ∀ (l : List Eff) (j k : Nat) (p : Eff) (x : Value), l[j]? = some p → p.vals[k]? = some x → (effV l)[j * 9 + k]? = some x := by
  intro l
  induction l with
  | nil => intro j k p x hj; simp at hj
  | cons q l ih =>
    intro j k p x hj hk
    have hlen : q.vals.length = 9 := rfl
    have e : effV (q :: l) = q.vals ++ effV l := by unfold effV; rw [List.flatMap_cons]
    rw [e]
    cases j with
    | zero =>
      simp at hj
      subst hj
      have : k < q.vals.length := (List.getElem?_eq_some_iff.1 hk).1
      rw [Nat.zero_mul, Nat.zero_add, List.getElem?_append_left this]
      exact hk
    | succ j =>
      rw [List.getElem?_append_right (by rw [hlen]; omega), hlen, show (j + 1) * 9 + k - 9 = j * 9 + k by omega]
      exact ih j k p x (by simpa using hj) hk
theorem effs_own {w : World} {base : Nat} {v : Value} {l : List Eff} (h : w.ownsRow base 64 9 v l.length (effV l)) (hok : ∀ e ∈ l, e.Ok w w.heap.size) : ∃ A c, v = .slice A l.length c ∧ l.length ≤ c ∧ c ≤ maxLen ∧ Effs w w.heap.size A l := by
  rcases h.2 with ⟨rfl, h0⟩ | ⟨g, cap, cur, rfl, _, hh, hc, hm, _, ht⟩
  · obtain rfl : l = [] := List.eq_nil_of_length_eq_zero h0
    exact ⟨none, 0, rfl, Nat.le_refl _, Nat.zero_le _, ⟨fun hn => absurd hn (by simp), fun e he => by simp at he⟩⟩
  · refine ⟨_, cap, rfl, hc, hm, ⟨fun _ => ⟨g, 0, rfl, (show Cells w g 64 cur from hh).lt, fun j e hj k x hk => ?_⟩, hok⟩⟩
    have h1 := effV_at l j k e x hj hk
    rw [← ht] at h1
    have h2 : cur.toList[j * 9 + k]? = some x := by
      rw [← h1]
      have := (List.getElem?_eq_some_iff.1 h1).1
      rw [List.getElem?_take_of_lt (by rw [List.length_take] at this; omega)]
    rw [(show Cells w g 64 cur from hh).cell (0 + (j * 9 + k)), Nat.zero_add, ← Array.getElem?_toList]
    exact h2
theorem infoEf : (Tryz.prog.info? 64).map (fun i => (i.zero, i.size, i.bytes)) = some (some (.agg #[.int .i64 0, .int .i64 0, .int .i64 0, .int .i64 0, .int .i64 0, .int .i64 0, .string ByteArray.empty, .string ByteArray.empty, .slice none 0 0]), 9, 104) := by kernel_rfl
theorem oneEf (e : Eff) : ∀ u ∈ e.vals, u.oneCell' = true := by
  intro u hu
  unfold Eff.vals at hu
  simp only [List.mem_cons, List.not_mem_nil, or_false] at hu
  rcases hu with rfl | rfl | rfl | rfl | rfl | rfl | rfl | rfl | rfl <;> rfl
theorem cellsEf {w : World} {g : Nat} {e : Eff} (h : Cells w g 64 (effCells e)) : ∀ (j : Nat) (u : Value), e.vals[j]? = some u → w.cell? ((⟨g, 0, none⟩ : Addr).add j) = some u := fun j u hu => by
  have e1 : (⟨g, 0, none⟩ : Addr).add j = ⟨g, j, none⟩ := by unfold Addr.add; split <;> simp_all
  rw [e1, h.cell j, ← Array.getElem?_toList]
  exact hu
def fewD (l : List Dd) : Bool := decide (l.length ≤ 30) && fewE (l.map Dd.e)
theorem fewD_iff {l : List Dd} : fewD l = true ↔ (∀ d ∈ l, d.e.few) ∧ l.length ≤ 30 := by
  unfold fewD
  rw [Bool.and_eq_true, fewE_iff, decide_eq_true_eq]
  exact ⟨fun h => ⟨fun d hd => h.2.1 _ (List.mem_map_of_mem hd), h.1⟩, fun h => ⟨h.2, fun e he => by
    obtain ⟨d, hd, rfl⟩ := List.mem_map.1 he
    exact h.1 d hd, by rw [List.length_map]; exact h.2⟩⟩
def FwRel (w : World) (l : List Dd) (v i : Value) (wr : World) : Prop := ∃ k : Nat, k ≤ l.length ∧ i = .int .i64 k ∧ wr.ownsRow w.heap.size 64 9 v k (effV ((l.take k).map Dd.e)) ∧ Below w.heap.size w wr
set_option maxHeartbeats 4000000 in
theorem few_law {w : World} {A : Option Addr} {c : Nat} {l : List Dd} (h : Dds w w.heap.size A l) (hsz : l.length * 112 ≤ 140737488351232) : Calls Tryz.prog 7 #[.slice A l.length c] w (RetB w (fewD l)) := by
  have HL := Lib.hid hsz
  have hl63 : l.length ≤ 1256584717421 := by omega
  clear hsz
  go_enter Tryz.func7, Tryz.ntmps7
  go_wp2
  go_loopw [3, 8] (fun v i wr => FwRel w l v i wr) (fun _ i _ => l.length - (intOf i).toNat)
  case atStart => exact ⟨0, Nat.zero_le _, rfl, World.ownsRow_nil _ _ _ _, Below.refl _ _⟩
  case round =>
    obtain ⟨k, hk, rfl, hown, hb⟩ := hrel
    by_cases hlt : k < l.length
    · obtain ⟨d, hd⟩ : ∃ d, l[k]? = some d := ⟨_, List.getElem?_eq_getElem hlt⟩
      have hD := h.below hb
      obtain ⟨b, off, rfl, hbB, x0, x1, x2, x3, x4, x5, x6, x7, x8, x9⟩ := dds_cells hD hd
      obtain ⟨ie, i1, i2, i3, i4⟩ := info_parts infoEf
      have HB := Lib.hid hb; have HO := Lib.hid hown; have HDD := Lib.hid hd
      have hkl : (k : Int) < (l.length : Int) := by omega
      have I1 := Lib.hid i1; have I2 := Lib.hid i2; have I3 := Lib.hid i3; have I4 := Lib.hid i4
      obtain ⟨⟨kind, ino, dir, dst, page, size, name, other, Ae, cp, data⟩, ref⟩ := d
      dsimp only at x0 x1 x2 x3 x4 x5 x6 x7 x8 x9
      obtain ⟨w1, hw1⟩ : ∃ w1, wr.alloc (.cells #[.int .i64 kind, .int .i64 ino, .int .i64 dir, .int .i64 dst, .int .i64 page, .int .i64 size, .string name, .string other, .slice Ae data.length cp, .int .i64 ref] 66) = w1 := ⟨_, rfl⟩
      have hb1 : Below wr.heap.size wr w1 := by rw [← hw1]; exact below_of_grown (World.grownBy_alloc wr _ none)
      have hc1 : Cells w1 wr.heap.size 66 #[.int .i64 kind, .int .i64 ino, .int .i64 dir, .int .i64 dst, .int .i64 page, .int .i64 size, .string name, .string other, .slice Ae data.length cp, .int .i64 ref] := by rw [← hw1]; exact Cells.new _ _ _
      have z0 := hc1.cell 0; have z1 := hc1.cell 1; have z2 := hc1.cell 2; have z3 := hc1.cell 3; have z4 := hc1.cell 4; have z5 := hc1.cell 5; have z6 := hc1.cell 6; have z7 := hc1.cell 7; have z8 := hc1.cell 8; have z9 := hc1.cell 9
      simp only [List.getElem?_toArray, List.getElem?_cons_succ, List.getElem?_cons_zero] at z0 z1 z2 z3 z4 z5 z6 z7 z8 z9
      have HB1 := Lib.hid (hb.trans (hb1.mono hb.size))
      have ho1 : w1.ownsRow w.heap.size 64 9 u3 k (effV ((l.take k).map Dd.e)) := (KeepC.of (Ts := []) hb1).own (by simp) hown
      have ho2 : (w1.alloc (.cells #[.int .i64 kind, .int .i64 ino, .int .i64 dir, .int .i64 dst, .int .i64 page, .int .i64 size, .string name, .string other, .slice Ae data.length cp] 64)).ownsRow w.heap.size 64 9 u3 k (effV ((l.take k).map Dd.e)) := (KeepC.of (Ts := []) (below_of_grown (World.grownBy_alloc w1 _ none))).own (by simp) ho1
      have HO2 := Lib.hid ho2
      have HC2 := Lib.hid (cellsEf (e := ⟨kind, ino, dir, dst, page, size, name, other, Ae, cp, data⟩) (Cells.new w1 64 (effCells ⟨kind, ino, dir, dst, page, size, name, other, Ae, cp, data⟩)))
      have HS1 := Lib.hid (show w.heap.size ≤ w1.heap.size from HB1.out.size)
      have hkk : k < 1256584717421 := by omega
      clear hD hb hd hown i1 i2 i3 i4 hb1 hc1 ho1 ho2
      go_wp2_with (at_builtin; refine wpList_append_own_at _ rfl (.tmp 12) (.tmp 15) 23 rfl w.heap.size 64 ie _ 9 104 Tryz.underlying23 I1.out I2.out I3.out I4.out rfl (by decide) u3 k (effV ((l.take k).map Dd.e)) rfl HO2.out ⟨w1.heap.size, 0, none⟩ 1 1 (Eff.vals ⟨kind, ino, dir, dst, page, size, name, other, Ae, cp, data⟩) rfl rfl HC2.out (oneEf _) (by unfold maxLen; omega) (by omega) (by have := HS1.out; simp; omega) ?_; intro v7 w4 hown4 hgr4 _ hat4; have HB4 := Lib.hid (show Below w.heap.size w w4 from (HB1.out.trans ((below_of_grown (World.grownBy_alloc w1 _ none)).mono HS1.out)).grown hgr4 (by have := HS1.out; simp; omega) (own_base HO2.out)); have HO4 := Lib.hid hown4; clear hown4 hgr4 hat4)
      go_roundw
      case rel => exact ⟨k + 1, hlt, by go_num, by rw [take_snocE HDD.out, List.map_append, List.map_cons, List.map_nil, effV_snoc]; exact HO4.out, HB4.out⟩
      case measure => simp [intOf]; omega
    · obtain rfl : k = l.length := by omega
      have hok : ∀ e ∈ l.map Dd.e, e.Ok wr wr.heap.size := fun e he => by
        obtain ⟨d, hd, rfl⟩ := List.mem_map.1 he
        exact ((h.ok d hd).e.below hb).more hb.size
      have hown' : wr.ownsRow w.heap.size 64 9 u3 (l.map Dd.e).length (effV (l.map Dd.e)) := by
        rw [List.take_length] at hown
        rw [List.length_map]; exact hown
      obtain ⟨A9, c9, hv9, hl9, hm9, hE⟩ := effs_own hown' hok
      subst hv9
      rw [List.length_map] at hl9
      have HF := Lib.hid (few_any (c := c9) hE (by rw [List.length_map]; omega))
      rw [List.length_map] at HF ⊢
      have HB := Lib.hid hb
      clear hb hown hown' hok hE hk hlt
      by_cases h30 : l.length ≤ 30
      · have q1 : decide ((l.length : Int) ≤ 30) = true := decide_eq_true (by omega)
        have HFD := Lib.hid (show fewD l = fewE (l.map Dd.e) by unfold fewD; rw [decide_eq_true h30, Bool.true_and])
        go_wp2_with fail
        refine (HF.out).mono ?_
        rintro e' w5 ⟨rfl, hb5⟩
        have HB5 := Lib.hid (HB.out.trans (hb5.mono HB.out.size))
        clear hb5
        go_wp2
        go_ret
        exact ⟨by rw [HFD.out]; rfl, HB5.out⟩
      · have q1 : decide ((l.length : Int) ≤ 30) = false := decide_eq_false (by omega)
        have HFD := Lib.hid (show fewD l = false by unfold fewD; rw [decide_eq_false h30]; rfl)
        go_wp2
        go_ret
        exact ⟨by rw [HFD.out]; rfl, HB.out⟩
end Go.Proofs.YtbejbiogabpmfaaGreat

/-! The document's State: a new one. -/
namespace Go.Proofs.YtbejbiogabpmfaaGreat
open Wd Ino Sm Go.RowKit Go.ChangeShapes Go.WideShapes Go.Sort
set_option linter.unusedVariables false
set_option maxRecDepth 100000
def RNew (w : World) (e : Ending) (w' : World) : Prop := ∃ g Ls v, e = .returned (SPtr g) ∧ DSx w' w.heap.size g Ls v newStt ∧ Below w.heap.size w w'
set_option maxHeartbeats 4000000 in
theorem rNew (w : World) : Calls Tryz.prog 30 #[] w (RNew w) := by
  go_enter Tryz.func30, Tryz.ntmps30
  go_wp2
  go_ret
  have c0 := Cells.new w 51 #[.int .i64 1, .int .i64 2, .int .i64 1, .int .i64 0, .int .i64 1, .slice none 0 0, .slice none 0 0]
  refine ⟨w.heap.size + 1, [⟨1, 2, 1, 0, 1, none, 0, [], none, 0, []⟩], _, rfl, ⟨Nat.le_succ _, ?_, ⟨rfl, .inr ⟨w.heap.size, 1, _, rfl, Nat.le_refl _, c0.alloc _, by decide, by decide, by decide, rfl⟩⟩, fun n hn => ?_, rfl⟩, ?_⟩
  · have := Cells.new (w.alloc (.cells #[.int .i64 1, .int .i64 2, .int .i64 1, .int .i64 0, .int .i64 1, .slice none 0 0, .slice none 0 0] 51)) 75 #[.slice (some ⟨w.heap.size, 0, none⟩) 1 1, .int .i64 1]
    show Cells _ _ _ #[.slice (some ⟨w.heap.size, 0, none⟩) 1 1, .int .i64 1]
    simpa using this
  · rw [List.mem_singleton.1 hn]
    exact OwnNd.zero _ _
  · exact ((Below.refl _ _).alloc (Nat.le_refl _) _).alloc (by simp) _
end Go.Proofs.YtbejbiogabpmfaaGreat

/-! The project's State: New. -/
namespace Go.Proofs.YtbejbiogabpmfaaGreat
open Wd Ino Sm Go.RowKit Go.ChangeShapes Go.WideShapes Go.Sort
set_option linter.unusedVariables false
set_option maxRecDepth 100000
def PNew (w : World) (e : Ending) (w' : World) : Prop := ∃ g b, e = .returned (SPtr g) ∧ Below w.heap.size w w' ∧ PSt w' w.heap.size 1 g b newStt
theorem pNew (w : World) : Calls Tryz.prog 29 #[] w (PNew w) := by
  have hmm := @run_makeMap Tryz.prog
  have KN := Lib.hid (iNew 1 2 1 w)
  rw [show newUp 2 1 = 1 from rfl] at KN
  unfold nv at KN
  go_enter Tryz.func29, Tryz.ntmps29
  go_wp2_with (first
    | (go_at_call 59; (with_reducible refine (KN.out).mono ?_); rintro e' w1 ⟨rfl, hw1⟩
       have b1 := below_of_grown_of hw1))
  have hz : (w1.alloc (.cells #[.int .i64 1, .int .i64 2, .int .i64 1, .int .i64 0, .int .i64 1, .slice none 0 0, .slice none 0 0] 51)).heap.size = w1.heap.size + 1 := Array.size_push ..
  have hM := Mv.made (w1.alloc (.cells #[.int .i64 1, .int .i64 2, .int .i64 1, .int .i64 0, .int .i64 1, .slice none 0 0, .slice none 0 0] 51)) Tryz.prog 3
  rw [hz] at hM
  obtain ⟨w4, hrun, hP4, hT4⟩ := hM.store keyedN Tryz.underlying106 Tryz.underlying3 (by unfold maxLen; omega) 1 (Nd.val ⟨1, 2, 1, 0, 1, none, 0, [], none, 0, []⟩) (wfI (by unfold i64R; omega))
  unfold Nd.val at hrun
  dsimp only [List.length_nil] at hrun
  have b2 := below_of_grown (World.grownBy_alloc w1 (.cells #[.int .i64 1, .int .i64 2, .int .i64 1, .int .i64 0, .int .i64 1, .slice none 0 0, .slice none 0 0] 51) none)
  have b3 := below_of_grown (World.grownBy_alloc (w1.alloc (.cells #[.int .i64 1, .int .i64 2, .int .i64 1, .int .i64 0, .int .i64 1, .slice none 0 0, .slice none 0 0] 51)) (.map #[] 0) none)
  have h12 := b1.trans (b2.mono b1.size)
  have h13 := h12.trans (b3.mono h12.size)
  have h14 := turned_below hT4 h13 (by have := b1.size; omega)
  have H14 := Lib.hid h14
  have HP4 := Lib.hid hP4
  have hlo : w.heap.size ≤ w1.heap.size + 1 := by have := b1.size; omega
  have HLO := Lib.hid hlo
  clear b1 b2 b3 h12 h13 h14 hP4 hT4 hM hz hw1 KN hlo
  rw [hrun]
  go_wp2

  go_ret
  have b5 := below_of_grown (World.grownBy_alloc w4 (.cells #[.map (some (w1.heap.size + 1)), .int .i64 1] 108) none)
  have hP5 := HP4.out.same (b5.block _ HP4.out.lt)
  refine ⟨w4.heap.size, w1.heap.size + 1, rfl, H14.out.trans (b5.mono H14.out.size), H14.out.size, HLO.out, Cells.new _ _ _, fun i => if i = 1 then some ⟨1, 2, 1, 0, 1, none, 0, [], none, 0, []⟩ else none, hP5.congr fun y => ?_, fun i => ?_, fun i n hi => ?_⟩
  · unfold mval; by_cases e : y = 1 <;> simp [e] <;> rfl
  · by_cases e : i = 1
    · subst e; rfl
    · simp only [if_neg e]
      show none = atS newStt.l i
      have h1 : decide ((1 : Int) = i) = false := decide_eq_false fun h => e h.symm
      unfold newStt atS List.find?
      dsimp only
      rw [h1]; rfl
  · by_cases e : i = 1
    · simp only [if_pos e] at hi
      obtain rfl := Option.some.inj hi
      exact OwnNd.zero _ _
    · simp only [if_neg e] at hi; cases hi
end Go.Proofs.YtbejbiogabpmfaaGreat
