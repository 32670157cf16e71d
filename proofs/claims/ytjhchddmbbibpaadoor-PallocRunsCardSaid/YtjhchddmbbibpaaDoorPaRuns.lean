import Derived.Test.YtjhchddmbbibpaaDoorPaFaceR
import Derived.Test.YtjhchddmbbibpaaDoorPaAwake
import Derived.Test.YtjhchddmbbibpaaDoorPaNl
namespace Go.Proofs.YtjhchddmbbibpaaDoor
open Wd Pa Go.ChangeShapes Go.WideShapes Go.RowKit Go.Sort
set_option linter.unusedVariables false
theorem many_few {n : Int} (h : ¬ 300 < n) : many n ≤ 300 := by unfold many; omega
theorem flat_take {rs : List (Nat × Nat)} {j : Nat} {p : Nat × Nat} (h : rs[j]? = some p) : flat (rs.take (j + 1)) = flat (rs.take j) ++ List.range' p.1 (p.2 + 1 - p.1) := by
  rw [take_snoc h]
  unfold flat
  rw [List.flatMap_append]
  simp
theorem flat_le {U : Nat → Bool} {n : Nat} {rs : List (Nat × Nat)} (h : Rns U n (n + 1) rs) (j : Nat) : (flat (rs.take j)).length ≤ n := by
  have e : flat rs = flat (rs.take j) ++ flat (rs.drop j) := by
    conv => lhs; rw [← List.take_append_drop j rs]
    unfold flat
    rw [List.flatMap_append]
  have h1 : (flat rs).length ≤ n := by rw [h.all]; exact upto_len_le
  rw [e, List.length_append] at h1
  omega
def RunsLoop (W : World) (rs : List (Nat × Nat)) (i la v : Value) (wr : World) : Prop :=
  ∃ (j : Nat) (z : Int), j ≤ rs.length ∧ i = .int .i64 j ∧ la = .int .i64 z ∧ -1 ≤ z ∧ z ≤ 300 ∧ (∀ p : Nat × Nat, rs[j]? = some p → z + 1 < (p.1 : Int)) ∧ wr.ownsRow W.heap.size 3 1 v (flat (rs.take j)).length ((flat (rs.take j)).map i64) ∧ Below W.heap.size W wr
def RowLoop (W : World) (m a b : Nat) (xs : List Nat) (v i : Value) (wr : World) : Prop :=
  ∃ k : Nat, a ≤ k ∧ k ≤ b + 1 ∧ i = .int .i64 k ∧ Cells wr m 43 #[.int .i64 a, .int .i64 b] ∧ wr.ownsRow W.heap.size 3 1 v (xs ++ List.range' a (k - a)).length ((xs ++ List.range' a (k - a)).map i64) ∧ Below W.heap.size W wr
theorem range_snoc {a k : Nat} (h : a ≤ k) : List.range' a (k + 1 - a) = List.range' a (k - a) ++ [k] := by
  rw [show k + 1 - a = (k - a) + 1 by omega, List.range'_concat]
  congr 2
  omega
theorem infoI3 : (Tryd.prog.info? 3).map (fun i => (i.zero, i.size, i.bytes)) = some (some (.int .i64 0), 1, 8) := by kernel_rfl
section
variable {w : World} {A : Option Addr} {c : Nat} {l : List Int}
set_option maxRecDepth 100000 in
set_option maxHeartbeats 1000000 in
theorem runs_any (hT : Tb w) (hB : 0 < w.heap.size) (n i : Int) (hr : Row w w.heap.size A l.length (l.map (Value.int .i64))) :
    Calls Tryd.prog 4 #[.int .i64 n, .slice A l.length c, .int .i64 i] w (TrueB w) := by
  have KA := Lib.hid (awake_true hT hB)
  by_cases h2 : 300 < n
  · clear hT hr
    go_enter Tryd.func4, Tryd.ntmps4
    go_wp2_with (go_at_call 7; refine KA.out.mono ?_; rintro e w1 ⟨rfl, b1⟩)
    go_ret
    exact ⟨rfl, b1⟩
  · by_cases h3 : 60 < l.length
    · clear hT hr
      go_enter Tryd.func4, Tryd.ntmps4
      go_wp2_with (go_at_call 7; refine KA.out.mono ?_; rintro e w1 ⟨rfl, b1⟩)
      go_ret
      exact ⟨rfl, b1⟩
    · obtain ⟨N, hN⟩ : ∃ N, N = many n := ⟨_, rfl⟩
      have hN3 : N ≤ 300 := by rw [hN]; exact many_few h2
      obtain ⟨U, hU⟩ : ∃ U, usedOf N l = U := ⟨_, rfl⟩
      have KN := Lib.hid (fun w1 (b1 : Below w.heap.size w w1) => pgb_new (c := c) hT hB b1 hN ((hr.below b1).more b1.size) (by omega))
      rw [hU] at KN
      clear hT hr hU hN
      go_enter Tryd.func4, Tryd.ntmps4
      go_wp2_with (first
        | (go_at_call 7; refine KA.out.mono ?_; rintro e w1 ⟨rfl, b1⟩; have B1 := Lib.hid b1; clear b1)
        | (go_at_call 8; refine (KN.out _ B1.out).mono ?_; rintro e w2 ⟨f, rfl, p2, b2⟩; have P2 := Lib.hid p2; clear p2 b2; rw [show f.ptr = .pointer (some ⟨f.g, 0, none⟩) from rfl]; have KC := Lib.hid (pgb_copy P2.out); rw [show f.ptr = .pointer (some ⟨f.g, 0, none⟩) from rfl] at KC)
        | (go_at_call 19; refine KC.out.mono ?_; rintro e w3 ⟨d, rfl, q3, p3, n1, n2, n3, n4, b3⟩; have P3 := Lib.hid p3; have Q3 := Lib.hid q3; clear p3 q3 b3 KC; rw [show d.ptr = .pointer (some ⟨d.g, 0, none⟩) from rfl]; have KR := Lib.hid (pgb_runs P3.out); rw [show f.ptr = .pointer (some ⟨f.g, 0, none⟩) from rfl] at KR)
        | (go_at_call 20; refine KR.out.mono ?_; rintro e w5 ⟨A5, c5, rs, rfl, r5, a5, p5, b5⟩; have P5 := Lib.hid p5; have Q5 := Lib.hid (Q3.out.below b5); have R5 := Lib.hid r5; have A5_ := Lib.hid a5; clear p5 r5 a5 b5 KR))
      have hfp : f.ptr = .pointer (some ⟨f.g, 0, none⟩) := rfl
      have hdp : d.ptr = .pointer (some ⟨d.g, 0, none⟩) := rfl
      have hrl : rs.length ≤ 300 := Nat.le_trans R5.out.len (by omega)
      clear KA KN B1 P2 P3 Q3
      go_loopw [35, 10, 9] (fun i_ la v wr => RunsLoop w5 rs i_ la v wr) (fun i_ _ _ _ => rs.length - (intOf i_).toNat)
      case atStart =>
        refine ⟨0, -1, Nat.zero_le _, rfl, rfl, by omega, by omega, fun p hp => ?_, World.ownsRow_nil _ _ _ _, Below.refl _ _⟩
        have := (R5.out.ok p (List.mem_of_getElem? hp)).1
        omega
      case round =>
        obtain ⟨j, z, hj, rfl, rfl, hz1, hz2, hnx, hown, hb⟩ := hrel
        have HO := Lib.hid hown; have HB := Lib.hid hb; have HNX := Lib.hid hnx
        have hs := hb.size
        by_cases hlt : j < rs.length
        · obtain ⟨⟨a, b⟩, hp⟩ : ∃ p, rs[j]? = some p := ⟨_, List.getElem?_eq_getElem hlt⟩
          obtain ⟨g5, rfl, hg5, ca, cb⟩ := (A5_.out.below hb) j _ hp
          obtain ⟨o1, o2, -, o4⟩ := R5.out.ok _ (List.mem_of_getElem? hp)
          have hzz := hnx _ hp
          have HP := Lib.hid hp
          have hlt2 : (j : Int) < (rs.length : Int) := Int.ofNat_lt.2 hlt
          simp only at ca cb o1 o2 o4 hzz
          have t1 : decide ((b : Int) < (a : Int)) = false := decide_eq_false (by omega)
          have t2 : decide (b < a) = false := decide_eq_false (by omega)
          have t3 : ¬ b < a := by omega
          have t4 : decide ((a : Int) ≤ z + 1) = false := decide_eq_false (by omega)
          clear hown hb hnx hp
          obtain ⟨wo, rfl⟩ : ∃ wo : World, wo = wr := ⟨_, rfl⟩
          go_wp2_with fail
          have hm0 := HB.out.size
          have HC0 := Lib.hid (Cells.new wo 43 #[.int .i64 (a : Nat), .int .i64 (b : Nat)])
          have HO0 := Lib.hid (rown_below HO.out ((Below.refl _ _).alloc (Nat.le_refl _) (.cells #[.int .i64 (a : Nat), .int .i64 (b : Nat)] 43)))
          have HB0 := Lib.hid (HB.out.alloc HB.out.size (.cells #[.int .i64 (a : Nat), .int .i64 (b : Nat)] 43))
          obtain ⟨m, hm⟩ : ∃ m, wo.heap.size = m := ⟨_, rfl⟩
          obtain ⟨xs, hxs⟩ : ∃ xs, flat (rs.take j) = xs := ⟨_, rfl⟩
          have hxl : xs.length ≤ N := by rw [← hxs]; exact flat_le R5.out j
          have HX := Lib.hid hxs
          have hfl : xs.length + (b + 1 - a) ≤ N := by
            have h1 := flat_le R5.out (j + 1)
            rw [flat_take HP.out, hxs, List.length_append, List.length_range'] at h1
            exact h1
          rw [hxs] at HO0
          rw [hm] at HC0 ⊢
          have hgm : g5 ≠ m := by omega
          clear HO HB hxs t1 t2 t3 t4 hm hm0 ca cb hg5 hs
          go_loopw [9, 13] (fun v k wr => RowLoop w5 m a b xs v k wr) (fun _ k _ => b + 1 - (intOf k).toNat)
          case atStart => exact ⟨a, Nat.le_refl _, by omega, rfl, HC0.out, by simpa using HO0.out, HB0.out⟩
          case round =>
            obtain ⟨k, hk1, hk2, rfl, hcm, ho, hbb⟩ := hrel
            have e0 := hcm.cell 0
            have e1 := hcm.cell 1
            simp only [List.getElem?_toArray, List.getElem?_cons_zero, List.getElem?_cons_succ] at e0 e1
            have HC := Lib.hid hcm; have HO := Lib.hid ho; have HB := Lib.hid hbb
            have hs2 := hbb.size
            have hlen : (xs ++ List.range' a (k - a)).length ≤ N + 1 := by rw [List.length_append, List.length_range']; omega
            clear hcm ho hbb
            by_cases hkb : k ≤ b
            · have t1 : decide ((k : Int) ≤ (b : Int)) = true := decide_eq_true (by omega)
              have hmlt := HC.out.lt
              have hfar := own_far HO.out HC.out (by decide)
              obtain ⟨wq, rfl⟩ : ∃ wq : World, wq = wr := ⟨_, rfl⟩
              go_wp2_with (at_builtin; refine wpList_append_row _ rfl (.tmp 61) (.tmp 63) 22 rfl w5.heap.size 3 (.int .i64 0) 8 Tryd.underlying22 infoI3 rfl _ _ _ rfl (rown_below HO.out ((Below.refl _ _).alloc (Nat.le_refl _) _)) _ (some ⟨wq.heap.size, 0, none⟩) 1 1 [.int .i64 (k : Int)] rfl (Row.one _ _ _) (by simp [Value.oneCell']) (by unfold maxLen; omega) (by omega) (by simp; omega) ?_; intro v9 w9 hown9 hgr9 hat9; have hb9 := Lib.hid (show Below w5.heap.size w5 w9 from (HB.out.alloc hs2 _).grown hgr9 (by simp; omega) (own_base HO.out)); have HC9 := Lib.hid ((HC.out.alloc (.cells #[.int .i64 (k : Int)] 3)).grown hgr9 hfar); have HO9 := Lib.hid hown9; clear hown9 hgr9 hat9)
              go_roundw
              case rel =>
                refine ⟨k + 1, by omega, by omega, by go_num, HC9.out, ?_, hb9.out⟩
                rw [range_snoc hk1, ← List.append_assoc]
                simpa [i64, Nat.add_assoc] using HO9.out
              case measure => simp [intOf]; omega
            · have t1 : decide ((k : Int) ≤ (b : Int)) = false := decide_eq_false (by omega)
              have t2 : decide (k ≤ b) = false := decide_eq_false (by omega)
              have hkb2 : k = b + 1 := by omega
              have HK := Lib.hid hkb2
              clear hkb2
              go_wp2
              go_roundw
              case rel =>
                refine ⟨j + 1, b, by omega, by go_num, rfl, by omega, by omega, fun p hp => ?_, ?_, HB.out⟩
                · have h1 := List.pairwise_iff_getElem.1 R5.out.pw j (j + 1) hlt (List.getElem?_eq_some_iff.1 hp).1 (by omega)
                  rw [(List.getElem?_eq_some_iff.1 hp).2, (List.getElem?_eq_some_iff.1 HP.out).2] at h1
                  simp only at h1
                  omega
                · rw [flat_take HP.out, HX.out, ← HK.out]
                  exact HO.out
              case measure => simp [intOf]; omega
        · obtain rfl : j = rs.length := by omega
          have hfin : flat (rs.take rs.length) = upto U N := by rw [List.take_length, R5.out.all]; rfl
          rw [hfin] at HO
          have hul : (upto U N).length ≤ 300 := Nat.le_trans upto_len_le hN3
          have hi6 : IRow wr w5.heap.size u9 (upto U N) := IRow.of_own rfl HO.out
          obtain ⟨A9, c9, rfl, _⟩ := hi6.row
          obtain ⟨L, hL⟩ : ∃ L, (upto U N).length = L := ⟨_, rfl⟩
          rw [hL] at hi6 hul ⊢
          have HI := Lib.hid hi6
          have HL := Lib.hid hL
          have P6 := Lib.hid (P5.out.below HB.out)
          have Q6 := Lib.hid (Q5.out.below HB.out)
          clear hown hb hnx HO HB P5 Q5 hi6 hL hfin
          have KU := Lib.hid (pgb_used Q6.out L HL.out)
          rw [hdp] at KU
          go_wp2_with fail
          refine KU.out.mono ?_
          rintro e w7 ⟨A7, c7, rfl, o7, q7, b7⟩
          have I7 := Lib.hid (IRow.of_own HL.out (show w7.ownsRow wr.heap.size 3 1 (.slice A7 L c7) L ((upto U N).map iv) from o7))
          have H7 := Lib.hid (HI.out.below b7)
          have P7 := Lib.hid (P6.out.below b7)
          have Q7 := Lib.hid q7
          have KG := Lib.hid (pgb_give_any P7.out i)
          rw [hfp] at KG
          clear KU o7 q7 b7 HI P6 Q6
          go_wp2_with fail
          refine KG.out.mono ?_
          rintro e w8 ⟨v8, U8, rfl, p8, g8⟩
          have I8 := Lib.hid (I7.out.pages P7.out g8)
          have H8 := Lib.hid (H7.out.pages P7.out g8)
          have Q8 := Lib.hid (Q7.out.other P7.out g8 n3 n4)
          have P8 := Lib.hid p8
          have KT := Lib.hid (pgb_take_any P8.out)
          rw [hfp] at KT
          clear KG p8 g8 I7 H7 Q7 P7
          go_wp2_with fail
          refine KT.out.mono ?_
          rintro e w9 ⟨v9, U9, rfl, p9, g9⟩
          have I9 := Lib.hid (I8.out.pages P8.out g9)
          have H9 := Lib.hid (H8.out.pages P8.out g9)
          have Q9 := Lib.hid (Q8.out.other P8.out g9 n3 n4)
          have KO := Lib.hid (take_no w9)
          obtain ⟨A9', c9', e9, r9⟩ := H9.out.row
          rw [HL.out] at e9 r9
          injection e9 with e9 _ e9c
          subst e9 e9c
          obtain ⟨A7', c7', e7, r7⟩ := I9.out.row
          rw [HL.out] at e7 r7
          injection e7 with e7 _ e7c
          subst e7 e7c
          have KS := Lib.hid (same_is (upto U N) L HL.out (by omega) A9 A7 c9 c7 _ w9 r9 r7)
          clear KT p9 g9 I8 H8 Q8 P8 r9 r7
          go_wp2_with (go_at_call 10; refine KO.out.mono ?_; rintro e w1 ⟨rfl, rfl⟩)
          refine KS.out.mono ?_
          rintro e wa ⟨da, rfl, hwa⟩
          have Qa := Lib.hid (show PgB w wa d N U by rw [hwa]; exact Q9.out.drewN da)
          have Ia := Lib.hid (show IRow wa wr.heap.size (.slice A7 L c7) (upto U N) by rw [hwa]; exact I9.out.below (below_drewN (Below.refl _ _) da))
          have KU := Lib.hid (pgb_used Qa.out L HL.out)
          rw [hdp] at KU
          clear KO KS hwa Q9 H9 I9
          go_wp2_with fail
          refine KU.out.mono ?_
          rintro e wb ⟨Ab, cb, rfl, ob, qb, bb⟩
          have Ib := Lib.hid (Ia.out.below bb)
          have Ob := Lib.hid (IRow.of_own HL.out (show wb.ownsRow wa.heap.size 3 1 (.slice Ab L cb) L ((upto U N).map iv) from ob))
          have Qb := Lib.hid qb
          obtain ⟨A1', c1', e1, r1⟩ := Ib.out.row
          rw [HL.out] at e1 r1
          injection e1 with e1 _ e1c
          subst e1 e1c
          obtain ⟨A2', c2', e2, r2⟩ := Ob.out.row
          rw [HL.out] at e2 r2
          injection e2 with e2 _ e2c
          subst e2 e2c
          have KS := Lib.hid (same_is (upto U N) L HL.out (by omega) Ab A7 cb c7 _ wb r2 r1)
          clear KU ob qb bb Qa Ia Ib Ob r1 r2
          go_wp2_with fail
          refine KS.out.mono ?_
          rintro e wc ⟨dc, rfl, hwc⟩
          have HB := Lib.hid (show Below w.heap.size w wc by rw [hwc]; exact below_drewN Qb.out.b dc)
          have KG := Lib.hid (give_no wc 1)
          clear KS hwc Qb
          go_wp2_with fail
          refine KG.out.mono ?_
          rintro e wd ⟨rfl, dd, hwd⟩
          have HB2 := Lib.hid (show Below w.heap.size w wd by rw [hwd]; exact below_drewN HB.out dd)
          have KH := Lib.hid (has_no wd 1)
          clear KG hwd HB
          go_wp2_with fail
          refine KH.out.mono ?_
          rintro e we ⟨rfl, de, hwe⟩
          have HB3 := Lib.hid (show Below w.heap.size w we by rw [hwe]; exact below_drewN HB2.out de)
          have K1 := Lib.hid (free_no we)
          have K2 := Lib.hid (used_no we)
          have K3 := Lib.hid (runs_no we)
          have K4 := Lib.hid (copy_no we)
          clear KH hwe HB2
          go_wp2_with (first
            | (go_at_call 16; refine K1.out.mono ?_; rintro e w1 ⟨rfl, rfl⟩)
            | (go_at_call 18; refine K2.out.mono ?_; rintro e w1 ⟨rfl, rfl⟩)
            | (go_at_call 20; refine K3.out.mono ?_; rintro e w1 ⟨rfl, rfl⟩)
            | (go_at_call 19; refine K4.out.mono ?_; rintro e w1 ⟨rfl, rfl⟩))
          go_ret
          exact ⟨rfl, HB3.out⟩
end
end Go.Proofs.YtjhchddmbbibpaaDoor
