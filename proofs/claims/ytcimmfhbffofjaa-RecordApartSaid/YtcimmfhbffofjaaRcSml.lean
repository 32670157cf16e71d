import Derived.Test.YtcimmfhbffofjaaRcMath
namespace Go.Proofs.Ytcimmfhbffofjaa
open Wd U Go.ChangeShapes Go.WideShapes Go.RowKit Go.Sort
set_option linter.unusedVariables false

/-! which refs may be, and how many words an effect needs -/
def mrB (k r : Int) : Bool := decide (r = 0) || (decide (k = 7) && decide (0 < r) && decide (r ≤ 1048576))
theorem recB_is (e : Eff) (r : Int) : recB e r = (e.check && mrB e.kind r) := by
  unfold recB mrB
  rw [Bool.and_assoc, Bool.and_assoc]
  congr 1
  apply Bool.eq_iff_iff.2
  simp only [Bool.and_eq_true, Bool.or_eq_true, decide_eq_true_eq]
  omega
theorem mayRef_is (k r : Int) (w : World) : Calls Try.prog 21 #[.int .i64 k, .int .i64 r] w fun e w' => e = .returned (.bool (mrB k r)) ∧ w = w' := by
  by_cases h0 : r = 0
  · have e : mrB k r = true := by unfold mrB; rw [h0]; rfl
    rw [e, h0]
    clear e h0
    go_enter Try.func21, Try.ntmps21
    go_wp2
    go_ret
    exact ⟨rfl, rfl⟩
  · have q0 : (r == 0) = false := by simpa using h0
    by_cases h7 : k = 7
    · have q1 : (k == 7) = true := by simpa using h7
      by_cases h1 : 0 < r
      · have q2 : decide (0 < r) = true := decide_eq_true h1
        have e : mrB k r = decide (r ≤ 1048576) := by unfold mrB; simp [h0, h7, h1]
        rw [e]
        clear e h0 h7 h1
        obtain ⟨b, hb⟩ : ∃ b, decide (r ≤ 1048576) = b := ⟨_, rfl⟩
        rw [hb]
        go_enter Try.func21, Try.ntmps21
        go_wp2
        go_ret
        exact ⟨rfl, rfl⟩
      · have q2 : decide (0 < r) = false := decide_eq_false h1
        have e : mrB k r = false := by unfold mrB; simp [h0, h1]
        rw [e]
        clear e h0 h7 h1
        go_enter Try.func21, Try.ntmps21
        go_wp2
        go_ret
        exact ⟨rfl, rfl⟩
    · have q1 : (k == 7) = false := by simpa using h7
      have e : mrB k r = false := by unfold mrB; simp [h0, h7]
      rw [e]
      clear e h0 h7
      go_enter Try.func21, Try.ntmps21
      go_wp2
      go_ret
      exact ⟨rfl, rfl⟩

def needB (e : Eff) : Int := if e.check then (manyR e : Int) else 0
theorem rNeed (e : Eff) (w : World) (ok : e.Ok w w.heap.size) (hf : e.few) : Calls Try.prog 19 #[e.val] w (Grows (.int .i64 (needB e)) w) := by
  have hfol : Try.prog.follows Departure.mixedOrders = true := by kernel_rfl
  have hc0 := Cells.new w 24 (effCells e)
  have HC0 := Lib.hid hc0
  have HG0 := Lib.hid (grow_one w (.cells (effCells e) 24))
  have HB0 := Lib.hid ((Below.refl w.heap.size w).alloc (Nat.le_refl _) (.cells (effCells e) 24))
  have OK := Lib.hid ok
  have HF := Lib.hid hf
  clear hc0 ok
  obtain ⟨n1, hn1⟩ : ∃ n : Nat, e.name.size = n := ⟨_, rfl⟩
  obtain ⟨n2, hn2⟩ : ∃ n : Nat, e.other.size = n := ⟨_, rfl⟩
  obtain ⟨C, hC⟩ : ∃ C, e.check = C := ⟨_, rfl⟩
  have l1 : n1 ≤ 100 := by rw [← hn1]; exact hf.2.1
  have l2 : n2 ≤ 100 := by rw [← hn2]; exact hf.2.2
  obtain ⟨k1, hk1⟩ : ∃ k : Nat, need n1 = k := ⟨_, rfl⟩
  obtain ⟨k2, hk2⟩ : ∃ k : Nat, need n2 = k := ⟨_, rfl⟩
  have m1 : k1 ≤ 100 := by rw [← hk1]; unfold need; omega
  have m2 : k2 ≤ 100 := by rw [← hk2]; unfold need; omega
  have hm : needB e = if C then ((11 + k1 + k2 : Nat) : Int) else 0 := by unfold needB manyR; rw [hC, hn1, hn2, hk1, hk2]
  have K1 := Lib.hid (fun w => wNeed (e.name.size : Int) (by omega) (by omega) w)
  have K2 := Lib.hid (fun w => wNeed (e.other.size : Int) (by omega) (by omega) w)
  rw [needI_nat, hn1, hk1] at K1
  rw [needI_nat, hn2, hk2] at K2
  rw [← hn1] at K1
  rw [← hn2] at K2
  have K0 := Lib.hid (fun w ok => eCheck e w ok HF.out)
  rw [hC] at K0
  rw [hm]
  have HN1 := Lib.hid hn1; have HN2 := Lib.hid hn2
  clear hC hm hn1 hn2 hk1 hk2 hf
  unfold Eff.val at K0 ⊢
  go_enter Try.func19, Try.ntmps19
  go_upto_region 1 with fail
  obtain ⟨w2, hw2⟩ : ∃ w2, w.alloc (.cells (effCells e) 24) = w2 := ⟨_, rfl⟩
  rw [hw2] at HC0 HG0 HB0
  unfold effCells at hw2
  rw [hw2]
  clear hw2
  have xa := effAt HC0.out
  unfold EffAt at xa
  have OK2 := Lib.hid (OK.out.at_ HB0.out)
  obtain ⟨c0, c1, c2, c3, c4, c5, c6, c7, c8⟩ := cells9 HC0.out
  cases C
  · rw [show errB false 92 = 92 from rfl] at K0
    go_wp2_with (first
      | (go_at_call 18; (with_reducible refine (K0.out _ OK2.out).mono ?_); rintro e' w3 ⟨rfl, q, os, rfl⟩))
    clear c0 c1 c2 c3 c4 c5 c6 c7 c8
    have a6 := (xa q os).2.2.2.2.2.2.1
    have a7 := (xa q os).2.2.2.2.2.2.2.1
    clear xa
    obtain ⟨w3, hw3⟩ : ∃ w3, grow (w2.drewN q) os = w3 := ⟨_, rfl⟩
    have HG3 := Lib.hid (grow_trans HG0.out ⟨q, os, rfl⟩)
    have HC3 := Lib.hid (HC0.out.below' (below_grow' w2 q os))
    rw [hw3] at HG3 HC3 a6 a7 ⊢
    clear hw3
    go_wp2
    go_ret
    exact ⟨rfl, HG3.out⟩
  · rw [show errB true 92 = 0 from rfl] at K0
    go_wp2_with (first
      | (go_at_call 18; (with_reducible refine (K0.out _ OK2.out).mono ?_); rintro e' w3 ⟨rfl, q, os, rfl⟩))
    clear c0 c1 c2 c3 c4 c5 c6 c7 c8
    have a6 := (xa q os).2.2.2.2.2.2.1
    have a7 := (xa q os).2.2.2.2.2.2.2.1
    clear xa
    obtain ⟨w3, hw3⟩ : ∃ w3, grow (w2.drewN q) os = w3 := ⟨_, rfl⟩
    have HG3 := Lib.hid (grow_trans HG0.out ⟨q, os, rfl⟩)
    have HC3 := Lib.hid (HC0.out.below' (below_grow' w2 q os))
    rw [hw3] at HG3 HC3 a6 a7 ⊢
    clear hw3
    clear a6 a7
    have xb := effAt HC3.out
    unfold EffAt at xb
    have b6 := fun n os => (xb n os).2.2.2.2.2.2.1
    have b7 := fun n os => (xb n os).2.2.2.2.2.2.2.1
    clear xb
    have s6 : e.name.size ≤ 100 := by rw [HN1.out]; exact l1
    have s7 : e.other.size ≤ 100 := by rw [HN2.out]; exact l2
    go_upto_region 3 with fail
    refine wp_region_quiet_grown hfol (by kernel_rfl) ?_
    repeat (go_big_quiet_step (first
      | (go_at_call 37; (with_reducible exact Grows.in K1.out _ _ _))
      | (go_at_call 37; (with_reducible exact Grows.in K2.out _ _ _))))
    refine wpQuiet_nil ?_
    intro _ hw'
    obtain ⟨⟨nr, osr⟩, hw''⟩ := hw'
    subst hw''
    go_wp2
    go_ret
    exact ⟨by congr 2, grow_trans HG3.out ⟨nr, osr, rfl⟩⟩
end Go.Proofs.Ytcimmfhbffofjaa
