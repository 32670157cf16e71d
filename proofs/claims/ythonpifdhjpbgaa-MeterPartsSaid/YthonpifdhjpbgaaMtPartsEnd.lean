import Derived.Test.YthonpifdhjpbgaaMtPartsLaw
namespace Go.Proofs.Ythonpifdhjpbgaa
open Wd So Go.ChangeShapes Go.WideShapes Go.RowKit
set_option linter.unusedVariables false

set_option maxRecDepth 100000 in
set_option maxHeartbeats 1000000 in
theorem parts_zero (A : Option Addr) (c : Nat) (num den : Int) (w : World) :
    Calls Try.prog 3 #[.slice A 0 c, .int .i64 num, .int .i64 den] w (TrueB w) := by
  have hrow : ∀ w : World, Row w w.heap.size A ([] : List Nat).length (([] : List Nat).map (Value.float .f64)) := fun w => ⟨rfl, fun h => absurd h (by simp)⟩
  have HROW := Lib.hid hrow
  clear hrow
  have hq : mayQ 0 num den = false := by
    unfold mayQ
    simp
  have HQ := Lib.hid hq
  clear hq
  have h00 : (FloatKind.f64.format.order 0 0 == some .eq) = true := by rw [eq_zero]; decide
  have H00 := Lib.hid h00
  clear h00
  go_enter Try.func3, Try.ntmps3
  go_wp2_with fail
  refine (awake_true _).mono ?_
  rintro e w0 ⟨rfl, hb⟩
  have HB := Lib.hid hb
  clear hb
  go_wp2_with fail
  refine (few3 A 0 c true (by decide) _).mono ?_
  rintro e w1 ⟨rfl, rfl⟩
  go_wp2_with fail
  refine (refSorted_any A c [] _ (by simp) (HROW.out _)).mono ?_
  rintro e w1 ⟨v, os, rfl, hpm, hso, hown, hb1⟩
  obtain ⟨As, cs, rfl, hrow⟩ := Row.of_own hown
  have HB1 := Lib.hid (HB.out.trans (hb1.mono HB.out.size))
  clear hpm hso hown hrow hb1
  go_wp2_with fail
  refine (mean_none A c _ none).mono ?_
  rintro e w2 ⟨mean, rfl, hwm, hm0, hm1, hb2⟩
  obtain rfl := hm0 rfl
  have HB2 := Lib.hid (HB1.out.trans (hb2.mono HB1.out.size))
  clear hm0 hm1 hb2
  go_wp2_with fail
  refine (median_none A c _ none).mono ?_
  rintro e w3 ⟨med, rfl, hwmed, hm0, hm1, hb2⟩
  obtain rfl := hm0 rfl
  have HB3 := Lib.hid (HB2.out.trans (hb2.mono HB2.out.size))
  clear hm0 hm1 hb2
  go_wp2_with fail
  refine (quantile_none A 0 c num den _ none (by unfold maxLen; omega) HQ.out).mono ?_
  rintro e w4 ⟨q, rfl, hwq, hm0, hm1, hb2⟩
  obtain rfl := hm0 rfl
  have HB4 := Lib.hid (HB3.out.trans (hb2.mono HB3.out.size))
  clear hm0 hm1 hb2
  go_wp2_with fail
  refine (sum_any [] A c _ (by simp) (HROW.out _)).mono ?_
  rintro e w5 ⟨s1, n1, rfl, hw1, hc1, rfl⟩
  go_wp2_with fail
  refine (refSum_any [] A c _ (by simp) (HROW.out _)).mono ?_
  rintro e w5 ⟨s2, n2, rfl, hw2, hc2, rfl⟩
  have HC12 := Lib.hid (hc1.trans hc2.symm)
  clear hc1 hc2
  go_wp2_with fail
  refine (same3 s1 s2 HC12.out _).mono ?_
  rintro e w5 ⟨rfl, rfl⟩
  have h00 := H00.out
  go_wp2
  go_quiet (fail)
  go_wp2
  go_ret
  exact ⟨rfl, below_drewN HB4.out _⟩

theorem meterParts_walk (l : List Nat) (A : Option Addr) (c : Nat) {w : World} (hr : Row w w.heap.size A l.length (l.map (Value.float .f64))) (hok : ∀ y ∈ l, (Lit.float .f64 y).wf = true) (_ : l.length ≤ maxLen)
    (num : Int) (_ : (Lit.int .i64 num).wf = true) (den : Int) (_ : (Lit.int .i64 den).wf = true) (_ : World) :
    Calls Try.prog 3 #[.slice A l.length c, .int .i64 num, .int .i64 den] w (TrueB w) := by
  by_cases h1 : l.length ≤ 40
  · by_cases h2 : 0 < l.length
    · exact parts_any A c l num den w h2 h1 (fun y hy => by simpa [Lit.wf] using hok y hy) hr
    · rw [show l.length = 0 by omega]
      exact parts_zero A c num den w
  · exact parts_far A l.length c num den w (by omega)
end Go.Proofs.Ythonpifdhjpbgaa
