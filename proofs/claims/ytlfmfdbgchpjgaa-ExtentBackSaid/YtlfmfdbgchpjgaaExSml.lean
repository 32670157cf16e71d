import Derived.Test.YtlfmfdbgchpjgaaExMem
import Derived.WalkMore
namespace Go.Proofs.Ytlfmfdbgchpjgaa
open Wd Ex Go.RowKit Go.ChangeShapes Go.WideShapes Go.Sort
set_option linter.unusedVariables false
set_option maxRecDepth 100000

theorem xAfter (e : Ext) (h0 : -9223372036854775808 ≤ e.f + e.n) (h1 : e.f + e.n ≤ 9223372036854775807) (w : World) : Calls Try.prog 25 #[e.val] w (Grows (.int .i64 (e.f + e.n)) w) := by
  have q : wrap64 (e.f + e.n) = e.f + e.n := by unfold wrap64; omega
  unfold Ext.val
  go_enter Try.func25, Try.ntmps25
  go_wp2
  go_ret
  exact ⟨rfl, grow_one _ _⟩

theorem xMay (x : Int) (w : World) : Calls Try.prog 27 #[.int .i64 x] w fun e w' => e = .returned (.bool (decide (0 ≤ x ∧ x < 1048576))) ∧ w = w' := by
  by_cases h1 : x < 0
  · rw [decide_eq_false (by omega)]
    go_enter Try.func27, Try.ntmps27
    go_wp2
    go_ret
    exact ⟨rfl, rfl⟩
  · by_cases h2 : x < 1048576
    · rw [decide_eq_true (by omega)]
      go_enter Try.func27, Try.ntmps27
      go_wp2
      go_ret
      exact ⟨rfl, rfl⟩
    · rw [decide_eq_false (by omega)]
      go_enter Try.func27, Try.ntmps27
      go_wp2
      go_ret
      exact ⟨rfl, rfl⟩

set_option maxHeartbeats 1000000 in
theorem xFits (e : Ext) (h : e.n ≤ 9223372036854775807) (w : World) : Calls Try.prog 24 #[e.val] w (Grows (.bool (fitsB e)) w) := by
  obtain ⟨f, n, p⟩ := e
  simp only at h
  unfold Ext.val fitsB
  simp only
  by_cases h1 : 1 ≤ n
  · have q : wrap64 (1048576 - n) = 1048576 - n := by unfold wrap64; omega
    by_cases h2 : 0 ≤ f
    · by_cases h3 : f ≤ 1048576 - n
      · by_cases h4 : 1 ≤ p
        · by_cases h5 : p ≤ 1048576 - n
          · rw [decide_eq_true (by omega)]
            clear h
            go_enter Try.func24, Try.ntmps24
            go_wp2
            go_ret
            exact ⟨rfl, grow_one _ _⟩
          · rw [decide_eq_false (by omega)]
            clear h
            go_enter Try.func24, Try.ntmps24
            go_wp2
            go_ret
            exact ⟨rfl, grow_one _ _⟩
        · rw [decide_eq_false (by omega)]
          clear h
          go_enter Try.func24, Try.ntmps24
          go_wp2
          go_ret
          exact ⟨rfl, grow_one _ _⟩
      · rw [decide_eq_false (by omega)]
        clear h
        go_enter Try.func24, Try.ntmps24
        go_wp2
        go_ret
        exact ⟨rfl, grow_one _ _⟩
    · rw [decide_eq_false (by omega)]
      clear h
      go_enter Try.func24, Try.ntmps24
      go_wp2
      go_ret
      exact ⟨rfl, grow_one _ _⟩
  · rw [decide_eq_false (by omega)]
    clear h
    go_enter Try.func24, Try.ntmps24
    go_wp2
    go_ret
    exact ⟨rfl, grow_one _ _⟩
end Go.Proofs.Ytlfmfdbgchpjgaa
