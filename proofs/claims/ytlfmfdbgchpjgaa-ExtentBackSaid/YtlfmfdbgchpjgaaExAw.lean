import Derived.Test.YtlfmfdbgchpjgaaExExt
import Derived.Test.YtlfmfdbgchpjgaaExHol
namespace Go.Proofs.Ytlfmfdbgchpjgaa
open Wd Ex Go.RowKit Go.ChangeShapes Go.WideShapes Go.Sort
set_option linter.unusedVariables false
set_option maxRecDepth 100000

theorem exts_example : exts [5, 6, 0, 7] = [⟨0, 2, 5⟩, ⟨3, 1, 7⟩] := by rfl
set_option maxHeartbeats 2000000 in
theorem xAwake (w : World) : Calls Try.prog 6 #[] w (TrueB w) := by
  have hr0 := Row.of_cells (B := (w.alloc (.cells #[.int .i64 5, .int .i64 6, .int .i64 0, .int .i64 7] 3)).heap.size) (Cells.new w 3 #[.int .i64 5, .int .i64 6, .int .i64 0, .int .i64 7]) (by simp)
  have hr : Row (w.alloc (.cells #[.int .i64 5, .int .i64 6, .int .i64 0, .int .i64 7] 3)) (w.alloc (.cells #[.int .i64 5, .int .i64 6, .int .i64 0, .int .i64 7] 3)).heap.size (some ⟨w.heap.size, 0, none⟩) ([5, 6, 0, 7] : List Int).length (([5, 6, 0, 7] : List Int).map iv) := hr0
  have KO := Lib.hid (xOf (c := 4) hr (Nat.le_refl _) (by decide) (by decide))
  rw [exts_example] at KO
  have hl4 : ([5, 6, 0, 7] : List Int).length = 4 := rfl
  rw [hl4] at KO
  have e1 := fun w => eqX_any ⟨0, 2, 5⟩ ⟨0, 2, 5⟩ w
  have e2 := fun w => eqX_any ⟨3, 1, 7⟩ ⟨3, 1, 7⟩ w
  rw [extEq_self] at e1 e2
  unfold Ext.val at e1 e2
  simp only at e1 e2
  have HB := Lib.hid ((Below.refl w.heap.size w).alloc (Nat.le_refl _) (.cells #[.int .i64 5, .int .i64 6, .int .i64 0, .int .i64 7] 3))
  clear hr0 hr hl4
  go_enter Try.func6, Try.ntmps6
  go_wp2_with fail
  refine KO.out.mono ?_
  rintro e w2 ⟨v, rfl, own, b2⟩
  have B2 := Lib.hid (HB.out.trans (b2.mono HB.out.size))
  obtain ⟨A2, c2, rfl, hc2, hx⟩ := own.form
  obtain ⟨b, off, rfl, _, _, x0, x1, x2⟩ := exs_cells hx (k := 0) (e := ⟨0, 2, 5⟩) rfl
  obtain ⟨b', off', hbo, _, _, x3, x4, x5⟩ := exs_cells hx (k := 1) (e := ⟨3, 1, 7⟩) rfl
  cases hbo
  simp only [Nat.zero_mul, Nat.add_zero, Nat.one_mul] at x0 x1 x2 x3 x4 x5
  have hl2 : ([⟨0, 2, 5⟩, ⟨3, 1, 7⟩] : List Ext).length = 2 := rfl
  rw [hl2]
  clear own b2 hx KO hl2 hc2
  go_wp2
  go_ret
  exact ⟨rfl, B2.out⟩
end Go.Proofs.Ytlfmfdbgchpjgaa
