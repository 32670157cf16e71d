import Derived.Test.YtjopeephohdmlaaWoCl
namespace Go.Proofs.Ytjopeephohdmlaa
open Wd U Go.ChangeShapes Go.WideShapes Go.RowKit Go.Sort
set_option linter.unusedVariables false

theorem ab_size : ({ data := #[97, 98] } : ByteArray).size = 2 := rfl
theorem pk_ab : ([] ++ [2] ++ pk (bsOf { data := #[97, 98] }) : List Nat).length = 2 := by decide
theorem pk_12 : pk [1, 2] = [513] := by decide
set_option maxRecDepth 100000 in
set_option maxHeartbeats 1000000 in
theorem wordsAwake_true (w : World) : Calls Try.prog 6 #[] w (TrueB w) := by
  have hw0 := WrSt.new w w (Below.refl _ _)
  have HW0 := Lib.hid hw0
  clear hw0
  go_enter Try.func6, Try.ntmps6
  go_wp2_with fail
  refine (text_w HW0.out (by simp) { data := #[97, 98] } (by rw [ab_size]; omega)).mono ?_
  rintro e w1 ⟨rfl, h1⟩
  have HW1 := Lib.hid h1
  have HB1 := Lib.hid h1.is_below
  clear h1
  go_wp2_with fail
  have hr1 : Row (w1.alloc (.cells #[.int .u8 1, .int .u8 2] 5)) (w1.alloc (.cells #[.int .u8 1, .int .u8 2] 5)).heap.size (some ⟨w1.heap.size, 0, none⟩) 2 ([1, 2].map bt) := Row.of_cells (Cells.new w1 5 #[.int .u8 1, .int .u8 2]) (by simp)
  have HR1 := Lib.hid hr1
  clear hr1
  refine (wPack [1, 2] 2 rfl (by intro x hx; simp at hx; omega) _ _ _ (by omega) HR1.out).mono ?_
  rintro e w2 ⟨A2, c2, rfl, hr2, hb2⟩
  rw [pk_12] at hr2 ⊢
  have HR2 := Lib.hid hr2
  have hb12 : Below w1.heap.size w1 w2 := ((Below.refl w1.heap.size w1).alloc (Nat.le_refl _) _).trans (hb2.mono (by simp))
  have HB12 := Lib.hid hb12
  have HW2 := Lib.hid (HW1.out.below hb12)
  clear hr2 hb2 hb12
  go_wp2_with fail
  have hx3 : Row (w2.alloc (.cells #[.int .u64 513] 44)) (w2.alloc (.cells #[.int .u64 513] 44)).heap.size A2 1 ([513].map wd) := (HR2.out.below ((Below.refl w2.heap.size w2).alloc (Nat.le_refl _) _)).more (by simp)
  have hy3 : Row (w2.alloc (.cells #[.int .u64 513] 44)) (w2.alloc (.cells #[.int .u64 513] 44)).heap.size (some ⟨w2.heap.size, 0, none⟩) 1 ([513].map wd) := Row.of_cells (Cells.new w2 44 #[.int .u64 513]) (by simp)
  have HX3 := Lib.hid hx3; have HY3 := Lib.hid hy3
  clear hx3 hy3
  refine (sameWords_eq [513] 1 rfl (by omega) _ _ _ _ _ _ HX3.out HY3.out).mono ?_
  rintro e w3 ⟨rfl, hgr⟩
  have hb3 : Below w2.heap.size w2 w3 := by obtain ⟨q, os, rfl⟩ := hgr; exact ((Below.refl w2.heap.size w2).alloc (Nat.le_refl _) _).trans ((below_grow' _ _ _).mono (by simp))
  have HB3 := Lib.hid hb3
  have HW3 := Lib.hid (HW2.out.below hb3)
  clear hgr hb3
  go_wp2_with fail
  refine (words_w HW3.out (by rw [ab_size, pk_ab]; omega)).mono ?_
  rintro e w4 ⟨v, rfl, hrd, hb4⟩
  obtain ⟨A, c, rfl, _, _⟩ := hrd.row
  rw [ab_size, pk_ab]
  have HB4 := Lib.hid hb4
  clear hb4 hrd
  go_wp2
  go_ret
  exact ⟨rfl, HW3.out.is_below.trans (HB4.out.mono HW3.out.is_below.size)⟩
end Go.Proofs.Ytjopeephohdmlaa
