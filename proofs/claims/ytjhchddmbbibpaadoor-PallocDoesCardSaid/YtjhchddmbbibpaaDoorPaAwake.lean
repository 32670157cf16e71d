import Derived.Test.YtjhchddmbbibpaaDoorPaFace
import Derived.Test.YtjhchddmbbibpaaDoorTrue
namespace Go.Proofs.YtjhchddmbbibpaaDoor
open Wd Pa Go.ChangeShapes Go.WideShapes Go.RowKit Go.Sort
set_option linter.unusedVariables false
set_option maxRecDepth 100000 in
set_option maxHeartbeats 400000 in
theorem awake_true {w : World} (hT : Tb w) (hB : 0 < w.heap.size) : Calls Tryd.prog 7 #[] w (TrueB w) := by
  have hr := Row.one w (.int .i64 2) 3
  have KN := Lib.hid (pgb_new (w0 := w) (w := w.alloc (.cells #[.int .i64 2] 3)) (n := 3) (l := [2]) (c := 1) (N := 3) hT hB ((Below.refl _ _).alloc (Nat.le_refl _) _) (by decide) hr (by decide))
  clear hr hT
  go_enter Tryd.func7, Tryd.ntmps7
  go_wp2_with fail
  refine KN.out.mono ?_
  rintro e w1 ⟨f, rfl, p1, b1⟩
  have KT := Lib.hid (pgb_take_some p1 ⟨1, by decide, by decide, u_two.1⟩)
  have hpt : f.ptr = .pointer (some ⟨f.g, 0, none⟩) := rfl
  rw [hpt] at KT ⊢
  go_wp2_with fail
  refine KT.out.mono ?_
  rintro e w2 ⟨r, r1, r2, r3, r4, rfl, p2, g2⟩
  obtain rfl : r = 1 := by
    apply Classical.byContradiction
    intro hc
    have := r4 1 (by decide) (by omega)
    rw [u_two.1] at this
    cases this
  have KS := Lib.hid (pgb_take_some p2 ⟨3, by decide, by decide, by rw [put_ne _ _ (by decide)]; exact u_two.2.2⟩)
  rw [hpt] at KS
  clear r1 r2 r3 r4 KT
  go_wp2_with fail
  refine KS.out.mono ?_
  rintro e w3 ⟨r, r1, r2, r3, r4, rfl, p3, g3⟩
  obtain rfl : r = 3 := by
    have h1 : r ≠ 1 := fun e => by subst e; rw [put_same] at r3; cases r3
    have h2 : r ≠ 2 := fun e => by subst e; rw [put_ne _ _ (by decide), u_two.2.1] at r3; cases r3
    omega
  have HB := Lib.hid p3.b
  clear r1 r2 r3 r4 KS
  go_wp2
  go_ret
  exact ⟨rfl, HB.out⟩
end Go.Proofs.YtjhchddmbbibpaaDoor
