import Derived.Test.YtnijffgdapfgpaaPnLast
import Derived.Test.YtnijffgdapfgpaaPnPop
import Derived.Test.YtnijffgdapfgpaaPnHead
import Derived.Test.YtnijffgdapfgpaaPnRows
import Derived.Test.YtnijffgdapfgpaaTrue
/-! A new list; Add of one that there isn't; the chapter's example. -/
namespace Go.Proofs.Ytnijffgdapfgpaa
open Wd U Go.Maps Go.ChangeShapes Go.WideShapes Go.RowKit Go.Sort
set_option linter.unusedVariables false
set_option maxRecDepth 100000
theorem PnAt.new (w : World) {B : Nat} (hB : B ≤ w.heap.size) : PnAt (w.alloc (.cells #[.slice none 0 0, .int .i64 0] 29)) B w.heap.size ⟨[], 0⟩ :=
  ⟨hB, by simp, by simp, ⟨_, Cells.new _ _ _, OffRow.nil _ _ _ _⟩, fun x hx => by simp at hx⟩
theorem pnAdd_nil (w : World) (e : Eff) (id : Int) : Calls Try.prog 8 #[.pointer none, e.val, .int .i64 id] w fun e' w' => e' = .returned (.int .i64 0) ∧ Below w.heap.size w w' := by
  obtain ⟨kind, ino, dir, dst, page, size, name, other, A, cp, data⟩ := e
  unfold Eff.val
  go_enter Try.func8, Try.ntmps8
  go_wp2
  go_ret
  exact ⟨rfl, (Below.refl _ _).alloc (Nat.le_refl _) _⟩
def eff83 : Eff := ⟨8, 3, 0, 0, 0, 0, ⟨#[]⟩, ⟨#[]⟩, none, 0, []⟩
theorem eff83_bare : EfBare eff83.bare := ⟨by unfold i64R; decide, by unfold i64R; decide, by unfold i64R; decide, by unfold i64R; decide, by unfold i64R; decide, by unfold i64R; decide, by decide, by decide, rfl, rfl, rfl⟩
set_option maxHeartbeats 4000000 in
theorem pAwake (w : World) : Calls Try.prog 5 #[] w fun e w' => e = .returned (.bool true) ∧ Below w.heap.size w w' := by
  obtain ⟨W1, hW1⟩ : ∃ W1, w.alloc (.cells #[.slice none 0 0, .int .i64 0] 29) = W1 := ⟨_, rfl⟩
  have hp : PnAt W1 w.heap.size w.heap.size ⟨[], 0⟩ := by rw [← hW1]; exact PnAt.new w (Nat.le_refl _)
  have hb1 : Below w.heap.size w W1 := by rw [← hW1]; exact (Below.refl _ _).alloc (Nat.le_refl _) _
  have KA := Lib.hid (show Calls Try.prog 8 #[PPtr w.heap.size, .agg #[.int .i64 8, .int .i64 3, .int .i64 0, .int .i64 0, .int .i64 0, .int .i64 0, .string ⟨#[]⟩, .string ⟨#[]⟩, .slice none 0 0], .int .i64 0] W1 fun e' w' => e' = .returned (.int .i64 1) ∧ PnAt w' w.heap.size w.heap.size ⟨[(eff83.bare, 0)], 0⟩ ∧ PnKept W1 w' w.heap.size from pnAdd hp eff83 0 eff83_bare (by unfold i64R; decide) (by simp) hb1.size)
  have HB1 := Lib.hid hb1
  clear hp hb1
  unfold PPtr at *
  go_enter Try.func5, Try.ntmps5
  go_wp2_with (go_at_call 8; refine KA.out.mono ?_; rintro e w2 ⟨rfl, h2, k2⟩)
  have HB2 := Lib.hid (HB1.out.trans k2.below)
  obtain ⟨A, c, hc, _⟩ := h2.open_
  have KN := Lib.hid (show Calls Try.prog 13 #[PPtr w.heap.size] w2 fun e w' => e = .returned (.int .i64 2) ∧ w2 = w' from pnNext hc (by simp) (by simp))
  have KL := Lib.hid (show Calls Try.prog 14 #[PPtr w.heap.size, .int .i64 3] w2 fun e w' => e = .returned (.int .i64 1) ∧ Below w2.heap.size w2 w' from pnLast h2 3)
  unfold PPtr at *
  clear h2 k2 hc
  go_wp2_with (go_at_call 13; refine KN.out.mono ?_; rintro e w3 ⟨rfl, rfl⟩)
  go_wp2_with (go_at_call 14; refine KL.out.mono ?_; rintro e w3 ⟨rfl, h3⟩)
  go_ret
  exact ⟨rfl, HB2.out.trans (h3.mono HB2.out.size)⟩
end Go.Proofs.Ytnijffgdapfgpaa
