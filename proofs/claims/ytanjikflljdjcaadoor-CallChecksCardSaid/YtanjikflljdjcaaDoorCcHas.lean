import Derived.Test.YtanjikflljdjcaaDoorCcSml
/-
  The project's Has: whether an open has one of its flags.
-/
namespace Go.Proofs.YtanjikflljdjcaaDoor
open Wd U Go.RowKit Go.ChangeShapes Go.WideShapes Go.Sort
set_option linter.unusedVariables false
set_option maxRecDepth 100000
def flagB (f : Int) : Bool := f == 1 || f == 2 || f == 4 || f == 8 || f == 16
def Cal.hasB (c : Cal) (f : Int) : Bool := flagB f && (c.kind == 1 && bits .and .i64 c.flags f != 0)
theorem cHas (c : Cal) (f : Int) (w : World) : Calls Tryd.prog 16 #[c.val, .int .i64 f] w (Grows (.bool (c.hasB f)) w) := by
  obtain ⟨kind, fd, flags, n, off, path, other, A, cp, data⟩ := c
  unfold Cal.val Cal.hasB flagB
  dsimp only
  obtain ⟨v, hv⟩ : ∃ v, bits .and .i64 flags f = v := ⟨_, rfl⟩
  rw [hv]
  cases q1 : (f == 1)
  · skip
    cases q2 : (f == 2)
    · skip
      cases q4 : (f == 4)
      · skip
        cases q8 : (f == 8)
        · skip
          cases q16 : (f == 16)
          · skip
            go_enter Tryd.func16, Tryd.ntmps16
            go_wp2
            go_ret
            exact ⟨rfl, grow_one _ _⟩
          · skip
            cases r1 : (kind == 1) <;> cases r2 : (v != 0) <;>
            · go_enter Tryd.func16, Tryd.ntmps16
              go_wp2
              go_ret
              exact ⟨rfl, grow_one _ _⟩
        · skip
          cases r1 : (kind == 1) <;> cases r2 : (v != 0) <;>
          · go_enter Tryd.func16, Tryd.ntmps16
            go_wp2
            go_ret
            exact ⟨rfl, grow_one _ _⟩
      · skip
        cases r1 : (kind == 1) <;> cases r2 : (v != 0) <;>
        · go_enter Tryd.func16, Tryd.ntmps16
          go_wp2
          go_ret
          exact ⟨rfl, grow_one _ _⟩
    · skip
      cases r1 : (kind == 1) <;> cases r2 : (v != 0) <;>
      · go_enter Tryd.func16, Tryd.ntmps16
        go_wp2
        go_ret
        exact ⟨rfl, grow_one _ _⟩
  · skip
    cases r1 : (kind == 1) <;> cases r2 : (v != 0) <;>
    · go_enter Tryd.func16, Tryd.ntmps16
      go_wp2
      go_ret
      exact ⟨rfl, grow_one _ _⟩
end Go.Proofs.YtanjikflljdjcaaDoor
