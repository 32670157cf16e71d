import Derived.Test.YtnijffgdapfgpaaEfCel
import Derived.Test.YtnijffgdapfgpaaGrow
import Derived.WalkKit
import Derived.WalkMore
import Derived.Lib.BufferWrite
import Derived.Lib.UnsafeStr
/-! The project's Touches, and an effect in a later world (split off EfSml). -/
namespace Go.Proofs.Ytnijffgdapfgpaa
open Wd U Go.RowKit Go.ChangeShapes Go.WideShapes Go.Sort
set_option linter.unusedVariables false
theorem Eff.Ok.at_ {e : Eff} {w w' : World} (h : e.Ok w w.heap.size) (b : Below w.heap.size w w') : e.Ok w' w'.heap.size := (h.below b).more b.size
theorem eTouches (e : Eff) (n : Int) (w : World) : Calls Try.prog 20 #[e.val, .int .i64 n] w (Grows (.bool (e.ino == n)) w) := by
  obtain ⟨kind, ino, dir, dst, page, size, name, other, A, cp, data⟩ := e
  unfold Eff.val
  obtain ⟨b, hb⟩ : ∃ b, (ino == n) = b := ⟨_, rfl⟩
  go_enter Try.func20, Try.ntmps20
  go_wp2
  go_ret
  exact ⟨by rw [hb]; rfl, grow_one _ _⟩
end Go.Proofs.Ytnijffgdapfgpaa
