import Derived.Test.YtnjikgcigobcdaaPmCr
import Derived.Test.YtnjikgcigobcdaaTrue
namespace Go.Proofs.Ytnjikgcigobcdaa
open Wd Pm Go.Maps Go.RowKit
set_option linter.unusedVariables false

/-! chapter 4's example -/
theorem keys_nil {F : IFn} {l : List Int} (h : KeysOf F l) : keptL l [] = [] := by cases l <;> rfl
def aw0 : St := .fresh 64
theorem aw_step {σ : St} {b : Bool} {go : St → St} (h1 : refErr σ.dead b = 0) (h2 : σ.ar ≠ 1) : σ.tried b go = ((go σ.drained).counted, 0) := by
  unfold St.tried; rw [if_pos h1, if_neg h2]
def aw1 : St := ((St.fresh 64).drained.hold 3 7).counted
def aw2 : St := (aw1.drained.send 0).counted
def aw3 : St := (aw2.drained.persist).counted
def aw4 : St := (aw3.drained.hold 4 8).counted
theorem ref0 : refErr false true = 0 := by unfold refErr; rfl
theorem t1 : (St.fresh 64).tried (hasW (St.fresh 64).n 3) (·.hold 3 7) = (aw1, 0) := by
  rw [show hasW (St.fresh 64).n 3 = true from hasW_iff.2 (by decide)]
  exact aw_step ref0 (by decide)
theorem t2 : aw1.tried (hasL aw1.n 0) (·.send 0) = (aw2, 0) := by
  rw [show hasL aw1.n 0 = true from hasL_iff.2 (by decide)]
  exact aw_step ref0 (by decide)
theorem t3 : aw2.tried true St.persist = (aw3, 0) := aw_step ref0 (by decide)
theorem t4 : aw3.tried (hasW aw3.n 4) (·.hold 4 8) = (aw4, 0) := by
  rw [show hasW aw3.n 4 = true from hasW_iff.2 (by decide)]
  exact aw_step ref0 (by decide)
theorem s3 (l : List Int) (h : KeysOf aw4.hd l) : (aw4.crash l []).stays 3 = 7 := by
  unfold St.stays
  rw [show hasW (aw4.crash l []).n 3 = true from hasW_iff.2 (show (0 : Int) ≤ 3 ∧ (3 : Int) < ((64 : Nat) : Int) by decide), if_pos rfl]
  unfold St.crash
  rw [keys_nil h, evSt_nil]
  decide
theorem s4 (l : List Int) (h : KeysOf aw4.hd l) : (aw4.crash l []).stays 4 = 0 := by
  unfold St.stays
  rw [show hasW (aw4.crash l []).n 4 = true from hasW_iff.2 (show (0 : Int) ≤ 4 ∧ (4 : Int) < ((64 : Nat) : Int) by decide), if_pos rfl]
  unfold St.crash
  rw [keys_nil h, evSt_nil]
  decide

/-- from a world in which the device lies in new blocks to one where it lies in new blocks -/
def Fresh (w : World) (f : Fp) : Prop := ∀ k ∈ f.blocks, w.heap.size ≤ k
theorem Goes.fresh {w w1 w2 : World} {f : Fp} {σ : St} (g : Goes w1 f σ w2) (h : Fresh w f) (b : Below w.heap.size w w1) : ∃ f', f'.ptr = f.ptr ∧ Dev w2 f' σ ∧ Fresh w f' ∧ Below w.heap.size w w2 := by
  obtain ⟨f', d, e, n, t⟩ := g
  refine ⟨f', by unfold Fp.ptr; rw [e], d, fun k hk => ?_, ?_⟩
  · rcases n k hk with h1 | h1
    · exact h k h1
    · exact Nat.le_trans b.size h1
  · exact b.trans (t.below (.inr b.size) h)