import Derived.Test.YtanjikflljdjcaaDoorWd
import Derived.Test.YtanjikflljdjcaaDoorChecked
import Derived.WalkKit
import Derived.WalkLawsBesides
import Derived.Deep.QuietTactic
import Derived.BigQuiet
import Derived.KernelRfl
import Derived.Outline
import Derived.Laws.Cover2
import Derived.Shelf.SlSortCmp.QuietGrown
namespace Go.Proofs.YtanjikflljdjcaaDoor
open Wd Go.ChangeShapes Go.WideShapes Go.RowKit Go.Sort
set_option linter.unusedVariables false

/-- it returns v; the world has drawn some, and has some blocks more -/
def Grows (v : Value) (w : World) (e : Ending) (w' : World) : Prop := e = .returned v ∧ ∃ q os, w' = grow (w.drewN q) os
theorem below_grow' (w : World) (n : Nat) (os : Array Obj) : Below w.heap.size w (grow (w.drewN n) os) :=
  ⟨rfl, rfl, rfl, by simp, fun k hk => heap_grow_old (w.drewN n) os hk⟩
theorem Grows.below {v : Value} {w w' : World} {e : Ending} (h : Grows v w e w') : e = .returned v ∧ Below w.heap.size w w' := by
  obtain ⟨rfl, q, os, rfl⟩ := h
  exact ⟨rfl, below_grow' _ _ _⟩
theorem grow_none (w : World) : ∃ q os, w = grow (w.drewN q) os := ⟨0, #[], by rw [grow_empty]; rfl⟩
theorem grow_one (w : World) (o : Obj) : ∃ q os, w.alloc o = grow (w.drewN q) os := ⟨0, #[o], rfl⟩
theorem grow_trans {w w1 w2 : World} (h : ∃ q os, w1 = grow (w.drewN q) os) (k : ∃ q os, w2 = grow (w1.drewN q) os) : ∃ q os, w2 = grow (w.drewN q) os := by
  obtain ⟨q, os, rfl⟩ := h
  obtain ⟨q', os', rfl⟩ := k
  exact ⟨q + q', os ++ os', by show grow (grow ((w.drewN q).drewN q') os) os' = _; rw [grow_grow, World.drewN_drewN]⟩
theorem grow_alloc {w w1 : World} (h : ∃ q os, w1 = grow (w.drewN q) os) (o : Obj) : ∃ q os, w1.alloc o = grow (w.drewN q) os := grow_trans h (grow_one w1 o)
theorem grow_drewN {w w1 : World} (h : ∃ q os, w1 = grow (w.drewN q) os) (n : Nat) : ∃ q os, w1.drewN n = grow (w.drewN q) os := grow_trans h ⟨n, #[], by rw [grow_empty]⟩
/-- met in a region that draws -/
theorem Grows.in {P : Program} {f : FuncId} {args : Array Value} {v : Value} (h : ∀ w, Calls P f args w (Grows v w)) (w : World) (n : Nat) (os : Array Obj) :
    Calls P f args (grow (w.drewN n) os) fun e w'' => e = .returned v ∧ ∃ p : GrownBy, w'' = grow (w.drewN p.n) p.os :=
  Calls.grown_of (h _)
theorem Grows.inAt {P : Program} {f : FuncId} {args : Array Value} {v : Value} {w : World} (h : ∀ n os, Calls P f args (grow (w.drewN n) os) (Grows v (grow (w.drewN n) os))) (n : Nat) (os : Array Obj) :
    Calls P f args (grow (w.drewN n) os) fun e w'' => e = .returned v ∧ ∃ p : GrownBy, w'' = grow (w.drewN p.n) p.os := Calls.grown_of (h n os)
end Go.Proofs.YtanjikflljdjcaaDoor
