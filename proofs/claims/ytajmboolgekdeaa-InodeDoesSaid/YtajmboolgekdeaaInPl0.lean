import Derived.Test.YtajmboolgekdeaaInFe
namespace Go.Proofs.Ytajmboolgekdeaa
open Wd Ino Go.RowKit Go.ChangeShapes Go.WideShapes Go.Sort
set_option linter.unusedVariables false
set_option maxRecDepth 100000

theorem OwnN.below {w w' : World} {base : Nat} {V : Value} {i k l s u : Int} {P : List Int} {N : List Ent} {A : Option Addr} {ac : Nat} {B : Option Addr} {bc : Nat} (h : OwnN w base V i k l s u P N A ac B bc) (hb : Below w.heap.size w w') : OwnN w' base V i k l s u P N A ac B bc := ⟨h.val, h.pages.below hb, h.names.below hb⟩
theorem below_alloc (w : World) (o : Obj) : Below w.heap.size w (w.alloc o) := (Below.refl w.heap.size w).alloc (Nat.le_refl _) o
theorem nodeEq_self (i k l s u : Int) (P : List Int) (N : List Ent) (A B A' B' : Option Addr) (a b a' b' : Nat) : nodeEq ⟨i, k, l, s, u, A, a, P, B, b, N⟩ ⟨i, k, l, s, u, A', a', P, B', b', N⟩ = true := nodeEq_iff.2 ⟨rfl, rfl, rfl, rfl, rfl, rfl, rfl⟩
end Go.Proofs.Ytajmboolgekdeaa
