import Derived.Test.YthonpifdhjpbgaaFlRef
import Derived.Test.YthonpifdhjpbgaaWd
import Derived.Outline
namespace Go.Proofs.Ythonpifdhjpbgaa
open Wd Go.ChangeShapes Go.WideShapes Go.RowKit
set_option linter.unusedVariables false

theorem refSame_is (x y : Nat) (b : Bool) (h : sameB x y = b) (w : World) : Calls Try.prog 12 #[.float .f64 x, .float .f64 y] w fun e w' => e = .returned (.bool b) ∧ w = w' := by
  subst h; exact refSame_any x y w

def Alike (xs ys : List Nat) (w : World) (e : Ending) (w' : World) : Prop := ∃ b n, e = .returned (.bool b) ∧ (b = true ↔ xs.map rk = ys.map rk) ∧ w' = w.drewN n

def AlikeRel (xs ys : List Nat) (w : World) (i : Value) (wr : World) : Prop := ∃ k n, k ≤ xs.length ∧ i = .int .i64 (k : Nat) ∧ (xs.map rk).take k = (ys.map rk).take k ∧ wr = w.drewN n

theorem take_one {α : Type} {l : List α} {k : Nat} {x : α} (h : l[k]? = some x) : l.take (k + 1) = l.take k ++ [x] := by
  rw [List.take_add_one, h]; rfl