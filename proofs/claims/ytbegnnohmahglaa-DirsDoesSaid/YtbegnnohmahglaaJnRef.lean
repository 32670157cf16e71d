import Derived.Test.YtbegnnohmahglaaSpAll
import Derived.Laws.Concat
namespace Go.Proofs.Ytbegnnohmahglaa
open Wd Go.ChangeShapes Go.WideShapes Go.RowKit Go.Sort
set_option linter.unusedVariables false

/-- a slash ahead of each -/
def slashed (l : List (List UInt8)) : List UInt8 := l.flatMap (fun p => 47 :: p)
def joinN (l : List (List UInt8)) : List UInt8 := if l = [] then [47] else slashed l
theorem slashed_snoc (l : List (List UInt8)) (p : List UInt8) : slashed (l ++ [p]) = slashed l ++ 47 :: p := by
  unfold slashed; rw [List.flatMap_append]; simp
theorem slashed_le (l : List (List UInt8)) (k : Nat) : (slashed (l.take k)).length ≤ (slashed l).length := by
  have h := List.take_append_drop k l
  have e : slashed l = slashed (l.take k) ++ slashed (l.drop k) := by
    unfold slashed
    rw [← List.flatMap_append, h]
  rw [e, List.length_append]; omega

def JoinRel (ls : List ByteArray) (W : World) (iv sv : Value) (w : World) : Prop := ∃ (k : Nat) (b : ByteArray), k ≤ ls.length ∧ iv = .int .i64 k ∧ sv = .string b ∧ b.toList = slashed ((ls.map ByteArray.toList).take k) ∧ w = W
def TextIs (l : List UInt8) (W : World) (e : Ending) (w : World) : Prop := ∃ b : ByteArray, e = .returned (.string b) ∧ b.toList = l ∧ W = w
theorem append_list (a b : ByteArray) : (a ++ b).toList = a.toList ++ b.toList := by
  rw [ByteArray.toList_eq, ByteArray.toList_eq, ByteArray.toList_eq]; simp

theorem empty_list : ByteArray.empty.toList = [] := by rw [ByteArray.toList_eq]; rfl
theorem slash_list : (ByteArray.mk #[47]).toList = [47] := by rw [ByteArray.toList_eq]