import Derived.Test.YtnoojhkkojijpaaDoorSpRef
namespace Go.Proofs.YtnoojhkkojijpaaDoor
open Wd Go.ChangeShapes Go.WideShapes Go.RowKit Go.Sort
set_option linter.unusedVariables false

theorem none_split {s : ByteArray} {v : Int} {w : World} (h : pathE s.toList = v) (hv : v ≠ 0) : SplitDone s.toList w (.returned (.tuple #[.slice none 0 0, .int .i64 v])) w := by
  refine ⟨.slice none 0 0, [], by rw [h], ?_, ⟨rfl, .inl ⟨rfl, rfl⟩⟩, Below.refl _ _⟩
  unfold pathL
  rw [h, if_neg hv]; rfl

def AlikeS (xs ys : List ByteArray) (W : World) (i : Value) (w : World) : Prop := ∃ k d : Nat, k ≤ xs.length ∧ i = .int .i64 k ∧ xs.take k = ys.take k ∧ w = W.drewN d

theorem tolist_inj {a b : ByteArray} (h : a.toList = b.toList) : a = b := by
  rw [ByteArray.toList_eq, ByteArray.toList_eq] at h
  cases a with | mk x => cases b with | mk y => exact congrArg ByteArray.mk (Array.toList_inj.1 h)
theorem take_one' {α : Type} {l : List α} {k : Nat} {x : α} (h : l[k]? = some x) : l.take (k + 1) = l.take k ++ [x] := by
  rw [List.take_add_one, h]; rfl