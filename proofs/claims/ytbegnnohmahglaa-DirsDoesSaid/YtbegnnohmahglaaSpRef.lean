import Derived.Test.YtbegnnohmahglaaSpMath
import Derived.Test.YtbegnnohmahglaaOwn
import Derived.Test.YtbegnnohmahglaaApp
import Derived.OwnWalk
import Derived.Laws.Strings2
namespace Go.Proofs.Ytbegnnohmahglaa
open Wd Go.ChangeShapes Go.WideShapes Go.RowKit Go.Sort
set_option linter.unusedVariables false

theorem infoStr : (Try.prog.info? 9).map (fun i => (i.zero, i.size, i.bytes)) = some (some (.string ByteArray.empty), 1, 16) := by kernel_rfl
theorem oneS (l : List ByteArray) : ∀ u ∈ l.map Value.string, u.oneCell' = true := by
  intro u hu
  obtain ⟨b, _, rfl⟩ := List.mem_map.1 hu
  rfl
theorem extract_list (s : ByteArray) (f i : Nat) : (s.extract f i).toList = seg s.toList f i := by
  rw [ByteArray.toList_eq, ByteArray.toList_eq]
  unfold seg
  obtain ⟨⟨l⟩⟩ := s
  rw [ByteArray.extract_mk]
theorem get_list (s : ByteArray) (k : Nat) (h : k < s.size) : s.toList[k]? = some s[k] := by
  have hl : k < s.toList.length := by rw [size_list]; exact h
  rw [List.getElem?_eq_getElem hl]
  congr 1
  simp [ByteArray.toList_eq]
  rfl

def SplitRel (s : ByteArray) (W : World) (iv fv o : Value) (w : World) : Prop :=
  ∃ (i f : Nat) (bs : List ByteArray), iv = .int .i64 i ∧ fv = .int .i64 f ∧ i ≤ s.size + 1 ∧ bs.length ≤ i ∧ w.ownsRow W.heap.size 9 1 o bs.length (bs.map Value.string) ∧ Below W.heap.size W w ∧
    (i ≤ s.size → Gone s.toList f i (bs.map ByteArray.toList)) ∧ (s.size < i → bs.map ByteArray.toList = pieces (s.toList.drop 1) ∧ errOf (pieces (s.toList.drop 1)) = 0)
def SplitDone (l : List UInt8) (W : World) (e : Ending) (w : World) : Prop :=
  ∃ (v : Value) (bs : List ByteArray), e = .returned (.tuple #[v, .int .i64 (pathE l)]) ∧ bs.map ByteArray.toList = pathL l ∧ w.ownsRow W.heap.size 9 1 v bs.length (bs.map Value.string) ∧ Below W.heap.size W w