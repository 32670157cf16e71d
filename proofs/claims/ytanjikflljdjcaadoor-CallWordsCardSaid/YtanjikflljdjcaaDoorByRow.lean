import Derived.Test.YtanjikflljdjcaaDoorWd
import Derived.Laws.BytesString
import Derived.Deep.WholeRow
import Derived.Test.YtanjikflljdjcaaDoorChecked
import Derived.WalkKit
namespace Go.Proofs.YtanjikflljdjcaaDoor
open Wd Go.RowKit
set_option linter.unusedVariables false

def bt (n : Nat) : Value := .int .u8 (n : Int)
/-- bytes as a text -/
def strOf (bs : List Nat) : ByteArray := (bs.map (fun x : Nat => (x : Int))).foldl (fun r n => r.push (UInt8.ofNat n.toNat)) ByteArray.empty
theorem run_bytes_row (w : World) (A : Option Addr) (n c B : Nat) (bs : List Nat) (hL : bs.length = n) (hr : Row w B A n (bs.map bt)) :
    (convert 22 9 (.slice A n c)).run Tryd.prog w = .ok (.string (strOf bs)) w := by
  rw [run_convert_bytes_string w 22 9 5 A n c Tryd.underlying22 Tryd.underlying5 Tryd.underlying9]
  cases A with
  | none =>
    have h0 : n = 0 := by
      apply Classical.byContradiction
      intro h
      obtain ⟨b, off, e, _⟩ := hr.2 (by omega)
      cases e
    subst h0
    obtain rfl : bs = [] := List.eq_nil_of_length_eq_zero hL
    simp [Conv.bytesToString, Sem.run_pure, strOf]
  | some a =>
    have hcells : ∀ j v, (bs.map bt)[j]? = some v → w.cell? (a.add j) = some v := by
      intro j v hv
      obtain ⟨hj, rfl⟩ := List.getElem?_eq_some_iff.1 hv
      obtain ⟨b, off, e, _, hc⟩ := hr.2 (by simp at hj; omega)
      cases e
      have e : (⟨b, off, none⟩ : Addr).add j = ⟨b, off + j, none⟩ := by unfold Addr.add; split <;> simp_all
      rw [e]
      exact hc j hj
    have hld := run_loadCells_list (P := Tryd.prog) w a (bs.map bt) hcells
    rw [List.length_map, hL] at hld
    have e : bs.map bt = (bs.map (fun x : Nat => (x : Int))).map (Value.int .u8) := by rw [List.map_map]; rfl
    rw [e] at hld
    exact run_bytesToString w a n c _ hld

end Go.Proofs.YtanjikflljdjcaaDoor
