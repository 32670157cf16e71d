import Derived.Test.YtjopeephohdmlaaUnGood
import Derived.Laws.BytesString
import Derived.Deep.WholeRow
namespace Go.Proofs.Ytjopeephohdmlaa
open Wd U Go.ChangeShapes Go.WideShapes Go.RowKit Go.Sort
set_option linter.unusedVariables false

/-- bytes as a text -/
def strOf (bs : List Nat) : ByteArray := (bs.map (fun x : Nat => (x : Int))).foldl (fun r n => r.push (UInt8.ofNat n.toNat)) ByteArray.empty
theorem run_bytes_row (w : World) (A : Option Addr) (n c B : Nat) (bs : List Nat) (hL : bs.length = n) (hr : Row w B A n (bs.map bt)) :
    (convert 22 9 (.slice A n c)).run Try.prog w = .ok (.string (strOf bs)) w := by
  rw [run_convert_bytes_string w 22 9 5 A n c Try.underlying22 Try.underlying5 Try.underlying9]
  cases A with
  | none =>
    have h0 : n = 0 := by
      apply Classical.byContradiction
      intro h
      obtain ⟨b, off, e, _⟩ := hr.2 (by omega)
      cases e
    subst h0
    obtain rfl : bs = [] := List.eq_nil_of_length_eq_zero hL
    simp [Conv.bytesToString, Sem.run_pure, strOf]
  | some a =>
    have hcells : ∀ j v, (bs.map bt)[j]? = some v → w.cell? (a.add j) = some v := by
      intro j v hv
      obtain ⟨hj, rfl⟩ := List.getElem?_eq_some_iff.1 hv
      obtain ⟨b, off, e, _, hc⟩ := hr.2 (by simp at hj; omega)
      cases e
      have e : (⟨b, off, none⟩ : Addr).add j = ⟨b, off + j, none⟩ := by unfold Addr.add; split <;> simp_all
      rw [e]
      exact hc j hj
    have hld := run_loadCells_list (P := Try.prog) w a (bs.map bt) hcells
    rw [List.length_map, hL] at hld
    have e : bs.map bt = (bs.map (fun x : Nat => (x : Int))).map (Value.int .u8) := by rw [List.map_map]; rfl
    rw [e] at hld
    exact run_bytesToString w a n c _ hld

theorem sameBytes_eq (bs : List Nat) (n : Nat) (hL : bs.length = n) (A C : Option Addr) (c d B : Nat) (w : World) (hx : Row w B A n (bs.map bt)) (hy : Row w B C n (bs.map bt)) :
    Calls Try.prog 12 #[.slice A n c, .slice C n d] w fun e w' => e = .returned (.bool true) ∧ w = w' := by
  have e1 := run_bytes_row w A n c B bs hL hx
  have e2 := run_bytes_row w C n d B bs hL hy
  obtain ⟨S, hS⟩ : ∃ S, strOf bs = S := ⟨_, rfl⟩
  rw [hS] at e1 e2
  clear hS hx hy hL
  go_enter Try.func12, Try.ntmps12
  go_wp2
  go_ret
  exact ⟨by simp, rfl⟩

/-- the document's Unpack, whatever is asked -/
theorem refUnpack_any (l : List Nat) (L : Nat) (n : Int) (hL : l.length = L) (hl : Small l) (hle : L ≤ 100) (b : Bool) (hb : mayU l n = b) (A : Option Addr) (c : Nat) (w : World) (hr : Row w w.heap.size A L (l.map wd)) :
    Calls Try.prog 8 #[.slice A L c, .int .i64 n] w (Unpacked l n b w) := by
  by_cases h : 0 ≤ n ∧ need n.toNat = L
  · obtain ⟨N, rfl⟩ : ∃ N : Nat, n = (N : Int) := ⟨n.toNat, by omega⟩
    rw [Int.toNat_natCast] at h
    have hb' : decide (pk (bytesOf l N) = l) = b := by
      rw [← hb]
      unfold mayU
      rw [Int.toNat_natCast, hL]
      simp [h.1, h.2]
    exact refUnpack_good l L N hL hl hle h.2 b hb' A c w hr
  · have hb' : b = false := by
      rw [← hb]
      unfold mayU
      rw [hL, Bool.and_eq_false_iff, Bool.and_eq_false_iff]
      left
      by_cases h1 : 0 ≤ n
      · right; exact decide_eq_false (fun h2 => h ⟨h1, h2⟩)
      · left; exact decide_eq_false h1
    subst hb'
    refine (refUnpack_bad L (by omega) A c n w ?_).mono ?_
    · by_cases h1 : n < 0
      · exact .inl h1
      · have h2 : ¬ need n.toNat = L := fun h2 => h ⟨by omega, h2⟩
        unfold need at h2
        omega
    · rintro e w' ⟨rfl, rfl⟩
      exact ⟨none, 0, 0, rfl, rfl, (fun h => by cases h), Below.refl _ _⟩
end Go.Proofs.Ytjopeephohdmlaa
