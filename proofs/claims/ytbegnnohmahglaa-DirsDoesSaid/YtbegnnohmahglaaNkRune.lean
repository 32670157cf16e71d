import Derived.Test.YtbegnnohmahglaaLib
import Derived.Test.YtbegnnohmahglaaJnMath
import Derived.Laws.RangeAny
import Derived.Laws.Runes
import Derived.ScopeJumps
import Derived.WalkMore
/-
  strings.IndexRune AT A RUNE THAT IS NOT ASCII, IN A TEXT THAT IS ASCII: it is not there.
-/
namespace Go.Proofs.Ytbegnnohmahglaa
open Wd Go.ChangeShapes Go.WideShapes Go.RowKit Go.Sort
set_option linter.unusedVariables false

def Ascii (s : ByteArray) : Prop := ∀ (j : Nat) b, s.data.toList[j]? = some b → b.toNat < 128

set_option maxRecDepth 100000 in
set_option maxHeartbeats 4000000 in
/-- the rune that stands for none: chars is gone through -/
theorem rune_err (s : ByteArray) (hs : Ascii s) (w : World) : Calls Try.prog 40 #[.string s, .int .i32 65533] w (Grows (.int .i64 (-1)) w) := by
  have HS := Lib.hid hs
  clear hs
  go_enter Try.func40, Try.ntmps40
  go_wp2_with fail
  go_loopg [5, 6] s.size (fun g _ _ wx => ∃ i : Nat, i + g = s.size ∧ wx = w.iter s i)
  case atStart => exact ⟨0, by omega, rfl⟩
  case round =>
    obtain ⟨i, hig, rfl⟩ := hrel
    cases gk with
    | zero =>
      obtain rfl : i = s.size := by omega
      have hnx := fun ty => run_next_end (P := Try.prog) w s s.size ty (by omega)
      go_wp2
      go_ret
      exact ⟨rfl, grow_one w _⟩
    | succ g =>
      have hi : i < s.size := by omega
      obtain ⟨x, hx⟩ : ∃ x : UInt8, s[i]'hi = x := ⟨_, rfl⟩
      have hxl : s.data.toList[i]? = some x := by rw [← hx]; exact Lib.data_getElem? s i hi
      have hx128 : x.toNat < 128 := HS.out i x hxl
      have hnx := fun ty => run_next_ascii (P := Try.prog) w s i ty hi (by rw [hx]; exact hx128)
      rw [hx] at hnx
      have hne : ((x.toNat : Int) == 65533) = false := beq_eq_false_iff_ne.2 (by omega)
      clear hxl hx
      go_wp2
      go_roundg g
      case measure => omega
      case rel => exact ⟨i + 1, by omega, rfl⟩

set_option maxRecDepth 100000 in
set_option maxHeartbeats 4000000 in
/-- a rune that is none -/
theorem rune_bad (s : ByteArray) (r : Int) (h128 : 128 ≤ r) (hne : r ≠ 65533) (hv : Lib.validRune r = false) (w : World) : Calls Try.prog 40 #[.string s, .int .i32 r] w (Grows (.int .i64 (-1)) w) := by
  have h1 : ¬ r < 128 := by omega
  have h2 : (r == 65533) = false := beq_eq_false_iff_ne.2 hne
  have HV := Lib.hid hv
  clear hv
  go_enter Try.func40, Try.ntmps40
  go_wp2_with fail
  refine (Try.utf8_ValidRune _ _).mono ?_
  rintro e w1 ⟨rfl, rfl⟩
  rw [HV.out]
  go_wp2
  go_ret
  exact ⟨rfl, grow_none _⟩

/-- a byte that is not ASCII is none of an ASCII text's -/
theorem index_none (l : List UInt8) (c : UInt8) (h : ∀ b ∈ l, b ≠ c) : Lib.indexByte l c = -1 := by
  induction l with
  | nil => rfl
  | cons b l ih =>
    have hb : (b == c) = false := beq_eq_false_iff_ne.2 (h b (by simp))
    rw [Lib.indexByte, ih (fun x hx => h x (by simp [hx])), hb]
    rfl
theorem index_far (s : ByteArray) (hs : Ascii s) (f t : Nat) (y : UInt8) (hy : 128 ≤ y.toNat) (w : World) : Calls Try.prog 44 #[.string (s.extract f t), .int .u8 y.toNat] w fun e w' => e = .returned (.int .i64 (-1)) ∧ w = w' := by
  refine (Try.strings_IndexByte _ _ _).mono ?_
  rintro e w1 ⟨rfl, rfl⟩
  refine ⟨?_, rfl⟩
  rw [index_none]
  intro b hb e
  have h1 : b ∈ s.data.toList := mem_extract hb
  obtain ⟨j, hj, hjb⟩ := List.getElem_of_mem h1
  have h2 := hs j b (by rw [List.getElem?_eq_getElem hj, hjb])
  have e2 : ((y.toNat : Int)).toNat.toUInt8 = y := by simp
  rw [e2] at e
  rw [e] at h2
  omega

set_option maxRecDepth 100000 in
set_option maxHeartbeats 4000000 in
/-- any other rune: its last byte is none of s -/
theorem rune_far (s : ByteArray) (hs : Ascii s) (r : Int) (h128 : 128 ≤ r) (hne : r ≠ 65533) (hv : Lib.validRune r = true) (w : World) : Calls Try.prog 40 #[.string s, .int .i32 r] w (Grows (.int .i64 (-1)) w) := by
  have h1 : ¬ r < 128 := by omega
  have h2 : (r == 65533) = false := beq_eq_false_iff_ne.2 hne
  obtain ⟨e1, e2, e3⟩ := encode_facts r (by rw [validRune_eq]; exact hv) h128
  obtain ⟨rs, hrs⟩ : ∃ rs, Utf8.encode r = rs := ⟨_, rfl⟩
  rw [hrs] at e1 e2 e3
  obtain ⟨m, hm⟩ : ∃ m : Nat, rs.size = m + 1 := ⟨rs.size - 1, by omega⟩
  have HV := Lib.hid hv; have HS := Lib.hid hs
  clear hv hs
  go_enter Try.func40, Try.ntmps40
  go_wp2_with fail
  refine (Try.utf8_ValidRune _ _).mono ?_
  rintro e w1 ⟨rfl, rfl⟩
  rw [HV.out]
  go_wp2
  go_step3
  go_wp2
  have em : ∀ h : m < rs.size, 128 ≤ (rs[m]'h).toNat := fun h => by
    have := e3 (by omega)
    simpa [hm] using this
  have EM := Lib.hid em
  clear e3 em
  go_loopw [9, 10] (fun s9 _ wx => s9 = .int .i64 m ∧ wx = w1) (fun _ _ _ => 0)
  case atStart => exact ⟨rfl, rfl⟩
  case round =>
    obtain ⟨rfl, rfl⟩ := hrel
    by_cases hlt : m < s.size
    · obtain ⟨x, hx⟩ : ∃ x : UInt8, s[m]'hlt = x := ⟨_, rfl⟩
      obtain ⟨y, hy⟩ : ∃ y : UInt8, rs[m]'(by omega) = y := ⟨_, rfl⟩
      have hx1 : x.toNat < 128 := HS.out m x (by rw [← hx]; exact Lib.data_getElem? s m hlt)
      have hy1 : 128 ≤ y.toNat := by rw [← hy]; exact EM.out _
      have hxy : ((x.toNat : Int) != (y.toNat : Int)) = true := by rw [bne_iff_ne]; omega
      go_wp2
      go_step3
      go_wp2
      go_quiet (skip)
      go_wp2
      go_quiet ((go_at_call 44; exact quiet_eq2 (index_far s HS.out (m + 1) s.size y hy1 _)))
      go_wp2
      go_ret
      exact ⟨rfl, grow_drewN (grow_none _) _⟩
    · go_wp2
      go_ret
      exact ⟨rfl, grow_none _⟩
end Go.Proofs.Ytbegnnohmahglaa
