import Derived.Test.YtbegnnohmahglaaNkAny
import Derived.Lib.SmallJoins
/-
  The project's own Check of a name, and strings.Clone.
-/
namespace Go.Proofs.Ytbegnnohmahglaa
open Wd Go.ChangeShapes Go.WideShapes Go.RowKit Go.Sort
set_option linter.unusedVariables false

set_option maxHeartbeats 1000000 in
theorem check_odd (s : ByteArray) (w : World) (h : s.toList = [] ∨ s.toList = [46] ∨ s.toList = [46, 46]) : Calls Try.prog 28 #[.string s] w (Grows (.int .i64 22) w) := by
  rcases h with h | h | h
  · have h1 : s.toList.isEmpty = true := by rw [h]; rfl
    go_enter Try.func28, Try.ntmps28
    go_wp2_with fail
    go_ret
    exact ⟨rfl, grow_none _⟩
  · have h1 : s.toList.isEmpty = false := by rw [h]; rfl
    have h2 : (s.toList == [46]) = true := by rw [h]; rfl
    clear h
    go_enter Try.func28, Try.ntmps28
    go_wp2_with fail
    go_ret
    exact ⟨rfl, grow_none _⟩
  · have h1 : s.toList.isEmpty = false := by rw [h]; rfl
    have h2 : (s.toList == [46]) = false := by rw [h]; rfl
    have h3 : (s.toList == [46, 46]) = true := by rw [h]; rfl
    clear h
    go_enter Try.func28, Try.ntmps28
    go_wp2_with fail
    go_ret
    exact ⟨rfl, grow_none _⟩

set_option maxHeartbeats 1000000 in
theorem check_plain (s : ByteArray) (hs : s.size ≤ 1000) (h1 : s.toList.isEmpty = false) (h2 : (s.toList == [46]) = false) (h3 : (s.toList == [46, 46]) = false) (w : World) : Calls Try.prog 28 #[.string s] w (Grows (.int .i64 (plainN s.toList)) w) := by
  have hp : plainN s.toList = if s.toList.any badC then 22 else if 24 < s.size then 36 else 0 := by unfold plainN; rw [size_list]
  obtain ⟨b, hb⟩ : ∃ b, s.toList.any badC = b := ⟨_, rfl⟩
  rw [hb] at hp
  have HP := Lib.hid hp; have HB := Lib.hid hb
  clear hp hb
  go_enter Try.func28, Try.ntmps28
  go_wp2_with fail
  refine (contains_bad s (by omega) _).mono ?_
  rintro e w1 ⟨rfl, hw⟩
  rw [HB.out]
  cases b with
  | true =>
    go_wp2
    go_ret
    exact ⟨by rw [HP.out]; rfl, hw⟩
  | false =>
    by_cases h24 : 24 < s.size
    · have hd : decide ((24 : Int) < (s.size : Int)) = true := decide_eq_true (by omega)
      go_wp2
      go_ret
      exact ⟨by rw [HP.out, if_neg (by simp), if_pos h24]; rfl, hw⟩
    · have hd : decide ((24 : Int) < (s.size : Int)) = false := decide_eq_false (by omega)
      go_wp2
      go_ret
      exact ⟨by rw [HP.out, if_neg (by simp), if_neg h24]; rfl, hw⟩

theorem nCheck (s : ByteArray) (hs : s.size ≤ 1000) (w : World) : Calls Try.prog 28 #[.string s] w (Grows (.int .i64 (nameN s.toList)) w) := by
  by_cases h : s.toList = [] ∨ s.toList = [46] ∨ s.toList = [46, 46]
  · have := check_odd s w h
    rwa [show nameN s.toList = 22 by unfold nameN; rw [if_pos h]]
  · have e : nameN s.toList = plainN s.toList := by unfold nameN; rw [if_neg h]
    rw [e]
    refine check_plain s hs ?_ ?_ ?_ w
    · cases hl : s.toList with
      | nil => exact absurd (.inl hl) h
      | cons a t => rfl
    · rw [beq_eq_false_iff_ne]; exact fun h' => h (.inr (.inl h'))
    · rw [beq_eq_false_iff_ne]; exact fun h' => h (.inr (.inr h'))

theorem nClone (s : ByteArray) (hs : s.size ≤ 1000000) (w : World) : Calls Try.prog 25 #[.string s] w fun e w' => e = .returned (.string s) ∧ Below w.heap.size w w' := by
  go_enter Try.func25, Try.ntmps25
  go_wp2_with fail
  refine (Try.stringslite_Clone s _ (by omega)).mono ?_
  rintro e w1 ⟨rfl, hw⟩
  go_wp2
  go_ret
  exact ⟨rfl, hw⟩
end Go.Proofs.Ytbegnnohmahglaa
