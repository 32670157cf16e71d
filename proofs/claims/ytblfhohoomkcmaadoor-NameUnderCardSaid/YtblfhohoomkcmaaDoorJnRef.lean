import Derived.Test.YtblfhohoomkcmaaDoorSpAll
import Derived.Laws.Concat
namespace Go.Proofs.YtblfhohoomkcmaaDoor
open Wd Go.ChangeShapes Go.WideShapes Go.RowKit Go.Sort
set_option linter.unusedVariables false

/-- a slash ahead of each -/
def slashed (l : List (List UInt8)) : List UInt8 := l.flatMap (fun p => 47 :: p)
def joinN (l : List (List UInt8)) : List UInt8 := if l = [] then [47] else slashed l
theorem slashed_snoc (l : List (List UInt8)) (p : List UInt8) : slashed (l ++ [p]) = slashed l ++ 47 :: p := by
  unfold slashed; rw [List.flatMap_append]; simp
theorem slashed_le (l : List (List UInt8)) (k : Nat) : (slashed (l.take k)).length ≤ (slashed l).length := by
  have h := List.take_append_drop k l
  have e : slashed l = slashed (l.take k) ++ slashed (l.drop k) := by
    unfold slashed
    rw [← List.flatMap_append, h]
  rw [e, List.length_append]; omega

def JoinRel (ls : List ByteArray) (W : World) (iv sv : Value) (w : World) : Prop := ∃ (k : Nat) (b : ByteArray), k ≤ ls.length ∧ iv = .int .i64 k ∧ sv = .string b ∧ b.toList = slashed ((ls.map ByteArray.toList).take k) ∧ w = W
def TextIs (l : List UInt8) (W : World) (e : Ending) (w : World) : Prop := ∃ b : ByteArray, e = .returned (.string b) ∧ b.toList = l ∧ W = w
theorem append_list (a b : ByteArray) : (a ++ b).toList = a.toList ++ b.toList := by
  rw [ByteArray.toList_eq, ByteArray.toList_eq, ByteArray.toList_eq]; simp

theorem empty_list : ByteArray.empty.toList = [] := by rw [ByteArray.toList_eq]; rfl
theorem slash_list : (ByteArray.mk #[47]).toList = [47] := by rw [ByteArray.toList_eq]

set_option maxHeartbeats 1000000 in
theorem refJoin_any (ls : List ByteArray) (n : Nat) (hL : ls.length = n) (A : Option Addr) (c B : Nat) (w : World) (hn : n ≤ 1000) (hs : (slashed (ls.map ByteArray.toList)).length ≤ 1000000) (hr : Row w B A n (ls.map Value.string)) :
    Calls Tryd.prog 15 #[.slice A n c] w (TextIs (joinN (ls.map ByteArray.toList)) w) := by
  subst hL
  have HR := Lib.hid hr; have HS := Lib.hid hs
  clear hr hs
  go_enter Tryd.func15, Tryd.ntmps15
  go_wp2
  go_loopw [8, 3] (fun i s wr => JoinRel ls w i s wr) (fun i _ _ => ls.length - (intOf i).toNat)
  case atStart => exact ⟨0, ByteArray.empty, Nat.zero_le _, rfl, rfl, by rw [List.take_zero, empty_list]; rfl, rfl⟩
  case round =>
    obtain ⟨k, b, hk, rfl, rfl, hb, rfl⟩ := hrel
    have hsz : b.size ≤ 1000000 := by
      rw [← size_list, hb]
      exact Nat.le_trans (slashed_le _ k) HS.out
    have HB := Lib.hid hb
    clear hb
    by_cases hlt : k < ls.length
    · obtain ⟨b1, o1, x, rfl, _, hx, cx⟩ := HR.out.get hlt
      have hxl : (ls.map ByteArray.toList)[k]? = some x.toList := by rw [List.getElem?_map, hx]; rfl
      have ht := take_one' hxl
      have hxs : x.size ≤ 1000000 := by
        have h1 := slashed_le (ls.map ByteArray.toList) (k + 1)
        rw [ht, slashed_snoc, List.length_append, List.length_cons, size_list] at h1
        have := HS.out
        omega
      have hone : (ByteArray.mk #[47]).size = 1 := rfl
      have a1 := fun (w : World) => run_string_add_sum (P := Tryd.prog) w ⟨#[47]⟩ x (by omega)
      have a2 := fun (w : World) => run_string_add_sum (P := Tryd.prog) w b (⟨#[47]⟩ ++ x) (by rw [ByteArray.size_append]; omega)
      have HT := Lib.hid ht
      clear ht hxl hx hone
      go_wp2
      go_roundw
      case rel =>
        refine ⟨k + 1, b ++ (⟨#[47]⟩ ++ x), by omega, by go_num, rfl, ?_, rfl⟩
        rw [HT.out, slashed_snoc, append_list, append_list, HB.out, slash_list]
        rfl
      case measure => simp [intOf]; omega
    · obtain rfl : k = ls.length := by omega
      have hb := HB.out
      rw [List.take_of_length_le (by rw [List.length_map]; exact Nat.le_refl _)] at hb
      have HB2 := Lib.hid hb
      clear hb
      by_cases he : ls = []
      · subst he
        have hbe : b.toList.isEmpty = true := by rw [HB2.out]; rfl
        go_wp2
        go_ret
        exact ⟨⟨#[47]⟩, rfl, slash_list, rfl⟩
      · have hbe : b.toList.isEmpty = false := by
          rw [HB2.out]
          cases ls with
          | nil => exact absurd rfl he
          | cons a t => rfl
        have hj : joinN (ls.map ByteArray.toList) = slashed (ls.map ByteArray.toList) := by
          unfold joinN
          rw [if_neg (by intro h; exact he (List.map_eq_nil_iff.1 h))]
        have HJ := Lib.hid hj
        clear he hj
        go_wp2
        go_ret
        exact ⟨b, rfl, by rw [HJ.out]; exact HB2.out, rfl⟩
end Go.Proofs.YtblfhohoomkcmaaDoor
