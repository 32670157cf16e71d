import Derived.Test.YtbegnnohmahglaaNkRune
import Derived.Lib.OthersKept
/-
  strings.ContainsAny OF WHATEVER TEXT, FOR SOME ASCII BYTES: whether one of its bytes is among them.
-/
namespace Go.Proofs.Ytbegnnohmahglaa
open Wd Go.ChangeShapes Go.WideShapes Go.RowKit Go.Sort
set_option linter.unusedVariables false

/-- a rune above 127 is none of an ASCII text's -/
theorem rune_any (s : ByteArray) (hs : Ascii s) (r : Int) (h128 : 128 ≤ r) (w : World) : Calls Try.prog 40 #[.string s, .int .i32 r] w (Grows (.int .i64 (-1)) w) := by
  by_cases hne : r = 65533
  · subst hne; exact rune_err s hs w
  · cases hv : Lib.validRune r with
    | false => exact rune_bad s r h128 hne hv w
    | true => exact rune_far s hs r h128 hne hv w

/-- all bytes of a rune that is not ASCII are not -/
theorem decode_cont (s : ByteArray) (pos : Nat) (h : pos < s.size) (ha : 128 ≤ (s[pos]'h).toNat) (j : Nat) : j < (Utf8.decode s pos).2 → pos + j < s.size ∧ 128 ≤ (s.get! (pos + j)).toNat := by
  have hn : ¬ (s[pos]'h).toNat < 128 := by omega
  have h0 : 128 ≤ (s.get! (pos + 0)).toNat := by rw [get_at s pos h]; exact ha
  simp only [Utf8.decode, get_at s pos h, hn, if_false]
  repeat' split
  all_goals
    intro hj
    have hj' : j = 0 ∨ j = 1 ∨ j = 2 ∨ j = 3 := by simp at hj; omega
    rcases hj' with rfl | rfl | rfl | rfl <;> simp_all <;> omega

theorem noany_far {s : ByteArray} {cs : List UInt8} {i : Nat} (hc : ∀ b ∈ cs, b.toNat < 128) (h : Lib.NoAny s.data.toList cs i) (d : Nat) (hd : ∀ j, j < d → 128 ≤ (s.get! (i + j)).toNat) : Lib.NoAny s.data.toList cs (i + d) := by
  intro j b hj hb
  by_cases hji : j < i
  · exact h j b hji hb
  · have h1 := hd (j - i) (by omega)
    rw [show i + (j - i) = j by omega] at h1
    have hjs : j < s.size := by have := (List.getElem?_eq_some_iff.1 hb).1; rw [Lib.size_eq]; exact this
    have h2 : s.get! j = b := by
      have h3 := Lib.data_getElem? s j hjs
      rw [hb] at h3
      have h4 := Option.some.inj h3
      rw [h4]
      have := get_at s j hjs
      simpa using this
    rw [h2] at h1
    rw [Bool.eq_false_iff, Ne, List.contains_iff_mem]
    intro hm
    have := hc b hm
    omega

/-- the iterator stands in the first block that was made -/
def ItAt (s : ByteArray) (i : Nat) (w wx : World) : Prop := wx.heap[w.heap.size]? = some (.stringIter s i) ∧ ∃ q os, wx = grow (w.drewN q) os
theorem ItAt.first (s : ByteArray) (w : World) : ItAt s 0 w (w.iter s 0) := ⟨w.iter_heap s 0, grow_one w _⟩
theorem ItAt.set {s : ByteArray} {i : Nat} {w wx : World} (h : ItAt s i w wx) (i' : Nat) : ItAt s i' w (wx.iterAt w.heap.size s i') := by
  refine ⟨Lib.iterAt_heap wx _ s i i' h.1, ?_⟩
  obtain ⟨q, os, rfl⟩ := h.2
  refine ⟨q, os.setIfInBounds 0 (.stringIter s i'), ?_⟩
  unfold World.iterAt grow
  congr 1
  apply Array.ext_getElem?
  intro k
  show ((w.heap ++ os).setIfInBounds w.heap.size _)[k]? = (w.heap ++ os.setIfInBounds 0 _)[k]?
  rw [Array.getElem?_setIfInBounds, Array.getElem?_append, Array.getElem?_append, Array.getElem?_setIfInBounds]
  by_cases hk : k < w.heap.size
  · rw [if_pos hk, if_pos hk, if_neg (by omega)]
  · rw [if_neg hk, if_neg hk]
    by_cases hk2 : w.heap.size = k
    · subst hk2; simp
    · rw [if_neg hk2, if_neg (by omega)]
theorem ItAt.more {s : ByteArray} {i : Nat} {w wx wy : World} (h : ItAt s i w wx) (hg : ∃ q os, wy = grow (wx.drewN q) os) : ItAt s i w wy := by
  refine ⟨?_, grow_trans h.2 hg⟩
  obtain ⟨q, os, rfl⟩ := hg
  have hlt : w.heap.size < wx.heap.size := (Array.getElem?_eq_some_iff.1 h.1).1
  exact (heap_grow_old (wx.drewN q) os hlt).trans h.1

set_option maxRecDepth 100000 in
set_option maxHeartbeats 8000000 in
theorem any_short (s chars : ByteArray) (hc : Ascii chars) (h2 : 2 ≤ chars.size) (h8 : s.size ≤ 8) (w : World) :
    Calls Try.prog 38 #[.string s, .string chars] w (Grows (.int .i64 (Lib.indexAny s.data.toList chars.data.toList)) w) := by
  have hemp : chars.toList.isEmpty = false := by
    rw [Lib.toList_data]
    cases h : chars.data.toList with
    | nil => have := Lib.size_eq chars; rw [h, List.length_nil] at this; omega
    | cons _ _ => rfl
  have hn1 : ((chars.size : Int) == 1) = false := beq_eq_false_iff_ne.2 (by omega)
  have h8z : decide ((8 : Int) < (s.size : Int)) = false := decide_eq_false (by omega)
  have HC := Lib.hid hc
  have hmem : ∀ b ∈ chars.data.toList, b.toNat < 128 := by
    intro b hb
    obtain ⟨j, hj, rfl⟩ := List.getElem_of_mem hb
    exact hc j _ (List.getElem?_eq_getElem hj)
  have HM := Lib.hid hmem
  clear hc hmem
  go_enter Try.func38, Try.ntmps38
  go_wp2_with (go_at_call 41; refine (Try.strings_shouldUseASCIISet _ _).mono ?_; rintro e w' ⟨rfl, hw⟩; rw [hw, h8z])
  go_loopg [9, 10] s.size (fun g _ _ wx => ∃ i : Nat, i ≤ s.size ∧ s.size ≤ i + g ∧ ItAt s i w wx ∧ Lib.NoAny s.data.toList chars.data.toList i)
  case atStart => exact ⟨0, by omega, by omega, ItAt.first s w, Lib.NoAny.zero _ _⟩
  case round =>
    obtain ⟨i, hi1, hi2, hit, hno⟩ := hrel
    have HN := Lib.hid hno
    clear hno
    have hkk := hit.1
    have HIT := Lib.hid hit
    clear hit
    by_cases hi : i < s.size
    · cases gk with
      | zero => exfalso; omega
      | succ g =>
        by_cases hx128 : (s[i]'hi).toNat < 128
        · obtain ⟨x, hx⟩ : ∃ x : UInt8, s[i]'hi = x := ⟨_, rfl⟩
          have hxl : s.data.toList[i]? = some x := by rw [← hx]; exact Lib.data_getElem? s i hi
          have hnx := fun ty => Lib.run_next_ascii_at (P := Try.prog) wr w.heap.size s i ty hkk hi hx128
          rw [hx] at hnx hx128
          have HX := Lib.hid hxl
          have HW := Lib.hid (HIT.out.set (i + 1))
          obtain ⟨wy, hwy⟩ : ∃ wy, wr.iterAt w.heap.size s (i + 1) = wy := ⟨_, rfl⟩
          rw [hwy] at HW
          have hcon := Lib.contains_iff_indexByte chars.data.toList x
          have hback : ((x.toNat : Int)).toNat.toUInt8 = x := by simp
          clear hxl hx hkk
          cases hin : chars.data.toList.contains x
          · rw [hin] at hcon
            have hlt : ¬ ((0 : Int) ≤ Lib.indexByte chars.data.toList x) := of_decide_eq_false hcon.symm
            clear hcon
            go_wp2_with (go_at_call 40; refine (Try.strings_IndexRune_ascii _ _ _ (by omega) (by omega)).mono ?_; rintro e w' ⟨rfl, hw⟩; rw [hw, hback])
            go_roundg g
            case measure => omega
            case rel => exact ⟨i + 1, by omega, by omega, by first | exact HW.out | exact HIT.out.set (i + 1), HN.out.succ HX.out hin⟩
          · rw [hin] at hcon
            have hge : (0 : Int) ≤ Lib.indexByte chars.data.toList x := of_decide_eq_true hcon.symm
            clear hcon
            go_wp2_with (go_at_call 40; refine (Try.strings_IndexRune_ascii _ _ _ (by omega) (by omega)).mono ?_; rintro e w' ⟨rfl, hw⟩; rw [hw, hback])
            go_ret
            exact ⟨by rw [Lib.indexAny_hit HN.out HX.out hin]; rfl, by first | exact HW.out.2 | exact (HIT.out.set (i + 1)).2⟩
        · have hx' : 128 ≤ (s[i]'hi).toNat := by omega
          obtain ⟨hr1, hr2⟩ := decode_high s i hi hx'
          have hle := decode_le s i
          have hct := decode_cont s i hi hx'
          have hnx := fun ty => Lib.run_next_any_at (P := Try.prog) wr w.heap.size s i ty hkk hi
          obtain ⟨r, hr⟩ : ∃ r, (Utf8.decode s i).1 = r := ⟨_, rfl⟩
          obtain ⟨d, hd⟩ : ∃ d, (Utf8.decode s i).2 = d := ⟨_, rfl⟩
          rw [hr, hd] at hnx
          rw [hr] at hr1 hle
          rw [hd] at hr2 hct
          have hid : i + d ≤ s.size := by have := (hct (d - 1) (by omega)).1; omega
          have hnn := noany_far HM.out HN.out d (fun j hj => (hct j hj).2)
          have HNN := Lib.hid hnn
          clear hkk hr hd hct hnn
          go_wp2_with fail
          refine (rune_any chars HC.out (r : Int) (by omega) _).mono ?_
          rintro e w' ⟨rfl, hw⟩
          have HW := Lib.hid (ItAt.more (HIT.out.set (i + d)) hw)
          clear hw
          go_wp2
          go_roundg g
          case measure => omega
          case rel => exact ⟨i + d, by omega, by omega, HW.out, HNN.out⟩
    · have hnx := fun ty => Lib.run_next_end_at (P := Try.prog) wr w.heap.size s i ty hkk hi
      obtain rfl : i = s.size := by omega
      go_wp2
      go_ret
      exact ⟨by rw [Lib.indexAny_none (by rw [← Lib.size_eq]; exact HN.out)]; rfl, HIT.out.2⟩

theorem any_any (s chars : ByteArray) (hc : Ascii chars) (h2 : 2 ≤ chars.size) (hcs : chars.size < 4294967281) (hs : s.size < 4294967281) (w : World) :
    Calls Try.prog 38 #[.string s, .string chars] w (Grows (.int .i64 (Lib.indexAny s.data.toList chars.data.toList)) w) := by
  by_cases h8 : s.size ≤ 8
  · exact any_short s chars hc h2 h8 w
  · refine (Try.strings_IndexAny_long (zero_of_info (n := 256) (by kernel_rfl)).1 s chars w h2 (by omega) hs hcs hc).mono ?_
    rintro e w' ⟨rfl, rfl⟩
    exact ⟨rfl, grow_alloc (grow_one w _) _⟩

set_option maxRecDepth 100000 in
theorem contains_any (s chars : ByteArray) (hc : Ascii chars) (h2 : 2 ≤ chars.size) (hcs : chars.size < 4294967281) (hs : s.size < 4294967281) (w : World) :
    Calls Try.prog 36 #[.string s, .string chars] w (Grows (.bool (Lib.containsAny s.data.toList chars.data.toList)) w) := by
  go_enter Try.func36, Try.ntmps36
  go_wp2_with fail
  refine (any_any s chars hc h2 hcs hs _).mono ?_
  rintro e w' ⟨rfl, hw⟩
  go_wp2
  go_ret
  exact ⟨rfl, hw⟩

theorem any_iff (l : List UInt8) : Lib.containsAny l [47, 0] = l.any badC := by
  have hcon : ∀ c : UInt8, ([47, 0] : List UInt8).contains c = badC c := fun c => by rw [List.contains_cons, List.contains_cons, List.contains_nil, Bool.or_false]; rfl
  unfold Lib.containsAny
  induction l with
  | nil => rfl
  | cons c l ih =>
    rw [List.any_cons, ← ih, Lib.indexAny, hcon]
    have hge := Lib.indexAny_ge [47, 0] l
    cases badC c with
    | true => rfl
    | false =>
      rw [Bool.false_or]
      by_cases hm : Lib.indexAny l [47, 0] = -1
      · rw [hm]; simp
      · rw [if_neg (by simp), if_neg (by simpa using hm)]
        exact decide_eq_decide.2 (by omega)
theorem slash_nul : Ascii ⟨#[47, 0]⟩ := by
  intro j b hb
  match j, hb with
  | 0, hb => cases hb; decide
  | 1, hb => cases hb; decide
  | k + 2, hb => simp at hb
theorem contains_bad (s : ByteArray) (hs : s.size ≤ 1000000) (w : World) : Calls Try.prog 36 #[.string s, .string ⟨#[47, 0]⟩] w (Grows (.bool (s.toList.any badC)) w) := by
  have h := contains_any s ⟨#[47, 0]⟩ slash_nul (by decide) (by decide) (by omega) w
  rw [show (⟨#[47, 0]⟩ : ByteArray).data.toList = [47, 0] from rfl, any_iff, ← Lib.toList_data] at h
  exact h
end Go.Proofs.Ytbegnnohmahglaa
