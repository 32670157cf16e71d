import Derived.Test.YtamndllolppmoaaGreatDoorG12
import Derived.Test.YtamndllolppmoaaGreatDoorLib
import Derived.Laws.RangeAny
import Derived.Laws.Runes
import Derived.ScopeJumps
import Derived.WalkMore
import Derived.Lib.OthersKept
import Derived.Lib.SmallJoins
import Derived.Test.YtamndllolppmoaaGreatDoorG09
import Derived.BigQuiet
import Derived.Deep.Cut

namespace Go.Proofs.YtamndllolppmoaaGreatDoor
set_option linter.unusedVariables false

theorem good_name {p : List UInt8} (h : nameN p = 0) : p ≠ [] ∧ (47 : UInt8) ∉ p := by
  unfold nameN at h
  by_cases h1 : p = [] ∨ p = [46] ∨ p = [46, 46]
  · rw [if_pos h1] at h; cases h
  · rw [if_neg h1] at h
    refine ⟨fun e => h1 (.inl e), fun hm => ?_⟩
    unfold plainN at h
    rw [if_pos (List.any_eq_true.2 ⟨47, hm, rfl⟩)] at h
    cases h
theorem cut_end {p : List UInt8} (h : (47 : UInt8) ∉ p) : ∀ acc, cutS p acc = [acc ++ p] := by
  induction p with
  | nil => intro acc; simp [cutS]
  | cons c t ih =>
    intro acc
    have hc : c ≠ 47 := by rintro rfl; exact h (by simp)
    unfold cutS
    rw [if_neg hc, ih (fun hm => h (by simp [hm]))]
    simp
theorem cut_on {p : List UInt8} (h : (47 : UInt8) ∉ p) (r : List UInt8) : ∀ acc, cutS (p ++ 47 :: r) acc = (acc ++ p) :: cutS r [] := by
  induction p with
  | nil => intro acc; simp [cutS]
  | cons c t ih =>
    intro acc
    have hc : c ≠ 47 := by rintro rfl; exact h (by simp)
    show cutS (c :: (t ++ 47 :: r)) acc = _
    conv => lhs; unfold cutS
    rw [if_neg hc, ih (fun hm => h (by simp [hm]))]
    simp
theorem slashed_cons (p : List UInt8) (ls : List (List UInt8)) : slashed (p :: ls) = 47 :: (p ++ slashed ls) := by unfold slashed; simp
theorem pieces_join {ls : List (List UInt8)} (h : ∀ p ∈ ls, nameN p = 0) (hne : ls ≠ []) : pieces ((slashed ls).drop 1) = ls := by
  induction ls with
  | nil => exact absurd rfl hne
  | cons p ls ih =>
    obtain ⟨h1, h2⟩ := good_name (h p (by simp))
    have hpe : p.isEmpty = false := by cases p with | nil => exact absurd rfl h1 | cons a t => rfl
    rw [slashed_cons, List.drop_one, List.tail_cons]
    unfold pieces
    cases hls : ls with
    | nil =>
      rw [show slashed [] = [] from rfl, List.append_nil, cut_end h2, List.nil_append, keep_cons, hpe]
      rfl
    | cons q qs =>
      have ih' := ih (fun r hr => h r (by simp [hr])) (by rw [hls]; simp)
      rw [hls, slashed_cons, List.drop_one, List.tail_cons] at ih'
      rw [slashed_cons, cut_on h2, List.nil_append, keep_cons, hpe]
      show p :: keepS (cutS (q ++ slashed qs) []) = _
      unfold pieces at ih'
      rw [ih']
/-- the path of good names, split again -/
theorem path_join {ls : List (List UInt8)} (h : ∀ p ∈ ls, nameN p = 0) : pathE (joinN ls) = (if 120 < (joinN ls).length then 36 else 0) ∧ pathL (joinN ls) = (if 120 < (joinN ls).length then [] else ls) := by
  have hp : (joinN ls).head? = some 47 ∧ pieces ((joinN ls).drop 1) = ls := by
    unfold joinN
    by_cases hne : ls = []
    · rw [if_pos hne, hne]; exact ⟨rfl, rfl⟩
    · rw [if_neg hne]
      refine ⟨?_, pieces_join h hne⟩
      cases ls with
      | nil => exact absurd rfl hne
      | cons p ls => rw [slashed_cons]; rfl
  have hE : pathE (joinN ls) = if 120 < (joinN ls).length then 36 else 0 := by
    unfold pathE
    rw [if_pos hp.1, hp.2, errOf_zero h]
  refine ⟨hE, ?_⟩
  unfold pathL
  rw [hE, hp.2]
  by_cases h120 : 120 < (joinN ls).length
  · rw [if_pos h120, if_pos h120, if_neg (by decide)]
  · rw [if_neg h120, if_neg h120, if_pos rfl]
end Go.Proofs.YtamndllolppmoaaGreatDoor

/-
  strings.IndexRune AT A RUNE THAT IS NOT ASCII, IN A TEXT THAT IS ASCII: it is not there.
-/
namespace Go.Proofs.YtamndllolppmoaaGreatDoor
open Wd Go.ChangeShapes Go.WideShapes Go.RowKit Go.Sort
set_option linter.unusedVariables false

def Ascii (s : ByteArray) : Prop := ∀ (j : Nat) b, s.data.toList[j]? = some b → b.toNat < 128

set_option maxRecDepth 100000 in
set_option maxHeartbeats 4000000 in
/-- the rune that stands for none: chars is gone through -/
theorem rune_err (s : ByteArray) (hs : Ascii s) (w : World) : Calls Tryz.prog 150 #[.string s, .int .i32 65533] w (Grows (.int .i64 (-1)) w) := by
  have HS := Lib.hid hs
  clear hs
  go_enter Tryz.func150, Tryz.ntmps150
  go_wp2_with fail
  go_loopg [5, 6] s.size (fun g _ _ wx => ∃ i : Nat, i + g = s.size ∧ wx = w.iter s i)
  case atStart => exact ⟨0, by omega, rfl⟩
  case round =>
    obtain ⟨i, hig, rfl⟩ := hrel
    cases gk with
    | zero =>
      obtain rfl : i = s.size := by omega
      have hnx := fun ty => run_next_end (P := Tryz.prog) w s s.size ty (by omega)
      go_wp2
      go_ret
      exact ⟨rfl, grow_one w _⟩
    | succ g =>
      have hi : i < s.size := by omega
      obtain ⟨x, hx⟩ : ∃ x : UInt8, s[i]'hi = x := ⟨_, rfl⟩
      have hxl : s.data.toList[i]? = some x := by rw [← hx]; exact Lib.data_getElem? s i hi
      have hx128 : x.toNat < 128 := HS.out i x hxl
      have hnx := fun ty => run_next_ascii (P := Tryz.prog) w s i ty hi (by rw [hx]; exact hx128)
      rw [hx] at hnx
      have hne : ((x.toNat : Int) == 65533) = false := beq_eq_false_iff_ne.2 (by omega)
      clear hxl hx
      go_wp2
      go_roundg g
      case measure => omega
      case rel => exact ⟨i + 1, by omega, rfl⟩

set_option maxRecDepth 100000 in
set_option maxHeartbeats 4000000 in
/-- a rune that is none -/
theorem rune_bad (s : ByteArray) (r : Int) (h128 : 128 ≤ r) (hne : r ≠ 65533) (hv : Lib.validRune r = false) (w : World) : Calls Tryz.prog 150 #[.string s, .int .i32 r] w (Grows (.int .i64 (-1)) w) := by
  have h1 : ¬ r < 128 := by omega
  have h2 : (r == 65533) = false := beq_eq_false_iff_ne.2 hne
  have HV := Lib.hid hv
  clear hv
  go_enter Tryz.func150, Tryz.ntmps150
  go_wp2_with fail
  refine (Tryz.utf8_ValidRune _ _).mono ?_
  rintro e w1 ⟨rfl, rfl⟩
  rw [HV.out]
  go_wp2
  go_ret
  exact ⟨rfl, grow_none _⟩

/-- a byte that is not ASCII is none of an ASCII text's -/
theorem index_none (l : List UInt8) (c : UInt8) (h : ∀ b ∈ l, b ≠ c) : Lib.indexByte l c = -1 := by
  induction l with
  | nil => rfl
  | cons b l ih =>
    have hb : (b == c) = false := beq_eq_false_iff_ne.2 (h b (by simp))
    rw [Lib.indexByte, ih (fun x hx => h x (by simp [hx])), hb]
    rfl
theorem index_far (s : ByteArray) (hs : Ascii s) (f t : Nat) (y : UInt8) (hy : 128 ≤ y.toNat) (w : World) : Calls Tryz.prog 169 #[.string (s.extract f t), .int .u8 y.toNat] w fun e w' => e = .returned (.int .i64 (-1)) ∧ w = w' := by
  refine (Tryz.strings_IndexByte _ _ _).mono ?_
  rintro e w1 ⟨rfl, rfl⟩
  refine ⟨?_, rfl⟩
  rw [index_none]
  intro b hb e
  have h1 : b ∈ s.data.toList := mem_extract hb
  obtain ⟨j, hj, hjb⟩ := List.getElem_of_mem h1
  have h2 := hs j b (by rw [List.getElem?_eq_getElem hj, hjb])
  have e2 : ((y.toNat : Int)).toNat.toUInt8 = y := by simp
  rw [e2] at e
  rw [e] at h2
  omega

set_option maxRecDepth 100000 in
set_option maxHeartbeats 4000000 in
/-- any other rune: its last byte is none of s -/
theorem rune_far (s : ByteArray) (hs : Ascii s) (r : Int) (h128 : 128 ≤ r) (hne : r ≠ 65533) (hv : Lib.validRune r = true) (w : World) : Calls Tryz.prog 150 #[.string s, .int .i32 r] w (Grows (.int .i64 (-1)) w) := by
  have h1 : ¬ r < 128 := by omega
  have h2 : (r == 65533) = false := beq_eq_false_iff_ne.2 hne
  obtain ⟨e1, e2, e3⟩ := encode_facts r (by rw [validRune_eq]; exact hv) h128
  obtain ⟨rs, hrs⟩ : ∃ rs, Utf8.encode r = rs := ⟨_, rfl⟩
  rw [hrs] at e1 e2 e3
  obtain ⟨m, hm⟩ : ∃ m : Nat, rs.size = m + 1 := ⟨rs.size - 1, by omega⟩
  have HV := Lib.hid hv; have HS := Lib.hid hs
  clear hv hs
  go_enter Tryz.func150, Tryz.ntmps150
  go_wp2_with fail
  refine (Tryz.utf8_ValidRune _ _).mono ?_
  rintro e w1 ⟨rfl, rfl⟩
  rw [HV.out]
  go_wp2
  go_step3
  go_wp2
  have em : ∀ h : m < rs.size, 128 ≤ (rs[m]'h).toNat := fun h => by
    have := e3 (by omega)
    simpa [hm] using this
  have EM := Lib.hid em
  clear e3 em
  go_loopw [9, 10] (fun s9 _ wx => s9 = .int .i64 m ∧ wx = w1) (fun _ _ _ => 0)
  case atStart => exact ⟨rfl, rfl⟩
  case round =>
    obtain ⟨rfl, rfl⟩ := hrel
    by_cases hlt : m < s.size
    · obtain ⟨x, hx⟩ : ∃ x : UInt8, s[m]'hlt = x := ⟨_, rfl⟩
      obtain ⟨y, hy⟩ : ∃ y : UInt8, rs[m]'(by omega) = y := ⟨_, rfl⟩
      have hx1 : x.toNat < 128 := HS.out m x (by rw [← hx]; exact Lib.data_getElem? s m hlt)
      have hy1 : 128 ≤ y.toNat := by rw [← hy]; exact EM.out _
      have hxy : ((x.toNat : Int) != (y.toNat : Int)) = true := by rw [bne_iff_ne]; omega
      go_wp2
      go_step3
      go_wp2
      go_quiet (skip)
      go_wp2
      go_quiet ((go_at_call 169; exact quiet_eq2 (index_far s HS.out (m + 1) s.size y hy1 _)))
      go_wp2
      go_ret
      exact ⟨rfl, grow_drewN (grow_none _) _⟩
    · go_wp2
      go_ret
      exact ⟨rfl, grow_none _⟩
end Go.Proofs.YtamndllolppmoaaGreatDoor

/-
  strings.ContainsAny OF WHATEVER TEXT, FOR SOME ASCII BYTES: whether one of its bytes is among them.
-/
namespace Go.Proofs.YtamndllolppmoaaGreatDoor
open Wd Go.ChangeShapes Go.WideShapes Go.RowKit Go.Sort
set_option linter.unusedVariables false

/-- a rune above 127 is none of an ASCII text's -/
theorem rune_any (s : ByteArray) (hs : Ascii s) (r : Int) (h128 : 128 ≤ r) (w : World) : Calls Tryz.prog 150 #[.string s, .int .i32 r] w (Grows (.int .i64 (-1)) w) := by
  by_cases hne : r = 65533
  · subst hne; exact rune_err s hs w
  · cases hv : Lib.validRune r with
    | false => exact rune_bad s r h128 hne hv w
    | true => exact rune_far s hs r h128 hne hv w

/-- all bytes of a rune that is not ASCII are not -/
theorem decode_cont (s : ByteArray) (pos : Nat) (h : pos < s.size) (ha : 128 ≤ (s[pos]'h).toNat) (j : Nat) : j < (Utf8.decode s pos).2 → pos + j < s.size ∧ 128 ≤ (s.get! (pos + j)).toNat := by
  have hn : ¬ (s[pos]'h).toNat < 128 := by omega
  have h0 : 128 ≤ (s.get! (pos + 0)).toNat := by rw [get_at s pos h]; exact ha
  simp only [Utf8.decode, get_at s pos h, hn, if_false]
  repeat' split
  all_goals
    intro hj
    have hj' : j = 0 ∨ j = 1 ∨ j = 2 ∨ j = 3 := by simp at hj; omega
    rcases hj' with rfl | rfl | rfl | rfl <;> simp_all <;> omega

theorem noany_far {s : ByteArray} {cs : List UInt8} {i : Nat} (hc : ∀ b ∈ cs, b.toNat < 128) (h : Lib.NoAny s.data.toList cs i) (d : Nat) (hd : ∀ j, j < d → 128 ≤ (s.get! (i + j)).toNat) : Lib.NoAny s.data.toList cs (i + d) := by
  intro j b hj hb
  by_cases hji : j < i
  · exact h j b hji hb
  · have h1 := hd (j - i) (by omega)
    rw [show i + (j - i) = j by omega] at h1
    have hjs : j < s.size := by have := (List.getElem?_eq_some_iff.1 hb).1; rw [Lib.size_eq]; exact this
    have h2 : s.get! j = b := by
      have h3 := Lib.data_getElem? s j hjs
      rw [hb] at h3
      have h4 := Option.some.inj h3
      rw [h4]
      have := get_at s j hjs
      simpa using this
    rw [h2] at h1
    rw [Bool.eq_false_iff, Ne, List.contains_iff_mem]
    intro hm
    have := hc b hm
    omega

/-- the iterator stands in the first block that was made -/
def ItAt (s : ByteArray) (i : Nat) (w wx : World) : Prop := wx.heap[w.heap.size]? = some (.stringIter s i) ∧ ∃ q os, wx = grow (w.drewN q) os
theorem ItAt.first (s : ByteArray) (w : World) : ItAt s 0 w (w.iter s 0) := ⟨w.iter_heap s 0, grow_one w _⟩
theorem ItAt.set {s : ByteArray} {i : Nat} {w wx : World} (h : ItAt s i w wx) (i' : Nat) : ItAt s i' w (wx.iterAt w.heap.size s i') := by
  refine ⟨Lib.iterAt_heap wx _ s i i' h.1, ?_⟩
  obtain ⟨q, os, rfl⟩ := h.2
  refine ⟨q, os.setIfInBounds 0 (.stringIter s i'), ?_⟩
  unfold World.iterAt grow
  congr 1
  apply Array.ext_getElem?
  intro k
  show ((w.heap ++ os).setIfInBounds w.heap.size _)[k]? = (w.heap ++ os.setIfInBounds 0 _)[k]?
  rw [Array.getElem?_setIfInBounds, Array.getElem?_append, Array.getElem?_append, Array.getElem?_setIfInBounds]
  by_cases hk : k < w.heap.size
  · rw [if_pos hk, if_pos hk, if_neg (by omega)]
  · rw [if_neg hk, if_neg hk]
    by_cases hk2 : w.heap.size = k
    · subst hk2; simp
    · rw [if_neg hk2, if_neg (by omega)]
theorem ItAt.more {s : ByteArray} {i : Nat} {w wx wy : World} (h : ItAt s i w wx) (hg : ∃ q os, wy = grow (wx.drewN q) os) : ItAt s i w wy := by
  refine ⟨?_, grow_trans h.2 hg⟩
  obtain ⟨q, os, rfl⟩ := hg
  have hlt : w.heap.size < wx.heap.size := (Array.getElem?_eq_some_iff.1 h.1).1
  exact (heap_grow_old (wx.drewN q) os hlt).trans h.1

set_option maxRecDepth 100000 in
set_option maxHeartbeats 8000000 in
theorem any_short (s chars : ByteArray) (hc : Ascii chars) (h2 : 2 ≤ chars.size) (h8 : s.size ≤ 8) (w : World) :
    Calls Tryz.prog 129 #[.string s, .string chars] w (Grows (.int .i64 (Lib.indexAny s.data.toList chars.data.toList)) w) := by
  have hemp : chars.toList.isEmpty = false := by
    rw [Lib.toList_data]
    cases h : chars.data.toList with
    | nil => have := Lib.size_eq chars; rw [h, List.length_nil] at this; omega
    | cons _ _ => rfl
  have hn1 : ((chars.size : Int) == 1) = false := beq_eq_false_iff_ne.2 (by omega)
  have h8z : decide ((8 : Int) < (s.size : Int)) = false := decide_eq_false (by omega)
  have HC := Lib.hid hc
  have hmem : ∀ b ∈ chars.data.toList, b.toNat < 128 := by
    intro b hb
    obtain ⟨j, hj, rfl⟩ := List.getElem_of_mem hb
    exact hc j _ (List.getElem?_eq_getElem hj)
  have HM := Lib.hid hmem
  clear hc hmem
  go_enter Tryz.func129, Tryz.ntmps129
  go_wp2_with (go_at_call 151; refine (Tryz.strings_shouldUseASCIISet _ _).mono ?_; rintro e w' ⟨rfl, hw⟩; rw [hw, h8z])
  go_loopg [9, 10] s.size (fun g _ _ wx => ∃ i : Nat, i ≤ s.size ∧ s.size ≤ i + g ∧ ItAt s i w wx ∧ Lib.NoAny s.data.toList chars.data.toList i)
  case atStart => exact ⟨0, by omega, by omega, ItAt.first s w, Lib.NoAny.zero _ _⟩
  case round =>
    obtain ⟨i, hi1, hi2, hit, hno⟩ := hrel
    have HN := Lib.hid hno
    clear hno
    have hkk := hit.1
    have HIT := Lib.hid hit
    clear hit
    by_cases hi : i < s.size
    · cases gk with
      | zero => exfalso; omega
      | succ g =>
        by_cases hx128 : (s[i]'hi).toNat < 128
        · obtain ⟨x, hx⟩ : ∃ x : UInt8, s[i]'hi = x := ⟨_, rfl⟩
          have hxl : s.data.toList[i]? = some x := by rw [← hx]; exact Lib.data_getElem? s i hi
          have hnx := fun ty => Lib.run_next_ascii_at (P := Tryz.prog) wr w.heap.size s i ty hkk hi hx128
          rw [hx] at hnx hx128
          have HX := Lib.hid hxl
          have HW := Lib.hid (HIT.out.set (i + 1))
          obtain ⟨wy, hwy⟩ : ∃ wy, wr.iterAt w.heap.size s (i + 1) = wy := ⟨_, rfl⟩
          rw [hwy] at HW
          have hcon := Lib.contains_iff_indexByte chars.data.toList x
          have hback : ((x.toNat : Int)).toNat.toUInt8 = x := by simp
          clear hxl hx hkk
          cases hin : chars.data.toList.contains x
          · rw [hin] at hcon
            have hlt : ¬ ((0 : Int) ≤ Lib.indexByte chars.data.toList x) := of_decide_eq_false hcon.symm
            clear hcon
            go_wp2_with (go_at_call 150; refine (Tryz.strings_IndexRune_ascii _ _ _ (by omega) (by omega)).mono ?_; rintro e w' ⟨rfl, hw⟩; rw [hw, hback])
            go_roundg g
            case measure => omega
            case rel => exact ⟨i + 1, by omega, by omega, by first | exact HW.out | exact HIT.out.set (i + 1), HN.out.succ HX.out hin⟩
          · rw [hin] at hcon
            have hge : (0 : Int) ≤ Lib.indexByte chars.data.toList x := of_decide_eq_true hcon.symm
            clear hcon
            go_wp2_with (go_at_call 150; refine (Tryz.strings_IndexRune_ascii _ _ _ (by omega) (by omega)).mono ?_; rintro e w' ⟨rfl, hw⟩; rw [hw, hback])
            go_ret
            exact ⟨by rw [Lib.indexAny_hit HN.out HX.out hin]; rfl, by first | exact HW.out.2 | exact (HIT.out.set (i + 1)).2⟩
        · have hx' : 128 ≤ (s[i]'hi).toNat := by omega
          obtain ⟨hr1, hr2⟩ := decode_high s i hi hx'
          have hle := decode_le s i
          have hct := decode_cont s i hi hx'
          have hnx := fun ty => Lib.run_next_any_at (P := Tryz.prog) wr w.heap.size s i ty hkk hi
          obtain ⟨r, hr⟩ : ∃ r, (Utf8.decode s i).1 = r := ⟨_, rfl⟩
          obtain ⟨d, hd⟩ : ∃ d, (Utf8.decode s i).2 = d := ⟨_, rfl⟩
          rw [hr, hd] at hnx
          rw [hr] at hr1 hle
          rw [hd] at hr2 hct
          have hid : i + d ≤ s.size := by have := (hct (d - 1) (by omega)).1; omega
          have hnn := noany_far HM.out HN.out d (fun j hj => (hct j hj).2)
          have HNN := Lib.hid hnn
          clear hkk hr hd hct hnn
          go_wp2_with fail
          refine (rune_any chars HC.out (r : Int) (by omega) _).mono ?_
          rintro e w' ⟨rfl, hw⟩
          have HW := Lib.hid (ItAt.more (HIT.out.set (i + d)) hw)
          clear hw
          go_wp2
          go_roundg g
          case measure => omega
          case rel => exact ⟨i + d, by omega, by omega, HW.out, HNN.out⟩
    · have hnx := fun ty => Lib.run_next_end_at (P := Tryz.prog) wr w.heap.size s i ty hkk hi
      obtain rfl : i = s.size := by omega
      go_wp2
      go_ret
      exact ⟨by rw [Lib.indexAny_none (by rw [← Lib.size_eq]; exact HN.out)]; rfl, HIT.out.2⟩

theorem any_any (s chars : ByteArray) (hc : Ascii chars) (h2 : 2 ≤ chars.size) (hcs : chars.size < 4294967281) (hs : s.size < 4294967281) (w : World) :
    Calls Tryz.prog 129 #[.string s, .string chars] w (Grows (.int .i64 (Lib.indexAny s.data.toList chars.data.toList)) w) := by
  by_cases h8 : s.size ≤ 8
  · exact any_short s chars hc h2 h8 w
  · refine (Tryz.strings_IndexAny_long (zero_of_info (n := 256) (by kernel_rfl)).1 s chars w h2 (by omega) hs hcs hc).mono ?_
    rintro e w' ⟨rfl, rfl⟩
    exact ⟨rfl, grow_alloc (grow_one w _) _⟩

set_option maxRecDepth 100000 in
theorem contains_any (s chars : ByteArray) (hc : Ascii chars) (h2 : 2 ≤ chars.size) (hcs : chars.size < 4294967281) (hs : s.size < 4294967281) (w : World) :
    Calls Tryz.prog 101 #[.string s, .string chars] w (Grows (.bool (Lib.containsAny s.data.toList chars.data.toList)) w) := by
  go_enter Tryz.func101, Tryz.ntmps101
  go_wp2_with fail
  refine (any_any s chars hc h2 hcs hs _).mono ?_
  rintro e w' ⟨rfl, hw⟩
  go_wp2
  go_ret
  exact ⟨rfl, hw⟩

theorem any_iff (l : List UInt8) : Lib.containsAny l [47, 0] = l.any badC := by
  have hcon : ∀ c : UInt8, ([47, 0] : List UInt8).contains c = badC c := fun c => by rw [List.contains_cons, List.contains_cons, List.contains_nil, Bool.or_false]; rfl
  unfold Lib.containsAny
  induction l with
  | nil => rfl
  | cons c l ih =>
    rw [List.any_cons, ← ih, Lib.indexAny, hcon]
    have hge := Lib.indexAny_ge [47, 0] l
    cases badC c with
    | true => rfl
    | false =>
      rw [Bool.false_or]
      by_cases hm : Lib.indexAny l [47, 0] = -1
      · rw [hm]; simp
      · rw [if_neg (by simp), if_neg (by simpa using hm)]
        exact decide_eq_decide.2 (by omega)
theorem slash_nul : Ascii ⟨#[47, 0]⟩ := by
  intro j b hb
  match j, hb with
  | 0, hb => cases hb; decide
  | 1, hb => cases hb; decide
  | k + 2, hb => simp at hb
theorem contains_bad (s : ByteArray) (hs : s.size ≤ 1000000) (w : World) : Calls Tryz.prog 101 #[.string s, .string ⟨#[47, 0]⟩] w (Grows (.bool (s.toList.any badC)) w) := by
  have h := contains_any s ⟨#[47, 0]⟩ slash_nul (by decide) (by decide) (by omega) w
  rw [show (⟨#[47, 0]⟩ : ByteArray).data.toList = [47, 0] from rfl, any_iff, ← Lib.toList_data] at h
  exact h
end Go.Proofs.YtamndllolppmoaaGreatDoor

/-
  The project's own Check of a name, and strings.Clone.
-/
namespace Go.Proofs.YtamndllolppmoaaGreatDoor
open Wd Go.ChangeShapes Go.WideShapes Go.RowKit Go.Sort
set_option linter.unusedVariables false

set_option maxHeartbeats 1000000 in
theorem check_odd (s : ByteArray) (w : World) (h : s.toList = [] ∨ s.toList = [46] ∨ s.toList = [46, 46]) : Calls Tryz.prog 62 #[.string s] w (Grows (.int .i64 22) w) := by
  rcases h with h | h | h
  · have h1 : s.toList.isEmpty = true := by rw [h]; rfl
    go_enter Tryz.func62, Tryz.ntmps62
    go_wp2_with fail
    go_ret
    exact ⟨rfl, grow_none _⟩
  · have h1 : s.toList.isEmpty = false := by rw [h]; rfl
    have h2 : (s.toList == [46]) = true := by rw [h]; rfl
    clear h
    go_enter Tryz.func62, Tryz.ntmps62
    go_wp2_with fail
    go_ret
    exact ⟨rfl, grow_none _⟩
  · have h1 : s.toList.isEmpty = false := by rw [h]; rfl
    have h2 : (s.toList == [46]) = false := by rw [h]; rfl
    have h3 : (s.toList == [46, 46]) = true := by rw [h]; rfl
    clear h
    go_enter Tryz.func62, Tryz.ntmps62
    go_wp2_with fail
    go_ret
    exact ⟨rfl, grow_none _⟩

set_option maxHeartbeats 1000000 in
theorem check_plain (s : ByteArray) (hs : s.size ≤ 1000) (h1 : s.toList.isEmpty = false) (h2 : (s.toList == [46]) = false) (h3 : (s.toList == [46, 46]) = false) (w : World) : Calls Tryz.prog 62 #[.string s] w (Grows (.int .i64 (plainN s.toList)) w) := by
  have hp : plainN s.toList = if s.toList.any badC then 22 else if 24 < s.size then 36 else 0 := by unfold plainN; rw [size_list]
  obtain ⟨b, hb⟩ : ∃ b, s.toList.any badC = b := ⟨_, rfl⟩
  rw [hb] at hp
  have HP := Lib.hid hp; have HB := Lib.hid hb
  clear hp hb
  go_enter Tryz.func62, Tryz.ntmps62
  go_wp2_with fail
  refine (contains_bad s (by omega) _).mono ?_
  rintro e w1 ⟨rfl, hw⟩
  rw [HB.out]
  cases b with
  | true =>
    go_wp2
    go_ret
    exact ⟨by rw [HP.out]; rfl, hw⟩
  | false =>
    by_cases h24 : 24 < s.size
    · have hd : decide ((24 : Int) < (s.size : Int)) = true := decide_eq_true (by omega)
      go_wp2
      go_ret
      exact ⟨by rw [HP.out, if_neg (by simp), if_pos h24]; rfl, hw⟩
    · have hd : decide ((24 : Int) < (s.size : Int)) = false := decide_eq_false (by omega)
      go_wp2
      go_ret
      exact ⟨by rw [HP.out, if_neg (by simp), if_neg h24]; rfl, hw⟩

theorem nCheck (s : ByteArray) (hs : s.size ≤ 1000) (w : World) : Calls Tryz.prog 62 #[.string s] w (Grows (.int .i64 (nameN s.toList)) w) := by
  by_cases h : s.toList = [] ∨ s.toList = [46] ∨ s.toList = [46, 46]
  · have := check_odd s w h
    rwa [show nameN s.toList = 22 by unfold nameN; rw [if_pos h]]
  · have e : nameN s.toList = plainN s.toList := by unfold nameN; rw [if_neg h]
    rw [e]
    refine check_plain s hs ?_ ?_ ?_ w
    · cases hl : s.toList with
      | nil => exact absurd (.inl hl) h
      | cons a t => rfl
    · rw [beq_eq_false_iff_ne]; exact fun h' => h (.inr (.inl h'))
    · rw [beq_eq_false_iff_ne]; exact fun h' => h (.inr (.inr h'))

theorem nClone (s : ByteArray) (hs : s.size ≤ 1000000) (w : World) : Calls Tryz.prog 63 #[.string s] w fun e w' => e = .returned (.string s) ∧ Below w.heap.size w w' := by
  go_enter Tryz.func63, Tryz.ntmps63
  go_wp2_with fail
  refine (Tryz.stringslite_Clone s _ (by omega)).mono ?_
  rintro e w1 ⟨rfl, hw⟩
  go_wp2
  go_ret
  exact ⟨rfl, hw⟩
end Go.Proofs.YtamndllolppmoaaGreatDoor

namespace Go.Proofs.YtamndllolppmoaaGreatDoor
open Wd Ino Go.RowKit Go.ChangeShapes Go.WideShapes Go.Sort
set_option linter.unusedVariables false
set_option maxRecDepth 100000

/-! whether a row of names is as it may be -/
def inoB (n : Int) : Bool := decide (1 ≤ n) && decide (n ≤ 1048576)
set_option maxHeartbeats 1000000 in
theorem rNumberD (n : Int) (w : World) : Calls Tryz.prog 92 #[.int .i64 n] w (Grows (.bool (inoB n)) w) := by
  unfold inoB
  by_cases h1 : 1 ≤ n
  · rw [decide_eq_true h1, Bool.true_and]
    by_cases h2 : n ≤ 1048576
    · rw [decide_eq_true h2]
      go_enter Tryz.func92, Tryz.ntmps92
      go_wp2
      go_ret
      exact ⟨rfl, grow_none _⟩
    · rw [decide_eq_false h2]
      go_enter Tryz.func92, Tryz.ntmps92
      go_wp2
      go_ret
      exact ⟨rfl, grow_none _⟩
  · rw [decide_eq_false h1, Bool.false_and]
    go_enter Tryz.func92, Tryz.ntmps92
    go_wp2
    go_ret
    exact ⟨rfl, grow_none _⟩
theorem rName (s : ByteArray) (hs : s.size ≤ 1000) (w : World) : Calls Tryz.prog 65 #[.string s] w (Grows (.int .i64 (nameN s.toList)) w) := by
  refine (refName_any s hs w).mono ?_
  rintro e w' ⟨rfl, rfl⟩
  exact ⟨rfl, grow_none _⟩
theorem okE_is (e : Ent) : okE e = (decide (nameN e.s.toList = 0) && inoB e.n) := rfl
def RtRel (l : List Ent) (w : World) (i : Value) (wr : World) : Prop := ∃ k : Nat, k ≤ l.length ∧ i = .int .i64 k ∧ RightN (l.take k) ∧ ∃ q os, wr = grow (w.drewN q) os
theorem rt_next0 {l : List Ent} {e : Ent} (he : l[0]? = some e) (ho : okE e = true) : RightN (l.take (0 + 1)) :=
  RightN.step (by rw [List.take_zero]; exact RightN.nil) he ho (fun d h => absurd h (by omega))
theorem rt_next {l : List Ent} {m : Nat} {d e : Ent} (h : RightN (l.take (m + 1))) (hd : l[m]? = some d) (he : l[m + 1]? = some e) (ho : okE e = true) (hl : lessN d.s e.s = true) : RightN (l.take (m + 1 + 1)) :=
  h.step he ho fun x _ hx => by
    rw [Nat.add_sub_cancel, hd] at hx
    cases hx
    exact hl

set_option maxHeartbeats 8000000 in
theorem dRight {w : World} {hi : Nat} {A : Option Addr} {c : Nat} {l : List Ent} (h : Ens w hi A l) (hh : hi ≤ w.heap.size) (hm : l.length ≤ 1000) (hs : ∀ e ∈ l, e.s.size ≤ 1000) : Calls Tryz.prog 82 #[.slice A l.length c] w (Grows (.bool (decide (RightN l))) w) := by
  have H := Lib.hid h; have HS := Lib.hid hs
  have hfol : Tryz.prog.follows .mixedOrders = true := by kernel_rfl
  clear h hs
  go_enter Tryz.func82, Tryz.ntmps82
  go_wp2
  go_loopw [7] (fun i wr => RtRel l w i wr) (fun i _ => l.length - (intOf i).toNat)
  case atStart => exact ⟨0, Nat.zero_le _, rfl, by rw [List.take_zero]; exact RightN.nil, grow_none _⟩
  case round =>
    obtain ⟨k, hk, rfl, hrt, hgr⟩ := hrel
    have HR := Lib.hid hrt
    have HB := Lib.hid (grown_self hgr)
    by_cases hlt : k < l.length
    · obtain ⟨e, he⟩ : ∃ e, l[k]? = some e := ⟨_, List.getElem?_eq_getElem hlt⟩
      have HG := Lib.hid (grow_alloc hgr (.cells #[.string e.s, .int .i64 e.n] 97))
      obtain ⟨b, off, rfl, hbB, x0, x1⟩ := ens_cells (H.out.below (HB.out.mono hh)) he
      have hlt2 : (k : Int) < (l.length : Int) := Int.ofNat_lt.2 hlt
      have hse := HS.out e (List.mem_of_getElem? he)
      have HE := Lib.hid he
      have HOK := Lib.hid (okE_is e)
      obtain ⟨N, hN⟩ : ∃ N, nameN e.s.toList = N := ⟨_, rfl⟩
      obtain ⟨B, hB⟩ : ∃ B, inoB e.n = B := ⟨_, rfl⟩
      have KN := Lib.hid (fun w => nCheck e.s hse w)
      rw [hN] at KN HOK
      have HC1 := Lib.hid (Cells.new wr 97 (ecells e))
      have HH := Lib.hid ((H.out.below (HB.out.mono hh)).below (((Below.refl wr.heap.size wr).alloc (Nat.le_refl _) (.cells #[.string e.s, .int .i64 e.n] 97)).mono (Nat.le_trans hh HB.out.size)))
      have HBS := Lib.hid (show hi ≤ (wr.alloc (.cells #[.string e.s, .int .i64 e.n] 97)).heap.size by have := HB.out.size; simp; omega)
      clear hgr hrt hN he hse
      go_wp2_with fail
      refine (KN.out _).mono ?_
      rintro e1 w2 ⟨rfl, hw2⟩
      have HG2 := Lib.hid (grow_trans HG.out hw2)
      have hb2 := grown_self hw2
      have hc2 := HC1.out.below' hb2
      have HH2 := Lib.hid (HH.out.below (hb2.mono HBS.out))
      have HBS2 := Lib.hid (Nat.le_trans HBS.out hb2.size)
      have hl1 := hc2.lt
      obtain ⟨c0, c1⟩ := ecells2 hc2
      have g0 := cell_grown (a := ⟨wr.heap.size, 0, none⟩) hl1 c0
      clear hw2 hb2 hc2 x0 x1 hB
      by_cases q1 : N = 0
      · subst q1
        have p1 : ((0 : Int) != 0) = false := rfl
        rw [show decide ((0 : Int) = 0) = true from rfl, Bool.true_and] at HOK
        by_cases q2 : e.n < 1
        · have HNO := Lib.hid (show decide (RightN l) = false from decide_eq_false (RightN.not_ok HE.out (by rw [HOK.out]; unfold inoB; rw [decide_eq_false (by omega), Bool.false_and])))
          have p2 : decide (e.n < 1) = true := decide_eq_true q2
          clear q2 g0
          go_wp2
          go_ret
          exact ⟨by rw [HNO.out]; rfl, HG2.out⟩
        · by_cases q3 : 1048576 < e.n
          · have HNO := Lib.hid (show decide (RightN l) = false from decide_eq_false (RightN.not_ok HE.out (by rw [HOK.out]; unfold inoB; rw [decide_eq_false (show ¬ e.n ≤ 1048576 by omega), Bool.and_false])))
            have p2 : decide (e.n < 1) = false := decide_eq_false q2
            have p3 : decide (1048576 < e.n) = true := decide_eq_true q3
            clear q2 q3 g0
            go_wp2
            go_ret
            exact ⟨by rw [HNO.out]; rfl, HG2.out⟩
          · have HOK2 := Lib.hid (show okE e = true by rw [HOK.out]; unfold inoB; rw [decide_eq_true (show 1 ≤ e.n by omega), decide_eq_true (show e.n ≤ 1048576 by omega)]; rfl)
            have p2 : decide (e.n < 1) = false := decide_eq_false q2
            have p3 : decide (1048576 < e.n) = false := decide_eq_false q3
            clear q2 q3 HOK
            by_cases hz : k = 0
            · have HN := Lib.hid (show RightN (l.take (k + 1)) by subst hz; exact rt_next0 HE.out HOK2.out)
              have p4 : decide (0 < k) = false := decide_eq_false (by omega)
              clear hz
              go_upto_region 6 with fail
              refine wp_region_quiet_grown hfol (by kernel_rfl) ?_
              repeat (go_big_quiet_step (first
                | (go_at_call 103; (with_reducible exact Grows.in KL.out _ _ _))))
              refine wpQuiet_nil ?_
              intro _ hw'
              obtain ⟨⟨nr, osr⟩, hw''⟩ := hw'
              subst hw''
              go_wp2
              go_roundw
              case rel => exact ⟨k + 1, by omega, by go_num, HN.out, grow_trans HG2.out ⟨nr, osr, rfl⟩⟩
              case measure => simp [intOf]; omega
            · obtain ⟨m, hK⟩ : ∃ m, m + 1 = k := ⟨k - 1, by omega⟩
              obtain ⟨d, hd⟩ : ∃ d, l[m]? = some d := ⟨_, List.getElem?_eq_getElem (by omega)⟩
              obtain ⟨b', off', hbo, hbB', a0, a1⟩ := ens_cells HH2.out hd
              cases hbo
              have hl2 : b < w2.heap.size := Nat.lt_of_lt_of_le hbB' HBS2.out
              have d0 := cell_grown (a := ⟨b, off + m * 2, none⟩) hl2 a0
              have KL := Lib.hid (fun w => nLessD d.s e.s w)
              have HD := Lib.hid hd
              have HK := Lib.hid hK
              have p4 : decide (0 < k) = true := decide_eq_true (by omega)
              have i0 : IntKind.i64.wrap ((k : Int) - 1) = (m : Int) := by rw [IntKind.wrap_i64]; omega
              have i1 : (0 : Int) ≤ (m : Int) := by omega
              have i2 : (m : Int) < (l.length : Int) := by omega
              clear hd hl2 a0 a1 hbB' hK hz
              obtain ⟨L, hq⟩ : ∃ L, lessN d.s e.s = L := ⟨_, rfl⟩
              rw [hq] at KL
              cases L with
              | true =>
                have HN := Lib.hid (show RightN (l.take (k + 1)) by
                  have h1 := HK.out; subst h1
                  exact rt_next HR.out HD.out HE.out HOK2.out hq)
                clear hq
                go_upto_region 6 with fail
                refine wp_region_quiet_grown hfol (by kernel_rfl) ?_
                repeat (go_big_quiet_step (first
                  | (go_at_call 103; (with_reducible exact Grows.in KL.out _ _ _))))
                refine wpQuiet_nil ?_
                intro _ hw'
                obtain ⟨⟨nr, osr⟩, hw''⟩ := hw'
                subst hw''
                go_wp2
                go_roundw
                case rel => exact ⟨k + 1, by omega, by go_num, HN.out, grow_trans HG2.out ⟨nr, osr, rfl⟩⟩
                case measure => simp [intOf]; omega
              | false =>
                have HNO := Lib.hid (show decide (RightN l) = false from decide_eq_false (by have h1 := HK.out; subst h1; exact RightN.not_less HD.out HE.out hq))
                clear hq
                go_upto_region 6 with fail
                refine wp_region_quiet_grown hfol (by kernel_rfl) ?_
                repeat (go_big_quiet_step (first
                  | (go_at_call 103; (with_reducible exact Grows.in KL.out _ _ _))))
                refine wpQuiet_nil ?_
                intro _ hw'
                obtain ⟨⟨nr, osr⟩, hw''⟩ := hw'
                subst hw''
                go_wp2
                go_ret
                exact ⟨by rw [HNO.out]; rfl, grow_trans HG2.out ⟨nr, osr, rfl⟩⟩
      · have HNO := Lib.hid (show decide (RightN l) = false from decide_eq_false (RightN.not_ok HE.out (by rw [HOK.out, decide_eq_false q1, Bool.false_and])))
        have p1 : (N != 0) = true := by simpa using q1
        clear q1
        clear g0
        go_wp2
        go_ret
        exact ⟨by rw [HNO.out]; rfl, HG2.out⟩
    · obtain rfl : k = l.length := by omega
      have hrt := HR.out
      rw [List.take_length] at hrt
      have HNO := Lib.hid (show decide (RightN l) = true from decide_eq_true hrt)
      have HG := Lib.hid hgr
      clear hrt hgr
      go_wp2
      go_ret
      exact ⟨by rw [HNO.out]; rfl, HG.out⟩
end Go.Proofs.YtamndllolppmoaaGreatDoor

namespace Go.Proofs.YtamndllolppmoaaGreatDoor
open Wd Ino Go.RowKit Go.ChangeShapes Go.WideShapes Go.Sort
set_option linter.unusedVariables false
set_option maxRecDepth 100000

set_option maxHeartbeats 4000000 in
theorem dPutO {w : World} {hi : Nat} {A : Option Addr} {c : Nat} {l : List Ent} (h : Ens w hi A l) (hh : hi ≤ w.heap.size) (hm : l.length ≤ 1000) (hs : ∀ e ∈ l, e.s.size ≤ 1000) (s : ByteArray) (hsz : s.size ≤ 1000) (n : Int) : Calls Tryz.prog 130 #[.slice A l.length c, .string s, .int .i64 n] w (GivesO (putR s n l) (!hasN s l) w) := by
  have H := Lib.hid h; have HS := Lib.hid hs
  have K := Lib.hid (dLook (c := c) h hh hm s)
  clear h hs
  cases hn : hasN s l with
  | true =>
    have HR := Lib.hid (show putR s n l = l by unfold putR; rw [if_pos hn])
    rw [hn] at K
    clear hn
    go_enter Tryz.func130, Tryz.ntmps130
    go_wp2_with fail
    refine K.out.mono ?_
    rintro e1 w1 ⟨rfl, hw1⟩
    have hb1 := grown_self hw1
    have HB := Lib.hid hb1
    have KO := Lib.hid (dOwn (c := c) (H.out.below (hb1.mono hh)) (Nat.le_trans hh hb1.size) hm HS.out)
    clear hw1 K hb1
    go_wp2_with fail
    refine KO.out.mono ?_
    rintro e1 w2 ⟨v, rfl, ho, hb2⟩
    obtain ⟨A1, c1, rfl, hc1, hx1⟩ := ho.form
    have HX := Lib.hid (ho.mono HB.out.size)
    have HB2 := Lib.hid (HB.out.trans (hb2.mono HB.out.size))
    clear ho hb2 hx1 KO
    go_wp2_with fail
    go_ret2
    rw [HR.out]
    exact ⟨A1, c1, rfl, hc1, HX.out, HB2.out⟩
  | false =>
    have HR := Lib.hid (show putR s n l = putN s n l by unfold putR; rw [if_neg (by rw [hn]; decide)])
    obtain ⟨k, hk⟩ : ∃ k, lookN s l = k := ⟨_, rfl⟩
    have hkl : k ≤ l.length := by rw [← hk]; exact lookN_le s l
    have HI := Lib.hid (show insE l k ⟨s, n⟩ = putN s n l by
      unfold insE putN
      rw [← hk]
      unfold lookN
      rw [if_neg (by rw [hn]; decide)])
    rw [hn, hk] at K
    clear hn hk
    go_enter Tryz.func130, Tryz.ntmps130
    go_wp2_with fail
    refine K.out.mono ?_
    rintro e1 w1 ⟨rfl, hw1⟩
    have hb1 := grown_self hw1
    have HB := Lib.hid hb1
    have KO := Lib.hid (dOwn (c := c) (H.out.below (hb1.mono hh)) (Nat.le_trans hh hb1.size) hm HS.out)
    clear hw1 K hb1
    go_wp2_with fail
    refine KO.out.mono ?_
    rintro e1 w2 ⟨v, rfl, ho, hb2⟩
    obtain ⟨A1, c1, rfl, hc1, hx1⟩ := ho.form
    have HO := Lib.hid ho; have HB2 := Lib.hid hb2
    have KC := Lib.hid (cloneG s (by omega))
    clear ho hb2 hx1 KO
    go_wp2_with fail
    refine (KC.out _).mono ?_
    rintro e1 w3 ⟨rfl, hw3⟩
    have hb3 := grown_self hw3
    have hb4 := hb3.alloc hb3.size (.cells (ecells ⟨s, n⟩) 97)
    have KI := Lib.hid (dIns rfl (HO.out.below hb4) hm (Nat.le_trans HB2.out.size hb4.size) hkl ⟨s, n⟩ w3.heap.size (Cells.new w3 97 (ecells ⟨s, n⟩)) (fun q hq => by
      have h1 := ownE_lt HO.out q hq
      have h2 := hb3.size
      omega))
    have HB4 := Lib.hid (HB.out.trans ((HB2.out.trans (hb4.mono HB2.out.size)).mono HB.out.size))
    have HB1 := Lib.hid (show w.heap.size ≤ w1.heap.size from HB.out.size)
    unfold ecells at KI HB4
    dsimp only at KI
    clear hw3 hb3 hb4
    go_wp2_with fail
    refine KI.out.mono ?_
    rintro e1 w5 ⟨v5, rfl, ho5, hb5⟩
    rw [HI.out, ← HR.out] at ho5
    obtain ⟨A5, c5, rfl, hc5, hx5⟩ := ho5.form
    have HX5 := Lib.hid (ho5.mono HB1.out)
    have HB5 := Lib.hid (HB4.out.trans (hb5.mono HB1.out))
    clear ho5 hb5 hx5 KI
    go_wp2_with fail
    go_ret2
    exact ⟨A5, c5, rfl, hc5, HX5.out, HB5.out⟩
theorem dPut {w : World} {hi : Nat} {A : Option Addr} {c : Nat} {l : List Ent} (h : Ens w hi A l) (hh : hi ≤ w.heap.size) (hm : l.length ≤ 1000) (hs : ∀ e ∈ l, e.s.size ≤ 1000) (s : ByteArray) (hsz : s.size ≤ 1000) (n : Int) : Calls Tryz.prog 130 #[.slice A l.length c, .string s, .int .i64 n] w (GivesE (putR s n l) (!hasN s l) w) := (dPutO h hh hm hs s hsz n).mono fun _ _ k => k.ens
end Go.Proofs.YtamndllolppmoaaGreatDoor
