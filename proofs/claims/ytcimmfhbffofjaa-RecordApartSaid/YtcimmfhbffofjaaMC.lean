import Derived.Test.YtcimmfhbffofjaaMA
import Derived.IntWalk
import Derived.Laws.Strings
import Derived.OwnWalk
import Derived.Laws.Strings2
import Derived.Laws.Concat
import Derived.Test.YtcimmfhbffofjaaLib
import Derived.Laws.RangeAny
import Derived.Laws.Runes
import Derived.ScopeJumps
import Derived.WalkMore
import Derived.Lib.OthersKept
import Derived.Lib.SmallJoins

namespace Go.Proofs.Ytcimmfhbffofjaa
open Wd Go.ChangeShapes Go.WideShapes Go.RowKit Go.Sort
set_option linter.unusedVariables false

/-- a byte that no name has -/
def badC (c : UInt8) : Bool := c == 47 || c == 0
/-- the error's number of a name -/
def plainN (l : List UInt8) : Int := if l.any badC then 22 else if 24 < l.length then 36 else 0
def nameN (l : List UInt8) : Int := if l = [] ∨ l = [46] ∨ l = [46, 46] then 22 else plainN l
def IntIs (v : Int) (w : World) (e : Ending) (w' : World) : Prop := e = .returned (.int .i64 v) ∧ w = w'

theorem size_list (s : ByteArray) : s.toList.length = s.size := by
  rw [ByteArray.toList_eq]; simp

def NameRel (s : ByteArray) (W : World) (i : Value) (w : World) : Prop := ∃ k : Nat, k ≤ s.size ∧ i = .int .i64 k ∧ (∀ c ∈ s.toList.take k, badC c = false) ∧ w = W

theorem name_odd (s : ByteArray) (w : World) (h : s.toList = [] ∨ s.toList = [46] ∨ s.toList = [46, 46]) : Calls Try.prog 43 #[.string s] w (IntIs 22 w) := by
  rcases h with h | h | h
  · have h1 : s.toList.isEmpty = true := by rw [h]; rfl
    go_enter Try.func43, Try.ntmps43
    go_wp2
    go_ret
    exact ⟨rfl, rfl⟩
  · have h1 : s.toList.isEmpty = false := by rw [h]; rfl
    have h2 : (s.toList == [46]) = true := by rw [h]; rfl
    clear h
    go_enter Try.func43, Try.ntmps43
    go_wp2
    go_ret
    exact ⟨rfl, rfl⟩
  · have h1 : s.toList.isEmpty = false := by rw [h]; rfl
    have h2 : (s.toList == [46]) = false := by rw [h]; rfl
    have h3 : (s.toList == [46, 46]) = true := by rw [h]; rfl
    clear h
    go_enter Try.func43, Try.ntmps43
    go_wp2
    go_ret
    exact ⟨rfl, rfl⟩

set_option maxHeartbeats 1000000 in
theorem name_plain (s : ByteArray) (w : World) (hs : s.size ≤ 1000) (h1 : s.toList.isEmpty = false) (h2 : (s.toList == [46]) = false) (h3 : (s.toList == [46, 46]) = false) : Calls Try.prog 43 #[.string s] w (IntIs (plainN s.toList) w) := by
  have hn : s.toList ≠ [] := by intro h; rw [h] at h1; cases h1
  go_enter Try.func43, Try.ntmps43
  go_wp2
  go_loopw [3] (fun i wr => NameRel s w i wr) (fun i _ => s.size - (intOf i).toNat)
  case atStart => exact ⟨0, Nat.zero_le _, rfl, by simp, rfl⟩
  case round =>
    obtain ⟨k, hk, rfl, hg, rfl⟩ := hrel
    have HG := Lib.hid hg
    clear hg
    by_cases hlt : k < s.size
    · have hl : k < s.toList.length := by rw [size_list]; exact hlt
      have hget : s.toList[k]? = some s[k] := by
        rw [List.getElem?_eq_getElem hl]
        congr 1
        simp [ByteArray.toList_eq]
        rfl
      have hmem : s[k] ∈ s.toList := List.mem_of_getElem? hget
      have ht : s.toList.take (k + 1) = s.toList.take k ++ [s[k]] := by rw [List.take_add_one, hget]; rfl
      by_cases hb : badC s[k] = true
      · have hany : s.toList.any badC = true := List.any_eq_true.2 ⟨_, hmem, hb⟩
        have HANY := Lib.hid (show plainN s.toList = 22 by unfold plainN; rw [if_pos hany])
        have hc : (s[k].toNat : Int) = 47 ∨ (s[k].toNat : Int) ≠ 47 ∧ (s[k].toNat : Int) = 0 := by
          unfold badC at hb
          simp only [Bool.or_eq_true, beq_iff_eq] at hb
          rcases hb with h | h
          · left; rw [h]; rfl
          · right; rw [h]; exact ⟨by decide, rfl⟩
        have HC := Lib.hid hc
        clear hany hb hget hmem ht hl hc
        rcases HC.out with hc | ⟨hc1, hc2⟩
        · have q1 : ((s[k].toNat : Int) == 47) = true := by simpa using hc
          clear hc
          go_wp2
          go_ret
          exact ⟨by rw [HANY.out]; rfl, rfl⟩
        · have q1 : ((s[k].toNat : Int) == 47) = false := by simpa using hc1
          have q2 : ((s[k].toNat : Int) == 0) = true := by simpa using hc2
          clear hc1 hc2
          go_wp2
          go_ret
          exact ⟨by rw [HANY.out]; rfl, rfl⟩
      · have hb' : badC s[k] = false := by simpa using hb
        have hq : ((s[k].toNat : Int) == 47) = false ∧ ((s[k].toNat : Int) == 0) = false := by
          unfold badC at hb'
          rw [Bool.or_eq_false_iff] at hb'
          refine ⟨?_, ?_⟩
          · rw [beq_eq_false_iff_ne]
            intro h
            have h47 : s[k].toNat = 47 := by omega
            have : s[k] = 47 := UInt8.toNat_inj.1 h47
            rw [this] at hb'
            exact absurd hb'.1 (by decide)
          · rw [beq_eq_false_iff_ne]
            intro h
            have h00 : s[k].toNat = 0 := by omega
            have : s[k] = 0 := UInt8.toNat_inj.1 h00
            rw [this] at hb'
            exact absurd hb'.2 (by decide)
        obtain ⟨q1, q2⟩ := hq
        have HT := Lib.hid ht; have HBB := Lib.hid hb'
        clear hb hb' hget hmem ht hl
        go_wp2
        go_roundw
        case rel =>
          refine ⟨k + 1, by omega, by go_num, ?_, rfl⟩
          rw [HT.out]
          intro c hc
          rcases List.mem_append.1 hc with h | h
          · exact HG.out c h
          · rw [List.mem_singleton.1 h]; exact HBB.out
        case measure => simp [intOf]; omega
    · obtain rfl : k = s.size := by omega
      have hany : ¬ s.toList.any badC = true := by
        intro h
        obtain ⟨c, hc, hb⟩ := List.any_eq_true.1 h
        have := HG.out c (by rw [List.take_of_length_le (by rw [size_list]; exact Nat.le_refl _)]; exact hc)
        rw [this] at hb; cases hb
      have hv : plainN s.toList = if 24 < s.size then 36 else 0 := by unfold plainN; rw [if_neg hany, size_list]
      have HV := Lib.hid hv
      clear hany hv
      by_cases h24 : 24 < s.size
      · go_wp2
        go_ret
        exact ⟨by rw [HV.out, if_pos h24]; rfl, rfl⟩
      · go_wp2
        go_ret
        exact ⟨by rw [HV.out, if_neg h24]; rfl, rfl⟩

theorem refName_any (s : ByteArray) (hs : s.size ≤ 1000) (w : World) : Calls Try.prog 43 #[.string s] w (IntIs (nameN s.toList) w) := by
  by_cases h : s.toList = [] ∨ s.toList = [46] ∨ s.toList = [46, 46]
  · have := name_odd s w h
    rwa [show nameN s.toList = 22 by unfold nameN; rw [if_pos h]]
  · have e : nameN s.toList = plainN s.toList := by unfold nameN; rw [if_neg h]
    rw [e]
    refine name_plain s w hs ?_ ?_ ?_
    · cases hl : s.toList with
      | nil => exact absurd (.inl hl) h
      | cons a t => rfl
    · rw [beq_eq_false_iff_ne]; exact fun h' => h (.inr (.inl h'))
    · rw [beq_eq_false_iff_ne]; exact fun h' => h (.inr (.inr h'))
end Go.Proofs.Ytcimmfhbffofjaa

namespace Go.Proofs.Ytcimmfhbffofjaa
set_option linter.unusedVariables false

/-- what stands between slashes -/
def cutS : List UInt8 → List UInt8 → List (List UInt8)
  | [], acc => [acc]
  | c :: t, acc => if c = 47 then acc :: cutS t [] else cutS t (acc ++ [c])
def keepS (ps : List (List UInt8)) : List (List UInt8) := ps.filter (fun p => !p.isEmpty)
def pieces (l : List UInt8) : List (List UInt8) := keepS (cutS l [])
def errOf : List (List UInt8) → Int
  | [] => 0
  | p :: ps => if nameN p = 0 then errOf ps else nameN p
/-- the error's number of a path -/
def pathE (l : List UInt8) : Int := if 120 < l.length then 36 else if l.head? = some 47 then errOf (pieces (l.drop 1)) else 22
/-- its names, if it has no error -/
def pathL (l : List UInt8) : List (List UInt8) := if pathE l = 0 then pieces (l.drop 1) else []

theorem errOf_zero {ps : List (List UInt8)} (h : ∀ p ∈ ps, nameN p = 0) : errOf ps = 0 := by
  induction ps with
  | nil => rfl
  | cons p ps ih =>
    show (if nameN p = 0 then errOf ps else nameN p) = 0
    rw [if_pos (h p (by simp))]
    exact ih (fun q hq => h q (by simp [hq]))
theorem errOf_first {ps qs : List (List UInt8)} {p : List UInt8} (h : ∀ p ∈ ps, nameN p = 0) (hp : nameN p ≠ 0) : errOf (ps ++ p :: qs) = nameN p := by
  induction ps with
  | nil => show (if nameN p = 0 then _ else nameN p) = _; rw [if_neg hp]
  | cons q ps ih =>
    show (if nameN q = 0 then errOf (ps ++ p :: qs) else nameN q) = _
    rw [if_pos (h q (by simp))]
    exact ih (fun r hr => h r (by simp [hr]))

/-- the part from f up to i -/
def seg (l : List UInt8) (f i : Nat) : List UInt8 := (l.drop f).take (i - f)
/-- how far it has been gone through -/
structure Gone (l : List UInt8) (f i : Nat) (out : List (List UInt8)) : Prop where
  fi : f ≤ i
  il : i ≤ l.length
  eq : out ++ keepS (cutS (l.drop i) (seg l f i)) = pieces (l.drop 1)
  good : ∀ p ∈ out, nameN p = 0
theorem Gone.start {l : List UInt8} (h : 1 ≤ l.length) : Gone l 1 1 [] :=
  ⟨Nat.le_refl _, h, by show [] ++ keepS (cutS (l.drop 1) (seg l 1 1)) = _; rw [show seg l 1 1 = [] by unfold seg; simp]; rfl, fun p hp => by cases hp⟩
theorem seg_snoc {l : List UInt8} {f i : Nat} {c : UInt8} (hf : f ≤ i) (hc : l[i]? = some c) : seg l f (i + 1) = seg l f i ++ [c] := by
  unfold seg
  rw [show i + 1 - f = (i - f) + 1 by omega, List.take_add_one, List.getElem?_drop, show f + (i - f) = i by omega, hc]; rfl
theorem drop_at {l : List UInt8} {i : Nat} {c : UInt8} (hc : l[i]? = some c) : l.drop i = c :: l.drop (i + 1) := by
  obtain ⟨h, rfl⟩ := List.getElem?_eq_some_iff.1 hc
  exact List.drop_eq_getElem_cons h
theorem seg_empty {l : List UInt8} {f i : Nat} (hi : i ≤ l.length) (hf : f ≤ i) : (seg l f i).isEmpty = decide (i ≤ f) := by
  have hlen : (seg l f i).length = i - f := by unfold seg; simp; omega
  by_cases h : i ≤ f
  · rw [decide_eq_true h, List.isEmpty_iff]
    exact List.eq_nil_of_length_eq_zero (by omega)
  · rw [decide_eq_false h]
    cases hs : seg l f i with
    | nil => rw [hs] at hlen; simp at hlen; omega
    | cons a t => rfl
theorem Gone.plain {l : List UInt8} {f i : Nat} {out : List (List UInt8)} {c : UInt8} (h : Gone l f i out) (hc : l[i]? = some c) (hne : c ≠ 47) : Gone l f (i + 1) out := by
  have hi := (List.getElem?_eq_some_iff.1 hc).1
  refine ⟨by have := h.fi; omega, hi, ?_, h.good⟩
  rw [← h.eq, drop_at hc, seg_snoc h.fi hc]
  conv => rhs; unfold cutS
  rw [if_neg hne]
theorem keep_cons (p : List UInt8) (ps : List (List UInt8)) : keepS (p :: ps) = if p.isEmpty then keepS ps else p :: keepS ps := by
  unfold keepS
  cases h : p.isEmpty
  · rw [List.filter_cons_of_pos (by rw [h]; rfl)]; rfl
  · rw [List.filter_cons_of_neg (by rw [h]; simp)]; rfl
/-- at a slash, with nothing ahead of it -/
theorem Gone.skip {l : List UInt8} {i : Nat} {out : List (List UInt8)} (h : Gone l i i out) (hc : l[i]? = some 47) : Gone l (i + 1) (i + 1) out := by
  have hi := (List.getElem?_eq_some_iff.1 hc).1
  refine ⟨Nat.le_refl _, hi, ?_, h.good⟩
  rw [← h.eq, drop_at hc, show seg l (i + 1) (i + 1) = [] by unfold seg; simp]
  conv => rhs; unfold cutS
  rw [if_pos rfl, keep_cons, seg_empty h.il h.fi, if_pos (by simp)]
theorem Gone.take {l : List UInt8} {f i : Nat} {out : List (List UInt8)} (h : Gone l f i out) (hf : f < i) (hc : l[i]? = some 47) (hn : nameN (seg l f i) = 0) : Gone l (i + 1) (i + 1) (out ++ [seg l f i]) := by
  have hi := (List.getElem?_eq_some_iff.1 hc).1
  refine ⟨Nat.le_refl _, hi, ?_, ?_⟩
  · rw [← h.eq, drop_at hc, show seg l (i + 1) (i + 1) = [] by unfold seg; simp]
    conv => rhs; unfold cutS
    rw [if_pos rfl, keep_cons, seg_empty h.il h.fi, if_neg (by simp; omega), List.append_assoc]; rfl
  · intro p hp
    rcases List.mem_append.1 hp with h1 | h1
    · exact h.good p h1
    · rw [List.mem_singleton.1 h1]; exact hn
theorem Gone.bad {l : List UInt8} {f i : Nat} {out : List (List UInt8)} (h : Gone l f i out) (hf : f < i) (hc : l[i]? = some 47 ∨ i = l.length) (hn : nameN (seg l f i) ≠ 0) : errOf (pieces (l.drop 1)) = nameN (seg l f i) := by
  rw [← h.eq]
  rcases hc with hc | rfl
  · rw [drop_at hc]
    unfold cutS
    rw [if_pos rfl, keep_cons, seg_empty h.il h.fi, if_neg (by simp; omega)]
    exact errOf_first h.good hn
  · rw [List.drop_length]
    unfold cutS
    rw [keep_cons, seg_empty h.il h.fi, if_neg (by simp; omega)]
    exact errOf_first h.good hn
theorem Gone.last {l : List UInt8} {f : Nat} {out : List (List UInt8)} (h : Gone l f l.length out) (hn : f < l.length → nameN (seg l f l.length) = 0) :
    (if f < l.length then out ++ [seg l f l.length] else out) = pieces (l.drop 1) ∧ errOf (pieces (l.drop 1)) = 0 := by
  have e : (if f < l.length then out ++ [seg l f l.length] else out) = pieces (l.drop 1) := by
    rw [← h.eq, List.drop_length]
    unfold cutS
    rw [keep_cons, seg_empty h.il h.fi]
    by_cases hf : f < l.length
    · rw [if_pos hf, if_neg (by simp; omega)]; rfl
    · rw [if_neg hf, if_pos (by simp; omega)]
      simp [keepS]
  refine ⟨e, ?_⟩
  rw [← e]
  apply errOf_zero
  intro p hp
  by_cases hf : f < l.length
  · rw [if_pos hf] at hp
    rcases List.mem_append.1 hp with h1 | h1
    · exact h.good p h1
    · rw [List.mem_singleton.1 h1]; exact hn hf
  · rw [if_neg hf] at hp
    exact h.good p hp
end Go.Proofs.Ytcimmfhbffofjaa

namespace Go.Proofs.Ytcimmfhbffofjaa
open Wd Go.ChangeShapes Go.WideShapes Go.RowKit Go.Sort
set_option linter.unusedVariables false

theorem infoStr : (Try.prog.info? 9).map (fun i => (i.zero, i.size, i.bytes)) = some (some (.string ByteArray.empty), 1, 16) := by kernel_rfl
theorem oneS (l : List ByteArray) : ∀ u ∈ l.map Value.string, u.oneCell' = true := by
  intro u hu
  obtain ⟨b, _, rfl⟩ := List.mem_map.1 hu
  rfl
theorem extract_list (s : ByteArray) (f i : Nat) : (s.extract f i).toList = seg s.toList f i := by
  rw [ByteArray.toList_eq, ByteArray.toList_eq]
  unfold seg
  obtain ⟨⟨l⟩⟩ := s
  rw [ByteArray.extract_mk]
theorem get_list (s : ByteArray) (k : Nat) (h : k < s.size) : s.toList[k]? = some s[k] := by
  have hl : k < s.toList.length := by rw [size_list]; exact h
  rw [List.getElem?_eq_getElem hl]
  congr 1
  simp [ByteArray.toList_eq]
  rfl

def SplitRel (s : ByteArray) (W : World) (iv fv o : Value) (w : World) : Prop :=
  ∃ (i f : Nat) (bs : List ByteArray), iv = .int .i64 i ∧ fv = .int .i64 f ∧ i ≤ s.size + 1 ∧ bs.length ≤ i ∧ w.ownsRow W.heap.size 9 1 o bs.length (bs.map Value.string) ∧ Below W.heap.size W w ∧
    (i ≤ s.size → Gone s.toList f i (bs.map ByteArray.toList)) ∧ (s.size < i → bs.map ByteArray.toList = pieces (s.toList.drop 1) ∧ errOf (pieces (s.toList.drop 1)) = 0)
def SplitDone (l : List UInt8) (W : World) (e : Ending) (w : World) : Prop :=
  ∃ (v : Value) (bs : List ByteArray), e = .returned (.tuple #[v, .int .i64 (pathE l)]) ∧ bs.map ByteArray.toList = pathL l ∧ w.ownsRow W.heap.size 9 1 v bs.length (bs.map Value.string) ∧ Below W.heap.size W w
end Go.Proofs.Ytcimmfhbffofjaa

namespace Go.Proofs.Ytcimmfhbffofjaa
open Wd Go.ChangeShapes Go.WideShapes Go.RowKit Go.Sort
set_option linter.unusedVariables false

theorem none_split {s : ByteArray} {v : Int} {w : World} (h : pathE s.toList = v) (hv : v ≠ 0) : SplitDone s.toList w (.returned (.tuple #[.slice none 0 0, .int .i64 v])) w := by
  refine ⟨.slice none 0 0, [], by rw [h], ?_, ⟨rfl, .inl ⟨rfl, rfl⟩⟩, Below.refl _ _⟩
  unfold pathL
  rw [h, if_neg hv]; rfl

def AlikeS (xs ys : List ByteArray) (W : World) (i : Value) (w : World) : Prop := ∃ k d : Nat, k ≤ xs.length ∧ i = .int .i64 k ∧ xs.take k = ys.take k ∧ w = W.drewN d

theorem tolist_inj {a b : ByteArray} (h : a.toList = b.toList) : a = b := by
  rw [ByteArray.toList_eq, ByteArray.toList_eq] at h
  cases a with | mk x => cases b with | mk y => exact congrArg ByteArray.mk (Array.toList_inj.1 h)
theorem take_one' {α : Type} {l : List α} {k : Nat} {x : α} (h : l[k]? = some x) : l.take (k + 1) = l.take k ++ [x] := by
  rw [List.take_add_one, h]; rfl
end Go.Proofs.Ytcimmfhbffofjaa

namespace Go.Proofs.Ytcimmfhbffofjaa
open Wd Go.ChangeShapes Go.WideShapes Go.RowKit Go.Sort
set_option linter.unusedVariables false

/-- a slash ahead of each -/
def slashed (l : List (List UInt8)) : List UInt8 := l.flatMap (fun p => 47 :: p)
def joinN (l : List (List UInt8)) : List UInt8 := if l = [] then [47] else slashed l
theorem slashed_snoc (l : List (List UInt8)) (p : List UInt8) : slashed (l ++ [p]) = slashed l ++ 47 :: p := by
  unfold slashed; rw [List.flatMap_append]; simp
theorem slashed_le (l : List (List UInt8)) (k : Nat) : (slashed (l.take k)).length ≤ (slashed l).length := by
  have h := List.take_append_drop k l
  have e : slashed l = slashed (l.take k) ++ slashed (l.drop k) := by
    unfold slashed
    rw [← List.flatMap_append, h]
  rw [e, List.length_append]; omega

def JoinRel (ls : List ByteArray) (W : World) (iv sv : Value) (w : World) : Prop := ∃ (k : Nat) (b : ByteArray), k ≤ ls.length ∧ iv = .int .i64 k ∧ sv = .string b ∧ b.toList = slashed ((ls.map ByteArray.toList).take k) ∧ w = W
def TextIs (l : List UInt8) (W : World) (e : Ending) (w : World) : Prop := ∃ b : ByteArray, e = .returned (.string b) ∧ b.toList = l ∧ W = w
theorem append_list (a b : ByteArray) : (a ++ b).toList = a.toList ++ b.toList := by
  rw [ByteArray.toList_eq, ByteArray.toList_eq, ByteArray.toList_eq]; simp

theorem empty_list : ByteArray.empty.toList = [] := by rw [ByteArray.toList_eq]; rfl
theorem slash_list : (ByteArray.mk #[47]).toList = [47] := by rw [ByteArray.toList_eq]
end Go.Proofs.Ytcimmfhbffofjaa

namespace Go.Proofs.Ytcimmfhbffofjaa
set_option linter.unusedVariables false

theorem good_name {p : List UInt8} (h : nameN p = 0) : p ≠ [] ∧ (47 : UInt8) ∉ p := by
  unfold nameN at h
  by_cases h1 : p = [] ∨ p = [46] ∨ p = [46, 46]
  · rw [if_pos h1] at h; cases h
  · rw [if_neg h1] at h
    refine ⟨fun e => h1 (.inl e), fun hm => ?_⟩
    unfold plainN at h
    rw [if_pos (List.any_eq_true.2 ⟨47, hm, rfl⟩)] at h
    cases h
theorem cut_end {p : List UInt8} (h : (47 : UInt8) ∉ p) : ∀ acc, cutS p acc = [acc ++ p] := by
  induction p with
  | nil => intro acc; simp [cutS]
  | cons c t ih =>
    intro acc
    have hc : c ≠ 47 := by rintro rfl; exact h (by simp)
    unfold cutS
    rw [if_neg hc, ih (fun hm => h (by simp [hm]))]
    simp
theorem cut_on {p : List UInt8} (h : (47 : UInt8) ∉ p) (r : List UInt8) : ∀ acc, cutS (p ++ 47 :: r) acc = (acc ++ p) :: cutS r [] := by
  induction p with
  | nil => intro acc; simp [cutS]
  | cons c t ih =>
    intro acc
    have hc : c ≠ 47 := by rintro rfl; exact h (by simp)
    show cutS (c :: (t ++ 47 :: r)) acc = _
    conv => lhs; unfold cutS
    rw [if_neg hc, ih (fun hm => h (by simp [hm]))]
    simp
theorem slashed_cons (p : List UInt8) (ls : List (List UInt8)) : slashed (p :: ls) = 47 :: (p ++ slashed ls) := by unfold slashed; simp
theorem pieces_join {ls : List (List UInt8)} (h : ∀ p ∈ ls, nameN p = 0) (hne : ls ≠ []) : pieces ((slashed ls).drop 1) = ls := by
  induction ls with
  | nil => exact absurd rfl hne
  | cons p ls ih =>
    obtain ⟨h1, h2⟩ := good_name (h p (by simp))
    have hpe : p.isEmpty = false := by cases p with | nil => exact absurd rfl h1 | cons a t => rfl
    rw [slashed_cons, List.drop_one, List.tail_cons]
    unfold pieces
    cases hls : ls with
    | nil =>
      rw [show slashed [] = [] from rfl, List.append_nil, cut_end h2, List.nil_append, keep_cons, hpe]
      rfl
    | cons q qs =>
      have ih' := ih (fun r hr => h r (by simp [hr])) (by rw [hls]; simp)
      rw [hls, slashed_cons, List.drop_one, List.tail_cons] at ih'
      rw [slashed_cons, cut_on h2, List.nil_append, keep_cons, hpe]
      show p :: keepS (cutS (q ++ slashed qs) []) = _
      unfold pieces at ih'
      rw [ih']
/-- the path of good names, split again -/
theorem path_join {ls : List (List UInt8)} (h : ∀ p ∈ ls, nameN p = 0) : pathE (joinN ls) = (if 120 < (joinN ls).length then 36 else 0) ∧ pathL (joinN ls) = (if 120 < (joinN ls).length then [] else ls) := by
  have hp : (joinN ls).head? = some 47 ∧ pieces ((joinN ls).drop 1) = ls := by
    unfold joinN
    by_cases hne : ls = []
    · rw [if_pos hne, hne]; exact ⟨rfl, rfl⟩
    · rw [if_neg hne]
      refine ⟨?_, pieces_join h hne⟩
      cases ls with
      | nil => exact absurd rfl hne
      | cons p ls => rw [slashed_cons]; rfl
  have hE : pathE (joinN ls) = if 120 < (joinN ls).length then 36 else 0 := by
    unfold pathE
    rw [if_pos hp.1, hp.2, errOf_zero h]
  refine ⟨hE, ?_⟩
  unfold pathL
  rw [hE, hp.2]
  by_cases h120 : 120 < (joinN ls).length
  · rw [if_pos h120, if_pos h120, if_neg (by decide)]
  · rw [if_neg h120, if_neg h120, if_pos rfl]
end Go.Proofs.Ytcimmfhbffofjaa

/-
  strings.IndexRune AT A RUNE THAT IS NOT ASCII, IN A TEXT THAT IS ASCII: it is not there.
-/
namespace Go.Proofs.Ytcimmfhbffofjaa
open Wd Go.ChangeShapes Go.WideShapes Go.RowKit Go.Sort
set_option linter.unusedVariables false

def Ascii (s : ByteArray) : Prop := ∀ (j : Nat) b, s.data.toList[j]? = some b → b.toNat < 128

set_option maxRecDepth 100000 in
set_option maxHeartbeats 4000000 in
/-- the rune that stands for none: chars is gone through -/
theorem rune_err (s : ByteArray) (hs : Ascii s) (w : World) : Calls Try.prog 68 #[.string s, .int .i32 65533] w (Grows (.int .i64 (-1)) w) := by
  have HS := Lib.hid hs
  clear hs
  go_enter Try.func68, Try.ntmps68
  go_wp2_with fail
  go_loopg [5, 6] s.size (fun g _ _ wx => ∃ i : Nat, i + g = s.size ∧ wx = w.iter s i)
  case atStart => exact ⟨0, by omega, rfl⟩
  case round =>
    obtain ⟨i, hig, rfl⟩ := hrel
    cases gk with
    | zero =>
      obtain rfl : i = s.size := by omega
      have hnx := fun ty => run_next_end (P := Try.prog) w s s.size ty (by omega)
      go_wp2
      go_ret
      exact ⟨rfl, grow_one w _⟩
    | succ g =>
      have hi : i < s.size := by omega
      obtain ⟨x, hx⟩ : ∃ x : UInt8, s[i]'hi = x := ⟨_, rfl⟩
      have hxl : s.data.toList[i]? = some x := by rw [← hx]; exact Lib.data_getElem? s i hi
      have hx128 : x.toNat < 128 := HS.out i x hxl
      have hnx := fun ty => run_next_ascii (P := Try.prog) w s i ty hi (by rw [hx]; exact hx128)
      rw [hx] at hnx
      have hne : ((x.toNat : Int) == 65533) = false := beq_eq_false_iff_ne.2 (by omega)
      clear hxl hx
      go_wp2
      go_roundg g
      case measure => omega
      case rel => exact ⟨i + 1, by omega, rfl⟩

set_option maxRecDepth 100000 in
set_option maxHeartbeats 4000000 in
/-- a rune that is none -/
theorem rune_bad (s : ByteArray) (r : Int) (h128 : 128 ≤ r) (hne : r ≠ 65533) (hv : Lib.validRune r = false) (w : World) : Calls Try.prog 68 #[.string s, .int .i32 r] w (Grows (.int .i64 (-1)) w) := by
  have h1 : ¬ r < 128 := by omega
  have h2 : (r == 65533) = false := beq_eq_false_iff_ne.2 hne
  have HV := Lib.hid hv
  clear hv
  go_enter Try.func68, Try.ntmps68
  go_wp2_with fail
  refine (Try.utf8_ValidRune _ _).mono ?_
  rintro e w1 ⟨rfl, rfl⟩
  rw [HV.out]
  go_wp2
  go_ret
  exact ⟨rfl, grow_none _⟩

/-- a byte that is not ASCII is none of an ASCII text's -/
theorem index_none (l : List UInt8) (c : UInt8) (h : ∀ b ∈ l, b ≠ c) : Lib.indexByte l c = -1 := by
  induction l with
  | nil => rfl
  | cons b l ih =>
    have hb : (b == c) = false := beq_eq_false_iff_ne.2 (h b (by simp))
    rw [Lib.indexByte, ih (fun x hx => h x (by simp [hx])), hb]
    rfl
theorem index_far (s : ByteArray) (hs : Ascii s) (f t : Nat) (y : UInt8) (hy : 128 ≤ y.toNat) (w : World) : Calls Try.prog 72 #[.string (s.extract f t), .int .u8 y.toNat] w fun e w' => e = .returned (.int .i64 (-1)) ∧ w = w' := by
  refine (Try.strings_IndexByte _ _ _).mono ?_
  rintro e w1 ⟨rfl, rfl⟩
  refine ⟨?_, rfl⟩
  rw [index_none]
  intro b hb e
  have h1 : b ∈ s.data.toList := mem_extract hb
  obtain ⟨j, hj, hjb⟩ := List.getElem_of_mem h1
  have h2 := hs j b (by rw [List.getElem?_eq_getElem hj, hjb])
  have e2 : ((y.toNat : Int)).toNat.toUInt8 = y := by simp
  rw [e2] at e
  rw [e] at h2
  omega

set_option maxRecDepth 100000 in
set_option maxHeartbeats 4000000 in
/-- any other rune: its last byte is none of s -/
theorem rune_far (s : ByteArray) (hs : Ascii s) (r : Int) (h128 : 128 ≤ r) (hne : r ≠ 65533) (hv : Lib.validRune r = true) (w : World) : Calls Try.prog 68 #[.string s, .int .i32 r] w (Grows (.int .i64 (-1)) w) := by
  have h1 : ¬ r < 128 := by omega
  have h2 : (r == 65533) = false := beq_eq_false_iff_ne.2 hne
  obtain ⟨e1, e2, e3⟩ := encode_facts r (by rw [validRune_eq]; exact hv) h128
  obtain ⟨rs, hrs⟩ : ∃ rs, Utf8.encode r = rs := ⟨_, rfl⟩
  rw [hrs] at e1 e2 e3
  obtain ⟨m, hm⟩ : ∃ m : Nat, rs.size = m + 1 := ⟨rs.size - 1, by omega⟩
  have HV := Lib.hid hv; have HS := Lib.hid hs
  clear hv hs
  go_enter Try.func68, Try.ntmps68
  go_wp2_with fail
  refine (Try.utf8_ValidRune _ _).mono ?_
  rintro e w1 ⟨rfl, rfl⟩
  rw [HV.out]
  go_wp2
  go_step3
  go_wp2
  have em : ∀ h : m < rs.size, 128 ≤ (rs[m]'h).toNat := fun h => by
    have := e3 (by omega)
    simpa [hm] using this
  have EM := Lib.hid em
  clear e3 em
  go_loopw [9, 10] (fun s9 _ wx => s9 = .int .i64 m ∧ wx = w1) (fun _ _ _ => 0)
  case atStart => exact ⟨rfl, rfl⟩
  case round =>
    obtain ⟨rfl, rfl⟩ := hrel
    by_cases hlt : m < s.size
    · obtain ⟨x, hx⟩ : ∃ x : UInt8, s[m]'hlt = x := ⟨_, rfl⟩
      obtain ⟨y, hy⟩ : ∃ y : UInt8, rs[m]'(by omega) = y := ⟨_, rfl⟩
      have hx1 : x.toNat < 128 := HS.out m x (by rw [← hx]; exact Lib.data_getElem? s m hlt)
      have hy1 : 128 ≤ y.toNat := by rw [← hy]; exact EM.out _
      have hxy : ((x.toNat : Int) != (y.toNat : Int)) = true := by rw [bne_iff_ne]; omega
      go_wp2
      go_step3
      go_wp2
      go_quiet (skip)
      go_wp2
      go_quiet ((go_at_call 72; exact quiet_eq2 (index_far s HS.out (m + 1) s.size y hy1 _)))
      go_wp2
      go_ret
      exact ⟨rfl, grow_drewN (grow_none _) _⟩
    · go_wp2
      go_ret
      exact ⟨rfl, grow_none _⟩
end Go.Proofs.Ytcimmfhbffofjaa

/-
  strings.ContainsAny OF WHATEVER TEXT, FOR SOME ASCII BYTES: whether one of its bytes is among them.
-/
namespace Go.Proofs.Ytcimmfhbffofjaa
open Wd Go.ChangeShapes Go.WideShapes Go.RowKit Go.Sort
set_option linter.unusedVariables false

/-- a rune above 127 is none of an ASCII text's -/
theorem rune_any (s : ByteArray) (hs : Ascii s) (r : Int) (h128 : 128 ≤ r) (w : World) : Calls Try.prog 68 #[.string s, .int .i32 r] w (Grows (.int .i64 (-1)) w) := by
  by_cases hne : r = 65533
  · subst hne; exact rune_err s hs w
  · cases hv : Lib.validRune r with
    | false => exact rune_bad s r h128 hne hv w
    | true => exact rune_far s hs r h128 hne hv w

/-- all bytes of a rune that is not ASCII are not -/
theorem decode_cont (s : ByteArray) (pos : Nat) (h : pos < s.size) (ha : 128 ≤ (s[pos]'h).toNat) (j : Nat) : j < (Utf8.decode s pos).2 → pos + j < s.size ∧ 128 ≤ (s.get! (pos + j)).toNat := by
  have hn : ¬ (s[pos]'h).toNat < 128 := by omega
  have h0 : 128 ≤ (s.get! (pos + 0)).toNat := by rw [get_at s pos h]; exact ha
  simp only [Utf8.decode, get_at s pos h, hn, if_false]
  repeat' split
  all_goals
    intro hj
    have hj' : j = 0 ∨ j = 1 ∨ j = 2 ∨ j = 3 := by simp at hj; omega
    rcases hj' with rfl | rfl | rfl | rfl <;> simp_all <;> omega

theorem noany_far {s : ByteArray} {cs : List UInt8} {i : Nat} (hc : ∀ b ∈ cs, b.toNat < 128) (h : Lib.NoAny s.data.toList cs i) (d : Nat) (hd : ∀ j, j < d → 128 ≤ (s.get! (i + j)).toNat) : Lib.NoAny s.data.toList cs (i + d) := by
  intro j b hj hb
  by_cases hji : j < i
  · exact h j b hji hb
  · have h1 := hd (j - i) (by omega)
    rw [show i + (j - i) = j by omega] at h1
    have hjs : j < s.size := by have := (List.getElem?_eq_some_iff.1 hb).1; rw [Lib.size_eq]; exact this
    have h2 : s.get! j = b := by
      have h3 := Lib.data_getElem? s j hjs
      rw [hb] at h3
      have h4 := Option.some.inj h3
      rw [h4]
      have := get_at s j hjs
      simpa using this
    rw [h2] at h1
    rw [Bool.eq_false_iff, Ne, List.contains_iff_mem]
    intro hm
    have := hc b hm
    omega

/-- the iterator stands in the first block that was made -/
def ItAt (s : ByteArray) (i : Nat) (w wx : World) : Prop := wx.heap[w.heap.size]? = some (.stringIter s i) ∧ ∃ q os, wx = grow (w.drewN q) os
theorem ItAt.first (s : ByteArray) (w : World) : ItAt s 0 w (w.iter s 0) := ⟨w.iter_heap s 0, grow_one w _⟩
theorem ItAt.set {s : ByteArray} {i : Nat} {w wx : World} (h : ItAt s i w wx) (i' : Nat) : ItAt s i' w (wx.iterAt w.heap.size s i') := by
  refine ⟨Lib.iterAt_heap wx _ s i i' h.1, ?_⟩
  obtain ⟨q, os, rfl⟩ := h.2
  refine ⟨q, os.setIfInBounds 0 (.stringIter s i'), ?_⟩
  unfold World.iterAt grow
  congr 1
  apply Array.ext_getElem?
  intro k
  show ((w.heap ++ os).setIfInBounds w.heap.size _)[k]? = (w.heap ++ os.setIfInBounds 0 _)[k]?
  rw [Array.getElem?_setIfInBounds, Array.getElem?_append, Array.getElem?_append, Array.getElem?_setIfInBounds]
  by_cases hk : k < w.heap.size
  · rw [if_pos hk, if_pos hk, if_neg (by omega)]
  · rw [if_neg hk, if_neg hk]
    by_cases hk2 : w.heap.size = k
    · subst hk2; simp
    · rw [if_neg hk2, if_neg (by omega)]
theorem ItAt.more {s : ByteArray} {i : Nat} {w wx wy : World} (h : ItAt s i w wx) (hg : ∃ q os, wy = grow (wx.drewN q) os) : ItAt s i w wy := by
  refine ⟨?_, grow_trans h.2 hg⟩
  obtain ⟨q, os, rfl⟩ := hg
  have hlt : w.heap.size < wx.heap.size := (Array.getElem?_eq_some_iff.1 h.1).1
  exact (heap_grow_old (wx.drewN q) os hlt).trans h.1

set_option maxRecDepth 100000 in
set_option maxHeartbeats 8000000 in
theorem any_short (s chars : ByteArray) (hc : Ascii chars) (h2 : 2 ≤ chars.size) (h8 : s.size ≤ 8) (w : World) :
    Calls Try.prog 67 #[.string s, .string chars] w (Grows (.int .i64 (Lib.indexAny s.data.toList chars.data.toList)) w) := by
  have hemp : chars.toList.isEmpty = false := by
    rw [Lib.toList_data]
    cases h : chars.data.toList with
    | nil => have := Lib.size_eq chars; rw [h, List.length_nil] at this; omega
    | cons _ _ => rfl
  have hn1 : ((chars.size : Int) == 1) = false := beq_eq_false_iff_ne.2 (by omega)
  have h8z : decide ((8 : Int) < (s.size : Int)) = false := decide_eq_false (by omega)
  have HC := Lib.hid hc
  have hmem : ∀ b ∈ chars.data.toList, b.toNat < 128 := by
    intro b hb
    obtain ⟨j, hj, rfl⟩ := List.getElem_of_mem hb
    exact hc j _ (List.getElem?_eq_getElem hj)
  have HM := Lib.hid hmem
  clear hc hmem
  go_enter Try.func67, Try.ntmps67
  go_wp2_with (go_at_call 69; refine (Try.strings_shouldUseASCIISet _ _).mono ?_; rintro e w' ⟨rfl, hw⟩; rw [hw, h8z])
  go_loopg [9, 10] s.size (fun g _ _ wx => ∃ i : Nat, i ≤ s.size ∧ s.size ≤ i + g ∧ ItAt s i w wx ∧ Lib.NoAny s.data.toList chars.data.toList i)
  case atStart => exact ⟨0, by omega, by omega, ItAt.first s w, Lib.NoAny.zero _ _⟩
  case round =>
    obtain ⟨i, hi1, hi2, hit, hno⟩ := hrel
    have HN := Lib.hid hno
    clear hno
    have hkk := hit.1
    have HIT := Lib.hid hit
    clear hit
    by_cases hi : i < s.size
    · cases gk with
      | zero => exfalso; omega
      | succ g =>
        by_cases hx128 : (s[i]'hi).toNat < 128
        · obtain ⟨x, hx⟩ : ∃ x : UInt8, s[i]'hi = x := ⟨_, rfl⟩
          have hxl : s.data.toList[i]? = some x := by rw [← hx]; exact Lib.data_getElem? s i hi
          have hnx := fun ty => Lib.run_next_ascii_at (P := Try.prog) wr w.heap.size s i ty hkk hi hx128
          rw [hx] at hnx hx128
          have HX := Lib.hid hxl
          have HW := Lib.hid (HIT.out.set (i + 1))
          obtain ⟨wy, hwy⟩ : ∃ wy, wr.iterAt w.heap.size s (i + 1) = wy := ⟨_, rfl⟩
          rw [hwy] at HW
          have hcon := Lib.contains_iff_indexByte chars.data.toList x
          have hback : ((x.toNat : Int)).toNat.toUInt8 = x := by simp
          clear hxl hx hkk
          cases hin : chars.data.toList.contains x
          · rw [hin] at hcon
            have hlt : ¬ ((0 : Int) ≤ Lib.indexByte chars.data.toList x) := of_decide_eq_false hcon.symm
            clear hcon
            go_wp2_with (go_at_call 68; refine (Try.strings_IndexRune_ascii _ _ _ (by omega) (by omega)).mono ?_; rintro e w' ⟨rfl, hw⟩; rw [hw, hback])
            go_roundg g
            case measure => omega
            case rel => exact ⟨i + 1, by omega, by omega, by first | exact HW.out | exact HIT.out.set (i + 1), HN.out.succ HX.out hin⟩
          · rw [hin] at hcon
            have hge : (0 : Int) ≤ Lib.indexByte chars.data.toList x := of_decide_eq_true hcon.symm
            clear hcon
            go_wp2_with (go_at_call 68; refine (Try.strings_IndexRune_ascii _ _ _ (by omega) (by omega)).mono ?_; rintro e w' ⟨rfl, hw⟩; rw [hw, hback])
            go_ret
            exact ⟨by rw [Lib.indexAny_hit HN.out HX.out hin]; rfl, by first | exact HW.out.2 | exact (HIT.out.set (i + 1)).2⟩
        · have hx' : 128 ≤ (s[i]'hi).toNat := by omega
          obtain ⟨hr1, hr2⟩ := decode_high s i hi hx'
          have hle := decode_le s i
          have hct := decode_cont s i hi hx'
          have hnx := fun ty => Lib.run_next_any_at (P := Try.prog) wr w.heap.size s i ty hkk hi
          obtain ⟨r, hr⟩ : ∃ r, (Utf8.decode s i).1 = r := ⟨_, rfl⟩
          obtain ⟨d, hd⟩ : ∃ d, (Utf8.decode s i).2 = d := ⟨_, rfl⟩
          rw [hr, hd] at hnx
          rw [hr] at hr1 hle
          rw [hd] at hr2 hct
          have hid : i + d ≤ s.size := by have := (hct (d - 1) (by omega)).1; omega
          have hnn := noany_far HM.out HN.out d (fun j hj => (hct j hj).2)
          have HNN := Lib.hid hnn
          clear hkk hr hd hct hnn
          go_wp2_with fail
          refine (rune_any chars HC.out (r : Int) (by omega) _).mono ?_
          rintro e w' ⟨rfl, hw⟩
          have HW := Lib.hid (ItAt.more (HIT.out.set (i + d)) hw)
          clear hw
          go_wp2
          go_roundg g
          case measure => omega
          case rel => exact ⟨i + d, by omega, by omega, HW.out, HNN.out⟩
    · have hnx := fun ty => Lib.run_next_end_at (P := Try.prog) wr w.heap.size s i ty hkk hi
      obtain rfl : i = s.size := by omega
      go_wp2
      go_ret
      exact ⟨by rw [Lib.indexAny_none (by rw [← Lib.size_eq]; exact HN.out)]; rfl, HIT.out.2⟩

theorem any_any (s chars : ByteArray) (hc : Ascii chars) (h2 : 2 ≤ chars.size) (hcs : chars.size < 4294967281) (hs : s.size < 4294967281) (w : World) :
    Calls Try.prog 67 #[.string s, .string chars] w (Grows (.int .i64 (Lib.indexAny s.data.toList chars.data.toList)) w) := by
  by_cases h8 : s.size ≤ 8
  · exact any_short s chars hc h2 h8 w
  · refine (Try.strings_IndexAny_long (zero_of_info (n := 256) (by kernel_rfl)).1 s chars w h2 (by omega) hs hcs hc).mono ?_
    rintro e w' ⟨rfl, rfl⟩
    exact ⟨rfl, grow_alloc (grow_one w _) _⟩

set_option maxRecDepth 100000 in
theorem contains_any (s chars : ByteArray) (hc : Ascii chars) (h2 : 2 ≤ chars.size) (hcs : chars.size < 4294967281) (hs : s.size < 4294967281) (w : World) :
    Calls Try.prog 66 #[.string s, .string chars] w (Grows (.bool (Lib.containsAny s.data.toList chars.data.toList)) w) := by
  go_enter Try.func66, Try.ntmps66
  go_wp2_with fail
  refine (any_any s chars hc h2 hcs hs _).mono ?_
  rintro e w' ⟨rfl, hw⟩
  go_wp2
  go_ret
  exact ⟨rfl, hw⟩

theorem any_iff (l : List UInt8) : Lib.containsAny l [47, 0] = l.any badC := by
  have hcon : ∀ c : UInt8, ([47, 0] : List UInt8).contains c = badC c := fun c => by rw [List.contains_cons, List.contains_cons, List.contains_nil, Bool.or_false]; rfl
  unfold Lib.containsAny
  induction l with
  | nil => rfl
  | cons c l ih =>
    rw [List.any_cons, ← ih, Lib.indexAny, hcon]
    have hge := Lib.indexAny_ge [47, 0] l
    cases badC c with
    | true => rfl
    | false =>
      rw [Bool.false_or]
      by_cases hm : Lib.indexAny l [47, 0] = -1
      · rw [hm]; simp
      · rw [if_neg (by simp), if_neg (by simpa using hm)]
        exact decide_eq_decide.2 (by omega)
theorem slash_nul : Ascii ⟨#[47, 0]⟩ := by
  intro j b hb
  match j, hb with
  | 0, hb => cases hb; decide
  | 1, hb => cases hb; decide
  | k + 2, hb => simp at hb
theorem contains_bad (s : ByteArray) (hs : s.size ≤ 1000000) (w : World) : Calls Try.prog 66 #[.string s, .string ⟨#[47, 0]⟩] w (Grows (.bool (s.toList.any badC)) w) := by
  have h := contains_any s ⟨#[47, 0]⟩ slash_nul (by decide) (by decide) (by omega) w
  rw [show (⟨#[47, 0]⟩ : ByteArray).data.toList = [47, 0] from rfl, any_iff, ← Lib.toList_data] at h
  exact h
end Go.Proofs.Ytcimmfhbffofjaa

/-
  The project's own Check of a name, and strings.Clone.
-/
namespace Go.Proofs.Ytcimmfhbffofjaa
open Wd Go.ChangeShapes Go.WideShapes Go.RowKit Go.Sort
set_option linter.unusedVariables false

set_option maxHeartbeats 1000000 in
theorem check_odd (s : ByteArray) (w : World) (h : s.toList = [] ∨ s.toList = [46] ∨ s.toList = [46, 46]) : Calls Try.prog 61 #[.string s] w (Grows (.int .i64 22) w) := by
  rcases h with h | h | h
  · have h1 : s.toList.isEmpty = true := by rw [h]; rfl
    go_enter Try.func61, Try.ntmps61
    go_wp2_with fail
    go_ret
    exact ⟨rfl, grow_none _⟩
  · have h1 : s.toList.isEmpty = false := by rw [h]; rfl
    have h2 : (s.toList == [46]) = true := by rw [h]; rfl
    clear h
    go_enter Try.func61, Try.ntmps61
    go_wp2_with fail
    go_ret
    exact ⟨rfl, grow_none _⟩
  · have h1 : s.toList.isEmpty = false := by rw [h]; rfl
    have h2 : (s.toList == [46]) = false := by rw [h]; rfl
    have h3 : (s.toList == [46, 46]) = true := by rw [h]; rfl
    clear h
    go_enter Try.func61, Try.ntmps61
    go_wp2_with fail
    go_ret
    exact ⟨rfl, grow_none _⟩

set_option maxHeartbeats 1000000 in
theorem check_plain (s : ByteArray) (hs : s.size ≤ 1000) (h1 : s.toList.isEmpty = false) (h2 : (s.toList == [46]) = false) (h3 : (s.toList == [46, 46]) = false) (w : World) : Calls Try.prog 61 #[.string s] w (Grows (.int .i64 (plainN s.toList)) w) := by
  have hp : plainN s.toList = if s.toList.any badC then 22 else if 24 < s.size then 36 else 0 := by unfold plainN; rw [size_list]
  obtain ⟨b, hb⟩ : ∃ b, s.toList.any badC = b := ⟨_, rfl⟩
  rw [hb] at hp
  have HP := Lib.hid hp; have HB := Lib.hid hb
  clear hp hb
  go_enter Try.func61, Try.ntmps61
  go_wp2_with fail
  refine (contains_bad s (by omega) _).mono ?_
  rintro e w1 ⟨rfl, hw⟩
  rw [HB.out]
  cases b with
  | true =>
    go_wp2
    go_ret
    exact ⟨by rw [HP.out]; rfl, hw⟩
  | false =>
    by_cases h24 : 24 < s.size
    · have hd : decide ((24 : Int) < (s.size : Int)) = true := decide_eq_true (by omega)
      go_wp2
      go_ret
      exact ⟨by rw [HP.out, if_neg (by simp), if_pos h24]; rfl, hw⟩
    · have hd : decide ((24 : Int) < (s.size : Int)) = false := decide_eq_false (by omega)
      go_wp2
      go_ret
      exact ⟨by rw [HP.out, if_neg (by simp), if_neg h24]; rfl, hw⟩

theorem nCheck (s : ByteArray) (hs : s.size ≤ 1000) (w : World) : Calls Try.prog 61 #[.string s] w (Grows (.int .i64 (nameN s.toList)) w) := by
  by_cases h : s.toList = [] ∨ s.toList = [46] ∨ s.toList = [46, 46]
  · have := check_odd s w h
    rwa [show nameN s.toList = 22 by unfold nameN; rw [if_pos h]]
  · have e : nameN s.toList = plainN s.toList := by unfold nameN; rw [if_neg h]
    rw [e]
    refine check_plain s hs ?_ ?_ ?_ w
    · cases hl : s.toList with
      | nil => exact absurd (.inl hl) h
      | cons a t => rfl
    · rw [beq_eq_false_iff_ne]; exact fun h' => h (.inr (.inl h'))
    · rw [beq_eq_false_iff_ne]; exact fun h' => h (.inr (.inr h'))

theorem nClone (s : ByteArray) (hs : s.size ≤ 1000000) (w : World) : Calls Try.prog 38 #[.string s] w fun e w' => e = .returned (.string s) ∧ Below w.heap.size w w' := by
  go_enter Try.func38, Try.ntmps38
  go_wp2_with fail
  refine (Try.stringslite_Clone s _ (by omega)).mono ?_
  rintro e w1 ⟨rfl, hw⟩
  go_wp2
  go_ret
  exact ⟨rfl, hw⟩
end Go.Proofs.Ytcimmfhbffofjaa
