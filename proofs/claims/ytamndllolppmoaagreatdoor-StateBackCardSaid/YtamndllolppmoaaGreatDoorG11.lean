import Derived.Test.YtamndllolppmoaaGreatDoorG06
import Derived.Test.YtamndllolppmoaaGreatDoorG09
import Derived.Test.YtamndllolppmoaaGreatDoorG10
import Derived.Test.YtamndllolppmoaaGreatDoorG01
import Derived.Test.YtamndllolppmoaaGreatDoorG02
import Derived.OwnWalk
import Derived.Laws.Strings2
import Derived.Test.YtamndllolppmoaaGreatDoorG08
import Derived.Laws.AppendOwn
import Derived.Laws.IdiomCopy

/-! What effects do to all nodes, plainly. -/
namespace Go.Proofs.YtamndllolppmoaaGreatDoor
open Wd Ino
set_option linter.unusedVariables false
def freeS (l : List Nod) (d : Int) (s : ByteArray) : Bool := decide (kindS l d = 2) && !hasN s (namesS l d)
def hasS (l : List Nod) (d : Int) (s : ByteArray) (i : Int) : Bool := hasN s (namesS l d) && decide (inoN s (namesS l d) = i)
def looseS (l : List Nod) (i k : Int) : Bool := decide (kindS l i = k) && (!decide (i = 1) && decide (namesS l i = []))
def enterS (l : List Nod) (d : Int) (s : ByteArray) (i : Int) : List Nod := modS l d (putNm s i)
def leaveS (l : List Nod) (d : Int) (s : ByteArray) : List Nod := modS l d (cutNm s)
def forgetS (l : List Nod) (d : Int) (s : ByteArray) (i : Int) : List Nod := if kindS (leaveS l d s) i = 2 then rmS (leaveS l d s) i else modS (leaveS l d s) i lessLk
def wayB (l : List Nod) : Nat → Int → Int → Bool
  | 0, i, d => decide (i = d)
  | n + 1, i, d => if i = d then true else if i = 1 ∨ kindS l i ≠ 2 then false else wayB l n (upS l i) d
def withinS (l : List Nod) (i d : Int) : Bool := wayB l l.length i d
def newNod (i k d : Int) : Nod := ⟨i, k, 1, 0, newUp k d, [], []⟩
def resNod (size : Int) (n : Nod) : Nod := { n with size := size, pages := fitP n.pages (needP size).toNat }
def putNod (page ref size : Int) (n : Nod) : Nod := { n with size := size, pages := putP n.pages page ref size }
def oneP (x : Int) : List Int := if x = 0 then [] else [x]

def makeS (S : Stt) (e : Eff) : Option Stt := if (freeS S.l e.dir e.name && decide (e.ino - 1 = S.last)) = true then some ⟨enterS (S.l ++ [newNod e.ino e.page e.dir]) e.dir e.name e.ino, e.ino⟩ else none
def linkS (S : Stt) (e : Eff) : Option Stt :=
  if (freeS S.l e.dir e.name && (decide (kindS S.l e.ino = 1) && (decide (1 ≤ (getS S.l e.ino).links) && decide ((getS S.l e.ino).links < 16)))) = true then some ⟨enterS (modS S.l e.ino moreLk) e.dir e.name e.ino, S.last⟩ else none
def removeS (S : Stt) (e : Eff) (k : Int) : Option Stt := if (hasS S.l e.dir e.name e.ino && looseS S.l e.ino k) = true then some ⟨forgetS S.l e.dir e.name e.ino, S.last⟩ else none
/-- a name goes from one directory to another one, where nothing has the new name any more -/
def moveS (l : List Nod) (e : Eff) : List Nod :=
  let l2 := enterS (leaveS l e.dir e.name) e.dst e.other e.ino
  if kindS l e.ino = 2 then modS l2 e.ino (setUp e.dst) else l2
def renameS (S : Stt) (e : Eff) : Option Stt :=
  if (hasS S.l e.dir e.name e.ino && (decide (kindS S.l e.dst = 2) && !(decide (kindS S.l e.ino = 2) && withinS S.l e.dst e.ino))) = true then
    (if hasN e.other (namesS S.l e.dst) = true then
      (if (!decide (inoN e.other (namesS S.l e.dst) = e.ino) && looseS S.l (inoN e.other (namesS S.l e.dst)) (kindS S.l e.ino)) = true then some ⟨moveS (forgetS S.l e.dst e.other (inoN e.other (namesS S.l e.dst))) e, S.last⟩ else none)
    else some ⟨moveS S.l e, S.last⟩)
  else none
def truncS (S : Stt) (e : Eff) : Option (Stt × List Int) := if kindS S.l e.ino = 1 then some (⟨modS S.l e.ino (resNod e.size), S.last⟩, refsP ((getS S.l e.ino).pages.drop (needP e.size).toNat)) else none
def writeS (S : Stt) (e : Eff) (ref : Int) : Option (Stt × List Int) :=
  if kindS S.l e.ino = 1 ∧ (getS S.l e.ino).size ≤ e.size then some (⟨modS S.l e.ino (putNod e.page ref e.size), S.last⟩, oneP (putV (getS S.l e.ino).pages e.page e.size)) else none
def dropS (S : Stt) (e : Eff) : Option (Stt × List Int) := if kindS S.l e.ino = 1 ∧ (getS S.l e.ino).links = 0 then some (⟨rmS S.l e.ino, S.last⟩, refsP (getS S.l e.ino).pages) else none
def bareS (o : Option Stt) : Option (Stt × List Int) := o.map fun S => (S, [])
def stepS (S : Stt) (e : Eff) (ref : Int) : Option (Stt × List Int) :=
  if e.kind = 1 then bareS (makeS S e) else if e.kind = 2 then bareS (linkS S e) else if e.kind = 3 then bareS (removeS S e 1) else if e.kind = 4 then bareS (removeS S e 2)
  else if e.kind = 5 then bareS (renameS S e) else if e.kind = 6 then truncS S e else if e.kind = 7 then writeS S e ref else if e.kind = 8 then dropS S e else none
/-- the state behind an effect -/
def nextS (S : Stt) (e : Eff) (ref : Int) : Stt := if e.check = true then (match stepS S e ref with | some x => x.1 | none => S) else S
def errS (S : Stt) (e : Eff) (ref : Int) : Int := if e.check = true then (if (stepS S e ref).isSome = true then 0 else 93) else 92

/-- numbers and lengths within bounds -/
structure SmN (n : Nod) : Prop where
  p : n.pages.length ≤ 1000
  q : n.names.length ≤ 900
  sz : ∀ e ∈ n.names, e.s.size ≤ 1000
  ino : i64R n.ino
  kind : i64R n.kind
  links : i64R n.links
  size : i64R n.size
  up : i64R n.up
  pg : ∀ x ∈ n.pages, i64R x
  nm : ∀ e ∈ n.names, i64R e.n
def SmS (l : List Nod) : Prop := ∀ n ∈ l, SmN n
theorem SmN.zero : SmN zeroN := by
  refine ⟨by decide, by decide, by simp [zeroN], ?_, ?_, ?_, ?_, ?_, by simp [zeroN], by simp [zeroN]⟩ <;> (unfold i64R zeroN; decide)
theorem SmS.get {l : List Nod} (h : SmS l) (i : Int) : SmN (getS l i) := by
  unfold getS
  cases hi : atS l i with
  | none => exact SmN.zero
  | some n => exact h n (atS_mem hi)
theorem get_mod {l : List Nod} {i : Int} {f : Nod → Nod} (hf : ∀ n, (f n).ino = n.ino) (j : Int) : getS (modS l i f) j = if j = i ∧ (atS l j).isSome = true then f (getS l j) else getS l j := by
  unfold getS
  rw [atS_mod hf]
  cases hj : atS l j with
  | none => simp
  | some n => by_cases e : j = i <;> simp [e]
theorem at_of_kind {l : List Nod} {i : Int} (h : kindS l i ≠ 0) : ∃ n, atS l i = some n ∧ getS l i = n := by
  unfold kindS getS at *
  cases hi : atS l i with
  | none => rw [hi] at h; exact absurd rfl h
  | some n => exact ⟨n, rfl, rfl⟩
theorem at_of_has {l : List Nod} {d : Int} {s : ByteArray} (h : hasN s (namesS l d) = true) : ∃ n, atS l d = some n ∧ getS l d = n := by
  unfold namesS getS at *
  cases hi : atS l d with
  | none => rw [hi] at h; cases h
  | some n => exact ⟨n, rfl, rfl⟩
end Go.Proofs.YtamndllolppmoaaGreatDoor

namespace Go.Proofs.YtamndllolppmoaaGreatDoor
set_option linter.unusedVariables false

/-- what stands between slashes -/
def cutS : List UInt8 → List UInt8 → List (List UInt8)
  | [], acc => [acc]
  | c :: t, acc => if c = 47 then acc :: cutS t [] else cutS t (acc ++ [c])
def keepS (ps : List (List UInt8)) : List (List UInt8) := ps.filter (fun p => !p.isEmpty)
def pieces (l : List UInt8) : List (List UInt8) := keepS (cutS l [])
def errOf : List (List UInt8) → Int
  | [] => 0
  | p :: ps => if nameN p = 0 then errOf ps else nameN p
/-- the error's number of a path -/
def pathE (l : List UInt8) : Int := if 120 < l.length then 36 else if l.head? = some 47 then errOf (pieces (l.drop 1)) else 22
/-- its names, if it has no error -/
def pathL (l : List UInt8) : List (List UInt8) := if pathE l = 0 then pieces (l.drop 1) else []

theorem errOf_zero {ps : List (List UInt8)} (h : ∀ p ∈ ps, nameN p = 0) : errOf ps = 0 := by
  induction ps with
  | nil => rfl
  | cons p ps ih =>
    show (if nameN p = 0 then errOf ps else nameN p) = 0
    rw [if_pos (h p (by simp))]
    exact ih (fun q hq => h q (by simp [hq]))
theorem errOf_first {ps qs : List (List UInt8)} {p : List UInt8} (h : ∀ p ∈ ps, nameN p = 0) (hp : nameN p ≠ 0) : errOf (ps ++ p :: qs) = nameN p := by
  induction ps with
  | nil => show (if nameN p = 0 then _ else nameN p) = _; rw [if_neg hp]
  | cons q ps ih =>
    show (if nameN q = 0 then errOf (ps ++ p :: qs) else nameN q) = _
    rw [if_pos (h q (by simp))]
    exact ih (fun r hr => h r (by simp [hr]))

/-- the part from f up to i -/
def seg (l : List UInt8) (f i : Nat) : List UInt8 := (l.drop f).take (i - f)
/-- how far it has been gone through -/
structure Gone (l : List UInt8) (f i : Nat) (out : List (List UInt8)) : Prop where
  fi : f ≤ i
  il : i ≤ l.length
  eq : out ++ keepS (cutS (l.drop i) (seg l f i)) = pieces (l.drop 1)
  good : ∀ p ∈ out, nameN p = 0
theorem Gone.start {l : List UInt8} (h : 1 ≤ l.length) : Gone l 1 1 [] :=
  ⟨Nat.le_refl _, h, by show [] ++ keepS (cutS (l.drop 1) (seg l 1 1)) = _; rw [show seg l 1 1 = [] by unfold seg; simp]; rfl, fun p hp => by cases hp⟩
theorem seg_snoc {l : List UInt8} {f i : Nat} {c : UInt8} (hf : f ≤ i) (hc : l[i]? = some c) : seg l f (i + 1) = seg l f i ++ [c] := by
  unfold seg
  rw [show i + 1 - f = (i - f) + 1 by omega, List.take_add_one, List.getElem?_drop, show f + (i - f) = i by omega, hc]; rfl
theorem drop_at {l : List UInt8} {i : Nat} {c : UInt8} (hc : l[i]? = some c) : l.drop i = c :: l.drop (i + 1) := by
  obtain ⟨h, rfl⟩ := List.getElem?_eq_some_iff.1 hc
  exact List.drop_eq_getElem_cons h
theorem seg_empty {l : List UInt8} {f i : Nat} (hi : i ≤ l.length) (hf : f ≤ i) : (seg l f i).isEmpty = decide (i ≤ f) := by
  have hlen : (seg l f i).length = i - f := by unfold seg; simp; omega
  by_cases h : i ≤ f
  · rw [decide_eq_true h, List.isEmpty_iff]
    exact List.eq_nil_of_length_eq_zero (by omega)
  · rw [decide_eq_false h]
    cases hs : seg l f i with
    | nil => rw [hs] at hlen; simp at hlen; omega
    | cons a t => rfl
theorem Gone.plain {l : List UInt8} {f i : Nat} {out : List (List UInt8)} {c : UInt8} (h : Gone l f i out) (hc : l[i]? = some c) (hne : c ≠ 47) : Gone l f (i + 1) out := by
  have hi := (List.getElem?_eq_some_iff.1 hc).1
  refine ⟨by have := h.fi; omega, hi, ?_, h.good⟩
  rw [← h.eq, drop_at hc, seg_snoc h.fi hc]
  conv => rhs; unfold cutS
  rw [if_neg hne]
theorem keep_cons (p : List UInt8) (ps : List (List UInt8)) : keepS (p :: ps) = if p.isEmpty then keepS ps else p :: keepS ps := by
  unfold keepS
  cases h : p.isEmpty
  · rw [List.filter_cons_of_pos (by rw [h]; rfl)]; rfl
  · rw [List.filter_cons_of_neg (by rw [h]; simp)]; rfl
/-- at a slash, with nothing ahead of it -/
theorem Gone.skip {l : List UInt8} {i : Nat} {out : List (List UInt8)} (h : Gone l i i out) (hc : l[i]? = some 47) : Gone l (i + 1) (i + 1) out := by
  have hi := (List.getElem?_eq_some_iff.1 hc).1
  refine ⟨Nat.le_refl _, hi, ?_, h.good⟩
  rw [← h.eq, drop_at hc, show seg l (i + 1) (i + 1) = [] by unfold seg; simp]
  conv => rhs; unfold cutS
  rw [if_pos rfl, keep_cons, seg_empty h.il h.fi, if_pos (by simp)]
theorem Gone.take {l : List UInt8} {f i : Nat} {out : List (List UInt8)} (h : Gone l f i out) (hf : f < i) (hc : l[i]? = some 47) (hn : nameN (seg l f i) = 0) : Gone l (i + 1) (i + 1) (out ++ [seg l f i]) := by
  have hi := (List.getElem?_eq_some_iff.1 hc).1
  refine ⟨Nat.le_refl _, hi, ?_, ?_⟩
  · rw [← h.eq, drop_at hc, show seg l (i + 1) (i + 1) = [] by unfold seg; simp]
    conv => rhs; unfold cutS
    rw [if_pos rfl, keep_cons, seg_empty h.il h.fi, if_neg (by simp; omega), List.append_assoc]; rfl
  · intro p hp
    rcases List.mem_append.1 hp with h1 | h1
    · exact h.good p h1
    · rw [List.mem_singleton.1 h1]; exact hn
theorem Gone.bad {l : List UInt8} {f i : Nat} {out : List (List UInt8)} (h : Gone l f i out) (hf : f < i) (hc : l[i]? = some 47 ∨ i = l.length) (hn : nameN (seg l f i) ≠ 0) : errOf (pieces (l.drop 1)) = nameN (seg l f i) := by
  rw [← h.eq]
  rcases hc with hc | rfl
  · rw [drop_at hc]
    unfold cutS
    rw [if_pos rfl, keep_cons, seg_empty h.il h.fi, if_neg (by simp; omega)]
    exact errOf_first h.good hn
  · rw [List.drop_length]
    unfold cutS
    rw [keep_cons, seg_empty h.il h.fi, if_neg (by simp; omega)]
    exact errOf_first h.good hn
theorem Gone.last {l : List UInt8} {f : Nat} {out : List (List UInt8)} (h : Gone l f l.length out) (hn : f < l.length → nameN (seg l f l.length) = 0) :
    (if f < l.length then out ++ [seg l f l.length] else out) = pieces (l.drop 1) ∧ errOf (pieces (l.drop 1)) = 0 := by
  have e : (if f < l.length then out ++ [seg l f l.length] else out) = pieces (l.drop 1) := by
    rw [← h.eq, List.drop_length]
    unfold cutS
    rw [keep_cons, seg_empty h.il h.fi]
    by_cases hf : f < l.length
    · rw [if_pos hf, if_neg (by simp; omega)]; rfl
    · rw [if_neg hf, if_pos (by simp; omega)]
      simp [keepS]
  refine ⟨e, ?_⟩
  rw [← e]
  apply errOf_zero
  intro p hp
  by_cases hf : f < l.length
  · rw [if_pos hf] at hp
    rcases List.mem_append.1 hp with h1 | h1
    · exact h.good p h1
    · rw [List.mem_singleton.1 h1]; exact hn hf
  · rw [if_neg hf] at hp
    exact h.good p hp
end Go.Proofs.YtamndllolppmoaaGreatDoor

namespace Go.Proofs.YtamndllolppmoaaGreatDoor
open Wd Go.ChangeShapes Go.WideShapes Go.RowKit Go.Sort
set_option linter.unusedVariables false

theorem infoStr : (Tryz.prog.info? 9).map (fun i => (i.zero, i.size, i.bytes)) = some (some (.string ByteArray.empty), 1, 16) := by kernel_rfl
theorem oneS (l : List ByteArray) : ∀ u ∈ l.map Value.string, u.oneCell' = true := by
  intro u hu
  obtain ⟨b, _, rfl⟩ := List.mem_map.1 hu
  rfl
theorem extract_list (s : ByteArray) (f i : Nat) : (s.extract f i).toList = seg s.toList f i := by
  rw [ByteArray.toList_eq, ByteArray.toList_eq]
  unfold seg
  obtain ⟨⟨l⟩⟩ := s
  rw [ByteArray.extract_mk]
theorem get_list (s : ByteArray) (k : Nat) (h : k < s.size) : s.toList[k]? = some s[k] := by
  have hl : k < s.toList.length := by rw [size_list]; exact h
  rw [List.getElem?_eq_getElem hl]
  congr 1
  simp [ByteArray.toList_eq]
  rfl

def SplitRel (s : ByteArray) (W : World) (iv fv o : Value) (w : World) : Prop :=
  ∃ (i f : Nat) (bs : List ByteArray), iv = .int .i64 i ∧ fv = .int .i64 f ∧ i ≤ s.size + 1 ∧ bs.length ≤ i ∧ w.ownsRow W.heap.size 9 1 o bs.length (bs.map Value.string) ∧ Below W.heap.size W w ∧
    (i ≤ s.size → Gone s.toList f i (bs.map ByteArray.toList)) ∧ (s.size < i → bs.map ByteArray.toList = pieces (s.toList.drop 1) ∧ errOf (pieces (s.toList.drop 1)) = 0)
def SplitDone (l : List UInt8) (W : World) (e : Ending) (w : World) : Prop :=
  ∃ (v : Value) (bs : List ByteArray), e = .returned (.tuple #[v, .int .i64 (pathE l)]) ∧ bs.map ByteArray.toList = pathL l ∧ w.ownsRow W.heap.size 9 1 v bs.length (bs.map Value.string) ∧ Below W.heap.size W w

set_option maxHeartbeats 2000000 in
theorem split_good (s : ByteArray) (w : World) (hs : s.size ≤ 120) (h0 : 0 < s.size) (hc : (s[0].toNat : Int) = 47) (hE : pathE s.toList = errOf (pieces (s.toList.drop 1))) :
    Calls Tryz.prog 36 #[.string s] w (SplitDone s.toList w) := by
  have hd : decide ((120 : Int) < (s.size : Int)) = false := decide_eq_false (by omega)
  have hemp : s.toList.isEmpty = false := by
    cases hl : s.toList with
    | nil => have := size_list s; rw [hl] at this; simp at this; omega
    | cons a t => rfl
  have q1 : ((s[0].toNat : Int) != 47) = false := by rw [hc]; rfl
  have HE := Lib.hid hE
  clear hE hc
  go_enter Tryz.func36, Tryz.ntmps36
  go_wp2
  go_loopw [6, 5, 4] (fun i f o wr => SplitRel s w i f o wr) (fun i _ _ _ => s.size + 1 - (intOf i).toNat)
  case atStart => exact ⟨1, 1, [], rfl, rfl, by omega, Nat.zero_le _, ⟨rfl, .inl ⟨rfl, rfl⟩⟩, Below.refl _ _, fun h => Gone.start (by rw [size_list]; exact h), fun h => by omega⟩
  case round =>
    obtain ⟨i, f, bs, rfl, rfl, hi, hbl, hown, hb, hgo, hend⟩ := hrel
    have HO := Lib.hid hown; have HB := Lib.hid hb
    by_cases hle : i ≤ s.size
    · have HG := Lib.hid (hgo hle)
      have hfi := (hgo hle).fi
      clear hown hb hgo hend
      by_cases hlt : i < s.size
      · have hget := get_list s i hlt
        have HGET := Lib.hid hget
        clear hget
        by_cases hc : s[i] = 47
        · have q2 : ((s[i].toNat : Int) != 47) = false := by rw [hc]; rfl
          have HC := Lib.hid hc
          clear hc
          by_cases hf : f < i
          · obtain ⟨m, hm⟩ : ∃ m, nameN (s.extract f i).toList = m := ⟨_, rfl⟩
            have hm' : nameN (seg s.toList f i) = m := by rw [← extract_list]; exact hm
            have HM := Lib.hid hm; have HM2 := Lib.hid hm'
            clear hm hm'
            go_wp2_with fail
            refine (refName_any (s.extract f i) (by rw [ByteArray.size_extract]; omega) _).mono ?_
            rintro e w5 ⟨rfl, rfl⟩
            rw [HM.out]
            by_cases hm0 : m = 0
            · subst hm0
              have hbs := HB.out.size
              obtain ⟨wo, rfl⟩ : ∃ wo : World, wo = wr := ⟨_, rfl⟩
              go_wp2_with (at_builtin; refine wpList_append_row _ rfl (.tmp 45) (.tmp 50) 72 rfl w.heap.size 9 (.string ByteArray.empty) 16 Tryz.underlying72 infoStr rfl _ bs.length (bs.map Value.string) rfl (HO.out.alloc _) _ (some ⟨wo.heap.size, 0, none⟩) 1 1 [.string (s.extract f i)] rfl (Row.one _ _ _) (by simp [Value.oneCell']) (by unfold maxLen; omega) (by omega) (by simp; omega) ?_; intro v5 w5 hown5 hgr5 hat5; have hb5 : Below w.heap.size w w5 := (HB.out.alloc hbs _).grown hgr5 (by simp; omega) (own_base HO.out); have ho5 : w5.ownsRow w.heap.size 9 1 v5 (bs ++ [s.extract f i]).length ((bs ++ [s.extract f i]).map Value.string) := (by rw [List.map_append, List.length_append]; exact hown5); have HO5 := Lib.hid ho5; have HB5 := Lib.hid hb5; clear hown5 hgr5 hat5 hb5 ho5)
              go_roundw
              case rel =>
                refine ⟨i + 1, i + 1, bs ++ [s.extract f i], by go_num, by go_num, by omega, by rw [List.length_append]; simp; omega, HO5.out, HB5.out, ?_, ?_⟩
                · intro _
                  have := HG.out.take hf (by rw [HGET.out, HC.out]) HM2.out
                  rw [List.map_append, List.map_cons, List.map_nil, extract_list]
                  exact this
                · intro h; omega
              case measure => simp [intOf]; omega
            · have hne : (m != 0) = true := by rw [bne_iff_ne]; exact hm0
              have HM0 := Lib.hid hm0
              clear hm0
              go_wp2
              go_ret2
              have he : errOf (pieces (s.toList.drop 1)) = m := by
                have := HG.out.bad hf (.inl (by rw [HGET.out, HC.out])) (by rw [HM2.out]; exact HM0.out)
                rw [this, HM2.out]
              refine ⟨.slice none 0 0, [], ?_, ?_, ⟨rfl, .inl ⟨rfl, rfl⟩⟩, HB.out⟩
              · rw [HE.out, he]; rfl
              · unfold pathL
                rw [HE.out, he, if_neg HM0.out]; rfl
          · obtain rfl : f = i := by omega
            go_wp2
            go_roundw
            case rel =>
              refine ⟨f + 1, f + 1, bs, by go_num, by go_num, by omega, by omega, HO.out, HB.out, ?_, ?_⟩
              · intro _; exact HG.out.skip (by rw [HGET.out, HC.out])
              · intro h; omega
            case measure => simp [intOf]; omega
        · have q2 : ((s[i].toNat : Int) != 47) = true := by
            rw [bne_iff_ne]
            intro h
            have h47 : s[i].toNat = 47 := by omega
            exact hc (UInt8.toNat_inj.1 h47)
          have HC := Lib.hid hc
          clear hc
          go_wp2
          go_roundw
          case rel => exact ⟨i + 1, f, bs, by go_num, rfl, by omega, by omega, HO.out, HB.out, fun _ => HG.out.plain HGET.out HC.out, fun h => by omega⟩
          case measure => simp [intOf]; omega
      · have hin : i = s.size := by omega
        have HIN := Lib.hid hin
        clear hin
        by_cases hf : f < i
        · obtain ⟨m, hm⟩ : ∃ m, nameN (s.extract f i).toList = m := ⟨_, rfl⟩
          have hm' : nameN (seg s.toList f i) = m := by rw [← extract_list]; exact hm
          have HM := Lib.hid hm; have HM2 := Lib.hid hm'
          clear hm hm'
          go_wp2_with fail
          refine (refName_any (s.extract f i) (by rw [ByteArray.size_extract]; omega) _).mono ?_
          rintro e w5 ⟨rfl, rfl⟩
          rw [HM.out]
          by_cases hm0 : m = 0
          · subst hm0
            have hbs := HB.out.size
            obtain ⟨wo, rfl⟩ : ∃ wo : World, wo = wr := ⟨_, rfl⟩
            go_wp2_with (at_builtin; refine wpList_append_row _ rfl (.tmp 45) (.tmp 50) 72 rfl w.heap.size 9 (.string ByteArray.empty) 16 Tryz.underlying72 infoStr rfl _ bs.length (bs.map Value.string) rfl (HO.out.alloc _) _ (some ⟨wo.heap.size, 0, none⟩) 1 1 [.string (s.extract f i)] rfl (Row.one _ _ _) (by simp [Value.oneCell']) (by unfold maxLen; omega) (by omega) (by simp; omega) ?_; intro v5 w5 hown5 hgr5 hat5; have hb5 : Below w.heap.size w w5 := (HB.out.alloc hbs _).grown hgr5 (by simp; omega) (own_base HO.out); have ho5 : w5.ownsRow w.heap.size 9 1 v5 (bs ++ [s.extract f i]).length ((bs ++ [s.extract f i]).map Value.string) := (by rw [List.map_append, List.length_append]; exact hown5); have HO5 := Lib.hid ho5; have HB5 := Lib.hid hb5; clear hown5 hgr5 hat5 hb5 ho5)
            go_roundw
            case rel =>
              refine ⟨i + 1, i + 1, bs ++ [s.extract f i], by go_num, by go_num, by omega, by rw [List.length_append]; simp; omega, HO5.out, HB5.out, ?_, ?_⟩
              · intro h; omega
              · intro _
                have hsz := size_list s
                have hg := HG.out
                have hl := (show Gone s.toList f s.toList.length (bs.map ByteArray.toList) by rw [hsz, ← HIN.out]; exact hg).last (fun _ => by rw [hsz, ← HIN.out]; exact HM2.out)
                rw [hsz, ← HIN.out, if_pos hf] at hl
                rw [List.map_append, List.map_cons, List.map_nil, extract_list]
                exact hl
            case measure => simp [intOf]; omega
          · have hne : (m != 0) = true := by rw [bne_iff_ne]; exact hm0
            have HM0 := Lib.hid hm0
            clear hm0
            go_wp2
            go_ret2
            have he : errOf (pieces (s.toList.drop 1)) = m := by
              have := HG.out.bad hf (.inr (by rw [size_list]; exact HIN.out)) (by rw [HM2.out]; exact HM0.out)
              rw [this, HM2.out]
            refine ⟨.slice none 0 0, [], ?_, ?_, ⟨rfl, .inl ⟨rfl, rfl⟩⟩, HB.out⟩
            · rw [HE.out, he]; rfl
            · unfold pathL
              rw [HE.out, he, if_neg HM0.out]; rfl
        · obtain rfl : f = i := by omega
          go_wp2
          go_roundw
          case rel =>
            refine ⟨f + 1, f + 1, bs, by go_num, by go_num, by omega, by omega, HO.out, HB.out, ?_, ?_⟩
            · intro h; omega
            · intro _
              have hsz := size_list s
              have hg := HG.out
              have hl := (show Gone s.toList f s.toList.length (bs.map ByteArray.toList) by rw [hsz, ← HIN.out]; exact hg).last (fun h => by have := HIN.out; omega)
              rw [hsz, if_neg (by have := HIN.out; omega)] at hl
              exact hl
          case measure => simp [intOf]; omega
    · have HEND := Lib.hid (hend (by omega))
      clear hown hb hgo hend
      go_wp2
      go_ret2
      refine ⟨_, bs, ?_, ?_, HO.out, HB.out⟩
      · rw [HE.out, HEND.out.2]; rfl
      · unfold pathL; rw [HE.out, HEND.out.2, if_pos rfl]; exact HEND.out.1
end Go.Proofs.YtamndllolppmoaaGreatDoor

namespace Go.Proofs.YtamndllolppmoaaGreatDoor
open Wd Ino Go.RowKit Go.ChangeShapes Go.WideShapes Go.Sort
set_option linter.unusedVariables false
set_option maxRecDepth 100000

/-! Find, Names and Count -/
theorem look_at {s : ByteArray} {l : List Ent} (h : hasN s l = true) : ∃ e, l[lookN s l]? = some e ∧ inoN s l = e.n := by
  have hk : l.findIdx (nameIs s) < l.length := List.findIdx_lt_length.2 (by obtain ⟨e, he, hs⟩ := List.any_eq_true.1 h; exact ⟨e, he, hs⟩)
  have he : l[l.findIdx (nameIs s)]? = some l[l.findIdx (nameIs s)] := List.getElem?_eq_getElem hk
  have h0 : ∀ x ∈ l.take (l.findIdx (nameIs s)), nameIs s x = false := fun x hx => by
    obtain ⟨i, hi, rfl⟩ := List.mem_take_iff_getElem.1 hx
    simpa using List.not_of_lt_findIdx (show i < l.findIdx (nameIs s) by omega)
  have hy := look_yes h0 he (List.findIdx_getElem (w := hk))
  exact ⟨_, by rw [hy.2.1]; exact he, hy.2.2⟩
set_option maxHeartbeats 4000000 in
theorem dFind {w : World} {hi : Nat} {A : Option Addr} {c : Nat} {l : List Ent} (h : Ens w hi A l) (hh : hi ≤ w.heap.size) (hm : l.length ≤ 1000) (s : ByteArray) : Calls Tryz.prog 35 #[.slice A l.length c, .string s] w (Grows (.tuple #[.int .i64 (inoN s l), .bool (hasN s l)]) w) := by
  have H := Lib.hid h
  have K := Lib.hid (dLook (c := c) h hh hm s)
  clear h
  cases hn : hasN s l with
  | true =>
    obtain ⟨e, he, hi'⟩ := look_at hn
    obtain ⟨k, hk⟩ : ∃ k, lookN s l = k := ⟨_, rfl⟩
    rw [hn, hk] at K
    rw [hk] at he
    have hlt : k < l.length := (List.getElem?_eq_some_iff.1 he).1
    have i1 : (k : Int) < (l.length : Int) := Int.ofNat_lt.2 hlt
    have i0 : (0 : Int) ≤ (k : Int) := by omega
    have HE := Lib.hid he; have HI := Lib.hid hi'
    clear he hi' hk hn
    go_enter Tryz.func35, Tryz.ntmps35
    go_wp2_with fail
    refine K.out.mono ?_
    rintro e1 w1 ⟨rfl, hw1⟩
    have HG := Lib.hid hw1
    obtain ⟨b, off, rfl, _, x0, x1⟩ := ens_cells (H.out.below ((grown_self hw1).mono hh)) HE.out
    clear hw1 K
    go_wp2_with fail
    go_ret2
    exact ⟨by rw [HI.out]; rfl, HG.out⟩
  | false =>
    have HI := Lib.hid (inoN_none hn)
    rw [hn] at K
    clear hn
    go_enter Tryz.func35, Tryz.ntmps35
    go_wp2_with fail
    refine K.out.mono ?_
    rintro e1 w1 ⟨rfl, hw1⟩
    have HG := Lib.hid hw1
    clear hw1 K
    go_wp2_with fail
    go_ret2
    exact ⟨by rw [HI.out]; rfl, HG.out⟩

theorem countN_snoc {n : Int} {l : List Ent} {k : Nat} {e : Ent} (he : l[k]? = some e) : countN n (l.take (k + 1)) = countN n (l.take k) + (if e.n = n then 1 else 0) := by
  rw [take_snoc he]
  unfold countN
  rw [List.countP_append, List.countP_singleton]
  by_cases h : e.n = n <;> simp [h]
def CountRel (n : Int) (l : List Ent) (w : World) (v i : Value) (wr : World) : Prop := ∃ k m : Nat, k ≤ l.length ∧ i = .int .i64 k ∧ v = .int .i64 m ∧ countN n (l.take k) = m ∧ m ≤ k ∧ ∃ q os, wr = grow (w.drewN q) os
/-- a row of texts of the call's own -/
def textsV (l : List Ent) : List Value := (l.map Ent.s).map Value.string
def MadeS (l : List Ent) (w : World) (e : Ending) (w' : World) : Prop := ∃ v, e = .returned v ∧ w'.ownsRow w.heap.size 9 1 v l.length (textsV l) ∧ Below w.heap.size w w'
def NamesRel (l : List Ent) (v0 : Value) (w : World) (v i : Value) (wr : World) : Prop := ∃ k : Nat, k ≤ l.length ∧ i = .int .i64 k ∧ OwnE wr w.heap.size v0 l ∧ wr.ownsRow w.heap.size 9 1 v k (textsV (l.take k)) ∧ (∀ g, v.ownBlock = some g → v0.ownBlock ≠ some g) ∧ Below w.heap.size w wr
theorem textsV_snoc {l : List Ent} {k : Nat} {e : Ent} (he : l[k]? = some e) : textsV (l.take (k + 1)) = textsV (l.take k) ++ [.string e.s] := by
  unfold textsV
  rw [take_snoc he, List.map_append, List.map_append]; rfl
theorem textsV_len (l : List Ent) : (textsV l).length = l.length := by unfold textsV; simp
theorem row_one (w : World) (v : Value) (t : TypeId) : Row (w.alloc (.cells #[v] t)) (w.heap.size + 1) (some ⟨w.heap.size, 0, none⟩) 1 [v] := by
  have := Row.one w v t
  simpa using this
theorem oneSt (s : ByteArray) : ∀ u ∈ [Value.string s], u.oneCell' = true := by
  intro u hu
  rw [List.mem_singleton.1 hu]; rfl
theorem OwnE.grown {w w' : World} {base : Nat} {v u : Value} {l : List Ent} (h : OwnE w base v l) (hg : w.grownBy w' u.ownBlock) (hne : ∀ g, u.ownBlock = some g → v.ownBlock ≠ some g) : OwnE w' base v l := by
  refine ⟨h.1, ?_⟩
  rcases h.2 with ⟨h1, h0⟩ | ⟨g, cap, cur, h1, h2, hh, h3⟩
  · exact .inl ⟨h1, h0⟩
  · refine .inr ⟨g, cap, cur, h1, h2, ?_, h3⟩
    refine (hg.block g (lt_of_block hh) (fun e => hne g e.symm ?_)).trans hh
    rw [h1]; rfl
theorem own_lt' {w : World} {base : Nat} {t : TypeId} {v : Value} {n : Nat} {xs : List Value} (h : w.ownsRow base t 1 v n xs) : ∀ q, v.ownBlock = some q → q < w.heap.size := by
  intro q hq
  rcases h.2 with ⟨rfl, _⟩ | ⟨g, cap, cur, rfl, _, hh, _⟩
  · cases hq
  · have : g = q := by simpa [Value.ownBlock] using hq
    subst this
    exact lt_of_block hh
theorem own_at {w w' : World} {base : Nat} {t : TypeId} {v : Value} {n : Nat} {xs : List Value} (h : w.ownsRow base t 1 v n xs) (hb : Below w.heap.size w w') : w'.ownsRow base t 1 v n xs := by
  refine ⟨h.1, ?_⟩
  rcases h.2 with ⟨h1, h0⟩ | ⟨g, cap, cur, h1, h2, hh, h3⟩
  · exact .inl ⟨h1, h0⟩
  · exact .inr ⟨g, cap, cur, h1, h2, (hb.block g (lt_of_block hh)).trans hh, h3⟩
end Go.Proofs.YtamndllolppmoaaGreatDoor

namespace Go.Proofs.YtamndllolppmoaaGreatDoor
open Wd Ino Go.RowKit Go.ChangeShapes Go.WideShapes Go.ChangeAt Go.Deep Go.Sort
set_option linter.unusedVariables false
set_option maxRecDepth 100000

/-! copy and clear, of rows of names -/
def zE : Value := .agg #[.string ByteArray.empty, .int .i64 0]
theorem zE_size (n : Nat) : (Builtin.zeroCells zE.cells n).size = n * 2 := by rw [size_zeroCells]; rfl
theorem zE_one (n : Nat) : ∀ u ∈ (Builtin.zeroCells zE.cells n).toList, u.oneCell' = true := by
  intro u hu
  unfold Builtin.zeroCells at hu
  rw [Array.toList_map] at hu
  obtain ⟨i, _, rfl⟩ := List.mem_map.1 hu
  have h2 : zE.cells = #[.string ByteArray.empty, .int .i64 0] := rfl
  rw [h2]
  have h3 : i % (#[Value.string ByteArray.empty, Value.int .i64 0] : Array Value).size = 0 ∨ i % (#[Value.string ByteArray.empty, Value.int .i64 0] : Array Value).size = 1 := by
    show i % 2 = 0 ∨ i % 2 = 1
    omega
  rcases h3 with h3 | h3 <;> rw [h3] <;> rfl
theorem evals_one (l : List Ent) : ∀ u ∈ evals l, u.oneCell' = true := by
  intro u hu
  obtain ⟨e, _, he⟩ := List.mem_flatMap.1 hu
  exact one2 e u he
/-- copy: es lie at a, and go to place o of block g -/
theorem copy_ents (w : World) (ty : TypeId) (g o dLen dCap : Nat) (a : Addr) (sLen sCap : Nat) (cur : Array Value) (t : TypeId) (es : List Ent) (hg : Cells w g t cur) (hn : es.length = Nat.min sLen dLen)
    (hsrc : ∀ (j : Nat) v, (evals es)[j]? = some v → w.cell? (a.add j) = some v) (hfit : o + es.length * 2 ≤ cur.size) :
    (Builtin.copy_ #[36, 36] ty #[.slice (some ⟨g, o, none⟩) dLen dCap, .slice (some a) sLen sCap]).run Tryz.prog w =
      .ok (goInt es.length) (w.setRow g (cur.toList.take o ++ evals es ++ cur.toList.drop (o + es.length * 2)).toArray) := by
  obtain ⟨i, i1, i2, i3, i4⟩ := info_parts infoE
  have hl := run_loadCells_list (P := Tryz.prog) w a (evals es) hsrc
  have hst := run_storeCells_at Tryz.prog g o t (evals es) 0 cur w hg (by rw [evals_len]; simpa using hfit) (evals_one es)
  rw [evals_len, Nat.add_zero] at hst
  rw [evals_len] at hl
  simp [Builtin.copy_, run_underlying Tryz.underlying36, Builtin.lenOf, Builtin.firstCells, Go.sizeOf, typeInfo, i1, i3, ← hn, hl, hst]
theorem clear_ents (w : World) (ty : TypeId) (g o n c : Nat) (cur : Array Value) (t : TypeId) (hg : Cells w g t cur) (h0 : 0 < n) (hfit : o + n * 2 ≤ cur.size) :
    (Builtin.clear_ #[36] ty #[.slice (some ⟨g, o, none⟩) n c]).run Tryz.prog w =
      .ok (.tuple #[]) (w.setRow g (cur.toList.take o ++ (Builtin.zeroCells zE.cells n).toList ++ cur.toList.drop (o + n * 2)).toArray) := by
  obtain ⟨i, i1, i2, i3, i4⟩ := info_parts infoE
  have hst := run_storeCells_at Tryz.prog g o t (Builtin.zeroCells zE.cells n).toList 0 cur w hg (by rw [Array.length_toList, zE_size]; simpa using hfit) (zE_one n)
  rw [Array.length_toList, zE_size, Nat.add_zero] at hst
  have hz : (zeroValue 97).run Tryz.prog w = .ok zE w := by
    simp [zeroValue, typeInfo, i1, i2]
    rfl
  obtain ⟨m, rfl⟩ : ∃ m, n = m + 1 := ⟨n - 1, by omega⟩
  simp [Builtin.clear_, run_underlying Tryz.underlying36, hz, hst]
theorem below_setRow {w : World} {base g : Nat} {cs : Array Value} (hg : base ≤ g) : Below base w (w.setRow g cs) :=
  ⟨rfl, rfl, rfl, by simp, fun k hk => setRow_other w g k cs (by omega)⟩
theorem cells_setRow {w : World} {g : Nat} {t : TypeId} {cur cs : Array Value} (h : Cells w g t cur) : Cells (w.setRow g cs) g t cs := setRow_heap w g cur cs t (0, 0) h
end Go.Proofs.YtamndllolppmoaaGreatDoor
