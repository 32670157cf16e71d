import Derived.Test.YtbejbiogabpmfaaGreatG06
import Derived.Test.YtbejbiogabpmfaaGreatG10
import Derived.Test.YtbejbiogabpmfaaGreatG11
import Derived.Test.YtbejbiogabpmfaaGreatG05
import Derived.Test.YtbejbiogabpmfaaGreatG00
import Derived.OwnWalk
import Derived.Laws.Strings2
import Derived.Test.YtbejbiogabpmfaaGreatG08
import Derived.Laws.AppendOwn
import Derived.Laws.IdiomCopy

/-! What effects do to all nodes, plainly. -/
namespace Go.Proofs.YtbejbiogabpmfaaGreat
open Wd Ino
set_option linter.unusedVariables false
def freeS (l : List Nod) (d : Int) (s : ByteArray) : Bool := decide (kindS l d = 2) && !hasN s (namesS l d)
def hasS (l : List Nod) (d : Int) (s : ByteArray) (i : Int) : Bool := hasN s (namesS l d) && decide (inoN s (namesS l d) = i)
def looseS (l : List Nod) (i k : Int) : Bool := decide (kindS l i = k) && (!decide (i = 1) && decide (namesS l i = []))
def enterS (l : List Nod) (d : Int) (s : ByteArray) (i : Int) : List Nod := modS l d (putNm s i)
def leaveS (l : List Nod) (d : Int) (s : ByteArray) : List Nod := modS l d (cutNm s)
def forgetS (l : List Nod) (d : Int) (s : ByteArray) (i : Int) : List Nod := if kindS (leaveS l d s) i = 2 then rmS (leaveS l d s) i else modS (leaveS l d s) i lessLk
def wayB (l : List Nod) : Nat → Int → Int → Bool
  | 0, i, d => decide (i = d)
  | n + 1, i, d => if i = d then true else if i = 1 ∨ kindS l i ≠ 2 then false else wayB l n (upS l i) d
def withinS (l : List Nod) (i d : Int) : Bool := wayB l l.length i d
def newNod (i k d : Int) : Nod := ⟨i, k, 1, 0, newUp k d, [], []⟩
def resNod (size : Int) (n : Nod) : Nod := { n with size := size, pages := fitP n.pages (needP size).toNat }
def putNod (page ref size : Int) (n : Nod) : Nod := { n with size := size, pages := putP n.pages page ref size }
def oneP (x : Int) : List Int := if x = 0 then [] else [x]

def makeS (S : Stt) (e : Eff) : Option Stt := if (freeS S.l e.dir e.name && decide (e.ino - 1 = S.last)) = true then some ⟨enterS (S.l ++ [newNod e.ino e.page e.dir]) e.dir e.name e.ino, e.ino⟩ else none
def linkS (S : Stt) (e : Eff) : Option Stt :=
  if (freeS S.l e.dir e.name && (decide (kindS S.l e.ino = 1) && (decide (1 ≤ (getS S.l e.ino).links) && decide ((getS S.l e.ino).links < 16)))) = true then some ⟨enterS (modS S.l e.ino moreLk) e.dir e.name e.ino, S.last⟩ else none
def removeS (S : Stt) (e : Eff) (k : Int) : Option Stt := if (hasS S.l e.dir e.name e.ino && looseS S.l e.ino k) = true then some ⟨forgetS S.l e.dir e.name e.ino, S.last⟩ else none
/-- a name goes from one directory to another one, where nothing has the new name any more -/
def moveS (l : List Nod) (e : Eff) : List Nod :=
  let l2 := enterS (leaveS l e.dir e.name) e.dst e.other e.ino
  if kindS l e.ino = 2 then modS l2 e.ino (setUp e.dst) else l2
def renameS (S : Stt) (e : Eff) : Option Stt :=
  if (hasS S.l e.dir e.name e.ino && (decide (kindS S.l e.dst = 2) && !(decide (kindS S.l e.ino = 2) && withinS S.l e.dst e.ino))) = true then
    (if hasN e.other (namesS S.l e.dst) = true then
      (if (!decide (inoN e.other (namesS S.l e.dst) = e.ino) && looseS S.l (inoN e.other (namesS S.l e.dst)) (kindS S.l e.ino)) = true then some ⟨moveS (forgetS S.l e.dst e.other (inoN e.other (namesS S.l e.dst))) e, S.last⟩ else none)
    else some ⟨moveS S.l e, S.last⟩)
  else none
def truncS (S : Stt) (e : Eff) : Option (Stt × List Int) := if kindS S.l e.ino = 1 then some (⟨modS S.l e.ino (resNod e.size), S.last⟩, refsP ((getS S.l e.ino).pages.drop (needP e.size).toNat)) else none
def writeS (S : Stt) (e : Eff) (ref : Int) : Option (Stt × List Int) :=
  if kindS S.l e.ino = 1 ∧ (getS S.l e.ino).size ≤ e.size then some (⟨modS S.l e.ino (putNod e.page ref e.size), S.last⟩, oneP (putV (getS S.l e.ino).pages e.page e.size)) else none
def dropS (S : Stt) (e : Eff) : Option (Stt × List Int) := if kindS S.l e.ino = 1 ∧ (getS S.l e.ino).links = 0 then some (⟨rmS S.l e.ino, S.last⟩, refsP (getS S.l e.ino).pages) else none
def bareS (o : Option Stt) : Option (Stt × List Int) := o.map fun S => (S, [])
def stepS (S : Stt) (e : Eff) (ref : Int) : Option (Stt × List Int) :=
  if e.kind = 1 then bareS (makeS S e) else if e.kind = 2 then bareS (linkS S e) else if e.kind = 3 then bareS (removeS S e 1) else if e.kind = 4 then bareS (removeS S e 2)
  else if e.kind = 5 then bareS (renameS S e) else if e.kind = 6 then truncS S e else if e.kind = 7 then writeS S e ref else if e.kind = 8 then dropS S e else none
/-- the state behind an effect -/
def nextS (S : Stt) (e : Eff) (ref : Int) : Stt := if e.check = true then (match stepS S e ref with | some x => x.1 | none => S) else S
def errS (S : Stt) (e : Eff) (ref : Int) : Int := if e.check = true then (if (stepS S e ref).isSome = true then 0 else 93) else 92

/-- numbers and lengths within bounds -/
structure SmN (n : Nod) : Prop where
  p : n.pages.length ≤ 1000
  q : n.names.length ≤ 900
  sz : ∀ e ∈ n.names, e.s.size ≤ 1000
  ino : i64R n.ino
  kind : i64R n.kind
  links : i64R n.links
  size : i64R n.size
  up : i64R n.up
  pg : ∀ x ∈ n.pages, i64R x
  nm : ∀ e ∈ n.names, i64R e.n
def SmS (l : List Nod) : Prop := ∀ n ∈ l, SmN n
theorem SmN.zero : SmN zeroN := by
  refine ⟨by decide, by decide, by simp [zeroN], ?_, ?_, ?_, ?_, ?_, by simp [zeroN], by simp [zeroN]⟩ <;> (unfold i64R zeroN; decide)
theorem SmS.get {l : List Nod} (h : SmS l) (i : Int) : SmN (getS l i) := by
  unfold getS
  cases hi : atS l i with
  | none => exact SmN.zero
  | some n => exact h n (atS_mem hi)
theorem get_mod {l : List Nod} {i : Int} {f : Nod → Nod} (hf : ∀ n, (f n).ino = n.ino) (j : Int) : getS (modS l i f) j = if j = i ∧ (atS l j).isSome = true then f (getS l j) else getS l j := by
  unfold getS
  rw [atS_mod hf]
  cases hj : atS l j with
  | none => simp
  | some n => by_cases e : j = i <;> simp [e]
theorem at_of_kind {l : List Nod} {i : Int} (h : kindS l i ≠ 0) : ∃ n, atS l i = some n ∧ getS l i = n := by
  unfold kindS getS at *
  cases hi : atS l i with
  | none => rw [hi] at h; exact absurd rfl h
  | some n => exact ⟨n, rfl, rfl⟩
theorem at_of_has {l : List Nod} {d : Int} {s : ByteArray} (h : hasN s (namesS l d) = true) : ∃ n, atS l d = some n ∧ getS l d = n := by
  unfold namesS getS at *
  cases hi : atS l d with
  | none => rw [hi] at h; cases h
  | some n => exact ⟨n, rfl, rfl⟩
end Go.Proofs.YtbejbiogabpmfaaGreat

namespace Go.Proofs.YtbejbiogabpmfaaGreat
set_option linter.unusedVariables false

/-- what stands between slashes -/
def cutS : List UInt8 → List UInt8 → List (List UInt8)
  | [], acc => [acc]
  | c :: t, acc => if c = 47 then acc :: cutS t [] else cutS t (acc ++ [c])
def keepS (ps : List (List UInt8)) : List (List UInt8) := ps.filter (fun p => !p.isEmpty)
def pieces (l : List UInt8) : List (List UInt8) := keepS (cutS l [])
def errOf : List (List UInt8) → Int
  | [] => 0
  | p :: ps => if nameN p = 0 then errOf ps else nameN p
/-- the error's number of a path -/
def pathE (l : List UInt8) : Int := if 120 < l.length then 36 else if l.head? = some 47 then errOf (pieces (l.drop 1)) else 22
/-- its names, if it has no error -/
def pathL (l : List UInt8) : List (List UInt8) := if pathE l = 0 then pieces (l.drop 1) else []

theorem errOf_zero {ps : List (List UInt8)} (h : ∀ p ∈ ps, nameN p = 0) : errOf ps = 0 := by
  induction ps with
  | nil => rfl
  | cons p ps ih =>
    show (if nameN p = 0 then errOf ps else nameN p) = 0
    rw [if_pos (h p (by simp))]
    exact ih (fun q hq => h q (by simp [hq]))
theorem errOf_first {ps qs : List (List UInt8)} {p : List UInt8} (h : ∀ p ∈ ps, nameN p = 0) (hp : nameN p ≠ 0) : errOf (ps ++ p :: qs) = nameN p := by
  induction ps with
  | nil => show (if nameN p = 0 then _ else nameN p) = _; rw [if_neg hp]
  | cons q ps ih =>
    show (if nameN q = 0 then errOf (ps ++ p :: qs) else nameN q) = _
    rw [if_pos (h q (by simp))]
    exact ih (fun r hr => h r (by simp [hr]))

/-- the part from f up to i -/
def seg (l : List UInt8) (f i : Nat) : List UInt8 := (l.drop f).take (i - f)
/-- how far it has been gone through -/
structure Gone (l : List UInt8) (f i : Nat) (out : List (List UInt8)) : Prop where
  fi : f ≤ i
  il : i ≤ l.length
  eq : out ++ keepS (cutS (l.drop i) (seg l f i)) = pieces (l.drop 1)
  good : ∀ p ∈ out, nameN p = 0
theorem Gone.start {l : List UInt8} (h : 1 ≤ l.length) : Gone l 1 1 [] :=
  ⟨Nat.le_refl _, h, by show [] ++ keepS (cutS (l.drop 1) (seg l 1 1)) = _; rw [show seg l 1 1 = [] by unfold seg; simp]; rfl, fun p hp => by cases hp⟩
theorem seg_snoc {l : List UInt8} {f i : Nat} {c : UInt8} (hf : f ≤ i) (hc : l[i]? = some c) : seg l f (i + 1) = seg l f i ++ [c] := by
  unfold seg
  rw [show i + 1 - f = (i - f) + 1 by omega, List.take_add_one, List.getElem?_drop, show f + (i - f) = i by omega, hc]; rfl
theorem drop_at {l : List UInt8} {i : Nat} {c : UInt8} (hc : l[i]? = some c) : l.drop i = c :: l.drop (i + 1) := by
  obtain ⟨h, rfl⟩ := List.getElem?_eq_some_iff.1 hc
  exact List.drop_eq_getElem_cons h
theorem seg_empty {l : List UInt8} {f i : Nat} (hi : i ≤ l.length) (hf : f ≤ i) : (seg l f i).isEmpty = decide (i ≤ f) := by
  have hlen : (seg l f i).length = i - f := by unfold seg; simp; omega
  by_cases h : i ≤ f
  · rw [decide_eq_true h, List.isEmpty_iff]
    exact List.eq_nil_of_length_eq_zero (by omega)
  · rw [decide_eq_false h]
    cases hs : seg l f i with
    | nil => rw [hs] at hlen; simp at hlen; omega
    | cons a t => rfl
theorem Gone.plain {l : List UInt8} {f i : Nat} {out : List (List UInt8)} {c : UInt8} (h : Gone l f i out) (hc : l[i]? = some c) (hne : c ≠ 47) : Gone l f (i + 1) out := by
  have hi := (List.getElem?_eq_some_iff.1 hc).1
  refine ⟨by have := h.fi; omega, hi, ?_, h.good⟩
  rw [← h.eq, drop_at hc, seg_snoc h.fi hc]
  conv => rhs; unfold cutS
  rw [if_neg hne]
theorem keep_cons (p : List UInt8) (ps : List (List UInt8)) : keepS (p :: ps) = if p.isEmpty then keepS ps else p :: keepS ps := by
  unfold keepS
  cases h : p.isEmpty
  · rw [List.filter_cons_of_pos (by rw [h]; rfl)]; rfl
  · rw [List.filter_cons_of_neg (by rw [h]; simp)]; rfl
/-- at a slash, with nothing ahead of it -/
theorem Gone.skip {l : List UInt8} {i : Nat} {out : List (List UInt8)} (h : Gone l i i out) (hc : l[i]? = some 47) : Gone l (i + 1) (i + 1) out := by
  have hi := (List.getElem?_eq_some_iff.1 hc).1
  refine ⟨Nat.le_refl _, hi, ?_, h.good⟩
  rw [← h.eq, drop_at hc, show seg l (i + 1) (i + 1) = [] by unfold seg; simp]
  conv => rhs; unfold cutS
  rw [if_pos rfl, keep_cons, seg_empty h.il h.fi, if_pos (by simp)]
theorem Gone.take {l : List UInt8} {f i : Nat} {out : List (List UInt8)} (h : Gone l f i out) (hf : f < i) (hc : l[i]? = some 47) (hn : nameN (seg l f i) = 0) : Gone l (i + 1) (i + 1) (out ++ [seg l f i]) := by
  have hi := (List.getElem?_eq_some_iff.1 hc).1
  refine ⟨Nat.le_refl _, hi, ?_, ?_⟩
  · rw [← h.eq, drop_at hc, show seg l (i + 1) (i + 1) = [] by unfold seg; simp]
    conv => rhs; unfold cutS
    rw [if_pos rfl, keep_cons, seg_empty h.il h.fi, if_neg (by simp; omega), List.append_assoc]; rfl
  · intro p hp
    rcases List.mem_append.1 hp with h1 | h1
    · exact h.good p h1
    · rw [List.mem_singleton.1 h1]; exact hn
theorem Gone.bad {l : List UInt8} {f i : Nat} {out : List (List UInt8)} (h : Gone l f i out) (hf : f < i) (hc : l[i]? = some 47 ∨ i = l.length) (hn : nameN (seg l f i) ≠ 0) : errOf (pieces (l.drop 1)) = nameN (seg l f i) := by
  rw [← h.eq]
  rcases hc with hc | rfl
  · rw [drop_at hc]
    unfold cutS
    rw [if_pos rfl, keep_cons, seg_empty h.il h.fi, if_neg (by simp; omega)]
    exact errOf_first h.good hn
  · rw [List.drop_length]
    unfold cutS
    rw [keep_cons, seg_empty h.il h.fi, if_neg (by simp; omega)]
    exact errOf_first h.good hn
theorem Gone.last {l : List UInt8} {f : Nat} {out : List (List UInt8)} (h : Gone l f l.length out) (hn : f < l.length → nameN (seg l f l.length) = 0) :
    (if f < l.length then out ++ [seg l f l.length] else out) = pieces (l.drop 1) ∧ errOf (pieces (l.drop 1)) = 0 := by
  have e : (if f < l.length then out ++ [seg l f l.length] else out) = pieces (l.drop 1) := by
    rw [← h.eq, List.drop_length]
    unfold cutS
    rw [keep_cons, seg_empty h.il h.fi]
    by_cases hf : f < l.length
    · rw [if_pos hf, if_neg (by simp; omega)]; rfl
    · rw [if_neg hf, if_pos (by simp; omega)]
      simp [keepS]
  refine ⟨e, ?_⟩
  rw [← e]
  apply errOf_zero
  intro p hp
  by_cases hf : f < l.length
  · rw [if_pos hf] at hp
    rcases List.mem_append.1 hp with h1 | h1
    · exact h.good p h1
    · rw [List.mem_singleton.1 h1]; exact hn hf
  · rw [if_neg hf] at hp
    exact h.good p hp
end Go.Proofs.YtbejbiogabpmfaaGreat

namespace Go.Proofs.YtbejbiogabpmfaaGreat
open Wd Go.ChangeShapes Go.WideShapes Go.RowKit Go.Sort
set_option linter.unusedVariables false

def SplitRel (s : ByteArray) (W : World) (iv fv o : Value) (w : World) : Prop :=
  ∃ (i f : Nat) (bs : List ByteArray), iv = .int .i64 i ∧ fv = .int .i64 f ∧ i ≤ s.size + 1 ∧ bs.length ≤ i ∧ w.ownsRow W.heap.size 9 1 o bs.length (bs.map Value.string) ∧ Below W.heap.size W w ∧
    (i ≤ s.size → Gone s.toList f i (bs.map ByteArray.toList)) ∧ (s.size < i → bs.map ByteArray.toList = pieces (s.toList.drop 1) ∧ errOf (pieces (s.toList.drop 1)) = 0)
def SplitDone (l : List UInt8) (W : World) (e : Ending) (w : World) : Prop :=
  ∃ (v : Value) (bs : List ByteArray), e = .returned (.tuple #[v, .int .i64 (pathE l)]) ∧ bs.map ByteArray.toList = pathL l ∧ w.ownsRow W.heap.size 9 1 v bs.length (bs.map Value.string) ∧ Below W.heap.size W w

end Go.Proofs.YtbejbiogabpmfaaGreat

namespace Go.Proofs.YtbejbiogabpmfaaGreat
open Wd Ino Go.RowKit Go.ChangeShapes Go.WideShapes Go.Sort
set_option linter.unusedVariables false
set_option maxRecDepth 100000

/-! Find, Names and Count -/
theorem look_at {s : ByteArray} {l : List Ent} (h : hasN s l = true) : ∃ e, l[lookN s l]? = some e ∧ inoN s l = e.n := by
  have hk : l.findIdx (nameIs s) < l.length := List.findIdx_lt_length.2 (by obtain ⟨e, he, hs⟩ := List.any_eq_true.1 h; exact ⟨e, he, hs⟩)
  have he : l[l.findIdx (nameIs s)]? = some l[l.findIdx (nameIs s)] := List.getElem?_eq_getElem hk
  have h0 : ∀ x ∈ l.take (l.findIdx (nameIs s)), nameIs s x = false := fun x hx => by
    obtain ⟨i, hi, rfl⟩ := List.mem_take_iff_getElem.1 hx
    simpa using List.not_of_lt_findIdx (show i < l.findIdx (nameIs s) by omega)
  have hy := look_yes h0 he (List.findIdx_getElem (w := hk))
  exact ⟨_, by rw [hy.2.1]; exact he, hy.2.2⟩
set_option maxHeartbeats 4000000 in
theorem dFind {w : World} {hi : Nat} {A : Option Addr} {c : Nat} {l : List Ent} (h : Ens w hi A l) (hh : hi ≤ w.heap.size) (hm : l.length ≤ 1000) (s : ByteArray) : Calls Tryz.prog 139 #[.slice A l.length c, .string s] w (Grows (.tuple #[.int .i64 (inoN s l), .bool (hasN s l)]) w) := by
  have H := Lib.hid h
  have K := Lib.hid (dLook (c := c) h hh hm s)
  clear h
  cases hn : hasN s l with
  | true =>
    obtain ⟨e, he, hi'⟩ := look_at hn
    obtain ⟨k, hk⟩ : ∃ k, lookN s l = k := ⟨_, rfl⟩
    rw [hn, hk] at K
    rw [hk] at he
    have hlt : k < l.length := (List.getElem?_eq_some_iff.1 he).1
    have i1 : (k : Int) < (l.length : Int) := Int.ofNat_lt.2 hlt
    have i0 : (0 : Int) ≤ (k : Int) := by omega
    have HE := Lib.hid he; have HI := Lib.hid hi'
    clear he hi' hk hn
    go_enter Tryz.func139, Tryz.ntmps139
    go_wp2_with fail
    refine K.out.mono ?_
    rintro e1 w1 ⟨rfl, hw1⟩
    have HG := Lib.hid hw1
    obtain ⟨b, off, rfl, _, x0, x1⟩ := ens_cells (H.out.below ((grown_self hw1).mono hh)) HE.out
    clear hw1 K
    go_wp2_with fail
    go_ret2
    exact ⟨by rw [HI.out]; rfl, HG.out⟩
  | false =>
    have HI := Lib.hid (inoN_none hn)
    rw [hn] at K
    clear hn
    go_enter Tryz.func139, Tryz.ntmps139
    go_wp2_with fail
    refine K.out.mono ?_
    rintro e1 w1 ⟨rfl, hw1⟩
    have HG := Lib.hid hw1
    clear hw1 K
    go_wp2_with fail
    go_ret2
    exact ⟨by rw [HI.out]; rfl, HG.out⟩

theorem countN_snoc {n : Int} {l : List Ent} {k : Nat} {e : Ent} (he : l[k]? = some e) : countN n (l.take (k + 1)) = countN n (l.take k) + (if e.n = n then 1 else 0) := by
  rw [take_snoc he]
  unfold countN
  rw [List.countP_append, List.countP_singleton]
  by_cases h : e.n = n <;> simp [h]
def CountRel (n : Int) (l : List Ent) (w : World) (v i : Value) (wr : World) : Prop := ∃ k m : Nat, k ≤ l.length ∧ i = .int .i64 k ∧ v = .int .i64 m ∧ countN n (l.take k) = m ∧ m ≤ k ∧ ∃ q os, wr = grow (w.drewN q) os
/-- a row of texts of the call's own -/
def textsV (l : List Ent) : List Value := (l.map Ent.s).map Value.string
def MadeS (l : List Ent) (w : World) (e : Ending) (w' : World) : Prop := ∃ v, e = .returned v ∧ w'.ownsRow w.heap.size 9 1 v l.length (textsV l) ∧ Below w.heap.size w w'
def NamesRel (l : List Ent) (v0 : Value) (w : World) (v i : Value) (wr : World) : Prop := ∃ k : Nat, k ≤ l.length ∧ i = .int .i64 k ∧ OwnE wr w.heap.size v0 l ∧ wr.ownsRow w.heap.size 9 1 v k (textsV (l.take k)) ∧ (∀ g, v.ownBlock = some g → v0.ownBlock ≠ some g) ∧ Below w.heap.size w wr
theorem OwnE.grown {w w' : World} {base : Nat} {v u : Value} {l : List Ent} (h : OwnE w base v l) (hg : w.grownBy w' u.ownBlock) (hne : ∀ g, u.ownBlock = some g → v.ownBlock ≠ some g) : OwnE w' base v l := by
  refine ⟨h.1, ?_⟩
  rcases h.2 with ⟨h1, h0⟩ | ⟨g, cap, cur, h1, h2, hh, h3⟩
  · exact .inl ⟨h1, h0⟩
  · refine .inr ⟨g, cap, cur, h1, h2, ?_, h3⟩
    refine (hg.block g (lt_of_block hh) (fun e => hne g e.symm ?_)).trans hh
    rw [h1]; rfl
end Go.Proofs.YtbejbiogabpmfaaGreat

namespace Go.Proofs.YtbejbiogabpmfaaGreat
open Wd Ino Go.RowKit Go.ChangeShapes Go.WideShapes Go.ChangeAt Go.Deep Go.Sort
set_option linter.unusedVariables false
set_option maxRecDepth 100000

/-! copy and clear, of rows of names -/
def zE : Value := .agg #[.string ByteArray.empty, .int .i64 0]
theorem zE_size (n : Nat) : (Builtin.zeroCells zE.cells n).size = n * 2 := by rw [size_zeroCells]; rfl
theorem zE_one (n : Nat) : ∀ u ∈ (Builtin.zeroCells zE.cells n).toList, u.oneCell' = true := by
  intro u hu
  unfold Builtin.zeroCells at hu
  rw [Array.toList_map] at hu
  obtain ⟨i, _, rfl⟩ := List.mem_map.1 hu
  have h2 : zE.cells = #[.string ByteArray.empty, .int .i64 0] := rfl
  rw [h2]
  have h3 : i % (#[Value.string ByteArray.empty, Value.int .i64 0] : Array Value).size = 0 ∨ i % (#[Value.string ByteArray.empty, Value.int .i64 0] : Array Value).size = 1 := by
    show i % 2 = 0 ∨ i % 2 = 1
    omega
  rcases h3 with h3 | h3 <;> rw [h3] <;> rfl
theorem evals_one (l : List Ent) : ∀ u ∈ evals l, u.oneCell' = true := by
  intro u hu
  obtain ⟨e, _, he⟩ := List.mem_flatMap.1 hu
  exact one2 e u he
/-- copy: es lie at a, and go to place o of block g -/
theorem copy_ents (w : World) (ty : TypeId) (g o dLen dCap : Nat) (a : Addr) (sLen sCap : Nat) (cur : Array Value) (t : TypeId) (es : List Ent) (hg : Cells w g t cur) (hn : es.length = Nat.min sLen dLen)
    (hsrc : ∀ (j : Nat) v, (evals es)[j]? = some v → w.cell? (a.add j) = some v) (hfit : o + es.length * 2 ≤ cur.size) :
    (Builtin.copy_ #[49, 49] ty #[.slice (some ⟨g, o, none⟩) dLen dCap, .slice (some a) sLen sCap]).run Tryz.prog w =
      .ok (goInt es.length) (w.setRow g (cur.toList.take o ++ evals es ++ cur.toList.drop (o + es.length * 2)).toArray) := by
  obtain ⟨i, i1, i2, i3, i4⟩ := info_parts infoE
  have hl := run_loadCells_list (P := Tryz.prog) w a (evals es) hsrc
  have hst := run_storeCells_at Tryz.prog g o t (evals es) 0 cur w hg (by rw [evals_len]; simpa using hfit) (evals_one es)
  rw [evals_len, Nat.add_zero] at hst
  rw [evals_len] at hl
  simp [Builtin.copy_, run_underlying Tryz.underlying49, Builtin.lenOf, Builtin.firstCells, Go.sizeOf, typeInfo, i1, i3, ← hn, hl, hst]
theorem clear_ents (w : World) (ty : TypeId) (g o n c : Nat) (cur : Array Value) (t : TypeId) (hg : Cells w g t cur) (h0 : 0 < n) (hfit : o + n * 2 ≤ cur.size) :
    (Builtin.clear_ #[49] ty #[.slice (some ⟨g, o, none⟩) n c]).run Tryz.prog w =
      .ok (.tuple #[]) (w.setRow g (cur.toList.take o ++ (Builtin.zeroCells zE.cells n).toList ++ cur.toList.drop (o + n * 2)).toArray) := by
  obtain ⟨i, i1, i2, i3, i4⟩ := info_parts infoE
  have hst := run_storeCells_at Tryz.prog g o t (Builtin.zeroCells zE.cells n).toList 0 cur w hg (by rw [Array.length_toList, zE_size]; simpa using hfit) (zE_one n)
  rw [Array.length_toList, zE_size, Nat.add_zero] at hst
  have hz : (zeroValue 103).run Tryz.prog w = .ok zE w := by
    simp [zeroValue, typeInfo, i1, i2]
    rfl
  obtain ⟨m, rfl⟩ : ∃ m, n = m + 1 := ⟨n - 1, by omega⟩
  simp [Builtin.clear_, run_underlying Tryz.underlying49, hz, hst]
theorem below_setRow {w : World} {base g : Nat} {cs : Array Value} (hg : base ≤ g) : Below base w (w.setRow g cs) :=
  ⟨rfl, rfl, rfl, by simp, fun k hk => setRow_other w g k cs (by omega)⟩
theorem cells_setRow {w : World} {g : Nat} {t : TypeId} {cur cs : Array Value} (h : Cells w g t cur) : Cells (w.setRow g cs) g t cs := setRow_heap w g cur cs t (0, 0) h
end Go.Proofs.YtbejbiogabpmfaaGreat

namespace Go.Proofs.YtbejbiogabpmfaaGreat
open Wd Ino Go.RowKit Go.ChangeShapes Go.WideShapes Go.Sort
set_option linter.unusedVariables false
set_option maxRecDepth 100000

/-! slices.DeleteFunc with Drop's test, and Drop -/
def testV (B : Nat) : Value := .func (.func 194) #[] #[.pointer (some ⟨B, 0, none⟩)]
set_option maxHeartbeats 1000000 in
theorem dTest (e : Ent) (s : ByteArray) (B : Nat) (w : World) (hB : B < w.heap.size) (hc : w.cell? ⟨B, 0, none⟩ = some (.string s)) : Calls Tryz.prog 194 #[e.val, .pointer (some ⟨B, 0, none⟩)] w (Grows (.bool (nameIs s e)) w) := by
  have c2 := Lib.cell?_alloc_some (.cells (ecells e) 103) hc
  have HQ := Lib.hid (show (e.s.toList == s.toList) = nameIs s e from rfl)
  unfold Ino.Ent.val
  unfold ecells at c2
  go_enter Tryz.func194, Tryz.ntmps194
  go_wp2
  go_ret
  exact ⟨by rw [← HQ.out]; rfl, grow_one _ _⟩
def firstI (s : ByteArray) (l : List Ent) : Int := if hasN s l then (l.findIdx (nameIs s) : Int) else -1
set_option maxHeartbeats 4000000 in
theorem dIndex {w : World} {hi : Nat} {A : Option Addr} {c : Nat} {l : List Ent} (h : Ens w hi A l) (hh : hi ≤ w.heap.size) (hm : l.length ≤ 1000) (s : ByteArray) (B : Nat) (hB : B < w.heap.size) (hc : w.cell? ⟨B, 0, none⟩ = some (.string s)) :
    Calls Tryz.prog 200 #[.slice A l.length c, testV B] w (Grows (.int .i64 (firstI s l)) w) := by
  have H := Lib.hid h
  have HC := Lib.hid hc
  unfold testV
  clear h hc
  go_enter Tryz.func200, Tryz.ntmps200
  go_wp2
  go_loopw [8] (fun i wr => FindRel s l w i wr) (fun i _ => l.length - (intOf i).toNat)
  case atStart => exact ⟨0, Nat.zero_le _, rfl, by simp, grow_none _⟩
  case round =>
    obtain ⟨k, hk, rfl, hno, hgr⟩ := hrel
    have HNO := Lib.hid hno; have HG := Lib.hid hgr
    have HB := Lib.hid (grown_self hgr)
    clear hno hgr
    by_cases hlt : k < l.length
    · obtain ⟨e, he⟩ : ∃ e, l[k]? = some e := ⟨_, List.getElem?_eq_getElem hlt⟩
      obtain ⟨bl, off, rfl, hbB, x0, x1⟩ := ens_cells (H.out.below (HB.out.mono hh)) he
      have hlt2 : (k : Int) < (l.length : Int) := Int.ofNat_lt.2 hlt
      have i0 : (0 : Int) ≤ (k : Int) := by omega
      have HE := Lib.hid he
      have KT := Lib.hid (dTest e s B wr (Nat.lt_of_lt_of_le hB HB.out.size) (by rw [HB.out.cell (p := ⟨B, 0, none⟩) hB]; exact HC.out))
      unfold Ino.Ent.val at KT
      clear he
      cases hn : nameIs s e with
      | true =>
        have HR := Lib.hid (look_yes HNO.out HE.out hn)
        rw [hn] at KT
        clear hn
        go_wp2_with fail
        refine KT.out.mono ?_
        rintro e1 w2 ⟨rfl, hw2⟩
        have HW2 := Lib.hid hw2
        clear hw2 KT x0 x1
        go_wp2
        go_ret
        have hr := HR.out
        refine ⟨?_, grow_trans HG.out HW2.out⟩
        unfold firstI
        rw [if_pos hr.1, show l.findIdx (nameIs s) = k by have h2 := hr.2.1; unfold lookN at h2; rwa [if_pos hr.1] at h2]
        rfl
      | false =>
        have HN := Lib.hid (none_snoc HE.out HNO.out hn)
        rw [hn] at KT
        clear hn
        go_wp2_with fail
        refine KT.out.mono ?_
        rintro e1 w2 ⟨rfl, hw2⟩
        have HW2 := Lib.hid hw2
        clear hw2 KT x0 x1
        go_wp2
        go_roundw
        case rel => exact ⟨k + 1, by omega, by go_num, HN.out, grow_trans HG.out HW2.out⟩
        case measure => simp [intOf]; omega
    · obtain rfl : k = l.length := by omega
      have hno := HNO.out
      rw [List.take_length] at hno
      have HR := Lib.hid (look_no hno)
      clear hno
      go_wp2
      go_ret
      exact ⟨by unfold firstI; rw [if_neg (by rw [HR.out.1]; decide)]; rfl, HG.out⟩
def MadeAt (l : List Ent) (base : Nat) (w : World) (e : Ending) (w' : World) : Prop := ∃ v, e = .returned v ∧ OwnE w' base v l ∧ Below base w w'
def DelRel (s : ByteArray) (l : List Ent) (base g cap : Nat) (w : World) (i j : Value) (wr : World) : Prop := ∃ (a k : Nat) (d : List Ent), i = .int .i64 a ∧ j = .int .i64 k ∧ k ≤ l.length ∧ a < k ∧ d.length = l.length ∧
  OwnE wr base (.slice (some ⟨g, 0, none⟩) l.length cap) d ∧ d.take a = dropN s (l.take k) ∧ d.drop k = l.drop k ∧ Below base w wr
theorem del_start {s : ByteArray} {l : List Ent} {k : Nat} {e : Ent} (h0 : ∀ x ∈ l.take k, nameIs s x = false) (he : l[k]? = some e) (hs : nameIs s e = true) : l.take k = dropN s (l.take (k + 1)) := by
  rw [dropN_snoc he, hs, if_pos rfl, List.append_nil, dropN_none (has_false.2 h0)]
theorem del_keep {s : ByteArray} {l d : List Ent} {a k : Nat} {e : Ent} (hak : a < k) (hd : d.length = l.length) (ht : d.take a = dropN s (l.take k)) (he : l[k]? = some e) (hs : nameIs s e = false) : (d.set a e).take (a + 1) = dropN s (l.take (k + 1)) := by
  have hk : k < l.length := (List.getElem?_eq_some_iff.1 he).1
  rw [dropN_snoc he, hs, ← ht, List.take_add_one, List.take_set_of_le (Nat.le_refl _), List.getElem?_set_self (by omega)]
  rfl
theorem drop_same {l d : List Ent} {k : Nat} (h : d.drop k = l.drop k) : d.drop (k + 1) = l.drop (k + 1) ∧ d[k]? = l[k]? := by
  have h1 : ∀ (x : List Ent), x.drop (k + 1) = (x.drop k).drop 1 := fun x => by rw [List.drop_drop]
  have h2 : ∀ (x : List Ent), x[k]? = (x.drop k)[0]? := fun x => by rw [List.getElem?_drop, Nat.add_zero]
  exact ⟨by rw [h1, h1 l, h], by rw [h2, h2 l, h]⟩
set_option maxHeartbeats 8000000 in
theorem dDel {w : World} {base : Nat} {A : Option Addr} {c : Nat} {l : List Ent} (h : OwnE w base (.slice A l.length c) l) (hm : l.length ≤ 1000) (s : ByteArray) (B : Nat) (hB : B < base) (hbs : base ≤ w.heap.size) (hc : w.cell? ⟨B, 0, none⟩ = some (.string s)) :
    Calls Tryz.prog 193 #[.slice A l.length c, testV B] w (MadeAt (dropN s l) base w) := by
  obtain ⟨A', c', hv, _, hx⟩ := h.form
  injection hv with hv1 _ hv3
  subst hv1 hv3
  have HO := Lib.hid h
  have HC := Lib.hid hc
  have KI := Lib.hid (dIndex (c := c) hx (Nat.le_refl _) hm s B (by omega) hc)
  unfold testV at KI ⊢
  clear h hc hx
  cases hn : hasN s l with
  | false =>
    have HD := Lib.hid (dropN_none hn)
    rw [show firstI s l = -1 by unfold firstI; rw [if_neg (by rw [hn]; decide)]] at KI
    clear hn
    go_enter Tryz.func193, Tryz.ntmps193
    go_wp2_with fail
    refine KI.out.mono ?_
    rintro e1 w1 ⟨rfl, hw1⟩
    have HB := Lib.hid (grown_self hw1)
    clear hw1 KI
    go_wp2
    go_ret
    exact ⟨_, rfl, by rw [HD.out]; exact HO.out.below HB.out, HB.out.mono hbs⟩
  | true =>
    obtain ⟨e0, he0, _⟩ := look_at hn
    have hl0 : lookN s l = l.findIdx (nameIs s) := by unfold lookN; rw [if_pos hn]
    obtain ⟨k0, hk0⟩ : ∃ k0, l.findIdx (nameIs s) = k0 := ⟨_, rfl⟩
    rw [hl0, hk0] at he0
    rw [show firstI s l = (k0 : Int) by unfold firstI; rw [if_pos hn, hk0]] at KI
    have hlt0 : k0 < l.length := (List.getElem?_eq_some_iff.1 he0).1
    have h0 : ∀ x ∈ l.take k0, nameIs s x = false := fun x hx => by
      obtain ⟨i, hi, rfl⟩ := List.mem_take_iff_getElem.1 hx
      simpa using List.not_of_lt_findIdx (show i < l.findIdx (nameIs s) by omega)
    have hs0 : nameIs s e0 = true := by
      have h1 := List.findIdx_getElem (p := nameIs s) (xs := l) (w := by rw [hk0]; exact hlt0)
      simp only [hk0] at h1
      rw [List.getElem?_eq_getElem hlt0] at he0
      cases he0
      exact h1
    have HS := Lib.hid (del_start h0 he0 hs0)
    obtain ⟨g, cap, cur, hv, hbg, _, hcap, hcm, _, _⟩ := HO.out.block (by omega)
    injection hv with hv1 _ hv3
    subst hv1 hv3
    have HG := Lib.hid hbg
    have hne1 : ((k0 : Int) == -1) = false := beq_eq_false_iff_ne.2 (by omega)
    clear hn he0 hl0 hk0 h0 hs0 hbg
    go_enter Tryz.func193, Tryz.ntmps193
    go_wp2_with fail
    refine KI.out.mono ?_
    rintro e1 w1 ⟨rfl, hw1⟩
    have HB := Lib.hid (grown_self hw1)
    clear hw1 KI
    go_wp2
    go_loopw [5, 6] (fun i j wr => DelRel s l base g c w i j wr) (fun _ j _ => l.length - (intOf j).toNat)
    case atStart => exact ⟨k0, k0 + 1, l, rfl, by go_num, by omega, by omega, rfl, HO.out.below HB.out, HS.out, rfl, HB.out.mono hbs⟩
    case round =>
      obtain ⟨a, k, d, rfl, rfl, hk, hak, hdl, ho, ht, hdr, hb⟩ := hrel
      have HO1 := Lib.hid ho; have HT := Lib.hid ht; have HD := Lib.hid hdr; have HB1 := Lib.hid hb; have HDL := Lib.hid hdl
      clear ho ht hdr hb hdl
      by_cases hlt : k < l.length
      · obtain ⟨e, he⟩ : ∃ e, l[k]? = some e := ⟨_, List.getElem?_eq_getElem hlt⟩
        have hde : d[k]? = some e := by rw [(drop_same HD.out).2]; exact he
        obtain ⟨g', cap', hv, _, hgw, _, x0, x1, f0, f1⟩ := HO1.out.get hde
        injection hv with hv1 hv2 hv3
        injection hv1 with hv1
        injection hv1 with hv1 _ _
        clear hv2
        subst hv1 hv3
        have hlt2 : (k : Int) < (l.length : Int) := Int.ofNat_lt.2 hlt
        have i0 : (0 : Int) ≤ (k : Int) := by omega
        have a0 : (0 : Int) ≤ (a : Int) := by omega
        have a1 : (a : Int) < (l.length : Int) := by omega
        have HE := Lib.hid he
        have hb2 := (Below.refl wr.heap.size wr).alloc (Nat.le_refl _) (.cells (ecells e) 103)
        have hw2 : base ≤ wr.heap.size := by have := HG.out; omega
        have HB2 := Lib.hid (HB1.out.trans (hb2.mono hw2))
        have HO2 := Lib.hid (HO1.out.below hb2)
        have HC2 := Lib.hid (Cells.new wr 103 (ecells e))
        have KT := Lib.hid (dTest e s B (wr.alloc (.cells (ecells e) 103)) (by have := hb2.size; omega) (by rw [HB2.out.cell (p := ⟨B, 0, none⟩) hB]; exact HC.out))
        unfold Ino.Ent.val at KT
        unfold ecells at KT HC2 HO2 HB2
        clear he hb2 f0 f1
        cases hq : nameIs s e with
        | true =>
          have HN := Lib.hid (show dropN s (l.take (k + 1)) = dropN s (l.take k) by rw [dropN_snoc HE.out, hq]; simp)
          rw [hq] at KT
          clear hq
          go_wp2_with fail
          refine KT.out.mono ?_
          rintro e1 w2 ⟨rfl, hw2'⟩
          have HB3 := Lib.hid (grown_self hw2')
          clear hw2' KT x0 x1 hde
          go_wp2
          go_roundw
          case rel => exact ⟨a, k + 1, d, rfl, by go_num, by omega, by omega, HDL.out, HO2.out.below HB3.out, by rw [HN.out]; exact HT.out, (drop_same HD.out).1, HB2.out.trans (HB3.out.mono (by simp; omega))⟩
          case measure => simp [intOf]; omega
        | false =>
          rw [hq] at KT
          have HQ := Lib.hid hq
          clear hq
          go_wp2_with fail
          refine KT.out.mono ?_
          rintro e1 w2 ⟨rfl, hw2'⟩
          have HB3 := Lib.hid (grown_self hw2')
          have HO3 := Lib.hid (HO2.out.below HB3.out)
          obtain ⟨c0, c1⟩ := ecells2 (HC2.out.below' HB3.out)
          obtain ⟨ea, hea⟩ : ∃ ea, d[a]? = some ea := ⟨_, List.getElem?_eq_getElem (by rw [HDL.out]; omega)⟩
          obtain ⟨g', cap', hv, _, hgw3, _, y0, y1, z0, z1⟩ := HO3.out.get hea
          injection hv with hv1 hv2 hv3
          injection hv1 with hv1
          injection hv1 with hv1 _ _
          clear hv2
          subst hv1 hv3
          have HEA := Lib.hid hea
          clear hw2' KT x0 x1 hde hea
          go_wp2
          go_roundw
          case rel =>
            refine ⟨a + 1, k + 1, d.set a e, by go_num, by go_num, by omega, by omega, by rw [List.length_set]; exact HDL.out, HO3.out.set e HEA.out, del_keep hak HDL.out HT.out HE.out HQ.out, ?_, ?_⟩
            · rw [List.drop_set_of_lt (by omega)]; exact (drop_same HD.out).1
            · exact ((HB2.out.trans (HB3.out.mono (by simp; omega))).setCell HG.out _).setCell HG.out _
          case measure => simp [intOf]; omega
      · obtain rfl : k = l.length := by omega
        have ht := HT.out
        rw [List.take_length] at ht
        have hlen : (dropN s l).length = a := by rw [← ht, List.length_take, HDL.out]; omega
        obtain ⟨g', cap', cur', hv, hbg', hcs, hcap', hcm', hsz, htk⟩ := HO1.out.block (by rw [HDL.out]; omega)
        injection hv with hv1 hv2 hv3
        injection hv1 with hv1
        injection hv1 with hv1 _ _
        clear hv2
        subst hv1 hv3
        have hn0 : (0 : Int) ≤ (a : Int) := by omega
        have a1 : (a : Int) < (l.length : Int) := by omega
        have hcl := fun ty => clear_ents wr ty g (a * 2) (l.length - a) (c - a) cur' _ hcs (by omega) (by omega)
        obtain ⟨cs, hcs2⟩ : ∃ cs, (cur'.toList.take (a * 2) ++ (Builtin.zeroCells zE.cells (l.length - a)).toList ++ cur'.toList.drop (a * 2 + (l.length - a) * 2)).toArray = cs := ⟨_, rfl⟩
        rw [hcs2] at hcl
        have hown : OwnE (wr.setRow g cs) base (.slice (some ⟨g, 0, none⟩) a c) (dropN s l) := by
          refine OwnE.of hlen hbg' (cells_setRow hcs) (by omega) hcm' ?_ ?_
          · rw [← hcs2, ← Array.length_toList, List.toList_toArray, List.length_append, List.length_append, List.length_take, List.length_drop, Array.length_toList, Array.length_toList, zE_size]
            omega
          · rw [← hcs2, List.toList_toArray, List.append_assoc, List.take_append_of_le_length (by rw [List.length_take, Array.length_toList]; omega), List.take_take, ← ht, evals_take, ← htk, List.take_take]
            congr 1
            rw [HDL.out]; omega
        have HOW := Lib.hid hown
        have HBW := Lib.hid (HB1.out.trans (below_setRow (w := wr) (cs := cs) HG.out))
        clear hown hcs2 htk hsz hcs hbg' hlen ht
        go_wp2
        go_ret
        exact ⟨_, rfl, HOW.out, HBW.out⟩
end Go.Proofs.YtbejbiogabpmfaaGreat

namespace Go.Proofs.YtbejbiogabpmfaaGreat
open Wd Ino Go.RowKit Go.ChangeShapes Go.WideShapes Go.Sort
set_option linter.unusedVariables false
set_option maxRecDepth 100000

set_option maxHeartbeats 4000000 in
theorem dDropO {w : World} {hi : Nat} {A : Option Addr} {c : Nat} {l : List Ent} (h : Ens w hi A l) (hh : hi ≤ w.heap.size) (hm : l.length ≤ 1000) (hs : ∀ e ∈ l, e.s.size ≤ 1000) (s : ByteArray) : Calls Tryz.prog 176 #[.slice A l.length c, .string s] w (GivesO (dropN s l) (hasN s l) w) := by
  have hb1 := (Below.refl w.heap.size w).alloc (Nat.le_refl _) (.cells #[.string s] 9)
  have HB1 := Lib.hid hb1
  have KO := Lib.hid (dOwn (c := c) (h.below (hb1.mono hh)) (Nat.le_trans hh hb1.size) hm hs)
  have HC := Lib.hid (Cells.new w 9 #[.string s])
  have HD := Lib.hid (drop_less s l)
  have HQ := Lib.hid (show decide (((dropN s l).length : Int) < (l.length : Int)) = decide ((dropN s l).length < l.length) by simp)
  clear h hs hb1
  go_enter Tryz.func176, Tryz.ntmps176
  go_wp2_with fail
  refine KO.out.mono ?_
  rintro e1 w1 ⟨v, rfl, ho, hb⟩
  obtain ⟨A1, c1, rfl, _, _⟩ := ho.form
  have KD := Lib.hid (dDel ho hm s w.heap.size (by simp) hb.size ((HC.out.below' hb).cell 0))
  have HB2 := Lib.hid (HB1.out.trans (hb.mono HB1.out.size))
  clear ho hb KO
  unfold testV at KD
  go_wp2_with fail
  refine KD.out.mono ?_
  rintro e1 w2 ⟨v2, rfl, ho2, hb2⟩
  obtain ⟨A2, c2, rfl, hc2, hx2⟩ := ho2.form
  have HX := Lib.hid (ho2.mono HB1.out.size)
  have HB3 := Lib.hid (HB2.out.trans (hb2.mono HB1.out.size))
  clear ho2 hb2 hx2 KD
  obtain ⟨n, hn⟩ : ∃ n, (dropN s l).length = n := ⟨_, rfl⟩
  have HN := Lib.hid hn
  rw [hn] at HD HQ hc2 ⊢
  clear hn
  go_wp2
  go_ret2
  exact ⟨A2, c2, by rw [HN.out, ← HD.out]; rfl, by rw [HN.out]; exact hc2, (by first | exact HX.out | (have h9 := HX.out; rw [HN.out] at h9; exact h9)), HB3.out⟩
end Go.Proofs.YtbejbiogabpmfaaGreat
