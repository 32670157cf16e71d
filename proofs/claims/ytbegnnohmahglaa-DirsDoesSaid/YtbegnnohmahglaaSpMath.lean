import Derived.Test.YtbegnnohmahglaaNmRef
namespace Go.Proofs.Ytbegnnohmahglaa
set_option linter.unusedVariables false

/-- what stands between slashes -/
def cutS : List UInt8 → List UInt8 → List (List UInt8)
  | [], acc => [acc]
  | c :: t, acc => if c = 47 then acc :: cutS t [] else cutS t (acc ++ [c])
def keepS (ps : List (List UInt8)) : List (List UInt8) := ps.filter (fun p => !p.isEmpty)
def pieces (l : List UInt8) : List (List UInt8) := keepS (cutS l [])
def errOf : List (List UInt8) → Int
  | [] => 0
  | p :: ps => if nameN p = 0 then errOf ps else nameN p
/-- the error's number of a path -/
def pathE (l : List UInt8) : Int := if 120 < l.length then 36 else if l.head? = some 47 then errOf (pieces (l.drop 1)) else 22
/-- its names, if it has no error -/
def pathL (l : List UInt8) : List (List UInt8) := if pathE l = 0 then pieces (l.drop 1) else []

theorem errOf_zero {ps : List (List UInt8)} (h : ∀ p ∈ ps, nameN p = 0) : errOf ps = 0 := by
  induction ps with
  | nil => rfl
  | cons p ps ih =>
    show (if nameN p = 0 then errOf ps else nameN p) = 0
    rw [if_pos (h p (by simp))]
    exact ih (fun q hq => h q (by simp [hq]))
theorem errOf_first {ps qs : List (List UInt8)} {p : List UInt8} (h : ∀ p ∈ ps, nameN p = 0) (hp : nameN p ≠ 0) : errOf (ps ++ p :: qs) = nameN p := by
  induction ps with
  | nil => show (if nameN p = 0 then _ else nameN p) = _; rw [if_neg hp]
  | cons q ps ih =>
    show (if nameN q = 0 then errOf (ps ++ p :: qs) else nameN q) = _
    rw [if_pos (h q (by simp))]
    exact ih (fun r hr => h r (by simp [hr]))

/-- the part from f up to i -/
def seg (l : List UInt8) (f i : Nat) : List UInt8 := (l.drop f).take (i - f)
/-- how far it has been gone through -/
structure Gone (l : List UInt8) (f i : Nat) (out : List (List UInt8)) : Prop where
  fi : f ≤ i
  il : i ≤ l.length
  eq : out ++ keepS (cutS (l.drop i) (seg l f i)) = pieces (l.drop 1)
  good : ∀ p ∈ out, nameN p = 0
theorem Gone.start {l : List UInt8} (h : 1 ≤ l.length) : Gone l 1 1 [] :=
  ⟨Nat.le_refl _, h, by show [] ++ keepS (cutS (l.drop 1) (seg l 1 1)) = _; rw [show seg l 1 1 = [] by unfold seg; simp]; rfl, fun p hp => by cases hp⟩
theorem seg_snoc {l : List UInt8} {f i : Nat} {c : UInt8} (hf : f ≤ i) (hc : l[i]? = some c) : seg l f (i + 1) = seg l f i ++ [c] := by
  unfold seg
  rw [show i + 1 - f = (i - f) + 1 by omega, List.take_add_one, List.getElem?_drop, show f + (i - f) = i by omega, hc]; rfl
theorem drop_at {l : List UInt8} {i : Nat} {c : UInt8} (hc : l[i]? = some c) : l.drop i = c :: l.drop (i + 1) := by
  obtain ⟨h, rfl⟩ := List.getElem?_eq_some_iff.1 hc
  exact List.drop_eq_getElem_cons h
theorem seg_empty {l : List UInt8} {f i : Nat} (hi : i ≤ l.length) (hf : f ≤ i) : (seg l f i).isEmpty = decide (i ≤ f) := by
  have hlen : (seg l f i).length = i - f := by unfold seg; simp; omega
  by_cases h : i ≤ f
  · rw [decide_eq_true h, List.isEmpty_iff]
    exact List.eq_nil_of_length_eq_zero (by omega)
  · rw [decide_eq_false h]
    cases hs : seg l f i with
    | nil => rw [hs] at hlen; simp at hlen; omega
    | cons a t => rfl
theorem Gone.plain {l : List UInt8} {f i : Nat} {out : List (List UInt8)} {c : UInt8} (h : Gone l f i out) (hc : l[i]? = some c) (hne : c ≠ 47) : Gone l f (i + 1) out := by
  have hi := (List.getElem?_eq_some_iff.1 hc).1
  refine ⟨by have := h.fi; omega, hi, ?_, h.good⟩
  rw [← h.eq, drop_at hc, seg_snoc h.fi hc]
  conv => rhs; unfold cutS
  rw [if_neg hne]
theorem keep_cons (p : List UInt8) (ps : List (List UInt8)) : keepS (p :: ps) = if p.isEmpty then keepS ps else p :: keepS ps := by
  unfold keepS
  cases h : p.isEmpty
  · rw [List.filter_cons_of_pos (by rw [h]; rfl)]; rfl
  · rw [List.filter_cons_of_neg (by rw [h]; simp)]; rfl
/-- at a slash, with nothing ahead of it -/
theorem Gone.skip {l : List UInt8} {i : Nat} {out : List (List UInt8)} (h : Gone l i i out) (hc : l[i]? = some 47) : Gone l (i + 1) (i + 1) out := by
  have hi := (List.getElem?_eq_some_iff.1 hc).1
  refine ⟨Nat.le_refl _, hi, ?_, h.good⟩
  rw [← h.eq, drop_at hc, show seg l (i + 1) (i + 1) = [] by unfold seg; simp]
  conv => rhs; unfold cutS
  rw [if_pos rfl, keep_cons, seg_empty h.il h.fi, if_pos (by simp)]
theorem Gone.take {l : List UInt8} {f i : Nat} {out : List (List UInt8)} (h : Gone l f i out) (hf : f < i) (hc : l[i]? = some 47) (hn : nameN (seg l f i) = 0) : Gone l (i + 1) (i + 1) (out ++ [seg l f i]) := by
  have hi := (List.getElem?_eq_some_iff.1 hc).1
  refine ⟨Nat.le_refl _, hi, ?_, ?_⟩
  · rw [← h.eq, drop_at hc, show seg l (i + 1) (i + 1) = [] by unfold seg; simp]
    conv => rhs; unfold cutS
    rw [if_pos rfl, keep_cons, seg_empty h.il h.fi, if_neg (by simp; omega), List.append_assoc]; rfl
  · intro p hp
    rcases List.mem_append.1 hp with h1 | h1
    · exact h.good p h1
    · rw [List.mem_singleton.1 h1]; exact hn
theorem Gone.bad {l : List UInt8} {f i : Nat} {out : List (List UInt8)} (h : Gone l f i out) (hf : f < i) (hc : l[i]? = some 47 ∨ i = l.length) (hn : nameN (seg l f i) ≠ 0) : errOf (pieces (l.drop 1)) = nameN (seg l f i) := by
  rw [← h.eq]
  rcases hc with hc | rfl
  · rw [drop_at hc]
    unfold cutS
    rw [if_pos rfl, keep_cons, seg_empty h.il h.fi, if_neg (by simp; omega)]
    exact errOf_first h.good hn
  · rw [List.drop_length]
    unfold cutS
    rw [keep_cons, seg_empty h.il h.fi, if_neg (by simp; omega)]
    exact errOf_first h.good hn
theorem Gone.last {l : List UInt8} {f : Nat} {out : List (List UInt8)} (h : Gone l f l.length out) (hn : f < l.length → nameN (seg l f l.length) = 0) :
    (if f < l.length then out ++ [seg l f l.length] else out) = pieces (l.drop 1) ∧ errOf (pieces (l.drop 1)) = 0 := by
  have e : (if f < l.length then out ++ [seg l f l.length] else out) = pieces (l.drop 1) := by
    rw [← h.eq, List.drop_length]
    unfold cutS
    rw [keep_cons, seg_empty h.il h.fi]
    by_cases hf : f < l.length
    · rw [if_pos hf, if_neg (by simp; omega)]; rfl
    · rw [if_neg hf, if_pos (by simp; omega)]
      simp [keepS]
  refine ⟨e, ?_⟩
  rw [← e]
  apply errOf_zero
  intro p hp
  by_cases hf : f < l.length
  · rw [if_pos hf] at hp
    rcases List.mem_append.1 hp with h1 | h1
    · exact h.good p h1
    · rw [List.mem_singleton.1 h1]; exact hn hf
  · rw [if_neg hf] at hp
    exact h.good p hp
end Go.Proofs.Ytbegnnohmahglaa
