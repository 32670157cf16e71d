import Derived.Test.YtnjikgcigobcdaaGreatMB
namespace Go.Proofs.YtnjikgcigobcdaaGreat
open Wd Pm Go.Maps Go.RowKit
set_option linter.unusedVariables false

/-! what is done to a device, one thing behind the other, till one fails -/
abbrev Act := St → St × Int
def runS : List Act → St → St × Int
  | [], σ => (σ, 0)
  | o :: os, σ => if (o σ).2 = 0 then runS os (o σ).1 else o σ
theorem runS_append : ∀ (a b : List Act) (σ : St), runS (a ++ b) σ = if (runS a σ).2 = 0 then runS b (runS a σ).1 else runS a σ
  | [], b, σ => by simp [runS]
  | o :: os, b, σ => by
    by_cases h : (o σ).2 = 0
    · simp [runS, h, runS_append os b]
    · simp [runS, h]
theorem runS_one (o : Act) (σ : St) : runS [o] σ = o σ := by
  show (if (o σ).2 = 0 then ((o σ).1, (0 : Int)) else o σ) = o σ
  split
  · rename_i h; exact Prod.ext rfl h.symm
  · rfl
theorem runS_snoc {a : List Act} {o : Act} {σ σ1 : St} (h : runS a σ = (σ1, 0)) : runS (a ++ [o]) σ = o σ1 := by
  rw [runS_append, h, if_pos rfl, runS_one]
theorem runS_take {os : List Act} {j : Nat} {o : Act} {σ σ1 : St} (ho : os[j]? = some o) (h : runS (os.take j) σ = (σ1, 0)) : runS (os.take (j + 1)) σ = o σ1 := by
  rw [List.take_add_one, ho, Option.toList_some, runS_snoc h]
theorem runS_fail {os : List Act} {j : Nat} {o : Act} {σ σ1 : St} (ho : os[j]? = some o) (h : runS (os.take j) σ = (σ1, 0)) (he : (o σ1).2 ≠ 0) : runS os σ = o σ1 := by
  have e := runS_take ho h
  rw [← List.take_append_drop (j + 1) os, runS_append, e, if_neg he]
theorem runS_pre {a b : List Act} {σ : St} (h : (runS a σ).2 ≠ 0) : runS (a ++ b) σ = runS a σ := by rw [runS_append, if_neg h]

def aStore (i v : Int) : Act := fun σ => σ.tried (hasW σ.n i) (·.hold i v)
def aFlush (i : Int) : Act := fun σ => σ.tried (hasL σ.n i) (·.send i)
def aFence : Act := fun σ => σ.tried true St.persist
def storesA (at_ : Int) : List Int → List Act
  | [] => []
  | v :: l => aStore at_ v :: storesA (at_ + 1) l
def flushA (line : Int) : Nat → List Act
  | 0 => []
  | m + 1 => aFlush line :: flushA (line + 1) m
theorem storesA_len : ∀ (l : List Int) (a : Int), (storesA a l).length = l.length
  | [], _ => rfl
  | v :: l, a => by simp [storesA, storesA_len l]
theorem storesA_at : ∀ (l : List Int) (a : Int) (j : Nat) (v : Int), l[j]? = some v → (storesA a l)[j]? = some (aStore (a + j) v)
  | [], _, _, _, h => by simp at h
  | x :: l, a, 0, v, h => by simp at h; subst h; simp [storesA]
  | x :: l, a, j + 1, v, h => by
    have := storesA_at l (a + 1) j v (by simpa using h)
    simp only [storesA, List.getElem?_cons_succ]
    rw [this]
    congr 2
    push_cast
    omega
theorem flushA_len : ∀ (m : Nat) (a : Int), (flushA a m).length = m
  | 0, _ => rfl
  | m + 1, a => by simp [flushA, flushA_len m]
theorem flushA_at : ∀ (m : Nat) (a : Int) (j : Nat), j < m → (flushA a m)[j]? = some (aFlush (a + j))
  | 0, _, _, h => absurd h (by omega)
  | m + 1, a, 0, h => by simp [flushA]
  | m + 1, a, j + 1, h => by
    have := flushA_at m (a + 1) j (by omega)
    simp only [flushA, List.getElem?_cons_succ]
    rw [this]
    congr 2
    push_cast
    omega
/-- how many lines -/
def linesN (at_ : Int) (n : Nat) : Nat := ((at_ + n - 1) / 8 - at_ / 8 + 1).toNat
def layA (at_ : Int) (l : List Int) : List Act := if l = [] then [] else storesA at_ l ++ (flushA (at_ / 8) (linesN at_ l.length) ++ [aFence])

/-! what each keeps -/
structure Mild (go : St → St) : Prop where
  n : ∀ σ, (go σ).n = σ.n
  ev : ∀ σ, (go σ).ev = σ.ev
  ar : ∀ σ, (go σ).ar = σ.ar
  dead : ∀ σ, (go σ).dead = σ.dead
theorem mild_hold (i v : Int) : Mild (·.hold i v) := ⟨fun _ => rfl, fun _ => rfl, fun _ => rfl, fun _ => rfl⟩
theorem mild_send (i : Int) : Mild (·.send i) := ⟨fun _ => rfl, fun _ => rfl, fun _ => rfl, fun _ => rfl⟩
theorem mild_persist : Mild St.persist := ⟨fun _ => rfl, fun _ => rfl, fun _ => rfl, fun _ => rfl⟩
theorem tried_ev {go : St → St} (p : Mild go) (σ : St) (b : Bool) : (σ.tried b go).1.ev ≤ σ.ev + 1 := by
  unfold St.tried
  split
  · split
    · show σ.ev ≤ _; omega
    · show (go σ.drained).ev + 1 ≤ _
      rw [p.ev]
      exact Int.le_refl _
  · show σ.ev ≤ _; omega
def Small1 (o : Act) : Prop := ∀ σ, (o σ).1.ev ≤ σ.ev + 1
theorem small_store (i v : Int) : Small1 (aStore i v) := fun σ => tried_ev (mild_hold i v) σ _
theorem small_flush (i : Int) : Small1 (aFlush i) := fun σ => tried_ev (mild_send i) σ _
theorem small_fence : Small1 aFence := fun σ => tried_ev mild_persist σ _
theorem runS_ev : ∀ (os : List Act) (σ : St), (∀ o ∈ os, Small1 o) → (runS os σ).1.ev ≤ σ.ev + os.length
  | [], σ, _ => by simp [runS]
  | o :: os, σ, h => by
    have h1 := h o (by simp) σ
    show (if (o σ).2 = 0 then runS os (o σ).1 else o σ).1.ev ≤ _
    split
    · have := runS_ev os (o σ).1 (fun x hx => h x (by simp [hx]))
      simp only [List.length_cons]; push_cast; omega
    · simp only [List.length_cons]; push_cast; omega
theorem storesA_small : ∀ (l : List Int) (a : Int), ∀ o ∈ storesA a l, Small1 o
  | [], _, o, h => by simp [storesA] at h
  | v :: l, a, o, h => by
    simp only [storesA, List.mem_cons] at h
    rcases h with rfl | h
    · exact small_store _ _
    · exact storesA_small l _ o h
theorem flushA_small : ∀ (m : Nat) (a : Int), ∀ o ∈ flushA a m, Small1 o
  | 0, _, o, h => by simp [flushA] at h
  | m + 1, a, o, h => by
    simp only [flushA, List.mem_cons] at h
    rcases h with rfl | h
    · exact small_flush _
    · exact flushA_small m _ o h
theorem layA_small (a : Int) (l : List Int) : ∀ o ∈ layA a l, Small1 o := by
  intro o h
  unfold layA at h
  split at h
  · simp at h
  · simp only [List.mem_append, List.mem_singleton] at h
    rcases h with h | h | rfl
    · exact storesA_small _ _ o h
    · exact flushA_small _ _ o h
    · exact small_fence
theorem linesN_le (a : Int) (n : Nat) : linesN a n ≤ n + 2 := by unfold linesN; omega
theorem layA_len (a : Int) (l : List Int) : (layA a l).length ≤ 2 * l.length + 3 := by
  unfold layA
  split
  · simp
  · rw [List.length_append, List.length_append, storesA_len, flushA_len]
    have := linesN_le a l.length
    simp; omega
theorem lay_ev (a : Int) (l : List Int) (σ : St) : (runS (layA a l) σ).1.ev ≤ σ.ev + (2 * l.length + 3) := by
  have h1 := runS_ev _ σ (layA_small a l)
  have h2 := layA_len a l
  omega

/-! laid on a device with nothing dirty -/
structure Clean (σ : St) : Prop where
  hd : ∀ x, σ.hd x = none
  sn : ∀ x, σ.sn x = none
  dead : σ.dead = false
def newSt (st : Int → Int) (at_ : Int) (l : List Int) : Int → Int := fun x => if at_ ≤ x then (l[(x - at_).toNat]?).getD (st x) else st x
def diff (st N : Int → Int) : IFn := fun x => if N x = st x then none else some (N x)
/-- on the way: what stays is as it was; what is dirty, and which of it was sent -/
structure Mid (σ0 : St) (N : Int → Int) (F : Int → Prop) (σ : St) : Prop where
  n : σ.n = σ0.n
  dead : σ.dead = false
  st : σ.st = σ0.st
  hd : σ.hd = diff σ0.st N
  sn1 : ∀ x, F x → σ.sn x = σ.hd x
  sn0 : ∀ x, ¬ F x → σ.sn x = none
  ar : 0 ≤ σ.ar ∧ σ.ar ≤ σ0.ar
/-- power failed -/
structure Fell (σ0 : St) (N : Int → Int) (σ : St) : Prop where
  n : σ.n = σ0.n
  dead : σ.dead = true
  st : σ.st = σ0.st
  hd : ∀ x v, σ.hd x = some v → v = N x
  ar : 1 ≤ σ0.ar
theorem ref_ok : refErr false true = 0 := by unfold refErr; rfl
theorem tried_mid (go : St → St) {σ : St} (hd : σ.dead = false) :
    σ.tried true go = ((go σ.drained).counted, 0) ∨ (σ.tried true go = ({ σ with ar := 0, dead := true }, 5) ∧ σ.ar = 1) := by
  unfold St.tried
  rw [hd, if_pos ref_ok]
  by_cases h : σ.ar = 1
  · rw [if_pos h]; exact .inr ⟨rfl, h⟩
  · rw [if_neg h]; exact .inl rfl
theorem drained_ar {σ : St} {a : Int} (h : 0 ≤ σ.ar ∧ σ.ar ≤ a) : 0 ≤ σ.drained.ar ∧ σ.drained.ar ≤ a := by
  show 0 ≤ (if σ.ar = 0 then 0 else σ.ar - 1) ∧ (if σ.ar = 0 then 0 else σ.ar - 1) ≤ a
  split <;> omega
theorem newSt_nil (st : Int → Int) (at_ : Int) : newSt st at_ [] = st := by funext x; simp [newSt]
theorem newSt_snoc {st : Int → Int} {at_ v : Int} {l : List Int} {j : Nat} (h : l[j]? = some v) (x : Int) : newSt st at_ (l.take (j + 1)) x = if x = at_ + j then v else newSt st at_ (l.take j) x := by
  unfold newSt
  by_cases hx : at_ ≤ x
  · rw [if_pos hx, if_pos hx, List.getElem?_take, List.getElem?_take]
    by_cases e : x = at_ + j
    · rw [if_pos e, if_pos (by omega), show (x - at_).toNat = j by omega, h]; rfl
    · rw [if_neg e]
      by_cases e2 : (x - at_).toNat < j
      · rw [if_pos e2, if_pos (by omega)]
      · rw [if_neg e2, if_neg (by omega)]
  · rw [if_neg hx, if_neg hx, if_neg (by omega)]
theorem newSt_behind (st : Int → Int) (at_ : Int) (l : List Int) (j : Nat) : newSt st at_ (l.take j) (at_ + j) = st (at_ + j) := by
  unfold newSt
  rw [if_pos (by omega), List.getElem?_take, if_neg (by omega)]; rfl
theorem newSt_part {st : Int → Int} {at_ x : Int} {l : List Int} {j : Nat} (h : newSt st at_ (l.take j) x ≠ st x) : newSt st at_ (l.take j) x = newSt st at_ l x := by
  unfold newSt at h ⊢
  by_cases hx : at_ ≤ x
  · rw [if_pos hx] at h ⊢
    rw [if_pos hx]
    rw [List.getElem?_take] at h ⊢
    by_cases e2 : (x - at_).toNat < j
    · rw [if_pos e2]
    · rw [if_neg e2] at h; exact absurd rfl h
  · rw [if_neg hx] at h; exact absurd rfl h
theorem newSt_out {st : Int → Int} {at_ x : Int} {l : List Int} (h : x < at_ ∨ at_ + l.length ≤ x) : newSt st at_ l x = st x := by
  unfold newSt
  by_cases hx : at_ ≤ x
  · rw [if_pos hx, List.getElem?_eq_none (by omega)]; rfl
  · rw [if_neg hx]
theorem newSt_in {st : Int → Int} {at_ v : Int} {l : List Int} {j : Nat} (h : l[j]? = some v) : newSt st at_ l (at_ + j) = v := by
  unfold newSt
  rw [if_pos (by omega), show (at_ + (j : Int) - at_).toNat = j by omega, h]; rfl
theorem fell_of {σ0 σ : St} {N N' : Int → Int} {F : Int → Prop} (h : Mid σ0 N F σ) (ha : σ.ar = 1) (hN : ∀ x, N x ≠ σ0.st x → N x = N' x) : Fell σ0 N' { σ with ar := 0, dead := true } :=
  ⟨h.n, rfl, h.st, fun x v e => by
    have e' : diff σ0.st N x = some v := by rw [← h.hd]; exact e
    unfold diff at e'
    split at e'
    · cases e'
    · rename_i hne
      cases e'
      exact hN x hne, by have := h.ar; omega⟩
theorem mid_store {σ0 σ : St} {at_ v : Int} {l : List Int} {j : Nat} (hl : l[j]? = some v) (h : Mid σ0 (newSt σ0.st at_ (l.take j)) (fun _ => False) σ) (h0 : 0 ≤ at_) (h1 : at_ + l.length ≤ σ0.n) :
    ((aStore (at_ + j) v σ).2 = 0 ∧ Mid σ0 (newSt σ0.st at_ (l.take (j + 1))) (fun _ => False) (aStore (at_ + j) v σ).1) ∨ ((aStore (at_ + j) v σ).2 = 5 ∧ Fell σ0 (newSt σ0.st at_ l) (aStore (at_ + j) v σ).1) := by
  have hj : j < l.length := (List.getElem?_eq_some_iff.1 hl).1
  have hw : hasW σ.n (at_ + j) = true := hasW_iff.2 ⟨by omega, by rw [h.n]; omega⟩
  unfold aStore
  rw [hw]
  rcases tried_mid (·.hold (at_ + j) v) h.dead with e | ⟨e, ha⟩
  · rw [e]
    refine .inl ⟨rfl, h.n, h.dead, h.st, ?_, fun x hx => hx.elim, fun x _ => h.sn0 x (fun hf => hf), drained_ar h.ar⟩
    show (if σ.sn (at_ + j) = none ∧ v = σ.st (at_ + j) then del σ.hd (at_ + j) else put σ.hd (at_ + j) v) = _
    rw [h.sn0 _ (fun hf => hf), h.st, h.hd]
    funext x
    by_cases hx : x = at_ + j
    · subst hx
      show _ = if newSt σ0.st at_ (l.take (j + 1)) (at_ + j) = σ0.st (at_ + j) then none else some (newSt σ0.st at_ (l.take (j + 1)) (at_ + j))
      rw [newSt_snoc hl, if_pos rfl]
      by_cases hv : v = σ0.st (at_ + j)
      · rw [if_pos ⟨rfl, hv⟩, if_pos hv]; simp [del]
      · rw [if_neg (fun c => hv c.2), if_neg hv]; simp [put]
    · have e2 : diff σ0.st (newSt σ0.st at_ (l.take (j + 1))) x = diff σ0.st (newSt σ0.st at_ (l.take j)) x := by
        unfold diff
        rw [newSt_snoc hl, if_neg hx]
      rw [e2]
      split
      · simp [del, hx]
      · simp [put, hx]
  · rw [e]
    exact .inr ⟨rfl, fell_of h ha (fun x hx => newSt_part hx)⟩
theorem mid_flush {σ0 σ : St} {N : Int → Int} {a line : Int} {j : Nat} (hline : line = a + j) (h : Mid σ0 N (fun x => a * 8 ≤ x ∧ x < (a + j) * 8) σ) (h0 : 0 ≤ line) (h1 : line * 8 < σ0.n) :
    ((aFlush line σ).2 = 0 ∧ Mid σ0 N (fun x => a * 8 ≤ x ∧ x < (a + (j + 1 : Nat)) * 8) (aFlush line σ).1) ∨ ((aFlush line σ).2 = 5 ∧ Fell σ0 N (aFlush line σ).1) := by
  have hw : hasL σ.n line = true := hasL_iff.2 ⟨h0, by rw [h.n]; omega⟩
  unfold aFlush
  rw [hw]
  rcases tried_mid (·.send line) h.dead with e | ⟨e, ha⟩
  · rw [e]
    refine .inl ⟨rfl, h.n, h.dead, h.st, h.hd, fun x hx => ?_, fun x hx => ?_, drained_ar h.ar⟩
    · show (if x ∈ dirtyL σ.hd (line * 8) 8 then σ.hd x else σ.sn x) = σ.hd x
      split
      · rfl
      · rename_i hm
        rw [mem_dirtyL] at hm
        by_cases hF : a * 8 ≤ x ∧ x < (a + j) * 8
        · exact h.sn1 x hF
        · rw [h.sn0 x hF]
          have hin : line * 8 ≤ x ∧ x < line * 8 + (8 : Nat) := by push_cast at hx ⊢; omega
          have hs : (σ.hd x).isSome = false := by
            cases hc : (σ.hd x).isSome with
            | false => rfl
            | true => exact absurd ⟨hin.1, hin.2, hc⟩ hm
          cases hd : σ.hd x with
          | none => rfl
          | some c => rw [hd] at hs; cases hs
    · show (if x ∈ dirtyL σ.hd (line * 8) 8 then σ.hd x else σ.sn x) = none
      have hin : ¬ x ∈ dirtyL σ.hd (line * 8) 8 := by
        rw [mem_dirtyL]
        intro hm
        apply hx
        have := hm.1; have := hm.2.1
        push_cast at this ⊢
        omega
      rw [if_neg hin]
      exact h.sn0 x (fun hF => hx (by push_cast; omega))
  · rw [e]
    exact .inr ⟨rfl, fell_of h ha (fun x _ => rfl)⟩
theorem mid_fence {σ0 σ : St} {N : Int → Int} {F : Int → Prop} (h : Mid σ0 N F σ) (hF : ∀ x, N x ≠ σ0.st x → F x) :
    ((aFence σ).2 = 0 ∧ Clean (aFence σ).1 ∧ (aFence σ).1.st = N ∧ (aFence σ).1.n = σ0.n ∧ 0 ≤ (aFence σ).1.ar ∧ (aFence σ).1.ar ≤ σ0.ar) ∨ ((aFence σ).2 = 5 ∧ Fell σ0 N (aFence σ).1) := by
  unfold aFence
  have hsn : ∀ x, σ.sn x = σ.hd x := fun x => by
    by_cases hf : F x
    · exact h.sn1 x hf
    · rw [h.sn0 x hf, h.hd]
      unfold diff
      rw [if_pos (Classical.byContradiction fun c => hf (hF x c))]
  rcases tried_mid St.persist h.dead with e | ⟨e, ha⟩
  · rw [e]
    refine .inl ⟨rfl, ⟨fun x => ?_, fun x => rfl, h.dead⟩, ?_, h.n, drained_ar h.ar⟩
    · show (if false = false ∧ (σ.sn x).isSome = true ∧ σ.hd x = σ.sn x then none else σ.hd x) = none
      rw [hsn x]
      cases hc : σ.hd x with
      | none => split <;> rfl
      | some c => rw [if_pos ⟨rfl, rfl, rfl⟩]
    · funext x
      show (if false = true then σ.st x else (σ.sn x).getD (σ.st x)) = N x
      rw [if_neg (fun c => Bool.noConfusion c), hsn x, h.hd, h.st]
      unfold diff
      split
      · rename_i c; exact c.symm
      · rfl
  · rw [e]
    exact .inr ⟨rfl, fell_of h ha (fun x _ => rfl)⟩
theorem runS_phase (Q : St → Prop) : ∀ (os : List Act) (P : Nat → St → Prop) (σ : St), P 0 σ → (∀ j o τ, os[j]? = some o → P j τ → ((o τ).2 = 0 ∧ P (j + 1) (o τ).1) ∨ ((o τ).2 = 5 ∧ Q (o τ).1)) →
    ((runS os σ).2 = 0 ∧ P os.length (runS os σ).1) ∨ ((runS os σ).2 = 5 ∧ Q (runS os σ).1)
  | [], P, σ, h0, _ => .inl ⟨rfl, h0⟩
  | o :: os, P, σ, h0, hs => by
    rcases hs 0 o σ (by simp) h0 with ⟨e, h⟩ | ⟨e, h⟩
    · have := runS_phase Q os (fun j => P (j + 1)) (o σ).1 h (fun j o τ ho hp => hs (j + 1) o τ (by simpa using ho) hp)
      simp only [runS, if_pos e]
      exact this
    · simp only [runS, if_neg (show ¬ (o σ).2 = 0 by rw [e]; decide)]
      exact .inr ⟨e, h⟩
/-- words laid on a device with nothing dirty: all, or power failed -/
theorem lay_clean {σ : St} (h : Clean σ) (at_ : Int) (l : List Int) (h0 : 0 ≤ at_) (h1 : at_ + l.length ≤ σ.n) (ha : 0 ≤ σ.ar) :
    ((runS (layA at_ l) σ).2 = 0 ∧ Clean (runS (layA at_ l) σ).1 ∧ (runS (layA at_ l) σ).1.st = newSt σ.st at_ l ∧ (runS (layA at_ l) σ).1.n = σ.n ∧ 0 ≤ (runS (layA at_ l) σ).1.ar ∧ (runS (layA at_ l) σ).1.ar ≤ σ.ar) ∨
    ((runS (layA at_ l) σ).2 = 5 ∧ Fell σ (newSt σ.st at_ l) (runS (layA at_ l) σ).1) := by
  unfold layA
  by_cases hl : l = []
  · subst hl
    rw [if_pos rfl, newSt_nil]
    exact .inl ⟨rfl, h, rfl, rfl, ha, Int.le_refl _⟩
  · rw [if_neg hl]
    have hlen : 0 < l.length := List.length_pos_iff.2 hl
    have s0 : Mid σ (newSt σ.st at_ (l.take 0)) (fun _ => False) σ := by
      refine ⟨rfl, h.dead, rfl, ?_, fun x hx => hx.elim, fun x _ => h.sn x, ha, Int.le_refl _⟩
      funext x
      rw [h.hd x, List.take_zero, newSt_nil]
      simp [diff]
    have p1 := runS_phase (Fell σ (newSt σ.st at_ l)) (storesA at_ l) (fun j => Mid σ (newSt σ.st at_ (l.take j)) (fun _ => False)) σ s0 (fun j o τ ho hp => by
      have hj : j < l.length := by have := (List.getElem?_eq_some_iff.1 ho).1; rw [storesA_len] at this; exact this
      obtain ⟨v, hv⟩ : ∃ v, l[j]? = some v := ⟨_, List.getElem?_eq_getElem hj⟩
      rw [storesA_at l at_ j v hv] at ho
      cases ho
      exact mid_store hv hp h0 h1)
    rw [storesA_len, List.take_length] at p1
    rw [runS_append]
    rcases p1 with ⟨e1, q1⟩ | ⟨e1, q1⟩
    · rw [if_pos e1]
      obtain ⟨σ1, hσ1⟩ : ∃ τ, (runS (storesA at_ l) σ).1 = τ := ⟨_, rfl⟩
      rw [hσ1] at q1 ⊢
      have f0 : Mid σ (newSt σ.st at_ l) (fun x => at_ / 8 * 8 ≤ x ∧ x < (at_ / 8 + (0 : Nat)) * 8) σ1 :=
        ⟨q1.n, q1.dead, q1.st, q1.hd, fun x hx => absurd hx (by push_cast; omega), fun x _ => q1.sn0 x (fun hf => hf), q1.ar⟩
      have p2 := runS_phase (Fell σ (newSt σ.st at_ l)) (flushA (at_ / 8) (linesN at_ l.length)) (fun j => Mid σ (newSt σ.st at_ l) (fun x => at_ / 8 * 8 ≤ x ∧ x < (at_ / 8 + (j : Nat)) * 8)) σ1 f0 (fun j o τ ho hp => by
        have hj : j < linesN at_ l.length := by have := (List.getElem?_eq_some_iff.1 ho).1; rw [flushA_len] at this; exact this
        rw [flushA_at _ _ j hj] at ho
        cases ho
        unfold linesN at hj
        exact mid_flush rfl hp (by omega) (by omega))
      rw [flushA_len] at p2
      rw [runS_append]
      rcases p2 with ⟨e2, q2⟩ | ⟨e2, q2⟩
      · rw [if_pos e2, runS_one]
        refine mid_fence q2 (fun x hx => ?_)
        have hin : ¬ (x < at_ ∨ at_ + l.length ≤ x) := fun c => hx (newSt_out c)
        unfold linesN
        omega
      · rw [if_neg (by rw [e2]; decide)]
        exact .inr ⟨e2, q2⟩
    · rw [if_neg (by rw [e1]; decide)]
      exact .inr ⟨e1, q1⟩
end Go.Proofs.YtnjikgcigobcdaaGreat
