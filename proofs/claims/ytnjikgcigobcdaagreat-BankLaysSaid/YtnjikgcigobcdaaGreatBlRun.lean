import Derived.Test.YtnjikgcigobcdaaGreatPmLo
import Derived.Test.YtnjikgcigobcdaaGreatBkPure
namespace Go.Proofs.YtnjikgcigobcdaaGreat
open Wd Pm Go.Maps Go.RowKit
set_option linter.unusedVariables false

/-! the document's device: what is done to it, one thing behind the other, till one fails -/
abbrev ActR := RSt → RSt × Int
def runR : List ActR → RSt → RSt × Int
  | [], σ => (σ, 0)
  | o :: os, σ => if (o σ).2 = 0 then runR os (o σ).1 else o σ
theorem runR_append : ∀ (a b : List ActR) (σ : RSt), runR (a ++ b) σ = if (runR a σ).2 = 0 then runR b (runR a σ).1 else runR a σ
  | [], b, σ => by simp [runR]
  | o :: os, b, σ => by
    by_cases h : (o σ).2 = 0
    · simp [runR, h, runR_append os b]
    · simp [runR, h]
theorem runR_one (o : ActR) (σ : RSt) : runR [o] σ = o σ := by
  show (if (o σ).2 = 0 then ((o σ).1, (0 : Int)) else o σ) = o σ
  split
  · rename_i h; exact Prod.ext rfl h.symm
  · rfl
theorem runR_snoc {a : List ActR} {o : ActR} {σ σ1 : RSt} (h : runR a σ = (σ1, 0)) : runR (a ++ [o]) σ = o σ1 := by
  rw [runR_append, h, if_pos rfl, runR_one]
def rStore (i v : Int) : ActR := fun ρ => ρ.tried (inB i ρ.n) (RSt.store i v)
def rFlush (i : Int) : ActR := fun ρ => ρ.tried (inB i ((ρ.n + 7) / 8)) (RSt.flush i)
def rFence : ActR := fun ρ => ρ.tried true RSt.fence
def storesR (at_ : Int) : List Int → List ActR
  | [] => []
  | v :: l => rStore at_ v :: storesR (at_ + 1) l
def flushR (line : Int) : Nat → List ActR
  | 0 => []
  | m + 1 => rFlush line :: flushR (line + 1) m
def layR (at_ : Int) (l : List Int) : List ActR := if l = [] then [] else storesR at_ l ++ (flushR (at_ / 8) (linesN at_ l.length) ++ [rFence])
theorem storesR_len : ∀ (l : List Int) (a : Int), (storesR a l).length = l.length
  | [], _ => rfl
  | v :: l, a => by simp [storesR, storesR_len l]
theorem storesR_at : ∀ (l : List Int) (a : Int) (j : Nat) (v : Int), l[j]? = some v → (storesR a l)[j]? = some (rStore (a + j) v)
  | [], _, _, _, h => by simp at h
  | x :: l, a, 0, v, h => by simp at h; subst h; simp [storesR]
  | x :: l, a, j + 1, v, h => by
    have := storesR_at l (a + 1) j v (by simpa using h)
    simp only [storesR, List.getElem?_cons_succ]
    rw [this]
    congr 2
    push_cast
    omega
theorem flushR_len : ∀ (m : Nat) (a : Int), (flushR a m).length = m
  | 0, _ => rfl
  | m + 1, a => by simp [flushR, flushR_len m]
theorem flushR_at : ∀ (m : Nat) (a : Int) (j : Nat), j < m → (flushR a m)[j]? = some (rFlush (a + j))
  | 0, _, _, h => absurd h (by omega)
  | m + 1, a, 0, h => by simp [flushR]
  | m + 1, a, j + 1, h => by
    have := flushR_at m (a + 1) j (by omega)
    simp only [flushR, List.getElem?_cons_succ]
    rw [this]
    congr 2
    push_cast
    omega
theorem drop_at {α : Type} {os : List α} {j : Nat} {o : α} (h : os[j]? = some o) : os.drop j = o :: os.drop (j + 1) := by
  obtain ⟨hlt, e⟩ := List.getElem?_eq_some_iff.1 h
  rw [List.drop_eq_getElem_cons hlt, e]

/-! both, alike -/
def Two (a : Act) (b : ActR) : Prop := ∀ σ ρ, Same σ ρ → (a σ).2 = (b ρ).2 ∧ Same (a σ).1 (b ρ).1
inductive AllTwo : List Act → List ActR → Prop
  | nil : AllTwo [] []
  | cons {a : Act} {b : ActR} {aa : List Act} {bb : List ActR} : Two a b → AllTwo aa bb → AllTwo (a :: aa) (b :: bb)
theorem AllTwo.append {aa aa' : List Act} {bb bb' : List ActR} (h : AllTwo aa bb) (k : AllTwo aa' bb') : AllTwo (aa ++ aa') (bb ++ bb') := by
  induction h with
  | nil => exact k
  | cons h1 _ ih => exact .cons h1 ih
theorem run_same {aa : List Act} {bb : List ActR} (h : AllTwo aa bb) : ∀ {σ : St} {ρ : RSt}, Same σ ρ → (runS aa σ).2 = (runR bb ρ).2 ∧ Same (runS aa σ).1 (runR bb ρ).1 := by
  induction h with
  | nil => exact fun s => ⟨rfl, s⟩
  | @cons a b aa bb h1 _ ih =>
    intro σ ρ s
    obtain ⟨e, s1⟩ := h1 σ ρ s
    show (if (a σ).2 = 0 then runS aa (a σ).1 else a σ).2 = (if (b ρ).2 = 0 then runR bb (b ρ).1 else b ρ).2 ∧ Same (if (a σ).2 = 0 then runS aa (a σ).1 else a σ).1 (if (b ρ).2 = 0 then runR bb (b ρ).1 else b ρ).1
    by_cases h0 : (a σ).2 = 0
    · rw [if_pos h0, if_pos (e ▸ h0)]; exact ih s1
    · rw [if_neg h0, if_neg (e ▸ h0)]; exact ⟨e, s1⟩
theorem both_stores : ∀ (l : List Int) (a : Int), AllTwo (storesA a l) (storesR a l)
  | [], _ => .nil
  | v :: l, a => .cons (fun σ ρ s => same_store s a v) (both_stores l (a + 1))
theorem both_flush : ∀ (m : Nat) (a : Int), AllTwo (flushA a m) (flushR a m)
  | 0, _ => .nil
  | m + 1, a => .cons (fun σ ρ s => same_flush s a) (both_flush m (a + 1))
theorem both_lay (a : Int) (l : List Int) : AllTwo (layA a l) (layR a l) := by
  unfold layA layR
  split
  · exact .nil
  · exact (both_stores l a).append ((both_flush _ _).append (.cons (fun σ ρ s => same_fence s) .nil))

/-! how much each adds -/
def LittleR (o : ActR) : Prop := ∀ ρ, (o ρ).1.ev ≤ ρ.ev + 1 ∧ (o ρ).1.l.length ≤ ρ.l.length + 1
theorem little_tried {go : RSt → RSt} (p : PlainR go) (hl : ∀ ρ, (go ρ).l.length ≤ ρ.l.length + 1) (ρ : RSt) (b : Bool) : (ρ.tried b go).1.ev ≤ ρ.ev + 1 ∧ (ρ.tried b go).1.l.length ≤ ρ.l.length + 1 := by
  cases hd : ρ.dead with
  | true => rw [rtried_dead hd]; exact ⟨by show ρ.ev ≤ _; omega, by show ρ.l.length ≤ _; omega⟩
  | false =>
    cases b with
    | false => rw [rtried_out hd]; exact ⟨by show ρ.ev ≤ _; omega, by show ρ.l.length ≤ _; omega⟩
    | true =>
      by_cases ha : ρ.ar = 1
      · rw [rtried_fails hd ha]
        have e1 : ρ.evn.1.ev ≤ ρ.ev + 1 ∧ ρ.evn.1.l = ρ.l := by unfold RSt.evn; rw [if_pos ha]; exact ⟨by show ρ.ev ≤ _; omega, rfl⟩
        exact ⟨e1.1, by show ρ.evn.1.l.length ≤ _; rw [e1.2]; omega⟩
      · rw [rtried_goes hd ha]
        have e1 : ρ.evn.1.ev ≤ ρ.ev + 1 ∧ ρ.evn.1.l = ρ.l := by unfold RSt.evn; rw [if_neg ha]; exact ⟨Int.le_refl _, rfl⟩
        have h2 := hl ρ.evn.1
        rw [e1.2] at h2
        exact ⟨by show (go ρ.evn.1).ev ≤ _; rw [p.ev]; exact e1.1, h2⟩
theorem little_store (i v : Int) : LittleR (rStore i v) := fun ρ => little_tried (plainR_store i v) (fun ρ => storeL_len i v ρ.l) ρ _
theorem little_flush (i : Int) : LittleR (rFlush i) := fun ρ => little_tried (plainR_flush i) (fun ρ => by show (ρ.l.map (RW.flush i)).length ≤ _; rw [List.length_map]; omega) ρ _
theorem little_fence : LittleR rFence := fun ρ => little_tried plainR_fence (fun ρ => by show (ρ.l.map RW.fence).length ≤ _; rw [List.length_map]; omega) ρ _
theorem runR_little : ∀ (os : List ActR) (ρ : RSt), (∀ o ∈ os, LittleR o) → (runR os ρ).1.ev ≤ ρ.ev + os.length ∧ (runR os ρ).1.l.length ≤ ρ.l.length + os.length
  | [], ρ, _ => by simp [runR]
  | o :: os, ρ, h => by
    have h1 := h o (by simp) ρ
    show (if (o ρ).2 = 0 then runR os (o ρ).1 else o ρ).1.ev ≤ _ ∧ (if (o ρ).2 = 0 then runR os (o ρ).1 else o ρ).1.l.length ≤ _
    split
    · have := runR_little os (o ρ).1 (fun x hx => h x (by simp [hx]))
      simp only [List.length_cons]
      constructor
      · have := this.1; push_cast; omega
      · have := this.2; omega
    · simp only [List.length_cons]
      constructor
      · push_cast; omega
      · omega
theorem storesR_little : ∀ (l : List Int) (a : Int), ∀ o ∈ storesR a l, LittleR o
  | [], _, o, h => by simp [storesR] at h
  | v :: l, a, o, h => by
    simp only [storesR, List.mem_cons] at h
    rcases h with rfl | h
    · exact little_store _ _
    · exact storesR_little l _ o h
theorem flushR_little : ∀ (m : Nat) (a : Int), ∀ o ∈ flushR a m, LittleR o
  | 0, _, o, h => by simp [flushR] at h
  | m + 1, a, o, h => by
    simp only [flushR, List.mem_cons] at h
    rcases h with rfl | h
    · exact little_flush _
    · exact flushR_little m _ o h
end Go.Proofs.YtnjikgcigobcdaaGreat
