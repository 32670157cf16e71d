import Derived.Test.YthonpifdhjpbgaaFlMath2
namespace Fl
open Ieee

/-- a word as a number, or none for what is no number -/
def cv (x : Nat) : Option Nat := if nan x then none else some x
def mulO : Option Nat → Option Nat → Option Nat
  | some x, some y => double.mul x y
  | _, _ => none
def addO : Option Nat → Option Nat → Option Nat
  | some x, some y => double.add x y
  | _, _ => none

theorem write_num (s : Bool) (m : Nat) (i : Int) : nan (double.write (.number s m i)) = false ∧ double.write (.number s m i) < 18446744073709551616 := by
  obtain ⟨R, h1, h2, _⟩ := nearest_spec s m i
  obtain ⟨a, _, c⟩ := word_rung s R h2
  show nan (double.nearest s m i) = false ∧ double.nearest s m i < _
  rw [h1]
  exact ⟨by unfold nan; rw [a]; simp; exact h2, c⟩
theorem write_inf (s : Bool) : nan (double.write (.infinity s)) = false ∧ double.write (.infinity s) < 18446744073709551616 := by
  obtain ⟨a, _, c⟩ := word_rung s inf (Nat.le_refl _)
  have e : double.write (.infinity s) = double.word s inf := rfl
  rw [e]
  exact ⟨by unfold nan; rw [a]; simp, c⟩
theorem product_num (a b : Datum) (d : Datum) (h : a.product b = some d) : (∃ s m i, d = .number s m i) ∨ ∃ s, d = .infinity s := by
  cases a <;> cases b <;> simp only [Datum.product] at h
  · cases h; exact .inl ⟨_, _, _, rfl⟩
  · split at h <;> cases h; exact .inr ⟨_, rfl⟩
  · cases h
  · split at h <;> cases h; exact .inr ⟨_, rfl⟩
  · cases h; exact .inr ⟨_, rfl⟩
  · cases h
  · cases h
  · cases h
  · cases h
theorem sum_num (a b : Datum) (d : Datum) (h : a.sum b = some d) : (∃ s m i, d = .number s m i) ∨ ∃ s, d = .infinity s := by
  cases a <;> cases b <;> simp only [Datum.sum] at h
  · cases h; exact .inl ⟨_, _, _, rfl⟩
  · cases h; exact .inr ⟨_, rfl⟩
  · cases h
  · cases h; exact .inr ⟨_, rfl⟩
  · split at h <;> cases h; exact .inr ⟨_, rfl⟩
  · cases h
  · cases h
  · cases h
  · cases h
theorem mul_num {x y r : Nat} (h : double.mul x y = some r) : nan r = false ∧ r < 18446744073709551616 := by
  unfold Format.mul at h
  cases hp : (double.read x).product (double.read y) with
  | none => rw [hp] at h; cases h
  | some d =>
    rw [hp] at h
    cases h
    rcases product_num _ _ _ hp with ⟨s, m, i, rfl⟩ | ⟨s, rfl⟩
    · exact write_num s m i
    · exact write_inf s
theorem add_num {x y r : Nat} (h : double.add x y = some r) : nan r = false ∧ r < 18446744073709551616 := by
  unfold Format.add at h
  cases hp : (double.read x).sum (double.read y) with
  | none => rw [hp] at h; cases h
  | some d =>
    rw [hp] at h
    cases h
    rcases sum_num _ _ _ hp with ⟨s, m, i, rfl⟩ | ⟨s, rfl⟩
    · exact write_num s m i
    · exact write_inf s
theorem nan_lt {x : Nat} (h : nan x = true) : inf < rung x := by simpa [nan] using h
theorem mul_nan {x y : Nat} (h : nan x = true ∨ nan y = true) : double.mul x y = none := by
  unfold Format.mul
  rcases h with h | h
  · rw [read_nan (nan_lt h)]; rfl
  · rw [read_nan (nan_lt h)]; cases double.read x <;> rfl
theorem add_nan {x y : Nat} (h : nan x = true ∨ nan y = true) : double.add x y = none := by
  unfold Format.add
  rcases h with h | h
  · rw [read_nan (nan_lt h)]; rfl
  · rw [read_nan (nan_lt h)]; cases double.read x <;> rfl
theorem mulO_cv (x y : Nat) : mulO (cv x) (cv y) = double.mul x y := by
  unfold cv
  cases h1 : nan x
  · cases h2 : nan y
    · rfl
    · rw [mul_nan (.inr h2)]; rfl
  · rw [mul_nan (.inl h1)]; rfl
theorem addO_cv (x y : Nat) : addO (cv x) (cv y) = double.add x y := by
  unfold cv
  cases h1 : nan x
  · cases h2 : nan y
    · rfl
    · rw [add_nan (.inr h2)]; rfl
  · rw [add_nan (.inl h1)]; rfl

/-- what is a number behind an operation, or none -/
theorem cv_some {r : Nat} (h : nan r = false) : cv r = some r := by unfold cv; rw [h]; rfl
theorem cv_none {r : Nat} (h : nan r = true) : cv r = none := by unfold cv; rw [h]; rfl
theorem cv_zero : cv 0 = some 0 := by decide

/-- the next score -/
def nx (K G : Nat) (s : Option Nat) (b : Bool) : Option Nat := if b then addO (mulO (cv K) s) (cv G) else mulO (cv K) s
/-- the score behind a row of turns -/
def sc (K G : Nat) (l : List Bool) : Option Nat := l.foldl (nx K G) (some 0)
theorem sc_snoc (K G : Nat) (l : List Bool) (b : Bool) : sc K G (l ++ [b]) = nx K G (sc K G l) b := by
  unfold sc; rw [List.foldl_append]; rfl
theorem sc_nil (K G : Nat) : sc K G [] = some 0 := rfl
theorem sc_take (K G : Nat) (l : List Bool) (k : Nat) (h : k < l.length) : sc K G (l.take (k + 1)) = nx K G (sc K G (l.take k)) l[k] := by
  rw [List.take_succ_eq_append_getElem h, sc_snoc]

/-- not below -/
def geO : Option Nat → Option Nat → Bool
  | some x, some y => decide (key y ≤ key x)
  | _, _ => false
end Fl
