import Derived.Test.YthonpifdhjpbgaaPoMath
import Derived.Test.YthonpifdhjpbgaaFlWalks
import Derived.Test.YthonpifdhjpbgaaSoMath
import Derived.Deep.Draws
import Derived.Lib.Hide
namespace Fl
open Ieee

def divO : Option Nat → Option Nat → Option Nat
  | some x, some y => double.div x y
  | _, _ => none

theorem quotient_num (f : Nat) (a b : Datum) (d : Datum) (h : a.quotient f b = some d) : (∃ s m i, d = .number s m i) ∨ ∃ s, d = .infinity s := by
  cases a <;> cases b <;> simp only [Datum.quotient] at h
  · split at h
    · split at h
      · cases h
      · cases h; exact .inr ⟨_, rfl⟩
    · cases h; exact .inl ⟨_, _, _, rfl⟩
  · cases h; exact .inl ⟨_, _, _, rfl⟩
  · cases h
  · cases h; exact .inr ⟨_, rfl⟩
  · cases h
  · cases h
  · cases h
  · cases h
  · cases h
theorem div_num {x y r : Nat} (h : double.div x y = some r) : nan r = false ∧ r < 18446744073709551616 := by
  unfold Format.div at h
  cases hp : (double.read x).quotient (double.fractionBits + 2) (double.read y) with
  | none => rw [hp] at h; cases h
  | some d =>
    rw [hp] at h
    cases h
    rcases quotient_num _ _ _ _ hp with ⟨s, m, i, rfl⟩ | ⟨s, rfl⟩
    · exact write_num s m i
    · exact write_inf s
theorem div_nan {x y : Nat} (h : nan x = true ∨ nan y = true) : double.div x y = none := by
  unfold Format.div
  rcases h with h | h
  · rw [read_nan (nan_lt h)]; rfl
  · rw [read_nan (nan_lt h)]; cases double.read x <;> rfl
theorem divO_cv (x y : Nat) : divO (cv x) (cv y) = double.div x y := by
  unfold cv
  cases h1 : nan x
  · cases h2 : nan y
    · rfl
    · rw [div_nan (.inr h2)]; rfl
  · rw [div_nan (.inl h1)]; rfl

/-- the sum of a row -/
def sumO (l : List Nat) : Option Nat := l.foldl (fun s x => addO s (cv x)) (some 0)
theorem sumO_snoc (l : List Nat) (x : Nat) : sumO (l ++ [x]) = addO (sumO l) (cv x) := by
  unfold sumO; rw [List.foldl_append]; rfl
/-- the middle of two -/
def midO (x y : Option Nat) : Option Nat := addO (divO x (some 4611686018427387904)) (divO y (some 4611686018427387904))
end Fl
namespace Go.Proofs.Ythonpifdhjpbgaa
open Go.ChangeShapes Go.WideShapes Go.RowKit
set_option linter.unusedVariables false

/-- what a quotient or a sum gives -/
theorem arith_dv (P : Program) (op : BinOp) (o : Option Nat) (t : TypeId) (x y : Nat) (w : World) (h : (op = .quo ∧ o = Fl.divO (Fl.cv x) (Fl.cv y)) ∨ (op = .add ∧ o = Fl.addO (Fl.cv x) (Fl.cv y))) :
    ∃ r n, Sem.run P (binOp op t (.float .f64 x) (.float .f64 y)) w = .ok (.float .f64 r) (w.drewN n) ∧ r < 18446744073709551616 ∧ Fl.cv r = o := by
  have hb : floatBits op .f64 x y = o ∧ ∀ r, o = some r → Fl.nan r = false ∧ r < 18446744073709551616 := by
    rcases h with ⟨rfl, rfl⟩ | ⟨rfl, rfl⟩
    · exact ⟨(Fl.divO_cv x y).symm, fun r hr => Fl.div_num (by rw [← Fl.divO_cv]; exact hr)⟩
    · exact ⟨(Fl.addO_cv x y).symm, fun r hr => Fl.add_num (by rw [← Fl.addO_cv]; exact hr)⟩
  have hop : op = .quo ∨ op = .add := by rcases h with h | h; exact .inl h.1; exact .inr h.1
  clear h
  obtain ⟨hb, hr⟩ := hb
  cases o with
  | some r =>
    obtain ⟨h1, h2⟩ := hr r rfl
    exact ⟨r, 0, run_float_arith w op t .f64 x y r hb, h2, Fl.cv_some h1⟩
  | none =>
    refine ⟨Question.cut (.nanBits .f64 x y) (w.tape w.drawn (.nanBits .f64 x y)), 1, ?_, ?_, ?_⟩
    · rcases hop with rfl | rfl <;> (simp only [floatBits] at hb; simp [binOp, Op.floatArith, hb, Question.forced]; rfl)
    · simp only [Question.cut]; omega
    · apply Fl.cv_none
      unfold Fl.nan
      apply decide_eq_true
      simp only [Question.cut, Fl.rung, Fl.inf]
      generalize w.tape w.drawn (.nanBits .f64 x y) = q
      have hb : q / 2 % (2 ^ 52 - 1) < 2 ^ 52 - 1 := Nat.mod_lt _ (by decide)
      generalize q / 2 % (2 ^ 52 - 1) = c at *
      omega

/-- what is the same number, or no number, is Same -/
theorem same_cv {x y : Nat} (h : Fl.cv x = Fl.cv y) : sameB x y = true := by
  unfold sameB
  apply decide_eq_true
  unfold Fl.cv at h
  cases h1 : Fl.nan x <;> cases h2 : Fl.nan y <;> rw [h1, h2] at h <;> simp only [if_true, if_false, Bool.false_eq_true] at h
  · cases h; rfl
  · cases h
  · cases h
  · unfold rk; rw [h1, h2]; rfl
theorem cv_rk {x y : Nat} (hx : x < 18446744073709551616) (hy : y < 18446744073709551616) (h : rk x = rk y) : Fl.cv x = Fl.cv y := by
  unfold rk at h
  have a1 : Fl.rung x = x % 9223372036854775808 := rfl
  have a2 : Fl.rung y = y % 9223372036854775808 := rfl
  have b1 : Fl.neg x = (x / 9223372036854775808 % 2 == 1) := rfl
  have b2 : Fl.neg y = (y / 9223372036854775808 % 2 == 1) := rfl
  unfold Fl.cv
  cases h1 : Fl.nan x <;> cases h2 : Fl.nan y <;> rw [h1, h2] at h <;> simp only [if_true, if_false, Bool.false_eq_true] at h ⊢
  · have hn : Fl.neg x = Fl.neg y := by
      cases n1 : Fl.neg x <;> cases n2 : Fl.neg y <;> rw [n1, n2] at h <;> simp only [if_true, if_false, Bool.false_eq_true] at h
      · omega
      · omega
    have hr : Fl.rung x = Fl.rung y := by
      rw [hn] at h
      cases n2 : Fl.neg y <;> rw [n2] at h <;> simp only [if_true, if_false, Bool.false_eq_true] at h <;> omega
    have e : (x / 9223372036854775808 % 2 == 1) = (y / 9223372036854775808 % 2 == 1) := by rw [← b1, ← b2, hn]
    have e' : (x / 9223372036854775808 % 2 = 1) ↔ (y / 9223372036854775808 % 2 = 1) := by
      rw [Bool.eq_iff_iff] at e; simpa using e
    rw [show x = y by omega]
  · exfalso; revert h; split <;> omega
  · exfalso; revert h; split <;> omega

/-- the box of a rank among rising edges -/
def bx (es : List Int) (r : Int) : Nat := (es.takeWhile (fun e => decide (e ≤ r))).length
theorem bx_le (es : List Int) (r : Int) : bx es r ≤ es.length := (List.takeWhile_sublist _).length_le
theorem bx_of {es : List Int} {r : Int} {i : Nat} (hi : i ≤ es.length) (h1 : ∀ j e, j < i → es[j]? = some e → e ≤ r) (h2 : ∀ e, es[i]? = some e → r < e) : bx es r = i := by
  unfold bx
  induction es generalizing i with
  | nil => simp at hi ⊢; omega
  | cons a es ih =>
    cases i with
    | zero =>
      have := h2 a rfl
      rw [List.takeWhile_cons_of_neg (by simp; omega)]; rfl
    | succ i =>
      have := h1 0 a (by omega) rfl
      rw [List.takeWhile_cons_of_pos (by simp; omega), List.length_cons, ih (by simpa using hi) (fun j e hj he => h1 (j + 1) e (by omega) (by simpa using he)) (fun e he => h2 e (by simpa using he))]
/-- one more in a box -/
def bump (cs : List Nat) (i : Nat) : List Nat := cs.set i (cs[i]?.getD 0 + 1)
theorem bump_len (cs : List Nat) (i : Nat) : (bump cs i).length = cs.length := by unfold bump; rw [List.length_set]
def boxes (es : List Int) (rs : List Int) : List Nat := rs.foldl (fun cs r => bump cs (bx es r)) (List.replicate (es.length + 1) 0)
theorem boxes_snoc (es rs : List Int) (r : Int) : boxes es (rs ++ [r]) = bump (boxes es rs) (bx es r) := by
  unfold boxes; rw [List.foldl_append]; rfl
theorem bump_sum (cs : List Nat) (i : Nat) (h : i < cs.length) : (bump cs i).sum = cs.sum + 1 := by
  unfold bump
  induction cs generalizing i with
  | nil => simp at h
  | cons a cs ih =>
    cases i with
    | zero => simp; omega
    | succ i =>
      have := ih i (by simpa using h)
      simp only [List.set_cons_succ, List.getElem?_cons_succ, List.sum_cons, this]; omega
theorem boxes_len (es rs : List Int) : (boxes es rs).length = es.length + 1 := by
  unfold boxes
  have : ∀ (cs : List Nat), (rs.foldl (fun cs r => bump cs (bx es r)) cs).length = cs.length := by
    induction rs with
    | nil => intro cs; rfl
    | cons r rs ih => intro cs; rw [List.foldl_cons, ih, bump_len]
  rw [this, List.length_replicate]
theorem boxes_sum (es rs : List Int) : (boxes es rs).sum = rs.length := by
  have : ∀ (rs : List Int) (cs : List Nat), cs.length = es.length + 1 → (rs.foldl (fun cs r => bump cs (bx es r)) cs).sum = cs.sum + rs.length := by
    intro rs
    induction rs with
    | nil => intro cs _; rfl
    | cons r rs ih =>
      intro cs hc
      have hb := bump_sum cs (bx es r) (by have := bx_le es r; omega)
      rw [List.foldl_cons, ih _ (by rw [bump_len]; exact hc), hb, List.length_cons]; omega
  unfold boxes
  rw [this rs _ (by simp)]
  simp
theorem le_sum {cs : List Nat} {i c : Nat} (h : cs[i]? = some c) : c ≤ cs.sum := by
  induction cs generalizing i with
  | nil => simp at h
  | cons a cs ih =>
    cases i with
    | zero => simp at h; subst h; simp
    | succ i => have := ih (by simpa using h); simp; omega
theorem boxes_bd {es rs : List Int} {i c : Nat} (h : (boxes es rs)[i]? = some c) : c ≤ rs.length := by
  have := le_sum h
  rwa [boxes_sum] at this
end Go.Proofs.Ythonpifdhjpbgaa
