import Derived.Test.YthonpifdhjpbgaaMtParts
namespace Go.Proofs.Ythonpifdhjpbgaa
open Wd So Go.ChangeShapes Go.WideShapes Go.RowKit
set_option linter.unusedVariables false

theorem same3 (x y : Nat) (h : Fl.cv x = Fl.cv y) (w : World) : Calls Try.prog 12 #[.float .f64 x, .float .f64 y] w fun e w' => e = .returned (.bool true) ∧ w = w' := by
  have := refSame_any x y w
  rw [same_cv h] at this
  exact this

/-- the sum of two floats, the quotient, as functions of the world -/
theorem quo_fn (P : Program) (t : TypeId) : ∃ (R : Nat → Nat → World → Nat) (N : Nat → Nat → World → Nat), (∀ x y w, Sem.run P (binOp .quo t (.float .f64 x) (.float .f64 y)) w = .ok (.float .f64 (R x y w)) (w.drewN (N x y w))) ∧
    ∀ x y w, R x y w < 18446744073709551616 ∧ Fl.cv (R x y w) = Fl.divO (Fl.cv x) (Fl.cv y) := by
  have h := fun x y w => arith_dv P .quo _ t x y w (.inl ⟨rfl, rfl⟩)
  exact ⟨fun x y w => Classical.choose (h x y w), fun x y w => Classical.choose (Classical.choose_spec (h x y w)), fun x y w => (Classical.choose_spec (Classical.choose_spec (h x y w))).1, fun x y w => (Classical.choose_spec (Classical.choose_spec (h x y w))).2⟩
theorem add_fn (P : Program) (t : TypeId) : ∃ (R : Nat → Nat → World → Nat) (N : Nat → Nat → World → Nat), (∀ x y w, Sem.run P (binOp .add t (.float .f64 x) (.float .f64 y)) w = .ok (.float .f64 (R x y w)) (w.drewN (N x y w))) ∧
    ∀ x y w, R x y w < 18446744073709551616 ∧ Fl.cv (R x y w) = Fl.addO (Fl.cv x) (Fl.cv y) := by
  have h := fun x y w => arith_dv P .add _ t x y w (.inr ⟨rfl, rfl⟩)
  exact ⟨fun x y w => Classical.choose (h x y w), fun x y w => Classical.choose (Classical.choose_spec (h x y w)), fun x y w => (Classical.choose_spec (Classical.choose_spec (h x y w))).1, fun x y w => (Classical.choose_spec (Classical.choose_spec (h x y w))).2⟩

theorem quantile_of (xs : List Nat) (A : Option Addr) (c n : Nat) (num den : Int) (w : World) (hL : xs.length = n) (hn : n ≤ 40) (hwd : Words xs) (hr : Row w w.heap.size A n (xs.map (Value.float .f64)))
    (zs : List Nat) (hz : zs.Perm xs) (hzs : Srt rk 0 n zs) :
    Calls Try.prog 11 #[.slice A n c, .int .i64 num, .int .i64 den] w (Maybe (mayQ n num den) (at_ zs (placeQ n num den)) w) := by
  cases h : mayQ n num den
  · exact quantile_none A n c num den w _ (by unfold maxLen; omega) h
  · unfold mayQ at h
    simp only [Bool.and_eq_true, decide_eq_true_eq] at h
    exact quantile_some xs A c n num den w hL h.1.1.1.1 hn h.1.1.1.2 h.1.1.2 h.1.2 h.2 hwd hr zs hz hzs
theorem mayQ_cases (n : Nat) (num den : Int) (h : 0 < n) : (mayQ n num den = true ∧ 0 ≤ num ∧ num ≤ den ∧ 1 ≤ den ∧ den ≤ 1000) ∨ (mayQ n num den = false ∧ den < 1) ∨ (mayQ n num den = false ∧ 1 ≤ den ∧ 1000 < den) ∨ (mayQ n num den = false ∧ 1 ≤ den ∧ den ≤ 1000 ∧ num < 0) ∨ (mayQ n num den = false ∧ 1 ≤ den ∧ den ≤ 1000 ∧ 0 ≤ num ∧ den < num) := by
  by_cases k1 : 0 ≤ num ∧ num ≤ den ∧ 1 ≤ den ∧ den ≤ 1000
  · refine .inl ⟨?_, k1⟩
    unfold mayQ
    simp only [Bool.and_eq_true, decide_eq_true_eq]
    exact ⟨⟨⟨⟨h, k1.1⟩, k1.2.1⟩, k1.2.2.1⟩, k1.2.2.2⟩
  · have hm : mayQ n num den = false := by
      unfold mayQ
      simp only [Bool.and_eq_false_iff, decide_eq_false_iff_not]
      omega
    rw [hm]
    simp only [true_and]
    omega
end Go.Proofs.Ythonpifdhjpbgaa
