import Derived.Test.YthonpifdhjpbgaaFlWalks
namespace Go.Proofs.Ythonpifdhjpbgaa
open Go.ChangeShapes Go.WideShapes Go.RowKit
set_option linter.unusedVariables false

theorem lt_zero (x : Nat) : (FloatKind.f64.format.order x 0 == some .lt) = (!Fl.nan x && Fl.neg x && !zeroB x) := by
  rw [lt_key]
  have : Fl.nan 0 = false := by decide
  have k0 : Fl.key 0 = 0 := by decide
  rw [this, k0, Fl.key_eq]
  unfold zeroB
  cases h1 : Fl.nan x <;> cases h2 : Fl.neg x <;> by_cases h3 : Fl.rung x = 0 <;> simp [Fl.sg, h3] <;> omega

/-- what stands at a half -/
def halfW (x : Nat) : Nat := (Ieee.double.div x 4611686018427387904).getD 0

theorem half_run {P : Program} (x : Nat) (t : TypeId) (w : World) (h : Fl.nan x = false) : Sem.run P (binOp .quo t (.float .f64 x) (.float .f64 4611686018427387904)) w = .ok (.float .f64 (halfW x)) w := by
  refine run_float_arith w .quo _ _ _ _ _ ?_
  show Ieee.double.div x 4611686018427387904 = _
  unfold halfW
  have h' : Fl.rung x ≤ Fl.inf := by simpa [Fl.nan] using h
  by_cases hi : Fl.rung x = Fl.inf
  · rw [Fl.half_inf hi]; rfl
  · obtain ⟨R, e, _⟩ := Fl.half (x := x) (by omega)
    rw [e]; rfl

theorem half_eq (x : Nat) (h : Fl.nan x = false) (h0 : zeroB x = false) : (FloatKind.f64.format.order (halfW x) x == some .eq) = infB x := by
  have h' : Fl.rung x ≤ Fl.inf := by simpa [Fl.nan] using h
  have h0' : Fl.rung x ≠ 0 := by simpa [zeroB] using h0
  show (Ieee.double.order (halfW x) x == some .eq) = _
  unfold halfW infB
  by_cases hi : Fl.rung x = Fl.inf
  · rw [Fl.half_inf hi]
    simp only [Option.getD_some]
    have hk := Fl.word_key (Fl.neg x) Fl.inf (Nat.le_refl _)
    obtain ⟨hr, hn, _⟩ := Fl.word_rung (Fl.neg x) Fl.inf (Nat.le_refl _)
    rw [Fl.order_key (by omega) (by omega), hk, Fl.key_eq, hi]
    simp [compare, compareOfLessAndEq]
  · obtain ⟨R, e, hR⟩ := Fl.half_less (x := x) (by omega) (by omega)
    rw [e]
    simp only [Option.getD_some]
    have hk := Fl.word_key (Fl.neg x) R (by omega)
    obtain ⟨hr, hn, _⟩ := Fl.word_rung (Fl.neg x) R (by omega)
    rw [Fl.order_key (by omega) (by omega), hk, Fl.key_eq]
    cases Fl.neg x <;> simp only [Fl.sg, if_true, if_false, Bool.false_eq_true, compare, compareOfLessAndEq]
    · rw [if_pos (by omega)]; simp [hi]
    · rw [if_neg (by omega), if_neg (by omega)]; simp [hi]

/-- one by a nought -/
def oneBy (x : Nat) : Nat := Ieee.double.word (Fl.neg x) Fl.inf

theorem one_run {P : Program} (x : Nat) (t : TypeId) (w : World) (h : zeroB x = true) : Sem.run P (binOp .quo t (.float .f64 4607182418800017408) (.float .f64 x)) w = .ok (.float .f64 (oneBy x)) w := by
  refine run_float_arith w .quo _ _ _ _ _ ?_
  exact Fl.one_by (x := x) (by simpa [zeroB] using h)

theorem oneBy_lt (x : Nat) : (FloatKind.f64.format.order (oneBy x) 0 == some .lt) = Fl.neg x := by
  obtain ⟨hr, hn, _⟩ := Fl.word_rung (Fl.neg x) Fl.inf (Nat.le_refl _)
  rw [lt_zero]; unfold oneBy zeroB Fl.nan; rw [hr, hn]; simp [Fl.inf]
theorem oneBy_gt (x : Nat) : (FloatKind.f64.format.order (oneBy x) 0 == some .gt) = !Fl.neg x := by
  obtain ⟨hr, hn, _⟩ := Fl.word_rung (Fl.neg x) Fl.inf (Nat.le_refl _)
  rw [gt_zero]; unfold oneBy zeroB Fl.nan; rw [hr, hn]; simp [Fl.inf]

theorem cls_cases (x : Nat) : ∀ P : Prop,
    (Fl.nan x = true → cls x = 0 → P) →
    (Fl.nan x = false → zeroB x = true → Fl.neg x = true → cls x = 3 → P) →
    (Fl.nan x = false → zeroB x = true → Fl.neg x = false → cls x = 4 → P) →
    (Fl.nan x = false → zeroB x = false → infB x = true → Fl.neg x = true → cls x = 1 → P) →
    (Fl.nan x = false → zeroB x = false → infB x = true → Fl.neg x = false → cls x = 6 → P) →
    (Fl.nan x = false → zeroB x = false → infB x = false → Fl.neg x = true → cls x = 2 → P) →
    (Fl.nan x = false → zeroB x = false → infB x = false → Fl.neg x = false → cls x = 5 → P) → P := by
  intro P p0 p3 p4 p1 p6 p2 p5
  have hzi : zeroB x = true → infB x = false := by
    unfold zeroB infB; intro h; have := of_decide_eq_true h; rw [this]; decide
  cases h1 : Fl.nan x
  · cases h2 : zeroB x
    · cases h3 : infB x <;> cases h4 : Fl.neg x
      · exact p5 h1 h2 h3 h4 (by simp [cls, h1, h2, h3, h4])
      · exact p2 h1 h2 h3 h4 (by simp [cls, h1, h2, h3, h4])
      · exact p6 h1 h2 h3 h4 (by simp [cls, h1, h3, h4])
      · exact p1 h1 h2 h3 h4 (by simp [cls, h1, h2, h3, h4])
    · have h3 := hzi h2
      cases h4 : Fl.neg x
      · exact p4 h1 h2 h4 (by simp [cls, h1, h2, h3, h4])
      · exact p3 h1 h2 h4 (by simp [cls, h1, h2, h4])
  · exact p0 h1 (by simp [cls, h1])

set_option maxHeartbeats 1000000 in
theorem refClass_any (x : Nat) (w : World) : Calls Try.prog 15 #[.float .f64 x] w fun e w' => e = .returned (.int .i64 (cls x)) ∧ w = w' := by
  have hs := order_self x
  have hz := eq_zero x
  have hl := lt_zero x
  have h1 := @half_run Try.prog x 26
  have h2 := half_eq x
  have h3 := @one_run Try.prog x 26
  have h4 := oneBy_lt x
  refine cls_cases x _ ?_ ?_ ?_ ?_ ?_ ?_ ?_
  · intro a hc
    rw [hc]; clear hc
    rw [a] at hs
    clear hz hl h1 h2 h3 h4 a
    go_enter Try.func15, Try.ntmps15
    go_wp2; go_ret; exact ⟨rfl, rfl⟩
  · intro a b c hc
    rw [hc]; clear hc
    rw [a] at hs; rw [b] at hz; rw [c] at h4
    have h3' := fun w => h3 w b
    clear hl h1 h2 h3 a b c
    go_enter Try.func15, Try.ntmps15
    go_wp2; go_ret; exact ⟨rfl, rfl⟩
  · intro a b c hc
    rw [hc]; clear hc
    rw [a] at hs; rw [b] at hz; rw [c] at h4
    have h3' := fun w => h3 w b
    clear hl h1 h2 h3 a b c
    go_enter Try.func15, Try.ntmps15
    go_wp2; go_ret; exact ⟨rfl, rfl⟩
  all_goals
    intro a b c d hc
    rw [hc]; clear hc
    rw [a] at hs; rw [a, b, d] at hl
    have h2' := h2 a b
    rw [c] at h2'
    rw [b] at hz
    have h1' := fun w => h1 w a
    clear h1 h2 h3 h4 a b c d
    go_enter Try.func15, Try.ntmps15
    go_wp2; go_ret; exact ⟨rfl, rfl⟩

theorem neq_self (x : Nat) : (FloatKind.f64.format.order x x == some .eq) = !Fl.nan x := by
  have := order_self x
  rw [bne] at this
  rw [← this, Bool.not_not]

theorem less_nan (x y : Nat) (h : Fl.nan x = true) : lsB x y = !Fl.nan y := by
  unfold lsB rk
  rw [h]
  unfold Fl.rung
  cases h2 : Fl.nan y <;> cases h3 : Fl.neg y <;> simp <;> omega
theorem less_num (x y : Nat) (h : Fl.nan x = false) (h' : Fl.nan y = true) : lsB x y = false := by
  unfold lsB rk
  rw [h, h']
  unfold Fl.rung
  cases h3 : Fl.neg x <;> simp <;> omega
theorem less_zero (x y : Nat) (a : zeroB x = true) (b : zeroB y = true) : lsB x y = (Fl.neg x && !Fl.neg y) := by
  have a1 : Fl.rung x = 0 := by simpa [zeroB] using a
  have b1 : Fl.rung y = 0 := by simpa [zeroB] using b
  have a2 : Fl.nan x = false := by simp [Fl.nan, a1]
  have b2 : Fl.nan y = false := by simp [Fl.nan, b1]
  unfold lsB rk
  rw [a2, b2, a1, b1]
  cases Fl.neg x <;> cases Fl.neg y <;> simp
theorem less_plain (x y : Nat) (a : Fl.nan x = false) (b : Fl.nan y = false) (c : (zeroB x && zeroB y) = false) : (FloatKind.f64.format.order x y == some .lt) = lsB x y := by
  rw [lt_key, a, b, Fl.key_eq, Fl.key_eq]
  unfold zeroB at c
  unfold lsB rk
  rw [a, b]
  have c' : ¬ (Fl.rung x = 0 ∧ Fl.rung y = 0) := by simpa using c
  rw [Bool.eq_iff_iff]
  cases Fl.neg x <;> cases Fl.neg y <;> simp [Fl.sg] <;> omega

set_option maxHeartbeats 1000000 in
theorem refLess_any (x y : Nat) (w : World) : Calls Try.prog 16 #[.float .f64 x, .float .f64 y] w fun e w' => e = .returned (.bool (lsB x y)) ∧ w = w' := by
  have sx := order_self x
  have sy := order_self y
  have ey := neq_self y
  have zx := eq_zero x
  have zy := eq_zero y
  cases a : Fl.nan x
  · rw [a] at sx
    cases b : Fl.nan y
    · rw [b] at sy
      cases c : zeroB x
      · have hl := less_plain x y a b (by rw [c]; rfl)
        rw [c] at zx
        clear a b c ey zy
        go_enter Try.func16, Try.ntmps16
        go_wp2; go_ret; exact ⟨rfl, rfl⟩
      · cases d : zeroB y
        · have hl := less_plain x y a b (by rw [c, d]; rfl)
          rw [c] at zx
          rw [d] at zy
          clear a b c d ey
          go_enter Try.func16, Try.ntmps16
          go_wp2; go_ret; exact ⟨rfl, rfl⟩
        · have hl := less_zero x y c d
          have h1 := fun w => @one_run Try.prog x 26 w c
          have h2 := fun w => @one_run Try.prog y 26 w d
          have o1 := oneBy_lt x
          have o2 := oneBy_gt y
          rw [c] at zx
          rw [d] at zy
          cases e : Fl.neg x
          · rw [e] at hl o1
            rw [hl]
            clear a b c d ey e hl o2
            go_enter Try.func16, Try.ntmps16
            go_wp2; go_ret; exact ⟨rfl, rfl⟩
          · rw [e] at hl o1
            rw [hl]
            clear a b c d ey e hl
            go_enter Try.func16, Try.ntmps16
            go_wp2; go_ret; exact ⟨rfl, rfl⟩
    · rw [b] at sy
      rw [less_num x y a b]
      clear a b ey zx zy
      go_enter Try.func16, Try.ntmps16
      go_wp2; go_ret; exact ⟨rfl, rfl⟩
  · rw [a] at sx
    rw [less_nan x y a]
    clear a zx zy sy
    go_enter Try.func16, Try.ntmps16
    go_wp2; go_ret; exact ⟨rfl, rfl⟩

theorem refSame_any (x y : Nat) (w : World) : Calls Try.prog 12 #[.float .f64 x, .float .f64 y] w fun e w' => e = .returned (.bool (sameB x y)) ∧ w = w' := by
  cases h : lsB x y
  · have hs := same_of x y h
    go_enter Try.func12, Try.ntmps12
    go_wp2_with fail
    refine (refLess_any _ _ _).mono ?_
    rintro e w' ⟨rfl, rfl⟩
    go_wp2_with fail
    refine (refLess_any _ _ _).mono ?_
    rintro e w' ⟨rfl, rfl⟩
    go_wp2
    go_ret
    exact ⟨rfl, rfl⟩
  · have hs := (same_not x y h).symm
    go_enter Try.func12, Try.ntmps12
    go_wp2_with fail
    refine (refLess_any _ _ _).mono ?_
    rintro e w' ⟨rfl, rfl⟩
    go_wp2
    go_ret
    exact ⟨by rw [hs]; rfl, rfl⟩

def clampW (x lo hi : Nat) : Nat := if lsB x lo then lo else if lsB hi x then hi else x

end Go.Proofs.Ythonpifdhjpbgaa
