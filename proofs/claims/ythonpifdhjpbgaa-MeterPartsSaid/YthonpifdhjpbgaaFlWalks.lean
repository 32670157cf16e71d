import Derived.Test.YthonpifdhjpbgaaChecked
import Derived.Test.YthonpifdhjpbgaaFlMath2
import Derived.WalkKit
import Derived.WalkLawsBesides
import Derived.Deep.QuietTactic
import Derived.BigQuiet
import Derived.KernelRfl
namespace Go.Proofs.Ythonpifdhjpbgaa
open Go.ChangeShapes Go.WideShapes Go.RowKit
set_option linter.unusedVariables false

/-- the rank of a word: NaNs below all, minus nought just below plus nought -/
def rk (x : Nat) : Int := if Fl.nan x then -18446744073709551616 else if Fl.neg x then -(Fl.rung x : Int) - 1 else Fl.rung x

def infB (x : Nat) : Bool := decide (Fl.rung x = Fl.inf)
def zeroB (x : Nat) : Bool := decide (Fl.rung x = 0)

theorem order_self (x : Nat) : (FloatKind.f64.format.order x x != some .eq) = Fl.nan x := by
  show (Ieee.double.order x x != some .eq) = _
  by_cases h : Fl.inf < Fl.rung x
  · rw [Fl.order_nan (Or.inl h)]; simp [Fl.nan, h]
  · rw [Fl.order_key (by omega) (by omega)]; simp [Fl.nan, h, compare, compareOfLessAndEq]

theorem isNaN_any (x : Nat) (w : World) : Calls Try.prog 29 #[.float .f64 x] w fun e w' => e = .returned (.bool (Fl.nan x)) ∧ w = w' := by
  go_enter Try.func29, Try.ntmps29
  go_wp2
  go_ret
  exact ⟨by rw [order_self]; rfl, rfl⟩

@[go_sem] theorem f64bits (x : Nat) (w : World) : (callFunc 33 #[.float .f64 x]).run Try.prog w = .ok (.value (.int .u64 x)) w := by
  rw [run_callFunc_extern (e := Extern.MathFloatBits.float64bits) Try.func33 (by kernel_rfl) (by kernel_rfl) (by kernel_rfl) (by kernel_rfl)]; rfl
@[go_sem] theorem f64frombits (x : Int) (w : World) : (callFunc 37 #[.int .u64 x]).run Try.prog w = .ok (.value (.float .f64 x.toNat)) w := by
  rw [run_callFunc_extern (e := Extern.MathFloatBits.float64frombits) Try.func37 (by kernel_rfl) (by kernel_rfl) (by kernel_rfl) (by kernel_rfl)]; rfl

@[go_sem] theorem run_neg_float (k : FloatKind) (b : Nat) (w : World) : (Op.unary .neg (.float k b)).run Try.prog w = .ok (.float k (Op.negFloat k b)) w := by
  simp [Op.unary]

theorem neg_flip (x : Nat) (hx : x < 18446744073709551616) : Fl.rung (Op.negFloat .f64 x) = Fl.rung x ∧ Fl.neg (Op.negFloat .f64 x) = !Fl.neg x := by
  have e : Op.negFloat .f64 x = x ^^^ 2 ^ 63 := rfl
  rw [e]
  refine ⟨?_, ?_⟩
  · show (x ^^^ 2 ^ 63) % 2 ^ 63 = x % 2 ^ 63
    rw [Nat.xor_mod_two_pow, Nat.mod_self, Nat.xor_zero]
  · show ((x ^^^ 2 ^ 63) / 2 ^ 63 % 2 == 1) = !(x / 2 ^ 63 % 2 == 1)
    rw [Nat.xor_div_two_pow, Nat.div_self (by decide)]
    have : x / 2 ^ 63 = 0 ∨ x / 2 ^ 63 = 1 := by omega
    rcases this with h | h <;> rw [h] <;> rfl

theorem neg_wrap (x : Nat) (hx : x < 18446744073709551616) : decide (wrap64 (x : Int) < 0) = Fl.neg x := by
  unfold wrap64 Fl.neg
  rw [Bool.eq_iff_iff]; simp only [decide_eq_true_eq, beq_iff_eq]
  omega

theorem signbit_any (x : Nat) (hx : x < 18446744073709551616) (w : World) : Calls Try.prog 30 #[.float .f64 x] w fun e w' => e = .returned (.bool (Fl.neg x)) ∧ w = w' := by
  go_enter Try.func30, Try.ntmps30
  go_wp2
  go_ret
  exact ⟨by rw [neg_wrap x hx]; rfl, rfl⟩

theorem gt_max (x : Nat) : (FloatKind.f64.format.order x 9218868437227405311 == some .gt) = (infB x && !Fl.neg x) := by
  unfold infB
  show (Ieee.double.order x 9218868437227405311 == some .gt) = _
  by_cases h : Fl.inf < Fl.rung x
  · rw [Fl.order_nan (Or.inl h)]; simp; intro; omega
  · rw [Fl.order_key (by omega) (by decide), Fl.key_eq, show Fl.key 9218868437227405311 = 9218868437227405311 from by decide]
    have : Fl.inf = 9218868437227405312 := rfl
    cases hn : Fl.neg x <;> simp only [Fl.sg, if_true, if_false, Bool.false_eq_true, compare, compareOfLessAndEq]
    · by_cases h2 : Fl.rung x = Fl.inf
      · rw [if_neg (by omega), if_neg (by omega)]; simp [h2]
      · by_cases h3 : (Fl.rung x : Int) < 9218868437227405311
        · rw [if_pos h3]; simp [h2]
        · rw [if_neg h3, if_pos (by omega)]; simp [h2]
    · rw [if_pos (by omega)]; simp

theorem isInf_up (x : Nat) (hx : x < 18446744073709551616) (w : World) : Calls Try.prog 31 #[.float .f64 x, .int .i64 1] w fun e w' => e = .returned (.bool (infB x && !Fl.neg x)) ∧ w = w' := by
  go_enter Try.func31, Try.ntmps31
  go_wp2
  go_ret
  exact ⟨by rw [gt_max x]; rfl, rfl⟩

theorem isInf_down (x : Nat) (hx : x < 18446744073709551616) (w : World) : Calls Try.prog 31 #[.float .f64 x, .int .i64 (-1)] w fun e w' => e = .returned (.bool (infB x && Fl.neg x)) ∧ w = w' := by
  go_enter Try.func31, Try.ntmps31
  go_wp2
  go_ret
  obtain ⟨h1, h2⟩ := neg_flip x hx
  exact ⟨by rw [gt_max]; unfold infB; rw [h1, h2, Bool.not_not]; rfl, rfl⟩

theorem eq_zero (x : Nat) : (FloatKind.f64.format.order x 0 == some .eq) = zeroB x := by
  unfold zeroB
  show (Ieee.double.order x 0 == some .eq) = _
  have : Fl.inf = 9218868437227405312 := rfl
  by_cases h : Fl.inf < Fl.rung x
  · rw [Fl.order_nan (Or.inl h)]; simp; omega
  · rw [Fl.order_key (by omega) (by decide), Fl.key_eq, show Fl.key 0 = 0 from by decide]
    cases hn : Fl.neg x <;> simp only [Fl.sg, if_true, if_false, Bool.false_eq_true, compare, compareOfLessAndEq]
    · by_cases h2 : Fl.rung x = 0
      · rw [if_neg (by omega), if_pos (by omega)]; simp [h2]
      · rw [if_neg (by omega), if_neg (by omega)]; simp [h2]
    · by_cases h2 : Fl.rung x = 0
      · rw [if_neg (by omega), if_pos (by omega)]; simp [h2]
      · rw [if_pos (by omega)]; simp [h2]

theorem gt_zero (x : Nat) : (FloatKind.f64.format.order x 0 == some .gt) = (!Fl.nan x && !Fl.neg x && !zeroB x) := by
  unfold zeroB
  show (Ieee.double.order x 0 == some .gt) = _
  have : Fl.inf = 9218868437227405312 := rfl
  by_cases h : Fl.inf < Fl.rung x
  · rw [Fl.order_nan (Or.inl h)]; simp [Fl.nan, h]
  · rw [Fl.order_key (by omega) (by decide), Fl.key_eq, show Fl.key 0 = 0 from by decide]
    cases hn : Fl.neg x <;> simp only [Fl.sg, if_true, if_false, Bool.false_eq_true, compare, compareOfLessAndEq]
    · by_cases h2 : Fl.rung x = 0
      · rw [if_neg (by omega), if_pos (by omega)]; simp [h2]
      · rw [if_neg (by omega), if_neg (by omega)]; simp [Fl.nan, h]; omega
    · by_cases h2 : Fl.rung x = 0
      · rw [if_neg (by omega), if_pos (by omega)]; simp
      · rw [if_pos (by omega)]; simp [h2]

/-- the class of a word -/
def cls (x : Nat) : Int := if Fl.nan x then 0 else if Fl.neg x then (if zeroB x then 3 else if infB x then 1 else 2) else (if infB x then 6 else if zeroB x then 4 else 5)

set_option maxHeartbeats 1000000 in
theorem class_neg (x : Nat) (hx : x < 18446744073709551616) (hn : Fl.neg x = true) (w : World) : Calls Try.prog 26 #[.float .f64 x] w fun e w' => e = .returned (.int .i64 (cls x)) ∧ w = w' := by
  have hz := eq_zero x
  have hg := gt_zero x
  unfold cls
  cases h1 : Fl.nan x <;> cases h3 : zeroB x <;> cases h4 : infB x
  all_goals
    rw [h3] at hz
    rw [h1, hn, h3] at hg
    go_enter Try.func26, Try.ntmps26
    go_wp2
    go_step3
    go_wp2
    go_step3
    go_wp2_with (first | (go_at_call 29; refine (isNaN_any _ _).mono ?_; rintro e w' ⟨rfl, rfl⟩) | (go_at_call 30; refine (signbit_any _ hx _).mono ?_; rintro e w' ⟨rfl, rfl⟩) | (go_at_call 31; refine (isInf_down _ hx _).mono ?_; rintro e w' ⟨rfl, rfl⟩))
    try rw [Exit.noGoto_ret]
    go_ret
    exact ⟨by simp [hn], rfl⟩

set_option maxHeartbeats 1000000 in
theorem class_pos (x : Nat) (hx : x < 18446744073709551616) (hn : Fl.neg x = false) (w : World) : Calls Try.prog 26 #[.float .f64 x] w fun e w' => e = .returned (.int .i64 (cls x)) ∧ w = w' := by
  have hz := eq_zero x
  have hg := gt_zero x
  unfold cls
  cases h1 : Fl.nan x <;> cases h3 : zeroB x <;> cases h4 : infB x
  all_goals
    rw [h3] at hz
    rw [h1, hn, h3] at hg
    go_enter Try.func26, Try.ntmps26
    go_wp2
    go_step3
    go_wp2
    go_step3
    go_wp2_with (first | (go_at_call 29; refine (isNaN_any _ _).mono ?_; rintro e w' ⟨rfl, rfl⟩) | (go_at_call 30; refine (signbit_any _ hx _).mono ?_; rintro e w' ⟨rfl, rfl⟩) | (go_at_call 31; refine (isInf_up _ hx _).mono ?_; rintro e w' ⟨rfl, rfl⟩))
    try rw [Exit.noGoto_ret]
    go_ret
    exact ⟨by simp [hn], rfl⟩

theorem class_any (x : Nat) (hx : x < 18446744073709551616) (w : World) : Calls Try.prog 26 #[.float .f64 x] w fun e w' => e = .returned (.int .i64 (cls x)) ∧ w = w' := by
  cases hn : Fl.neg x
  · exact class_pos x hx hn w
  · exact class_neg x hx hn w

/-- Less, of words -/
def lsB (x y : Nat) : Bool := decide (rk x < rk y)

theorem lt_key (x y : Nat) : (FloatKind.f64.format.order x y == some .lt) = (!Fl.nan x && !Fl.nan y && decide (Fl.key x < Fl.key y)) := by
  show (Ieee.double.order x y == some .lt) = _
  by_cases h : Fl.inf < Fl.rung x
  · rw [Fl.order_nan (Or.inl h)]; simp [Fl.nan, h]
  by_cases h' : Fl.inf < Fl.rung y
  · rw [Fl.order_nan (Or.inr h')]; simp [Fl.nan, h']
  · rw [Fl.order_key (by omega) (by omega)]; simp only [compare, compareOfLessAndEq, Fl.nan, h, h', decide_false, Bool.not_false, Bool.true_and]
    by_cases h1 : Fl.key x < Fl.key y
    · rw [if_pos h1]; simp [h1]
    · rw [if_neg h1]; by_cases h2 : Fl.key x = Fl.key y
      · rw [if_pos h2]; simp [h2]
      · rw [if_neg h2]; simp [h1]

theorem less_same (x y : Nat) (h : cls x = cls y) : (!Fl.nan x && !Fl.nan y && decide (Fl.key x < Fl.key y)) = lsB x y := by
  unfold cls infB zeroB at h
  unfold lsB rk Fl.key
  cases h1 : Fl.nan x <;> cases h2 : Fl.nan y <;> cases h3 : Fl.neg x <;> cases h4 : Fl.neg y <;> rw [h1, h2, h3, h4] at h <;> simp only [if_true, if_false, Bool.false_eq_true, decide_eq_true_eq, Bool.not_true, Bool.not_false, Bool.and_true, Bool.and_false, Bool.true_and, Bool.false_and] at h ⊢
  all_goals (rw [Bool.eq_iff_iff]; simp only [decide_eq_true_eq, Bool.false_eq_true, false_iff]; (repeat' split at h) <;> first | omega | (exfalso; omega))

theorem less_other (x y : Nat) (h : cls x ≠ cls y) : decide (cls x < cls y) = lsB x y := by
  have a1 : Fl.nan x = false → Fl.rung x ≤ Fl.inf := by unfold Fl.nan; simp
  have a2 : Fl.nan y = false → Fl.rung y ≤ Fl.inf := by unfold Fl.nan; simp
  have : Fl.inf = 9218868437227405312 := rfl
  unfold cls infB zeroB at *
  unfold lsB rk
  cases h1 : Fl.nan x <;> cases h2 : Fl.nan y <;> cases h3 : Fl.neg x <;> cases h4 : Fl.neg y <;> simp only [h1, h2, h3, h4] at h ⊢ <;> simp only [h1, h2, true_implies, Bool.true_eq_false, false_implies] at a1 a2 <;> simp only [if_true, if_false, Bool.false_eq_true, decide_eq_true_eq, ne_eq] at h ⊢
  all_goals (rw [Bool.eq_iff_iff]; simp only [decide_eq_true_eq]; (repeat' split at h) <;> (repeat' split) <;> first | omega | (exfalso; omega))

theorem less_any (x y : Nat) (hx : x < 18446744073709551616) (hy : y < 18446744073709551616) (w : World) : Calls Try.prog 22 #[.float .f64 x, .float .f64 y] w fun e w' => e = .returned (.bool (lsB x y)) ∧ w = w' := by
  by_cases h : cls x = cls y
  · have hl := less_same x y h
    rw [← lt_key] at hl
    have hb : (cls x != cls y) = false := by simp [h]
    clear h
    go_enter Try.func22, Try.ntmps22
    go_wp2_with fail
    refine (class_any _ hx _).mono ?_
    rintro e w' ⟨rfl, rfl⟩
    go_wp2_with fail
    refine (class_any _ hy _).mono ?_
    rintro e w' ⟨rfl, rfl⟩
    go_wp2
    go_ret
    exact ⟨rfl, rfl⟩
  · have hl := less_other x y h
    have hb : (cls x != cls y) = true := by simp [h]
    clear h
    go_enter Try.func22, Try.ntmps22
    go_wp2_with fail
    refine (class_any _ hx _).mono ?_
    rintro e w' ⟨rfl, rfl⟩
    go_wp2_with fail
    refine (class_any _ hy _).mono ?_
    rintro e w' ⟨rfl, rfl⟩
    go_wp2
    go_ret
    exact ⟨rfl, rfl⟩

def sameB (x y : Nat) : Bool := decide (rk x = rk y)

theorem same_of (x y : Nat) (h : lsB x y = false) : (!lsB y x) = sameB x y := by
  unfold lsB sameB at *
  have := of_decide_eq_false h
  rw [Bool.eq_iff_iff]; simp only [Bool.not_eq_true', decide_eq_false_iff_not, decide_eq_true_eq]; omega
theorem same_not (x y : Nat) (h : lsB x y = true) : false = sameB x y := by
  unfold lsB sameB at *
  have := of_decide_eq_true h
  symm; simp only [decide_eq_false_iff_not]; omega

end Go.Proofs.Ythonpifdhjpbgaa
