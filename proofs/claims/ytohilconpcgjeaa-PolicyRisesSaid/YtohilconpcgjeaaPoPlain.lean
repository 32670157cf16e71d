import Derived.Test.YtohilconpcgjeaaPoRest
namespace Go.Proofs.Ytohilconpcgjeaa
open Wd Go.ChangeShapes Go.WideShapes Go.RowKit
set_option linter.unusedVariables false

theorem le_key (x y : Nat) : (FloatKind.f64.format.order x y == some .lt || FloatKind.f64.format.order x y == some .eq) = Fl.geO (Fl.cv y) (Fl.cv x) := by
  show (Ieee.double.order x y == some .lt || Ieee.double.order x y == some .eq) = _
  unfold Fl.cv
  cases h1 : Fl.nan x
  · cases h2 : Fl.nan y
    · have a : Fl.rung x ≤ Fl.inf := by simpa [Fl.nan] using h1
      have b : Fl.rung y ≤ Fl.inf := by simpa [Fl.nan] using h2
      rw [Fl.order_key a b]
      show _ = decide (Fl.key x ≤ Fl.key y)
      simp only [compare, compareOfLessAndEq]
      by_cases c : Fl.key x < Fl.key y
      · rw [if_pos c]; simp; omega
      · rw [if_neg c]
        by_cases d : Fl.key x = Fl.key y
        · rw [if_pos d]; simp; omega
        · rw [if_neg d]; simp; omega
    · rw [Fl.order_nan (.inr (Fl.nan_lt h2))]; rfl
  · rw [Fl.order_nan (.inl (Fl.nan_lt h1))]; cases Fl.nan y <;> rfl

def wiB (x lo hi : Nat) : Bool := Fl.geO (Fl.cv x) (Fl.cv lo) && Fl.geO (Fl.cv hi) (Fl.cv x)

theorem within_any (x lo hi : Nat) (w : World) : Calls Try.prog 32 #[.float .f64 x, .float .f64 lo, .float .f64 hi] w fun e w' => e = .returned (.bool (wiB x lo hi)) ∧ w = w' := by
  have h1 := le_key lo x
  have h2 := le_key x hi
  unfold wiB
  cases a : Fl.geO (Fl.cv x) (Fl.cv lo)
  · rw [a] at h1
    clear h2 a
    go_enter Try.func32, Try.ntmps32
    go_wp2; go_ret; exact ⟨rfl, rfl⟩
  · rw [a] at h1
    cases b : Fl.geO (Fl.cv hi) (Fl.cv x) <;> rw [b] at h2
    all_goals
      clear a b
      go_enter Try.func32, Try.ntmps32
      go_wp2; go_ret; exact ⟨rfl, rfl⟩

def plainB (K G L : Nat) : Bool := wiB K 0 4607182418800017408 && wiB G 0 9218868437227405311 && !Fl.nan L

theorem plain_any (K G L : Nat) (w : World) : Calls Try.prog 21 #[.agg #[.float .f64 K, .float .f64 G, .float .f64 L]] w (BoolB (plainB K G L) w) := by
  unfold plainB
  cases h1 : wiB K 0 4607182418800017408 <;> cases h2 : wiB G 0 9218868437227405311 <;> cases h3 : Fl.nan L
  all_goals
    go_enter Try.func21, Try.ntmps21
    go_wp2_with (first | (go_at_call 32; refine (within_any _ _ _ _).mono ?_; rintro e w' ⟨rfl, rfl⟩) | (go_at_call 33; refine (isNaN_any _ _).mono ?_; rintro e w' ⟨rfl, rfl⟩))
    go_ret
    exact ⟨rfl, (Below.refl _ _).alloc (Nat.le_refl _) _⟩

/-- of plain numbers, without syncs: nought -/
theorem mul_zero {K z : Nat} (hK : Fl.rung K < Fl.inf) (hz : Fl.rung z = 0) : ∃ r, Ieee.double.mul K z = some r ∧ Fl.rung r = 0 := by
  obtain ⟨m, e, h1, _⟩ := Fl.read_num hK
  have h2 : Ieee.double.read z = .number (Fl.neg z) 0 (-1074) := by rw [Fl.read_eq, hz, if_pos (by decide)]
  unfold Ieee.Format.mul
  rw [h1, h2]
  refine ⟨_, rfl, ?_⟩
  show Fl.rung (Ieee.double.nearest _ (m * 0) _) = 0
  unfold Ieee.Format.nearest
  rw [Nat.mul_zero, if_pos rfl]
  exact (Fl.word_rung _ 0 (Nat.zero_le _)).1

theorem plain_fin {K G L : Nat} (h : plainB K G L = true) : Fl.nan K = false ∧ Fl.rung K ≤ 4607182418800017408 ∧ (Fl.neg K = true → Fl.rung K = 0) ∧ Fl.nan G = false ∧ Fl.rung G ≤ 9218868437227405311 ∧ (Fl.neg G = true → Fl.rung G = 0) ∧ Fl.nan L = false := by
  unfold plainB wiB at h
  simp only [Bool.and_eq_true, Bool.not_eq_true'] at h
  obtain ⟨⟨⟨a1, a2⟩, b1, b2⟩, c⟩ := h
  have c0 : Fl.cv 0 = some 0 := by decide
  have c1 : Fl.cv 4607182418800017408 = some 4607182418800017408 := by decide
  have c2 : Fl.cv 9218868437227405311 = some 9218868437227405311 := by decide
  have k0 : Fl.key 0 = 0 := by decide
  have k1 : Fl.key 4607182418800017408 = 4607182418800017408 := by decide
  have k2 : Fl.key 9218868437227405311 = 9218868437227405311 := by decide
  rw [c0] at a1 b1
  rw [c1] at a2
  rw [c2] at b2
  unfold Fl.cv at a1 a2 b1 b2
  cases hk : Fl.nan K
  · rw [hk] at a1 a2
    cases hg : Fl.nan G
    · rw [hg] at b1 b2
      have a1' := of_decide_eq_true a1
      have a2' := of_decide_eq_true a2
      have b1' := of_decide_eq_true b1
      have b2' := of_decide_eq_true b2
      rw [k0, Fl.key_eq] at a1' b1'
      rw [k1, Fl.key_eq] at a2'
      rw [k2, Fl.key_eq] at b2'
      refine ⟨rfl, ?_, ?_, rfl, ?_, ?_, c⟩
      · cases hn : Fl.neg K <;> rw [hn] at a1' a2' <;> simp [Fl.sg] at a1' a2' <;> omega
      · intro hn; rw [hn] at a1'; simp [Fl.sg] at a1'; omega
      · cases hn : Fl.neg G <;> rw [hn] at b1' b2' <;> simp [Fl.sg] at b1' b2' <;> omega
      · intro hn; rw [hn] at b1'; simp [Fl.sg] at b1'; omega
    · rw [hg] at b1; cases b1
  · rw [hk] at a1; cases a1

theorem sc_none {K G L : Nat} (h : plainB K G L = true) (n : Nat) : ∃ r, Fl.sc K G (List.replicate n false) = some r ∧ Fl.rung r = 0 := by
  induction n with
  | zero => exact ⟨0, rfl, rfl⟩
  | succ n ih =>
    obtain ⟨r, h1, h2⟩ := ih
    obtain ⟨p1, p2, _⟩ := plain_fin h
    rw [List.replicate_succ', Fl.sc_snoc, h1]
    obtain ⟨q, h3, h4⟩ := mul_zero (K := K) (z := r) (by unfold Fl.inf; omega) h2
    refine ⟨q, ?_, h4⟩
    rw [← h3]
    show Fl.mulO (Fl.cv K) (some r) = _
    unfold Fl.cv; rw [p1]; rfl
end Go.Proofs.Ytohilconpcgjeaa
