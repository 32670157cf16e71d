import Derived.Test.YtldohbpiicefpaaFlRef
import Derived.Deep.Draws
namespace Go.Proofs.Ytldohbpiicefpaa
open Go.ChangeShapes Go.WideShapes Go.RowKit
set_option linter.unusedVariables false

/-- whatever a float operation gives: some float, after some draws -/
theorem arith_some (P : Program) (op : BinOp) (hop : op = .add ∨ op = .quo) (t : TypeId) (x y : Nat) (w : World) : ∃ r n, Sem.run P (binOp op t (.float .f64 x) (.float .f64 y)) w = .ok (.float .f64 r) (w.drewN n) ∧ r < 18446744073709551616 := by
  cases h : floatBits op .f64 x y with
  | some r =>
    refine ⟨r, 0, run_float_arith w op t .f64 x y r h, ?_⟩
    have := floatBits_wf h
    simpa [Lit.wf] using this
  | none =>
    refine ⟨Question.cut (.nanBits .f64 x y) (w.tape w.drawn (.nanBits .f64 x y)), 1, ?_, ?_⟩
    · rcases hop with rfl | rfl <;> (simp only [floatBits] at h; simp [binOp, Op.floatArith, h, Question.forced]; rfl)
    · simp only [Question.cut]; omega

def SomeFloat (w : World) (e : Ending) (w' : World) : Prop := ∃ r n, e = .returned (.float .f64 r) ∧ r < 18446744073709551616 ∧ w' = w.drewN n

theorem mid_any (x y : Nat) (w : World) : Calls Try.prog 22 #[.float .f64 x, .float .f64 y] w (SomeFloat w) := by
  obtain ⟨r1, n1, e1, _⟩ := arith_some Try.prog .quo (Or.inr rfl) 22 x 4611686018427387904 w
  obtain ⟨r2, n2, e2, _⟩ := arith_some Try.prog .quo (Or.inr rfl) 22 y 4611686018427387904 (w.drewN n1)
  obtain ⟨r3, n3, e3, h3⟩ := arith_some Try.prog .add (Or.inl rfl) 22 r1 r2 (w.drewN (n1 + n2))
  go_enter Try.func22, Try.ntmps22
  go_wp2
  go_ret
  exact ⟨r3, (n1 + n2) + n3, rfl, h3, rfl⟩

/-- nought, or so great that its half is exact -/
def exactB (x : Nat) : Bool := zeroB x || (!Fl.nan x && decide (118622047889322841 < Fl.rung x))

theorem gt_exact (x : Nat) : (FloatKind.f64.format.order x 118622047889322841 == some .gt) = (!Fl.nan x && !Fl.neg x && decide (118622047889322841 < Fl.rung x)) := by
  show (Ieee.double.order x 118622047889322841 == some .gt) = _
  have hi : Fl.inf = 9218868437227405312 := rfl
  by_cases h : Fl.inf < Fl.rung x
  · rw [Fl.order_nan (Or.inl h)]; simp [Fl.nan, h]
  · rw [Fl.order_key (by omega) (by decide), Fl.key_eq, show Fl.key 118622047889322841 = 118622047889322841 from by decide]
    cases hn : Fl.neg x <;> simp only [Fl.sg, if_true, if_false, Bool.false_eq_true, compare, compareOfLessAndEq]
    · by_cases h2 : 118622047889322841 < Fl.rung x
      · rw [if_neg (by omega), if_neg (by omega)]; simp [Fl.nan, h, h2]
      · by_cases h3 : (Fl.rung x : Int) = 118622047889322841
        · rw [if_neg (by omega), if_pos h3]; simp [h2]
        · rw [if_pos (by omega)]; simp [h2]
    · rw [if_pos (by omega)]; simp
theorem lt_exact (x : Nat) : (FloatKind.f64.format.order x 9341994084744098649 == some .lt) = (!Fl.nan x && Fl.neg x && decide (118622047889322841 < Fl.rung x)) := by
  show (Ieee.double.order x 9341994084744098649 == some .lt) = _
  have hi : Fl.inf = 9218868437227405312 := rfl
  by_cases h : Fl.inf < Fl.rung x
  · rw [Fl.order_nan (Or.inl h)]; simp [Fl.nan, h]
  · rw [Fl.order_key (by omega) (by decide), Fl.key_eq, show Fl.key 9341994084744098649 = -118622047889322841 from by decide]
    cases hn : Fl.neg x <;> simp only [Fl.sg, if_true, if_false, Bool.false_eq_true, compare, compareOfLessAndEq]
    · by_cases h3 : (Fl.rung x : Int) < -118622047889322841
      · omega
      · rw [if_neg h3, if_neg (by omega)]; simp
    · by_cases h2 : 118622047889322841 < Fl.rung x
      · rw [if_pos (by omega)]; simp [Fl.nan, h, h2]
      · by_cases h3 : -(Fl.rung x : Int) = -118622047889322841
        · rw [if_neg (by omega), if_pos h3]; simp [h2]
        · rw [if_neg (by omega), if_neg h3]; simp [h2]

theorem exact_any (x : Nat) (w : World) : Calls Try.prog 23 #[.float .f64 x] w fun e w' => e = .returned (.bool (exactB x)) ∧ w = w' := by
  have h1 := eq_zero x
  have h2 := gt_exact x
  have h3 := lt_exact x
  cases a : zeroB x
  · rw [a] at h1
    cases b : (!Fl.nan x && decide (118622047889322841 < Fl.rung x))
    · have hb : exactB x = false := by unfold exactB; rw [a, b]; rfl
      have h2' : (!Fl.nan x && !Fl.neg x && decide (118622047889322841 < Fl.rung x)) = false := by rw [Bool.and_right_comm, b]; rfl
      have h3' : (!Fl.nan x && Fl.neg x && decide (118622047889322841 < Fl.rung x)) = false := by rw [Bool.and_right_comm, b]; rfl
      rw [h2'] at h2; rw [h3'] at h3
      rw [hb]; clear h2' h3' b a hb
      go_enter Try.func23, Try.ntmps23
      go_wp2; go_ret; exact ⟨rfl, rfl⟩
    · have hb : exactB x = true := by unfold exactB; rw [a, b]; rfl
      rw [Bool.and_right_comm, b, Bool.true_and] at h2 h3
      rw [hb]; clear b a hb
      cases c : Fl.neg x
      all_goals
        rw [c] at h2 h3; clear c
        go_enter Try.func23, Try.ntmps23
        go_wp2; go_ret; exact ⟨rfl, rfl⟩
  · have hb : exactB x = true := by unfold exactB; rw [a]; rfl
    rw [a] at h1
    rw [hb]; clear hb a h2 h3
    go_enter Try.func23, Try.ntmps23
    go_wp2; go_ret; exact ⟨rfl, rfl⟩

theorem half_exact {x : Nat} (hf : Fl.rung x < Fl.inf) (he : exactB x = true) : ∃ R, Ieee.double.div x 4611686018427387904 = some (Ieee.double.word (Fl.neg x) R) ∧ R ≤ Fl.rung x ∧ 2 * Fl.V R = Fl.V (Fl.rung x) := by
  obtain ⟨R, h1, _, h3⟩ := Fl.half hf
  by_cases h0 : Fl.rung x = 0
  · have := (h3 0).2 (by rw [h0, Fl.V_zero]; omega)
    have hR : R = 0 := by omega
    subst hR
    exact ⟨0, h1, by omega, by rw [h0, Fl.V_zero]⟩
  · have hg : 118622047889322841 < Fl.rung x := by
      unfold exactB zeroB at he
      simp only [Bool.or_eq_true, decide_eq_true_eq, Bool.and_eq_true] at he
      omega
    have hi : Fl.inf = 9218868437227405312 := rfl
    have ht := Fl.V_twice (Fl.rung x - 4503599627370496) (by omega)
    rw [Nat.sub_add_cancel (by omega)] at ht
    have a := (h3 (Fl.rung x - 4503599627370496)).1 (by omega) (by omega)
    have b := (h3 (Fl.rung x - 4503599627370496)).2 (by omega)
    have hR : R = Fl.rung x - 4503599627370496 := by omega
    exact ⟨R, h1, by omega, by rw [hR]; omega⟩

theorem near_above {z R : Nat} {s : Bool} {S : Int} (hz : Fl.rung z < Fl.inf) (h1 : s = true → S ≤ 0) (h2 : s = false → 0 ≤ S)
    (h3 : ∀ k, (k ≤ Fl.inf → Fl.V k ≤ S.natAbs → k ≤ R) ∧ (S.natAbs ≤ Fl.V k → R ≤ k)) (h : Fl.val z ≤ S) : Fl.key z ≤ Fl.sg s R := by
  unfold Fl.val at h
  rw [Fl.key_eq]
  have hp := @Fl.V_pos (Fl.rung z)
  obtain ⟨a, b⟩ := h3 (Fl.rung z)
  have b0 := (h3 0).2
  rw [Fl.V_zero] at b0
  cases s <;> cases hn : Fl.neg z <;> rw [hn] at h <;> simp only [Fl.sg, if_true, if_false, Bool.false_eq_true] at h ⊢
  · have := h2 rfl
    have := a (by omega) (by omega)
    omega
  · omega
  · have := h1 rfl
    have := b0 (by omega)
    have : Fl.rung z = 0 := by
      apply Classical.byContradiction; intro hne
      have := hp (by omega); omega
    omega
  · have := h1 rfl
    have := b (by omega)
    omega

theorem near_below {z R : Nat} {s : Bool} {S : Int} (hz : Fl.rung z < Fl.inf) (h1 : s = true → S ≤ 0) (h2 : s = false → 0 ≤ S)
    (h3 : ∀ k, (k ≤ Fl.inf → Fl.V k ≤ S.natAbs → k ≤ R) ∧ (S.natAbs ≤ Fl.V k → R ≤ k)) (h : S ≤ Fl.val z) : Fl.sg s R ≤ Fl.key z := by
  unfold Fl.val at h
  rw [Fl.key_eq]
  have hp := @Fl.V_pos (Fl.rung z)
  obtain ⟨a, b⟩ := h3 (Fl.rung z)
  have b0 := (h3 0).2
  rw [Fl.V_zero] at b0
  cases s <;> cases hn : Fl.neg z <;> rw [hn] at h <;> simp only [Fl.sg, if_true, if_false, Bool.false_eq_true] at h ⊢
  · have := h2 rfl
    have := b (by omega)
    omega
  · have := h2 rfl
    have := b0 (by omega)
    have : Fl.rung z = 0 := by
      apply Classical.byContradiction; intro hne
      have := hp (by omega); omega
    omega
  · have := h1 rfl
    omega
  · have := h1 rfl
    have := a (by omega) (by omega)
    omega

def geB (x y : Nat) : Bool := FloatKind.f64.format.order x y == some .gt || FloatKind.f64.format.order x y == some .eq
def leB (x y : Nat) : Bool := FloatKind.f64.format.order x y == some .lt || FloatKind.f64.format.order x y == some .eq
theorem ge_of {x y : Nat} (hx : Fl.rung x ≤ Fl.inf) (hy : Fl.rung y ≤ Fl.inf) (h : Fl.key y ≤ Fl.key x) : geB x y = true := by
  unfold geB
  show (Ieee.double.order x y == some .gt || Ieee.double.order x y == some .eq) = true
  rw [Fl.order_key hx hy]
  simp only [compare, compareOfLessAndEq]
  rw [if_neg (by omega)]
  split <;> rfl
theorem le_of {x y : Nat} (hx : Fl.rung x ≤ Fl.inf) (hy : Fl.rung y ≤ Fl.inf) (h : Fl.key x ≤ Fl.key y) : leB x y = true := by
  unfold leB
  show (Ieee.double.order x y == some .lt || Ieee.double.order x y == some .eq) = true
  rw [Fl.order_key hx hy]
  simp only [compare, compareOfLessAndEq]
  by_cases e : Fl.key x < Fl.key y
  · rw [if_pos e]; rfl
  · rw [if_neg e, if_pos (by omega)]; rfl

structure Middle (x y m : Nat) : Prop where
  small : m < 18446744073709551616
  fin : Fl.rung m < Fl.inf
  ge : geB m x = true ∨ geB m y = true
  le : leB m x = true ∨ leB m y = true

theorem middle {x y : Nat} (fx : Fl.rung x < Fl.inf) (fy : Fl.rung y < Fl.inf) (ex : exactB x = true) (ey : exactB y = true) :
    ∃ hx hy m, Ieee.double.div x 4611686018427387904 = some hx ∧ Ieee.double.div y 4611686018427387904 = some hy ∧ Ieee.double.add hx hy = some m ∧ Ieee.double.add hy hx = some m ∧ Middle x y m := by
  obtain ⟨Rx, x1, x2, x3⟩ := half_exact fx ex
  obtain ⟨Ry, y1, y2, y3⟩ := half_exact fy ey
  obtain ⟨wx1, wx2, _⟩ := Fl.word_rung (Fl.neg x) Rx (by omega)
  obtain ⟨wy1, wy2, _⟩ := Fl.word_rung (Fl.neg y) Ry (by omega)
  obtain ⟨s, R, s1, s2, s3, s4, s5, s6⟩ := Fl.sum_fin (x := Ieee.double.word (Fl.neg x) Rx) (y := Ieee.double.word (Fl.neg y) Ry) (by omega) (by omega)
  obtain ⟨wm1, wm2, wm3⟩ := Fl.word_rung s R s3
  have hk := Fl.word_key s R s3
  have vx : 2 * Fl.val (Ieee.double.word (Fl.neg x) Rx) = Fl.val x := by
    unfold Fl.val; rw [wx1, wx2, ← x3]
    cases Fl.neg x <;> simp only [Fl.sg, if_true, if_false, Bool.false_eq_true] <;> omega
  have vy : 2 * Fl.val (Ieee.double.word (Fl.neg y) Ry) = Fl.val y := by
    unfold Fl.val; rw [wy1, wy2, ← y3]
    cases Fl.neg y <;> simp only [Fl.sg, if_true, if_false, Bool.false_eq_true] <;> omega
  have hS : 2 * (Fl.val (Ieee.double.word (Fl.neg x) Rx) + Fl.val (Ieee.double.word (Fl.neg y) Ry)) = Fl.val x + Fl.val y := by omega
  generalize Fl.val (Ieee.double.word (Fl.neg x) Rx) + Fl.val (Ieee.double.word (Fl.neg y) Ry) = S at *
  have ax : (Fl.val x).natAbs = Fl.V (Fl.rung x) := by unfold Fl.val Fl.sg; cases Fl.neg x <;> simp
  have ay : (Fl.val y).natAbs = Fl.V (Fl.rung y) := by unfold Fl.val Fl.sg; cases Fl.neg y <;> simp
  have hR : R < Fl.inf := by
    have a := (s6 (Fl.rung x)).2
    have b := (s6 (Fl.rung y)).2
    by_cases c : S.natAbs ≤ Fl.V (Fl.rung x)
    · have := a c; omega
    · have := b (by omega); omega
  refine ⟨_, _, _, x1, y1, s1, s2, wm3, by omega, ?_, ?_⟩
  · by_cases c : Fl.val x ≤ S
    · exact Or.inl (ge_of (by omega) (by omega) (by rw [hk]; exact near_above fx s4 s5 s6 c))
    · exact Or.inr (ge_of (by omega) (by omega) (by rw [hk]; exact near_above fy s4 s5 s6 (by omega)))
  · by_cases c : S ≤ Fl.val x
    · exact Or.inl (le_of (by omega) (by omega) (by rw [hk]; exact near_below fx s4 s5 s6 c))
    · exact Or.inr (le_of (by omega) (by omega) (by rw [hk]; exact near_below fy s4 s5 s6 (by omega)))

theorem mid_good (x y hx hy m : Nat) (h1 : Ieee.double.div x 4611686018427387904 = some hx) (h2 : Ieee.double.div y 4611686018427387904 = some hy) (h3 : Ieee.double.add hx hy = some m) (w : World) :
    Calls Try.prog 22 #[.float .f64 x, .float .f64 y] w fun e w' => e = .returned (.float .f64 m) ∧ w = w' := by
  have e1 : Sem.run Try.prog (binOp .quo 22 (.float .f64 x) (.float .f64 4611686018427387904)) w = .ok (.float .f64 hx) w := run_float_arith w .quo _ _ _ _ _ h1
  have e2 : Sem.run Try.prog (binOp .quo 22 (.float .f64 y) (.float .f64 4611686018427387904)) w = .ok (.float .f64 hy) w := run_float_arith w .quo _ _ _ _ _ h2
  have e3 : Sem.run Try.prog (binOp .add 22 (.float .f64 hx) (.float .f64 hy)) w = .ok (.float .f64 m) w := run_float_arith w .add _ _ _ _ _ h3
  clear h1 h2 h3
  go_enter Try.func22, Try.ntmps22
  go_wp2
  go_ret
  exact ⟨rfl, rfl⟩

end Go.Proofs.Ytldohbpiicefpaa
