import Derived.Test.YthonpifdhjpbgaaFlMath
namespace Fl
open Ieee

theorem word_rung (s : Bool) (R : Nat) (h : R ≤ inf) : rung (double.word s R) = R ∧ neg (double.word s R) = s ∧ double.word s R < 18446744073709551616 := by
  have hw : double.signWeight = 9223372036854775808 := by decide
  unfold Format.word rung neg
  rw [hw]
  unfold inf at h
  cases s
  · simp only [Bool.false_eq_true, if_false]
    refine ⟨by omega, ?_, by omega⟩
    have : R / 9223372036854775808 = 0 := by omega
    rw [this]; rfl
  · simp only [if_true]
    refine ⟨by omega, ?_, by omega⟩
    have : (9223372036854775808 + R) / 9223372036854775808 = 1 := by omega
    rw [this]; rfl

theorem word_key (s : Bool) (R : Nat) (h : R ≤ inf) : key (double.word s R) = sg s R := by
  obtain ⟨a, b, _⟩ := word_rung s R h
  rw [key_eq, a, b]

/-- a half, of any finite word -/
theorem half {x : Nat} (hx : rung x < inf) : ∃ R, double.div x 4611686018427387904 = some (double.word (neg x) R) ∧ R ≤ inf ∧
    ∀ k, (k ≤ inf → 2 * V k ≤ V (rung x) → k ≤ R) ∧ (V (rung x) ≤ 2 * V k → R ≤ k) := by
  obtain ⟨m, e, h1, h2, h3, _⟩ := read_num hx
  have ht : double.read 4611686018427387904 = .number false 4503599627370496 (-51) := by rfl
  unfold Format.div
  rw [h1, ht]
  simp only [Datum.quotient]
  rw [if_neg (by decide)]
  have hfb : double.fractionBits + 2 = 54 := rfl
  have hl2 : Nat.log2 4503599627370496 = 52 := by decide
  rw [hfb, hl2]
  have hlm : m.log2 < 53 := by
    by_cases h0 : m = 0
    · subst h0; decide
    · exact (Nat.log2_lt h0).2 (by omega)
  generalize hmore : 54 + 52 - m.log2 = more
  have hm0 : m <<< more % 4503599627370496 = 0 ∧ m <<< more / 4503599627370496 = m * 2 ^ (more - 52) := by
    have e1 : m <<< more = 4503599627370496 * (m * 2 ^ (more - 52)) := by
      rw [Nat.shiftLeft_eq]
      have : 2 ^ more = 4503599627370496 * 2 ^ (more - 52) := by
        rw [show (4503599627370496 : Nat) = 2 ^ 52 from rfl, ← Nat.pow_add, show 52 + (more - 52) = more from by omega]
      rw [this, Nat.mul_left_comm]
    rw [e1]
    exact ⟨Nat.mul_mod_right .., Nat.mul_div_right _ (by omega)⟩
  rw [hm0.1, hm0.2]
  have hb : ((0 : Nat) != 0).toNat = 0 := rfl
  rw [hb, Nat.add_zero]
  obtain ⟨R, r1, r2, r3⟩ := nearest_spec (neg x ^^ false) (2 * (m * 2 ^ (more - 52))) (-1074 + (e : Int) - -51 - (more : Int) - 1)
  refine ⟨R, ?_, r2, fun k => ?_⟩
  · rw [Bool.xor_false] at r1 ⊢
    show some (double.nearest _ _ _) = _
    rw [r1]
  · obtain ⟨b1, b2⟩ := r3 (e + 50) more k (by omega)
    have hs : 2 * (m * 2 ^ (more - 52)) * 2 ^ (e + 50) = V (rung x) * 2 ^ (more - 1) := by
      rw [← h2, Nat.shiftLeft_eq]
      have e1 : 2 * (m * 2 ^ (more - 52)) * 2 ^ (e + 50) = m * (2 ^ 1 * 2 ^ (more - 52) * 2 ^ (e + 50)) := by
        simp only [Nat.pow_one, Nat.mul_comm, Nat.mul_left_comm]
      rw [e1, ← Nat.pow_add, ← Nat.pow_add, Nat.mul_assoc, ← Nat.pow_add, show 1 + (more - 52) + (e + 50) = e + (more - 1) from by omega]
    have hk : V k * 2 ^ more = 2 * V k * 2 ^ (more - 1) := by
      obtain ⟨q, hq⟩ : ∃ q, more = q + 1 := ⟨more - 1, by omega⟩
      rw [hq, Nat.pow_succ, Nat.add_sub_cancel, Nat.mul_comm (2 ^ q) 2, ← Nat.mul_assoc, Nat.mul_comm (V k) 2]
    rw [hs, hk] at b1 b2
    have hp := Nat.two_pow_pos (more - 1)
    exact ⟨fun hki h => b1 hki (Nat.mul_le_mul_right _ h), fun h => b2 (Nat.mul_le_mul_right _ h)⟩

/-- twice as much: a binade further up -/
theorem V_twice (k : Nat) (h : 4503599627370496 ≤ k) : V (k + 4503599627370496) = 2 * V k := by
  unfold V
  rw [if_neg (by omega), if_neg (by omega)]
  have e1 : (k + 4503599627370496) % 4503599627370496 = k % 4503599627370496 := by omega
  have e2 : (k + 4503599627370496) / 4503599627370496 - 1 = (k / 4503599627370496 - 1) + 1 := by omega
  rw [e1, e2, Nat.shiftLeft_eq, Nat.shiftLeft_eq, Nat.pow_succ, Nat.mul_comm (2 ^ _) 2, Nat.mul_left_comm]

theorem V_le_twice (k : Nat) (h : 2 ≤ k) : V k ≤ 2 * V (k - 1) := by
  by_cases h1 : k ≤ 4503599627370496
  · have e1 : V (k - 1) = k - 1 := by unfold V; rw [if_pos (by omega)]
    have e2 : V k = k := by
      by_cases h2 : k = 4503599627370496
      · subst h2; decide
      · unfold V; rw [if_pos (by omega)]
    omega
  · rw [← V_twice (k - 1) (by omega)]
    exact V_le (by omega)

/-- half of a finite one that is not nought is another one; nearer to nought -/
theorem half_less {x : Nat} (hx : rung x < inf) (h0 : 0 < rung x) : ∃ R, double.div x 4611686018427387904 = some (double.word (neg x) R) ∧ R < rung x := by
  obtain ⟨R, h1, _, h3⟩ := half hx
  refine ⟨R, h1, ?_⟩
  by_cases h : rung x = 1
  · -- half of the least: nought, since it is even
    rw [h]
    have e : double.div x 4611686018427387904 = some (double.word (neg x) 0) := by
      unfold Format.div
      have ht : double.read 4611686018427387904 = .number false 4503599627370496 (-51) := by rfl
      rw [ht, read_eq, if_pos (by omega), h]
      cases neg x <;> decide
    rw [e] at h1
    have h1' := Option.some.inj h1
    have := (word_rung (neg x) 0 (by decide)).1
    rw [h1'] at this
    have := (word_rung (neg x) R (by assumption)).1
    omega
  · have := ((h3 (rung x - 1)).2 (V_le_twice (rung x) (by omega)))
    omega

theorem half_inf {x : Nat} (hx : rung x = inf) : double.div x 4611686018427387904 = some (double.word (neg x) inf) := by
  unfold Format.div
  have ht : double.read 4611686018427387904 = .number false 4503599627370496 (-51) := by rfl
  rw [ht, read_inf hx]
  simp only [Datum.quotient, Option.map_some, Bool.xor_false]
  rfl

/-- one by nought -/
theorem one_by {x : Nat} (hx : rung x = 0) : double.div 4607182418800017408 x = some (double.word (neg x) inf) := by
  unfold Format.div
  have ht : double.read 4607182418800017408 = .number false 4503599627370496 (-52) := by rfl
  rw [ht, read_eq, hx, if_pos (by decide)]
  simp only [Datum.quotient, if_true]
  rw [if_neg (by decide)]
  simp only [Option.map_some, Bool.false_xor]
  rfl

def val (x : Nat) : Int := sg (neg x) (V (rung x))

theorem sg_mul (s : Bool) (a p : Nat) : sg s (a * p) = sg s a * (p : Int) := by
  cases s <;> simp only [sg, if_true, if_false, Bool.false_eq_true] <;> push_cast <;> simp only [Int.neg_mul]

/-- the sum of two finite words -/
theorem sum_fin {x y : Nat} (hx : rung x < inf) (hy : rung y < inf) : ∃ s R, double.add x y = some (double.word s R) ∧ double.add y x = some (double.word s R) ∧ R ≤ inf ∧
    (s = true → val x + val y ≤ 0) ∧ (s = false → 0 ≤ val x + val y) ∧
    ∀ k, (k ≤ inf → V k ≤ (val x + val y).natAbs → k ≤ R) ∧ ((val x + val y).natAbs ≤ V k → R ≤ k) := by
  obtain ⟨m, e, h1, h2, _, _⟩ := read_num hx
  obtain ⟨n, j, g1, g2, _, _⟩ := read_num hy
  unfold Format.add
  rw [h1, g1]
  have e1 : ((-1074 + (e : Int)) - min (-1074 + (e : Int)) (-1074 + (j : Int))).toNat = e - min e j := by omega
  have e2 : ((-1074 + (j : Int)) - min (-1074 + (e : Int)) (-1074 + (j : Int))).toNat = j - min e j := by omega
  have e3 : min (-1074 + (j : Int)) (-1074 + (e : Int)) = min (-1074 + (e : Int)) (-1074 + (j : Int)) := by omega
  have hval : val x + val y = (signed (neg x) m (e - min e j) + signed (neg y) n (j - min e j)) * ((2 ^ (min e j) : Nat) : Int) := by
    unfold val
    rw [← h2, ← g2, signed_eq, signed_eq, Int.add_mul, ← sg_mul, ← sg_mul]
    simp only [Nat.shiftLeft_eq]
    rw [Nat.mul_assoc, Nat.mul_assoc, ← Nat.pow_add, ← Nat.pow_add, Nat.sub_add_cancel (by omega), Nat.sub_add_cancel (by omega)]
  have hS : ∀ (s t : Bool) (m n : Nat) (i j : Int), (Datum.number s m i).sum (.number t n j) = some (.number (if signed s m (i - min i j).toNat + signed t n (j - min i j).toNat = 0 then s && t else decide (signed s m (i - min i j).toNat + signed t n (j - min i j).toNat < 0)) (signed s m (i - min i j).toNat + signed t n (j - min i j).toNat).natAbs (min i j)) := fun _ _ _ _ _ _ => rfl
  have hc : (Datum.number (neg y) n (-1074 + (j : Int))).sum (.number (neg x) m (-1074 + (e : Int))) = (Datum.number (neg x) m (-1074 + (e : Int))).sum (.number (neg y) n (-1074 + (j : Int))) := by
    simp only [hS]
    rw [e3]
    simp only [Int.add_comm (signed (neg y) n _), Bool.and_comm (neg y)]
  rw [hc, hS]
  simp only [e1, e2]
  generalize signed (neg x) m (e - min e j) + signed (neg y) n (j - min e j) = T at *
  generalize hs : (if T = 0 then neg x && neg y else decide (T < 0)) = s
  obtain ⟨R, r1, r2, r3⟩ := nearest_spec s T.natAbs (min (-1074 + (e : Int)) (-1074 + (j : Int)))
  have hp := Nat.two_pow_pos (min e j)
  refine ⟨s, R, ?_, ?_, r2, ?_, ?_, fun k => ?_⟩
  · show some (double.nearest _ _ _) = _
    rw [r1]
  · show some (double.nearest _ _ _) = _
    rw [r1]
  · intro hs'
    rw [hval]
    have : T ≤ 0 := by
      rw [hs'] at hs
      by_cases hz : T = 0
      · omega
      · rw [if_neg hz] at hs; have := of_decide_eq_true hs; omega
    exact Int.mul_nonpos_of_nonpos_of_nonneg this (by omega)
  · intro hs'
    rw [hval]
    have : 0 ≤ T := by
      rw [hs'] at hs
      by_cases hz : T = 0
      · omega
      · rw [if_neg hz] at hs; have := of_decide_eq_false hs; omega
    exact Int.mul_nonneg this (by omega)
  · obtain ⟨b1, b2⟩ := r3 (min e j) 0 k (by omega)
    have hna : (val x + val y).natAbs = T.natAbs * 2 ^ (min e j) := by
      rw [hval, Int.natAbs_mul, Int.natAbs_natCast]
    rw [hna]
    rw [Nat.pow_zero, Nat.mul_one] at b1 b2
    exact ⟨b1, b2⟩

end Fl
