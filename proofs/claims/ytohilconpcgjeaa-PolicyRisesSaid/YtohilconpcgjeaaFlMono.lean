import Derived.Test.YtohilconpcgjeaaFlMath2
namespace Fl
open Ieee

/-- halves go to even -/
theorem cut_tie (s : Bool) (n D : Nat) : (2 * n = 2 * (Toward.even.cut s n D) * 2 ^ D + 2 ^ D → (Toward.even.cut s n D) % 2 = 0) ∧ (2 * (Toward.even.cut s n D) * 2 ^ D = 2 * n + 2 ^ D → (Toward.even.cut s n D) % 2 = 0) := by
  have hD := Nat.two_pow_pos D
  unfold Toward.cut
  by_cases hc : D ≤ n.log2 + 2
  · rw [Nat.min_eq_left hc]
    simp only [Nat.shiftLeft_eq, Nat.one_mul]
    have hdm := Nat.div_add_mod n (2 ^ D)
    have hlt := Nat.mod_lt n hD
    generalize n / 2 ^ D = low at *
    generalize n % 2 ^ D = rest at *
    have e : 2 ^ D * low = low * 2 ^ D := Nat.mul_comm _ _
    rw [e] at hdm
    by_cases hm : (decide (2 ^ D < 2 * rest) || (2 ^ D == 2 * rest && low % 2 == 1)) = true
    · rw [hm]
      have e2 : 2 * (low + true.toNat) * 2 ^ D = 2 * (low * 2 ^ D) + 2 * 2 ^ D := by
        show 2 * (low + 1) * 2 ^ D = _
        rw [Nat.mul_assoc, Nat.add_mul]; omega
      rw [e2]
      show (_ → (low + 1) % 2 = 0) ∧ (_ → (low + 1) % 2 = 0)
      simp only [Bool.or_eq_true, decide_eq_true_eq, Bool.and_eq_true, beq_iff_eq] at hm
      refine ⟨fun h => ?_, fun h => ?_⟩ <;> omega
    · have hm' : (decide (2 ^ D < 2 * rest) || (2 ^ D == 2 * rest && low % 2 == 1)) = false := by simpa using hm
      rw [hm']
      have e2 : 2 * (low + false.toNat) * 2 ^ D = 2 * (low * 2 ^ D) := by
        show 2 * (low + 0) * 2 ^ D = _
        rw [Nat.add_zero, Nat.mul_assoc]
      rw [e2]
      show (_ → (low + 0) % 2 = 0) ∧ (_ → (low + 0) % 2 = 0)
      simp only [Bool.or_eq_false_iff, decide_eq_false_iff_not, Bool.and_eq_false_iff, beq_eq_false_iff_ne] at hm'
      refine ⟨fun h => ?_, fun h => ?_⟩ <;> omega
  · rw [Nat.min_eq_right (by omega)]
    simp only [Nat.shiftLeft_eq, Nat.one_mul]
    have hl : n < 2 ^ (n.log2 + 1) := Nat.lt_log2_self
    have e4 : 2 ^ (n.log2 + 2) = 2 * 2 ^ (n.log2 + 1) := by rw [Nat.pow_succ]; omega
    have h1 : n < 2 ^ (n.log2 + 2) := by omega
    rw [Nat.div_eq_of_lt h1, Nat.mod_eq_of_lt h1]
    have hm' : (decide (2 ^ (n.log2 + 2) < 2 * n) || (2 ^ (n.log2 + 2) == 2 * n && 0 % 2 == 1)) = false := by
      simp; omega
    rw [hm']
    exact ⟨fun _ => rfl, fun _ => rfl⟩

theorem V_inj {a b : Nat} (h : V a = V b) : a = b := by
  rcases Nat.lt_trichotomy a b with c | c | c
  · have := V_lt c; omega
  · exact c
  · have := V_lt c; omega

/-- THE NEAREST WORD, between the middles -/
theorem nearest_mid (s : Bool) (mag : Nat) (place : Int) : ∃ R, double.nearest s mag place = double.word s (min R inf) ∧
    ∀ a b : Nat, (a : Int) - b = place + 1074 →
      2 * mag * 2 ^ a ≤ (V R + V (R + 1)) * 2 ^ b ∧ (2 * mag * 2 ^ a = (V R + V (R + 1)) * 2 ^ b → R % 2 = 0) ∧
      (R ≠ 0 → (V (R - 1) + V R) * 2 ^ b ≤ 2 * mag * 2 ^ a ∧ ((V (R - 1) + V R) * 2 ^ b = 2 * mag * 2 ^ a → R % 2 = 0)) := by
  unfold Format.nearest
  by_cases h0 : mag = 0
  · rw [if_pos h0]
    subst h0
    refine ⟨0, rfl, fun a b _ => ⟨by simp, fun h => rfl, fun h => absurd rfl h⟩⟩
  · rw [if_neg h0]
    dsimp only
    have hfb : (double.fractionBits : Int) = 52 := rfl
    have hlp : double.leastPlace = -1074 := by decide
    have hbin : double.binade = 4503599627370496 := by decide
    have hinf : double.infRung = inf := by decide
    rw [hfb, hlp, hbin, hinf]
    have hlog : mag < 2 ^ (mag.log2 + 1) := Nat.lt_log2_self
    have hlog' : 2 ^ mag.log2 ≤ mag := Nat.log2_self_le h0
    generalize hL : mag.log2 = L at *
    generalize hlast : max (place + (L : Int) - 52) (-1074) = last
    generalize hup : (place - last).toNat = up
    generalize hD : (last - place).toNat = D
    generalize hE : (last - -1074).toNat = E
    rw [Nat.shiftLeft_eq]
    generalize hn : mag * 2 ^ up = n
    obtain ⟨c1, c2, c3⟩ := cut_even s n D
    obtain ⟨t1, t2⟩ := cut_tie s n D
    generalize Toward.even.cut s n D = kept at *
    have hDp := Nat.two_pow_pos D
    have hEp := Nat.two_pow_pos E
    have hn1 : n < 9007199254740992 * 2 ^ D := by
      have e : 9007199254740992 * 2 ^ D = 2 ^ (53 + D) := by rw [Nat.pow_add]
      rw [e, ← hn]
      calc mag * 2 ^ up < 2 ^ (L + 1) * 2 ^ up := Nat.mul_lt_mul_of_pos_right hlog (Nat.two_pow_pos _)
        _ = 2 ^ (L + 1 + up) := (Nat.pow_add ..).symm
        _ ≤ 2 ^ (53 + D) := Nat.pow_le_pow_right (by omega) (by omega)
    have hn2 : E = 0 ∨ 4503599627370496 * 2 ^ D ≤ n := by
      by_cases hE0 : E = 0
      · exact Or.inl hE0
      · refine Or.inr ?_
        have e : 4503599627370496 * 2 ^ D = 2 ^ (52 + D) := by rw [Nat.pow_add]
        rw [e, ← hn]
        calc 2 ^ (52 + D) ≤ 2 ^ (L + up) := Nat.pow_le_pow_right (by omega) (by omega)
          _ = 2 ^ L * 2 ^ up := Nat.pow_add ..
          _ ≤ mag * 2 ^ up := Nat.mul_le_mul_right _ hlog'
    have hk1 : kept ≤ 9007199254740992 := by
      apply Classical.byContradiction; intro hk
      have : 9007199254740993 * 2 ^ D ≤ kept * 2 ^ D := Nat.mul_le_mul_right _ (by omega)
      rw [Nat.mul_assoc] at c1
      generalize kept * 2 ^ D = z at *
      generalize 2 ^ D = p at *
      omega
    have hk2 : E = 0 ∨ 4503599627370496 ≤ kept := by
      rcases hn2 with h | h
      · exact Or.inl h
      · refine Or.inr ?_
        apply Classical.byContradiction; intro hk
        have : kept * 2 ^ D ≤ 4503599627370495 * 2 ^ D := Nat.mul_le_mul_right _ (by omega)
        rw [Nat.mul_assoc] at c2
        generalize kept * 2 ^ D = z at *
        generalize 2 ^ D = p at *
        omega
    obtain ⟨R, hR⟩ : ∃ R, R = E * 4503599627370496 + kept := ⟨_, rfl⟩
    have hV : V R = kept * 2 ^ E := by rw [hR]; exact V_at E kept hk1 hk2
    have hA : (kept + 1) * 2 ^ E ≤ V (R + 1) := by rw [hR]; exact V_after E kept hk1 hk2
    have hpar : R % 2 = kept % 2 := by omega
    refine ⟨R, by rw [hR], fun a b hab => ?_⟩
    have hscale : mag * 2 ^ a * 2 ^ D = n * 2 ^ E * 2 ^ b := by
      rw [← hn]
      have e : a + D = up + E + b := by omega
      calc mag * 2 ^ a * 2 ^ D = mag * 2 ^ (a + D) := by rw [Nat.mul_assoc, ← Nat.pow_add]
        _ = mag * 2 ^ (up + E + b) := by rw [e]
        _ = mag * 2 ^ up * 2 ^ E * 2 ^ b := by rw [Nat.pow_add, Nat.pow_add]; simp only [Nat.mul_assoc]
    have hbp := Nat.two_pow_pos b
    -- all at one scale: p for 2^D, q for 2^E, r for 2^b
    rw [Nat.mul_assoc] at c1 c2 t1 t2
    have hs2 : 2 * mag * 2 ^ a * 2 ^ D = 2 * n * (2 ^ E * 2 ^ b) := by
      have e1 : 2 * mag * 2 ^ a * 2 ^ D = 2 * (mag * 2 ^ a * 2 ^ D) := by simp only [Nat.mul_assoc]
      rw [e1, hscale]; simp only [Nat.mul_assoc]
    have hup2 : 2 * n ≤ (2 * kept + 1) * 2 ^ D := by
      rw [Nat.add_mul, Nat.one_mul, Nat.mul_assoc]; omega
    have hmidU : (2 * kept + 1) * 2 ^ D * (2 ^ E * 2 ^ b) ≤ (V R + V (R + 1)) * 2 ^ b * 2 ^ D := by
      have e1 : (2 * kept + 1) * 2 ^ D * (2 ^ E * 2 ^ b) = ((2 * kept + 1) * 2 ^ E) * (2 ^ b * 2 ^ D) := by
        ac_rfl
      rw [e1, Nat.mul_assoc (V R + V (R + 1))]
      refine Nat.mul_le_mul_right _ ?_
      have e2 : (2 * kept + 1) * 2 ^ E = kept * 2 ^ E + (kept + 1) * 2 ^ E := by
        rw [← Nat.add_mul, show kept + (kept + 1) = 2 * kept + 1 from by omega]
      rw [e2, hV]; exact Nat.add_le_add_left hA _
    refine ⟨?_, ?_, ?_⟩
    · refine Nat.le_of_mul_le_mul_right ?_ hDp
      rw [hs2]
      exact Nat.le_trans (Nat.mul_le_mul_right _ hup2) hmidU
    · intro h
      have h1 : 2 * n * (2 ^ E * 2 ^ b) = (V R + V (R + 1)) * 2 ^ b * 2 ^ D := by rw [← hs2, h]
      have h2 : (2 * kept + 1) * 2 ^ D ≤ 2 * n := by
        refine Nat.le_of_mul_le_mul_right ?_ (Nat.mul_pos hEp hbp)
        rw [h1]; exact hmidU
      rw [Nat.add_mul, Nat.one_mul, Nat.mul_assoc] at h2
      rw [hpar]
      exact t1 (by omega)
    · intro hR0
      by_cases hb : kept = 4503599627370496 ∧ E ≠ 0
      · obtain ⟨hb1, hb2⟩ := hb
        have h5 : V (R - 1) < V R := V_lt (by omega)
        have h7 : kept * 2 ^ D ≤ n := by
          rcases hn2 with h | h
          · exact absurd h hb2
          · rw [hb1]; exact h
        have h6 : (V (R - 1) + V R) * 2 ^ b * 2 ^ D < 2 * n * (2 ^ E * 2 ^ b) := by
          have g1 : V (R - 1) + V R < 2 * (kept * 2 ^ E) := by omega
          have g2 : (V (R - 1) + V R) * (2 ^ b * 2 ^ D) < 2 * (kept * 2 ^ E) * (2 ^ b * 2 ^ D) := Nat.mul_lt_mul_of_pos_right g1 (Nat.mul_pos hbp hDp)
          have g3 : 2 * (kept * 2 ^ E) * (2 ^ b * 2 ^ D) = 2 * (kept * 2 ^ D) * (2 ^ E * 2 ^ b) := by ac_rfl
          rw [Nat.mul_assoc]
          rw [g3] at g2
          exact Nat.lt_of_lt_of_le g2 (Nat.mul_le_mul_right _ (Nat.mul_le_mul_left _ h7))
        rw [← hs2] at h6
        have h8 := Nat.lt_of_mul_lt_mul_right h6
        exact ⟨Nat.le_of_lt h8, fun h => by omega⟩
      · have hk0 : kept ≠ 0 := by
          intro hz; have : E = 0 := by omega
          subst this; omega
        have h5 : V (R - 1) = (kept - 1) * 2 ^ E := by
          rw [← V_at E (kept - 1) (by omega) (by omega), show R - 1 = E * 4503599627370496 + (kept - 1) from by omega]
        have e2 : V (R - 1) + V R = (2 * kept - 1) * 2 ^ E := by
          rw [h5, hV, ← Nat.add_mul, show kept - 1 + kept = 2 * kept - 1 from by omega]
        have e3 : (V (R - 1) + V R) * 2 ^ b * 2 ^ D = (2 * kept - 1) * 2 ^ D * (2 ^ E * 2 ^ b) := by
          rw [e2]; ac_rfl
        have e4 : (2 * kept - 1) * 2 ^ D = 2 * (kept * 2 ^ D) - 2 ^ D := by
          rw [Nat.sub_mul, Nat.one_mul, Nat.mul_assoc]
        have g0 : 2 ^ D ≤ kept * 2 ^ D := Nat.le_mul_of_pos_left _ (by omega)
        refine ⟨?_, fun h => ?_⟩
        · refine Nat.le_of_mul_le_mul_right ?_ hDp
          rw [hs2, e3]
          exact Nat.mul_le_mul_right _ (by rw [e4]; omega)
        · have h1 : (2 * kept - 1) * 2 ^ D * (2 ^ E * 2 ^ b) = 2 * n * (2 ^ E * 2 ^ b) := by rw [← e3, h, hs2]
          have h2 := Nat.eq_of_mul_eq_mul_right (Nat.mul_pos hEp hbp) h1
          rw [e4] at h2
          rw [hpar]
          exact t2 (by omega)

/-- what is no greater is rounded to no greater rung -/
theorem nearest_mono (s s' : Bool) (m m' : Nat) (p p' : Int) (a b a' b' : Nat) (h1 : (a : Int) - b = p + 1074) (h2 : (a' : Int) - b' = p' + 1074) (h : m * 2 ^ a * 2 ^ b' ≤ m' * 2 ^ a' * 2 ^ b) :
    ∃ R R', double.nearest s m p = double.word s R ∧ double.nearest s' m' p' = double.word s' R' ∧ R ≤ inf ∧ R' ≤ inf ∧ R ≤ R' := by
  obtain ⟨R, e1, f1⟩ := nearest_mid s m p
  obtain ⟨R', e2, f2⟩ := nearest_mid s' m' p'
  refine ⟨_, _, e1, e2, Nat.min_le_right .., Nat.min_le_right .., ?_⟩
  suffices hh : R ≤ R' by omega
  apply Classical.byContradiction; intro hn
  have hlt : R' + 1 ≤ R := by omega
  obtain ⟨_, _, g⟩ := f1 a b h1
  obtain ⟨g1, g2⟩ := g (by omega)
  obtain ⟨k1, k2, _⟩ := f2 a' b' h2
  have hb := Nat.two_pow_pos b
  have hb' := Nat.two_pow_pos b'
  have v1 : V R' ≤ V (R - 1) := V_le (by omega)
  have v2 : V (R' + 1) ≤ V R := V_le hlt
  have c1 : (V (R - 1) + V R) * 2 ^ b * 2 ^ b' ≤ 2 * m * 2 ^ a * 2 ^ b' := Nat.mul_le_mul_right _ g1
  have c2 : 2 * m * 2 ^ a * 2 ^ b' ≤ 2 * m' * 2 ^ a' * 2 ^ b := by
    have := Nat.mul_le_mul_left 2 h
    simpa only [Nat.mul_assoc] using this
  have c3 : 2 * m' * 2 ^ a' * 2 ^ b ≤ (V R' + V (R' + 1)) * 2 ^ b' * 2 ^ b := Nat.mul_le_mul_right _ k1
  have c4 : (V R' + V (R' + 1)) * 2 ^ b' * 2 ^ b ≤ (V (R - 1) + V R) * 2 ^ b * 2 ^ b' := by
    rw [Nat.mul_right_comm]
    exact Nat.mul_le_mul_right _ (Nat.mul_le_mul_right _ (by omega))
  have d1 : (V (R - 1) + V R) * 2 ^ b = 2 * m * 2 ^ a := Nat.eq_of_mul_eq_mul_right hb' (Nat.le_antisymm c1 (Nat.le_trans c2 (Nat.le_trans c3 c4)))
  have d2 : 2 * m' * 2 ^ a' = (V R' + V (R' + 1)) * 2 ^ b' := Nat.eq_of_mul_eq_mul_right hb (Nat.le_antisymm c3 (Nat.le_trans c4 (Nat.le_trans c1 c2)))
  have d3 : (V R' + V (R' + 1)) * (2 ^ b' * 2 ^ b) = (V (R - 1) + V R) * (2 ^ b' * 2 ^ b) := by
    have : (V R' + V (R' + 1)) * 2 ^ b' * 2 ^ b = (V (R - 1) + V R) * 2 ^ b * 2 ^ b' := Nat.le_antisymm c4 (Nat.le_trans c1 (Nat.le_trans c2 c3))
    rw [Nat.mul_assoc] at this
    rw [this, Nat.mul_assoc, Nat.mul_comm (2 ^ b) (2 ^ b')]
  have d4 := Nat.eq_of_mul_eq_mul_right (Nat.mul_pos hb' hb) d3
  have d5 : R' = R - 1 := V_inj (by omega)
  have p1 := g2 d1
  have p2 := k2 d2
  omega
end Fl
