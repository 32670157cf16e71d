import Derived.Lib.TrailingZeros
/-! which pages are used, as bits of words: plain numbers -/
namespace Pa
set_option linter.unusedVariables false

/-! ones of a number -/
def ones : Nat → Nat → Nat
  | 0, _ => 0
  | f + 1, x => x % 2 + ones f (x / 2)
def val : List Nat → Nat
  | [] => 0
  | b :: bs => b + 256 * val bs
theorem and_byte (a m M : Nat) (hm : m < 256) : a &&& (m + 256 * M) = (a % 256 &&& m) + 256 * (a / 256 &&& M) := by
  have h1 : (a &&& (m + 256 * M)) % 256 = a % 256 &&& m := by
    rw [show (256 : Nat) = 2 ^ 8 from rfl, Nat.and_mod_two_pow]
    congr 1
    omega
  have h2 : (a &&& (m + 256 * M)) / 256 = a / 256 &&& M := by
    rw [show (256 : Nat) = 2 ^ 8 from rfl, Nat.and_div_two_pow]
    congr 1
    omega
  omega
def stepB (s m r : Nat) : Nat := (r / s &&& m) + (r &&& m)
theorem step_val (s t m : Nat) (hs : s * t = 256) (hm : m < 256) (hc : ∀ r, r < 256 → ∀ c, c < s → ((r / s + t * c) % 256 &&& m) = (r / s &&& m)) :
    ∀ bs : List Nat, (∀ b ∈ bs, b < 256) → (val bs / s &&& val (bs.map fun _ => m)) + (val bs &&& val (bs.map fun _ => m)) = val (bs.map (stepB s m))
  | [], _ => by simp [val]
  | b :: bs, h => by
    have hs0 : 0 < s := Nat.pos_of_ne_zero fun e => by subst e; simp at hs
    have ih := step_val s t m hs hm hc bs fun x hx => h x (by simp [hx])
    have hb := h b (by simp)
    simp only [List.map_cons, val]
    obtain ⟨V, hV⟩ : ∃ V, val bs = V := ⟨_, rfl⟩
    obtain ⟨M, hM⟩ : ∃ M, val (bs.map fun _ => m) = M := ⟨_, rfl⟩
    rw [hV, hM] at ih ⊢
    rw [and_byte _ m M hm, and_byte _ m M hm]
    have e1 : (b + 256 * V) % 256 = b := by omega
    have e2 : (b + 256 * V) / 256 = V := by omega
    have e3 : (b + 256 * V) / s = b / s + t * V := by
      have e : b + 256 * V = b + t * V * s := by rw [← hs, Nat.mul_right_comm, Nat.mul_comm (s * V) t, ← Nat.mul_assoc, Nat.mul_right_comm]
      rw [e, Nat.add_mul_div_right _ _ hs0]
    have e4 : (b + 256 * V) / s / 256 = V / s := by rw [Nat.div_div_eq_div_mul, Nat.mul_comm s 256, ← Nat.div_div_eq_div_mul, e2]
    have e5 : (b + 256 * V) / s % 256 &&& m = (b / s &&& m) := by
      rw [e3, ← hc b hb (V % s) (Nat.mod_lt _ hs0)]
      congr 1
      have e : t * V = t * (V % s) + 256 * (V / s) := by
        rw [← hs]
        conv => lhs; rw [← Nat.mod_add_div V s, Nat.mul_add]
        rw [Nat.mul_comm s t, Nat.mul_assoc]
      rw [e, ← Nat.add_assoc, Nat.add_mul_mod_self_left]
    rw [e5, e1, e2, e4, ← ih]
    unfold stepB
    generalize (b / s &&& m) = p
    generalize (b &&& m) = q
    generalize (V / s &&& M) = u
    generalize (V &&& M) = v
    omega
def stepN (r : Nat) : Nat := r / 16 + r % 16
theorem last_val : ∀ bs : List Nat, (∀ b ∈ bs, b / 16 ≤ 4 ∧ b % 16 ≤ 4) → val bs % 16 ≤ 4 ∧ (val bs / 16 + val bs) &&& val (bs.map fun _ => 15) = val (bs.map stepN)
  | [], _ => by simp [val]
  | b :: bs, h => by
    obtain ⟨i1, ih⟩ := last_val bs fun x hx => h x (by simp [hx])
    have hb := h b (by simp)
    simp only [List.map_cons, val]
    obtain ⟨V, hV⟩ : ∃ V, val bs = V := ⟨_, rfl⟩
    obtain ⟨M, hM⟩ : ∃ M, val (bs.map fun _ => 15) = M := ⟨_, rfl⟩
    rw [hV] at i1
    rw [hV, hM] at ih ⊢
    refine ⟨by omega, ?_⟩
    rw [and_byte _ 15 M (by omega)]
    have e1 : ((b + 256 * V) / 16 + (b + 256 * V)) / 256 = V / 16 + V := by omega
    have e2 : ((b + 256 * V) / 16 + (b + 256 * V)) % 256 = b / 16 + 16 * (V % 16) + b := by omega
    rw [e1, e2, ih]
    have e3 : (b / 16 + 16 * (V % 16) + b) &&& 15 = stepN b := by
      rw [show (15 : Nat) = 2 ^ 4 - 1 from rfl, Nat.and_two_pow_sub_one_eq_mod]
      unfold stepN
      omega
    rw [e3]
theorem byte_one : ∀ r, r < 256 → stepB 2 85 r < 256 ∧ stepB 4 51 (stepB 2 85 r) < 256 ∧ stepB 4 51 (stepB 2 85 r) / 16 ≤ 4 ∧ stepB 4 51 (stepB 2 85 r) % 16 ≤ 4 ∧ stepN (stepB 4 51 (stepB 2 85 r)) = ones 8 r ∧ ones 8 r ≤ 8 := by decide +kernel
theorem shift_one : ∀ r, r < 256 → ∀ c, c < 2 → ((r / 2 + 128 * c) % 256 &&& 85) = (r / 2 &&& 85) := by decide +kernel
theorem shift_two : ∀ r, r < 256 → ∀ c, c < 4 → ((r / 4 + 64 * c) % 256 &&& 51) = (r / 4 &&& 51) := by decide +kernel
theorem ones_add : ∀ (a b x : Nat), ones (a + b) x = ones a x + ones b (x / 2 ^ a)
  | 0, b, x => by simp [ones]
  | a + 1, b, x => by
    rw [show a + 1 + b = (a + b) + 1 by omega]
    simp only [ones]
    rw [ones_add a b (x / 2), Nat.div_div_eq_div_mul, Nat.pow_succ, Nat.mul_comm 2 (2 ^ a)]
    omega
theorem ones_mod (a : Nat) : ∀ (x y : Nat), x % 2 ^ a = y % 2 ^ a → ones a x = ones a y := by
  induction a with
  | zero => intros; rfl
  | succ a ih =>
    intro x y h
    simp only [ones]
    have h2 : 2 ^ (a + 1) = 2 * 2 ^ a := by rw [Nat.pow_succ, Nat.mul_comm]
    rw [h2] at h
    have e1 : x % 2 = y % 2 := by
      have := congrArg (· % 2) h
      simpa [Nat.mod_mul_right_mod] using this
    have e2 : x / 2 % 2 ^ a = y / 2 % 2 ^ a := by
      have := congrArg (· / 2) h
      simpa [Nat.mod_mul_right_div_self] using this
    rw [e1, ih _ _ e2]
theorem ones_val (b V f : Nat) (hb : b < 256) : ones (8 + f) (b + 256 * V) = ones 8 b + ones f V := by
  rw [ones_add 8 f, ones_mod 8 (b + 256 * V) b (by omega), show (2 : Nat) ^ 8 = 256 from rfl, show (b + 256 * V) / 256 = V by omega]

theorem val_lt : ∀ (bs : List Nat), (∀ b ∈ bs, b < 256) → val bs < 256 ^ bs.length
  | [], _ => by simp [val]
  | b :: bs, h => by
    have ih := val_lt bs fun x hx => h x (by simp [hx])
    have hb := h b (by simp)
    simp only [val, List.length_cons, Nat.pow_succ]
    omega
theorem div_byte {a V : Nat} (h : a < 256) : val (a :: []) = a ∧ (a + 256 * V) / 256 = V := ⟨by simp [val], by omega⟩
theorem val_tail (a : Nat) (bs : List Nat) (h : a < 256) : val (a :: bs) / 256 = val bs := by simp only [val]; omega
theorem val8 (a b c d e f g h : Nat) (ha : a < 256) (hb : b < 256) (hc : c < 256) (hd : d < 256) (he : e < 256) (hf : f < 256) (hg : g < 256) (hh : h < 256) : val [a, b, c, d, e, f, g, h] < 18446744073709551616 :=
  Nat.lt_of_lt_of_eq (val_lt [a, b, c, d, e, f, g, h] (by
    simp only [List.mem_cons, List.not_mem_nil, or_false]
    rintro x (rfl | rfl | rfl | rfl | rfl | rfl | rfl | rfl) <;> assumption)) (by
      show (256 : Nat) ^ 8 = _
      decide +kernel)
theorem val_le (k : Nat) : ∀ (bs : List Nat), (∀ b ∈ bs, b ≤ k) → val bs ≤ val (bs.map fun _ => k)
  | [], _ => Nat.le_refl _
  | b :: bs, h => by
    have ih := val_le k bs fun x hx => h x (by simp [hx])
    have hb := h b (by simp)
    simp only [val, List.map_cons]
    omega
theorem fold_ones (y0 y1 y2 y3 y4 y5 y6 y7 : Nat) (m0 : y0 ≤ 8) (m1 : y1 ≤ 8) (m2 : y2 ≤ 8) (m3 : y3 ≤ 8) (m4 : y4 ≤ 8) (m5 : y5 ≤ 8) (m6 : y6 ≤ 8) (m7 : y7 ≤ 8) : ∃ d e,
    val [y0, y1, y2, y3, y4, y5, y6, y7] < 18446744073709551616 ∧ val [y0, y1, y2, y3, y4, y5, y6, y7] + val [y0, y1, y2, y3, y4, y5, y6, y7] / 256 = d ∧ d < 18446744073709551616 ∧ d + d / 65536 = e ∧ e < 18446744073709551616 ∧ e + e / 4294967296 < 18446744073709551616 ∧
    (e + e / 4294967296) % 128 = y0 + (y1 + (y2 + (y3 + (y4 + (y5 + (y6 + y7)))))) := by
  have e1 : val [y0, y1, y2, y3, y4, y5, y6, y7] + val [y0, y1, y2, y3, y4, y5, y6, y7] / 256 = val [y0 + y1, y1 + y2, y2 + y3, y3 + y4, y4 + y5, y5 + y6, y6 + y7, y7] := by
    rw [val_tail _ _ (by omega)]
    clear m0 m1 m2 m3 m4 m5 m6 m7
    simp only [val]
    omega
  have e2 : val [y0 + y1, y1 + y2, y2 + y3, y3 + y4, y4 + y5, y5 + y6, y6 + y7, y7] + val [y0 + y1, y1 + y2, y2 + y3, y3 + y4, y4 + y5, y5 + y6, y6 + y7, y7] / 65536
      = val [y0 + y1 + (y2 + y3), y1 + y2 + (y3 + y4), y2 + y3 + (y4 + y5), y3 + y4 + (y5 + y6), y4 + y5 + (y6 + y7), y5 + y6 + y7, y6 + y7, y7] := by
    rw [show (65536 : Nat) = 256 * 256 from rfl, ← Nat.div_div_eq_div_mul, val_tail _ _ (by omega), val_tail _ _ (by omega)]
    clear m0 m1 m2 m3 m4 m5 m6 m7 e1
    simp only [val]
    omega
  have e3 : val [y0 + y1 + (y2 + y3), y1 + y2 + (y3 + y4), y2 + y3 + (y4 + y5), y3 + y4 + (y5 + y6), y4 + y5 + (y6 + y7), y5 + y6 + y7, y6 + y7, y7]
      + val [y0 + y1 + (y2 + y3), y1 + y2 + (y3 + y4), y2 + y3 + (y4 + y5), y3 + y4 + (y5 + y6), y4 + y5 + (y6 + y7), y5 + y6 + y7, y6 + y7, y7] / 4294967296
      = val [y0 + y1 + (y2 + y3) + (y4 + y5 + (y6 + y7)), y1 + y2 + (y3 + y4) + (y5 + y6 + y7), y2 + y3 + (y4 + y5) + (y6 + y7), y3 + y4 + (y5 + y6) + y7, y4 + y5 + (y6 + y7), y5 + y6 + y7, y6 + y7, y7] := by
    rw [show (4294967296 : Nat) = 256 * 256 * 256 * 256 from rfl, ← Nat.div_div_eq_div_mul, ← Nat.div_div_eq_div_mul, ← Nat.div_div_eq_div_mul, val_tail _ _ (by omega), val_tail _ _ (by omega), val_tail _ _ (by omega), val_tail _ _ (by omega)]
    clear m0 m1 m2 m3 m4 m5 m6 m7 e1 e2
    simp only [val]
    omega
  have q (a : Nat) (bs : List Nat) (h : a < 128) : val (a :: bs) % 128 = a := by simp only [val]; omega
  refine ⟨_, _, val8 _ _ _ _ _ _ _ _ (by omega) (by omega) (by omega) (by omega) (by omega) (by omega) (by omega) (by omega), e1, val8 _ _ _ _ _ _ _ _ (by omega) (by omega) (by omega) (by omega) (by omega) (by omega) (by omega) (by omega), e2,
    val8 _ _ _ _ _ _ _ _ (by omega) (by omega) (by omega) (by omega) (by omega) (by omega) (by omega) (by omega), ?_, ?_⟩
  · rw [e3]
    exact val8 _ _ _ _ _ _ _ _ (by omega) (by omega) (by omega) (by omega) (by omega) (by omega) (by omega) (by omega)
  · rw [e3, q _ _ (by omega)]
    omega

/-- the ones of 64 bits, counted as math/bits counts them -/
theorem count_ones (x : Nat) (hx : x < 18446744073709551616) : ∃ a b c d e,
    (x / 2 &&& 6148914691236517205) + (x &&& 6148914691236517205) = a ∧ (a / 4 &&& 3689348814741910323) + (a &&& 3689348814741910323) = b ∧ (b / 16 + b) &&& 1085102592571150095 = c ∧
    a < 18446744073709551616 ∧ b < 18446744073709551616 ∧ b / 16 + b < 18446744073709551616 ∧ c < 18446744073709551616 ∧ c + c / 256 = d ∧ d < 18446744073709551616 ∧ d + d / 65536 = e ∧ e < 18446744073709551616 ∧ e + e / 4294967296 < 18446744073709551616 ∧
    (e + e / 4294967296) % 128 = ones 64 x ∧ ones 64 x ≤ 64 := by
  obtain ⟨x0, x1, x2, x3, x4, x5, x6, x7, h0, h1, h2, h3, h4, h5, h6, h7, hv⟩ : ∃ x0 x1 x2 x3 x4 x5 x6 x7 : Nat, x0 < 256 ∧ x1 < 256 ∧ x2 < 256 ∧ x3 < 256 ∧ x4 < 256 ∧ x5 < 256 ∧ x6 < 256 ∧ x7 < 256 ∧ x = val [x0, x1, x2, x3, x4, x5, x6, x7] := by
    refine ⟨x % 256, x / 256 % 256, x / 256 / 256 % 256, x / 256 / 256 / 256 % 256, x / 256 / 256 / 256 / 256 % 256, x / 256 / 256 / 256 / 256 / 256 % 256, x / 256 / 256 / 256 / 256 / 256 / 256 % 256, x / 256 / 256 / 256 / 256 / 256 / 256 / 256 % 256, by omega, by omega, by omega, by omega, by omega, by omega, by omega, by omega, ?_⟩
    simp only [val]
    omega
  have s1 := step_val 2 128 85 rfl (by omega) shift_one [x0, x1, x2, x3, x4, x5, x6, x7] (by simp; omega)
  have s2 := step_val 4 64 51 rfl (by omega) shift_two ([x0, x1, x2, x3, x4, x5, x6, x7].map (stepB 2 85)) (by
    simp only [List.map_cons, List.map_nil, List.mem_cons, List.not_mem_nil, or_false]
    rintro b (rfl | rfl | rfl | rfl | rfl | rfl | rfl | rfl) <;> exact (byte_one _ (by assumption)).1)
  have s3 := (last_val (([x0, x1, x2, x3, x4, x5, x6, x7].map (stepB 2 85)).map (stepB 4 51)) (by
    simp only [List.map_cons, List.map_nil, List.mem_cons, List.not_mem_nil, or_false]
    rintro b (rfl | rfl | rfl | rfl | rfl | rfl | rfl | rfl) <;> exact ⟨(byte_one _ (by assumption)).2.2.1, (byte_one _ (by assumption)).2.2.2.1⟩)).2
  have o : ones 64 x = ones 8 x0 + (ones 8 x1 + (ones 8 x2 + (ones 8 x3 + (ones 8 x4 + (ones 8 x5 + (ones 8 x6 + ones 8 x7)))))) := by
    rw [hv]
    simp only [val]
    rw [show (64 : Nat) = 8 + 56 from rfl, ones_val _ _ _ h0, show (56 : Nat) = 8 + 48 from rfl, ones_val _ _ _ h1, show (48 : Nat) = 8 + 40 from rfl, ones_val _ _ _ h2, show (40 : Nat) = 8 + 32 from rfl, ones_val _ _ _ h3,
      show (32 : Nat) = 8 + 24 from rfl, ones_val _ _ _ h4, show (24 : Nat) = 8 + 16 from rfl, ones_val _ _ _ h5, show (16 : Nat) = 8 + 8 from rfl, ones_val _ _ _ h6]
    rw [show x7 + 256 * 0 = x7 by omega]
  obtain ⟨-, -, -, -, k0, m0⟩ := byte_one x0 h0
  obtain ⟨-, -, -, -, k1, m1⟩ := byte_one x1 h1
  obtain ⟨-, -, -, -, k2, m2⟩ := byte_one x2 h2
  obtain ⟨-, -, -, -, k3, m3⟩ := byte_one x3 h3
  obtain ⟨-, -, -, -, k4, m4⟩ := byte_one x4 h4
  obtain ⟨-, -, -, -, k5, m5⟩ := byte_one x5 h5
  obtain ⟨-, -, -, -, k6, m6⟩ := byte_one x6 h6
  obtain ⟨-, -, -, -, k7, m7⟩ := byte_one x7 h7
  have p0 := byte_one x0 h0; have p1 := byte_one x1 h1; have p2 := byte_one x2 h2; have p3 := byte_one x3 h3
  have p4 := byte_one x4 h4; have p5 := byte_one x5 h5; have p6 := byte_one x6 h6; have p7 := byte_one x7 h7
  have b1 : val ([x0, x1, x2, x3, x4, x5, x6, x7].map (stepB 2 85)) < 18446744073709551616 := val8 _ _ _ _ _ _ _ _ p0.1 p1.1 p2.1 p3.1 p4.1 p5.1 p6.1 p7.1
  have b2 : val (([x0, x1, x2, x3, x4, x5, x6, x7].map (stepB 2 85)).map (stepB 4 51)) / 16 + val (([x0, x1, x2, x3, x4, x5, x6, x7].map (stepB 2 85)).map (stepB 4 51)) < 18446744073709551616 := by
    have k := val_le 68 [stepB 4 51 (stepB 2 85 x0), stepB 4 51 (stepB 2 85 x1), stepB 4 51 (stepB 2 85 x2), stepB 4 51 (stepB 2 85 x3), stepB 4 51 (stepB 2 85 x4), stepB 4 51 (stepB 2 85 x5), stepB 4 51 (stepB 2 85 x6), stepB 4 51 (stepB 2 85 x7)] (by
      have q {z : Nat} (h1 : z / 16 ≤ 4) (h2 : z % 16 ≤ 4) : z ≤ 68 := by omega
      simp only [List.mem_cons, List.not_mem_nil, or_false]
      rintro x (rfl | rfl | rfl | rfl | rfl | rfl | rfl | rfl)
      · exact q p0.2.2.1 p0.2.2.2.1
      · exact q p1.2.2.1 p1.2.2.2.1
      · exact q p2.2.2.1 p2.2.2.2.1
      · exact q p3.2.2.1 p3.2.2.2.1
      · exact q p4.2.2.1 p4.2.2.2.1
      · exact q p5.2.2.1 p5.2.2.2.1
      · exact q p6.2.2.1 p6.2.2.2.1
      · exact q p7.2.2.1 p7.2.2.2.1)
    simp only [List.map_cons, List.map_nil] at k ⊢
    generalize val [stepB 4 51 (stepB 2 85 x0), stepB 4 51 (stepB 2 85 x1), stepB 4 51 (stepB 2 85 x2), stepB 4 51 (stepB 2 85 x3), stepB 4 51 (stepB 2 85 x4), stepB 4 51 (stepB 2 85 x5), stepB 4 51 (stepB 2 85 x6), stepB 4 51 (stepB 2 85 x7)] = z at k ⊢
    rw [show val [68, 68, 68, 68, 68, 68, 68, 68] = 4919131752989213764 from rfl] at k
    clear s1 s2 s3 b1 p0 p1 p2 p3 p4 p5 p6 p7 o hv hx h0 h1 h2 h3 h4 h5 h6 h7 k0 k1 k2 k3 k4 k5 k6 k7 m0 m1 m2 m3 m4 m5 m6 m7
    omega
  rw [← hv] at s1
  simp only [List.map_cons, List.map_nil] at s1 s2 s3 b1 b2
  rw [k0, k1, k2, k3, k4, k5, k6, k7] at s3
  rw [show val [85, 85, 85, 85, 85, 85, 85, 85] = 6148914691236517205 from rfl] at s1
  rw [show val [51, 51, 51, 51, 51, 51, 51, 51] = 3689348814741910323 from rfl] at s2
  rw [show val [15, 15, 15, 15, 15, 15, 15, 15] = 1085102592571150095 from rfl] at s3
  obtain ⟨d, e, g1, g2, g3, g4, g5, g6, g7⟩ := fold_ones (ones 8 x0) (ones 8 x1) (ones 8 x2) (ones 8 x3) (ones 8 x4) (ones 8 x5) (ones 8 x6) (ones 8 x7) m0 m1 m2 m3 m4 m5 m6 m7
  rw [o]
  exact ⟨_, _, _, d, e, s1, s2, s3, b1, Nat.lt_of_le_of_lt (Nat.le_add_left _ _) b2, b2, g1, g2, g3, g4, g5, g6, g7, by omega⟩
end Pa
