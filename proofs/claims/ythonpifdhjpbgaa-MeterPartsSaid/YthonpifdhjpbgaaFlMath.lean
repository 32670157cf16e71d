import Ieee.Arith
namespace Fl
open Ieee

/-- how great a rung is, in units of the least number -/
def V (r : Nat) : Nat := if r < 4503599627370496 then r else (4503599627370496 + r % 4503599627370496) <<< (r / 4503599627370496 - 1)
def inf : Nat := 9218868437227405312
def rung (x : Nat) : Nat := x % 9223372036854775808
def neg (x : Nat) : Bool := x / 9223372036854775808 % 2 == 1
def nan (x : Nat) : Bool := decide (inf < rung x)
def key (x : Nat) : Int := if neg x then -(rung x : Int) else (rung x : Int)
def least : Int := -1074

theorem V_succ (r : Nat) : V r < V (r + 1) := by
  unfold V
  by_cases h : r < 4503599627370496
  · rw [if_pos h]
    by_cases h1 : r + 1 < 4503599627370496
    · rw [if_pos h1]; omega
    · have : r + 1 = 4503599627370496 := by omega
      have hr : r = 4503599627370495 := by omega
      subst hr; decide
  · rw [if_neg h, if_neg (by omega)]
    by_cases h1 : (r + 1) % 4503599627370496 = 0
    · have e1 : r % 4503599627370496 = 4503599627370495 := by omega
      have e2 : (r + 1) / 4503599627370496 - 1 = (r / 4503599627370496 - 1) + 1 := by omega
      rw [h1, e1, e2, Nat.shiftLeft_eq, Nat.shiftLeft_eq, Nat.pow_succ]
      have := Nat.two_pow_pos (r / 4503599627370496 - 1)
      generalize 2 ^ (r / 4503599627370496 - 1) = p at *
      omega
    · have e1 : (r + 1) % 4503599627370496 = r % 4503599627370496 + 1 := by omega
      have e2 : (r + 1) / 4503599627370496 = r / 4503599627370496 := by omega
      rw [e1, e2, Nat.shiftLeft_eq, Nat.shiftLeft_eq]
      have := Nat.two_pow_pos (r / 4503599627370496 - 1)
      exact Nat.mul_lt_mul_of_pos_right (by omega) this

theorem V_lt {a b : Nat} (h : a < b) : V a < V b := by
  induction b with
  | zero => omega
  | succ b ih =>
    have := V_succ b
    by_cases e : a = b
    · subst e; exact this
    · have := ih (by omega); omega

theorem V_lt_iff {a b : Nat} : V a < V b ↔ a < b := by
  refine ⟨fun h => ?_, V_lt⟩
  apply Classical.byContradiction; intro hn
  by_cases e : a = b
  · subst e; omega
  · have := V_lt (a := b) (b := a) (by omega); omega

theorem V_le {a b : Nat} (h : a ≤ b) : V a ≤ V b := by
  by_cases e : a = b
  · subst e; omega
  · have := V_lt (a := a) (b := b) (by omega); omega

theorem V_zero : V 0 = 0 := by decide

theorem V_pos {a : Nat} (h : 0 < a) : 0 < V a := by have := V_lt h; rw [V_zero] at this; exact this

/-- what a word stands for -/
theorem read_eq (x : Nat) : double.read x =
    if rung x < 4503599627370496 then .number (neg x) (rung x) (-1074)
    else if rung x < inf then .number (neg x) (4503599627370496 + rung x % 4503599627370496) (-1074 + (rung x / 4503599627370496 - 1 : Nat))
    else if rung x = inf then .infinity (neg x)
    else .nan (neg x) (rung x - inf) := rfl

/-- finite words: magnitude and place -/
theorem read_num {x : Nat} (h : rung x < inf) : ∃ (m : Nat) (e : Nat), double.read x = .number (neg x) m (-1074 + (e : Int)) ∧ m <<< e = V (rung x) ∧ m < 9007199254740992 ∧ (e = 0 ∨ 4503599627370496 ≤ m) ∧ e = rung x / 4503599627370496 - 1 := by
  rw [read_eq]
  by_cases h1 : rung x < 4503599627370496
  · rw [if_pos h1]
    refine ⟨rung x, 0, rfl, ?_, by omega, Or.inl rfl, by omega⟩
    rw [Nat.shiftLeft_zero, V, if_pos h1]
  · rw [if_neg h1, if_pos h]
    refine ⟨_, rung x / 4503599627370496 - 1, rfl, ?_, by omega, Or.inr (by omega), rfl⟩
    rw [V, if_neg h1]

theorem read_inf {x : Nat} (h : rung x = inf) : double.read x = .infinity (neg x) := by
  rw [read_eq, if_neg (by rw [h]; decide), if_neg (by omega), if_pos h]

theorem read_nan {x : Nat} (h : inf < rung x) : double.read x = .nan (neg x) (rung x - inf) := by
  rw [read_eq, if_neg (by unfold inf at h; omega), if_neg (by omega), if_neg (by omega)]

def sg (s : Bool) (n : Nat) : Int := if s then -(n : Int) else n

theorem key_eq (x : Nat) : key x = sg (neg x) (rung x) := rfl

theorem signed_eq (s : Bool) (m e : Nat) : signed s m e = sg s (m <<< e) := rfl

theorem compare_mul (a b : Int) (p : Int) (hp : 0 < p) : compare (a * p) (b * p) = compare a b := by
  have h1 : a * p < b * p ↔ a < b := ⟨fun h => Int.lt_of_mul_lt_mul_right h (by omega), fun h => Int.mul_lt_mul_of_pos_right h hp⟩
  have h2 : a * p = b * p ↔ a = b := ⟨fun h => Int.eq_of_mul_eq_mul_right (by omega) h, fun h => by rw [h]⟩
  simp only [compare, compareOfLessAndEq, h1, h2]

theorem compare_sg (s t : Bool) (a b : Nat) : compare (sg s (V a)) (sg t (V b)) = compare (sg s a) (sg t b) := by
  have h1 : V a < V b ↔ a < b := V_lt_iff
  have h2 : V b < V a ↔ b < a := V_lt_iff
  have h3 : V 0 < V a ↔ 0 < a := V_lt_iff
  have h4 : V 0 < V b ↔ 0 < b := V_lt_iff
  rw [V_zero] at h3 h4
  have l1 : sg s (V a) < sg t (V b) ↔ sg s a < sg t b := by
    cases s <;> cases t <;> simp only [sg, if_true, if_false, Bool.false_eq_true] <;> omega
  have l2 : sg s (V a) = sg t (V b) ↔ sg s a = sg t b := by
    cases s <;> cases t <;> simp only [sg, if_true, if_false, Bool.false_eq_true] <;> omega
  simp only [compare, compareOfLessAndEq, l1, l2]

/-- the order of two words, neither a NaN: that of their keys -/
theorem order_key {x y : Nat} (hx : rung x ≤ inf) (hy : rung y ≤ inf) : double.order x y = some (compare (key x) (key y)) := by
  unfold Format.order
  by_cases h1 : rung x = inf
  · rw [read_inf h1]
    by_cases h2 : rung y = inf
    · rw [read_inf h2]
      simp only [Datum.order, key_eq, h1, h2]
      cases neg x <;> cases neg y <;> rfl
    · obtain ⟨m, e, h3, h4, _⟩ := read_num (x := y) (by omega)
      rw [h3]
      simp only [Datum.order, key_eq, h1]
      have : rung y < inf := by omega
      congr 1
      cases neg x <;> cases neg y <;> simp only [sg, if_true, if_false, Bool.false_eq_true] <;> symm <;> simp only [compare, compareOfLessAndEq]
      all_goals first | (rw [if_pos (by unfold inf at *; omega)]) | (rw [if_neg (by unfold inf at *; omega), if_neg (by unfold inf at *; omega)])
  · obtain ⟨m, e, h3, h4, _⟩ := read_num (x := x) (by omega)
    rw [h3]
    by_cases h2 : rung y = inf
    · rw [read_inf h2]
      simp only [Datum.order, key_eq, h2]
      have : rung x < inf := by omega
      congr 1
      cases neg x <;> cases neg y <;> simp only [sg, if_true, if_false, Bool.false_eq_true] <;> symm <;> simp only [compare, compareOfLessAndEq]
      all_goals first | (rw [if_pos (by unfold inf at *; omega)]) | (rw [if_neg (by unfold inf at *; omega), if_neg (by unfold inf at *; omega)])
    · obtain ⟨n, j, g3, g4, _⟩ := read_num (x := y) (by omega)
      rw [g3]
      simp only [Datum.order, key_eq, signed_eq]
      congr 1
      rw [← compare_sg (neg x) (neg y) (rung x) (rung y), ← h4, ← g4]
      have e1 : ((-1074 + (e : Int)) - min (-1074 + (e : Int)) (-1074 + (j : Int))).toNat = e - min e j := by omega
      have e2 : ((-1074 + (j : Int)) - min (-1074 + (e : Int)) (-1074 + (j : Int))).toNat = j - min e j := by omega
      rw [e1, e2]
      have key : ∀ (s : Bool) (k i c : Nat), c ≤ i → sg s (k <<< i) = sg s (k <<< (i - c)) * ((2 ^ c : Nat) : Int) := by
        intro s k i c hc
        have : k <<< i = k <<< (i - c) * 2 ^ c := by
          rw [Nat.shiftLeft_eq, Nat.shiftLeft_eq, Nat.mul_assoc, ← Nat.pow_add, Nat.sub_add_cancel hc]
        rw [this]
        cases s <;> simp only [sg, if_true, if_false, Bool.false_eq_true] <;> push_cast <;> simp only [Int.neg_mul]
      rw [key (neg x) m e (min e j) (by omega), key (neg y) n j (min e j) (by omega)]
      exact (compare_mul _ _ _ (by have := Nat.two_pow_pos (min e j); omega)).symm

theorem order_nan {x y : Nat} (h : inf < rung x ∨ inf < rung y) : double.order x y = none := by
  unfold Format.order
  by_cases h1 : inf < rung x
  · rw [read_nan h1]; rfl
  · rw [read_nan (x := y) (by omega)]
    cases double.read x <;> rfl

/-- halves to even: no further off than a half, exact where nothing is dropped -/
theorem cut_even (s : Bool) (n D : Nat) : 2 * (Toward.even.cut s n D) * 2 ^ D ≤ 2 * n + 2 ^ D ∧ 2 * n ≤ 2 * (Toward.even.cut s n D) * 2 ^ D + 2 ^ D ∧ (D = 0 → Toward.even.cut s n D = n) := by
  have hD := Nat.two_pow_pos D
  unfold Toward.cut
  by_cases hc : D ≤ n.log2 + 2
  · rw [Nat.min_eq_left hc]
    simp only [Nat.shiftLeft_eq, Nat.one_mul]
    have hdm := Nat.div_add_mod n (2 ^ D)
    have hlt := Nat.mod_lt n hD
    generalize n / 2 ^ D = low at *
    generalize n % 2 ^ D = rest at *
    have e : 2 ^ D * low = low * 2 ^ D := Nat.mul_comm _ _
    rw [e] at hdm
    by_cases hm : (decide (2 ^ D < 2 * rest) || (2 ^ D == 2 * rest && low % 2 == 1)) = true
    · rw [hm]
      have hge : 2 ^ D ≤ 2 * rest := by
        simp only [Bool.or_eq_true, decide_eq_true_eq, Bool.and_eq_true, beq_iff_eq] at hm; omega
      have e2 : 2 * (low + true.toNat) * 2 ^ D = 2 * (low * 2 ^ D) + 2 * 2 ^ D := by
        show 2 * (low + 1) * 2 ^ D = _
        rw [Nat.mul_assoc, Nat.add_mul]; omega
      rw [e2]
      refine ⟨by omega, by omega, fun h0 => ?_⟩
      subst h0; simp at hlt; omega
    · have hm' : (decide (2 ^ D < 2 * rest) || (2 ^ D == 2 * rest && low % 2 == 1)) = false := by simpa using hm
      rw [hm']
      have hge : 2 * rest ≤ 2 ^ D := by
        simp only [Bool.or_eq_false_iff, decide_eq_false_iff_not] at hm'; omega
      have e2 : 2 * (low + false.toNat) * 2 ^ D = 2 * (low * 2 ^ D) := by
        show 2 * (low + 0) * 2 ^ D = _
        rw [Nat.add_zero, Nat.mul_assoc]
      rw [e2]
      refine ⟨by omega, by omega, fun h0 => ?_⟩
      subst h0; simp at hlt; show low = n; simp at hdm; omega
  · rw [Nat.min_eq_right (by omega)]
    simp only [Nat.shiftLeft_eq, Nat.one_mul]
    have hl : n < 2 ^ (n.log2 + 1) := Nat.lt_log2_self
    have e4 : 2 ^ (n.log2 + 2) = 2 * 2 ^ (n.log2 + 1) := by rw [Nat.pow_succ]; omega
    have h1 : n < 2 ^ (n.log2 + 2) := by omega
    rw [Nat.div_eq_of_lt h1, Nat.mod_eq_of_lt h1]
    have hm' : (decide (2 ^ (n.log2 + 2) < 2 * n) || (2 ^ (n.log2 + 2) == 2 * n && 0 % 2 == 1)) = false := by
      simp; omega
    rw [hm']
    have hle : 2 ^ (n.log2 + 2) ≤ 2 ^ D := Nat.pow_le_pow_right (by omega) (by omega)
    refine ⟨by simp, ?_, fun h => by omega⟩
    show 2 * n ≤ 2 * 0 * 2 ^ D + 2 ^ D
    omega

theorem V_at (E k : Nat) (h1 : k ≤ 9007199254740992) (h2 : E = 0 ∨ 4503599627370496 ≤ k) : V (E * 4503599627370496 + k) = k * 2 ^ E := by
  unfold V
  by_cases hs : k < 4503599627370496
  · have : E = 0 := by omega
    subst this
    rw [if_pos (by omega)]; omega
  · rw [if_neg (by omega)]
    by_cases hf : k = 9007199254740992
    · subst hf
      have e1 : (E * 4503599627370496 + 9007199254740992) % 4503599627370496 = 0 := by omega
      have e2 : (E * 4503599627370496 + 9007199254740992) / 4503599627370496 - 1 = E + 1 := by omega
      rw [e1, e2, Nat.shiftLeft_eq, Nat.pow_succ]; omega
    · have e1 : (E * 4503599627370496 + k) % 4503599627370496 = k - 4503599627370496 := by omega
      have e2 : (E * 4503599627370496 + k) / 4503599627370496 - 1 = E := by omega
      rw [e1, e2, Nat.shiftLeft_eq]
      rw [show 4503599627370496 + (k - 4503599627370496) = k from by omega]

theorem V_after (E k : Nat) (h1 : k ≤ 9007199254740992) (h2 : E = 0 ∨ 4503599627370496 ≤ k) : (k + 1) * 2 ^ E ≤ V (E * 4503599627370496 + k + 1) := by
  by_cases hf : k = 9007199254740992
  · subst hf
    have e : E * 4503599627370496 + 9007199254740992 + 1 = (E + 1) * 4503599627370496 + 4503599627370497 := by omega
    rw [e, V_at (E + 1) 4503599627370497 (by omega) (by omega), Nat.pow_succ]
    have := Nat.two_pow_pos E
    generalize 2 ^ E = p at *
    omega
  · rw [Nat.add_assoc, V_at E (k + 1) (by omega) (by omega)]
    exact Nat.le_refl _

/-- THE NEAREST WORD: whatever rung is not above the number is not above it, whatever rung is not below is not below. -/
theorem nearest_spec (s : Bool) (mag : Nat) (place : Int) : ∃ R, double.nearest s mag place = double.word s R ∧ R ≤ inf ∧
    ∀ a b k : Nat, (a : Int) - b = place + 1074 → (k ≤ inf → V k * 2 ^ b ≤ mag * 2 ^ a → k ≤ R) ∧ (mag * 2 ^ a ≤ V k * 2 ^ b → R ≤ k) := by
  unfold Format.nearest
  by_cases h0 : mag = 0
  · rw [if_pos h0]
    refine ⟨0, rfl, by decide, fun a b k _ => ⟨fun _ h => ?_, fun _ => Nat.zero_le _⟩⟩
    subst h0
    apply Classical.byContradiction; intro hk
    have := V_pos (a := k) (by omega)
    have := Nat.mul_pos this (Nat.two_pow_pos b)
    omega
  · rw [if_neg h0]
    dsimp only
    have hfb : (double.fractionBits : Int) = 52 := rfl
    have hlp : double.leastPlace = -1074 := by decide
    have hbin : double.binade = 4503599627370496 := by decide
    have hinf : double.infRung = inf := by decide
    rw [hfb, hlp, hbin, hinf]
    have hlog : mag < 2 ^ (mag.log2 + 1) := Nat.lt_log2_self
    have hlog' : 2 ^ mag.log2 ≤ mag := Nat.log2_self_le h0
    generalize hL : mag.log2 = L at *
    generalize hlast : max (place + (L : Int) - 52) (-1074) = last
    generalize hup : (place - last).toNat = up
    generalize hD : (last - place).toNat = D
    generalize hE : (last - -1074).toNat = E
    rw [Nat.shiftLeft_eq]
    generalize hn : mag * 2 ^ up = n
    obtain ⟨c1, c2, c3⟩ := cut_even s n D
    generalize Toward.even.cut s n D = kept at *
    have hDp := Nat.two_pow_pos D
    have hEp := Nat.two_pow_pos E
    -- n is below 2^53 units, and at least 2^52 of them, if E is above nought
    have hn1 : n < 9007199254740992 * 2 ^ D := by
      have e : 9007199254740992 * 2 ^ D = 2 ^ (53 + D) := by rw [Nat.pow_add]
      rw [e, ← hn]
      calc mag * 2 ^ up < 2 ^ (L + 1) * 2 ^ up := Nat.mul_lt_mul_of_pos_right hlog (Nat.two_pow_pos _)
        _ = 2 ^ (L + 1 + up) := (Nat.pow_add ..).symm
        _ ≤ 2 ^ (53 + D) := Nat.pow_le_pow_right (by omega) (by omega)
    have hn2 : E = 0 ∨ 4503599627370496 * 2 ^ D ≤ n := by
      by_cases hE0 : E = 0
      · exact Or.inl hE0
      · refine Or.inr ?_
        have e : 4503599627370496 * 2 ^ D = 2 ^ (52 + D) := by rw [Nat.pow_add]
        rw [e, ← hn]
        calc 2 ^ (52 + D) ≤ 2 ^ (L + up) := Nat.pow_le_pow_right (by omega) (by omega)
          _ = 2 ^ L * 2 ^ up := Nat.pow_add ..
          _ ≤ mag * 2 ^ up := Nat.mul_le_mul_right _ hlog'
    have hk1 : kept ≤ 9007199254740992 := by
      apply Classical.byContradiction; intro hk
      have : 9007199254740993 * 2 ^ D ≤ kept * 2 ^ D := Nat.mul_le_mul_right _ (by omega)
      rw [Nat.mul_assoc] at c1
      generalize kept * 2 ^ D = z at *
      generalize 2 ^ D = p at *
      omega
    have hk2 : E = 0 ∨ 4503599627370496 ≤ kept := by
      rcases hn2 with h | h
      · exact Or.inl h
      · refine Or.inr ?_
        apply Classical.byContradiction; intro hk
        have : kept * 2 ^ D ≤ 4503599627370495 * 2 ^ D := Nat.mul_le_mul_right _ (by omega)
        rw [Nat.mul_assoc] at c2
        generalize kept * 2 ^ D = z at *
        generalize 2 ^ D = p at *
        omega
    obtain ⟨R, hR⟩ : ∃ R, R = E * 4503599627370496 + kept := ⟨_, rfl⟩
    have hV : V R = kept * 2 ^ E := by rw [hR]; exact V_at E kept hk1 hk2
    have hA : (kept + 1) * 2 ^ E ≤ V (R + 1) := by rw [hR]; exact V_after E kept hk1 hk2
    refine ⟨min R inf, by rw [hR], Nat.min_le_right .., fun a b k hab => ?_⟩
    -- one scale
    have hscale : mag * 2 ^ a * 2 ^ D = n * 2 ^ E * 2 ^ b := by
      rw [← hn]
      have e : a + D = up + E + b := by omega
      calc mag * 2 ^ a * 2 ^ D = mag * 2 ^ (a + D) := by rw [Nat.mul_assoc, ← Nat.pow_add]
        _ = mag * 2 ^ (up + E + b) := by rw [e]
        _ = mag * 2 ^ up * 2 ^ E * 2 ^ b := by rw [Nat.pow_add, Nat.pow_add]; simp only [Nat.mul_assoc]
    have hbp := Nat.two_pow_pos b
    constructor
    · intro hki h
      apply Classical.byContradiction; intro hk
      have hkR : R + 1 ≤ k := by omega
      have h1 : (kept + 1) * 2 ^ E ≤ V k := Nat.le_trans hA (V_le hkR)
      have h2 : V k * 2 ^ b * 2 ^ D ≤ n * 2 ^ E * 2 ^ b := by rw [← hscale]; exact Nat.mul_le_mul_right _ h
      have h3 : V k * 2 ^ D * 2 ^ b ≤ n * 2 ^ E * 2 ^ b := by rw [Nat.mul_right_comm]; exact h2
      have h4 : V k * 2 ^ D ≤ n * 2 ^ E := Nat.le_of_mul_le_mul_right h3 hbp
      have h5 : (kept + 1) * 2 ^ E * 2 ^ D ≤ n * 2 ^ E := Nat.le_trans (Nat.mul_le_mul_right _ h1) h4
      rw [Nat.mul_right_comm] at h5
      have h6 : (kept + 1) * 2 ^ D ≤ n := Nat.le_of_mul_le_mul_right h5 hEp
      rw [Nat.add_mul, Nat.one_mul] at h6
      rw [Nat.mul_assoc] at c2
      omega
    · intro h
      apply Classical.byContradiction; intro hk
      have hkR : k + 1 ≤ R := by omega
      have h2 : n * 2 ^ E * 2 ^ b ≤ V k * 2 ^ b * 2 ^ D := by rw [← hscale]; exact Nat.mul_le_mul_right _ h
      rw [Nat.mul_right_comm (V k)] at h2
      have h4 : n * 2 ^ E ≤ V k * 2 ^ D := Nat.le_of_mul_le_mul_right h2 hbp
      by_cases hb : kept = 4503599627370496 ∧ E ≠ 0
      · obtain ⟨hb1, hb2⟩ := hb
        have h5 : V k < kept * 2 ^ E := by rw [← hV]; exact V_lt (by omega)
        have h6 : V k * 2 ^ D < kept * 2 ^ E * 2 ^ D := Nat.mul_lt_mul_of_pos_right h5 hDp
        have h7 : kept * 2 ^ D ≤ n := by rw [hb1]; omega
        have h8 : kept * 2 ^ D * 2 ^ E ≤ n * 2 ^ E := Nat.mul_le_mul_right _ h7
        rw [Nat.mul_right_comm] at h8
        omega
      · have hk0 : kept ≠ 0 := by
          intro hz; have : E = 0 := by omega
          subst this; omega
        have h5 : V (R - 1) = (kept - 1) * 2 ^ E := by
          rw [← V_at E (kept - 1) (by omega) (by omega), show R - 1 = E * 4503599627370496 + (kept - 1) from by omega]
        have h6 : V k ≤ (kept - 1) * 2 ^ E := by rw [← h5]; exact V_le (by omega)
        have h7 : n * 2 ^ E ≤ (kept - 1) * 2 ^ E * 2 ^ D := Nat.le_trans h4 (Nat.mul_le_mul_right _ h6)
        rw [Nat.mul_right_comm] at h7
        have h8 : n ≤ (kept - 1) * 2 ^ D := Nat.le_of_mul_le_mul_right h7 hEp
        rw [Nat.sub_mul, Nat.one_mul] at h8
        rw [Nat.mul_assoc] at c1
        have : 2 ^ D ≤ kept * 2 ^ D := Nat.le_mul_of_pos_left _ (by omega)
        omega

end Fl
