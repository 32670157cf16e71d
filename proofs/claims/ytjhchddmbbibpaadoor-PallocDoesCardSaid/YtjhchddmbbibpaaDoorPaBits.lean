import Derived.Test.YtjhchddmbbibpaaDoorPaMath
/-! pages that are used, as bits of words -/
namespace Pa
set_option linter.unusedVariables false
open Go.Lib

def bit (ws : List Nat) (j : Nat) : Bool := (ws.getD (j / 64) 0).testBit (j % 64)
def put (U : Nat → Bool) (i : Nat) (b : Bool) : Nat → Bool := fun q => if q = i then b else U q
structure Wds (n : Nat) (U : Nat → Bool) (ws : List Nat) : Prop where
  len : ws.length = (n + 63) / 64
  lt : ∀ x ∈ ws, x < 18446744073709551616
  is : ∀ j, bit ws j = U (j + 1)
  dom : ∀ i, U i = true → 1 ≤ i ∧ i ≤ n

theorem put_same (U : Nat → Bool) (i : Nat) (b : Bool) : put U i b i = b := by simp [put]
theorem put_ne (U : Nat → Bool) {i q : Nat} (b : Bool) (h : q ≠ i) : put U i b q = U q := by simp [put, h]
theorem Wds.off {n : Nat} {U : Nat → Bool} {ws : List Nat} (h : Wds n U ws) {i : Nat} (hi : i < 1 ∨ n < i) : U i = false := by
  cases e : U i with
  | false => rfl
  | true => have := h.dom i e; omega

theorem wds_zero (n : Nat) : Wds n (fun _ => false) (List.replicate ((n + 63) / 64) 0) := by
  refine ⟨by simp, fun x hx => ?_, fun j => ?_, fun i h => by cases h⟩
  · have := List.eq_of_mem_replicate hx
    omega
  · unfold bit
    have : (List.replicate ((n + 63) / 64) 0).getD (j / 64) 0 = 0 := by
      rw [List.getD_eq_getElem?_getD, List.getElem?_replicate]
      split <;> rfl
    rw [this, Nat.zero_testBit]

theorem Wds.word {n : Nat} {U : Nat → Bool} {ws : List Nat} (h : Wds n U ws) {v : Nat} (hv : v < ws.length) : ∃ x, ws[v]? = some x ∧ x < 18446744073709551616 ∧ ∀ b, b < 64 → x.testBit b = U (64 * v + b + 1) := by
  refine ⟨ws[v], List.getElem?_eq_getElem hv, h.lt _ (List.getElem_mem hv), fun b hb => ?_⟩
  have := h.is (64 * v + b)
  unfold bit at this
  rw [show (64 * v + b) / 64 = v by omega, show (64 * v + b) % 64 = b by omega, List.getD_eq_getElem?_getD, List.getElem?_eq_getElem hv] at this
  exact this
theorem Wds.at {n : Nat} {U : Nat → Bool} {ws : List Nat} (h : Wds n U ws) {j : Nat} (hj : j < n) : j / 64 < ws.length ∧ ∃ x, ws[j / 64]? = some x ∧ x < 18446744073709551616 ∧ x.testBit (j % 64) = U (j + 1) := by
  have hl : j / 64 < ws.length := by rw [h.len]; omega
  obtain ⟨x, h1, h2, h3⟩ := h.word hl
  refine ⟨hl, x, h1, h2, ?_⟩
  rw [h3 (j % 64) (by omega), show 64 * (j / 64) + j % 64 = j by omega]
theorem bit_set (ws : List Nat) (v x j : Nat) (hv : v < ws.length) : bit (ws.set v x) j = if j / 64 = v then x.testBit (j % 64) else bit ws j := by
  unfold bit
  rw [List.getD_eq_getElem?_getD, List.getElem?_set]
  by_cases e : v = j / 64
  · subst e; simp [hv]
  · have : ¬ j / 64 = v := fun h => e h.symm
    simp [e, this]
theorem Wds.turned {n : Nat} {U : Nat → Bool} {ws : List Nat} (h : Wds n U ws) {j x y : Nat} (b : Bool) (hj : j < n) (hx : ws[j / 64]? = some x) (hy : y < 18446744073709551616) (ht : ∀ q, y.testBit q = if q = j % 64 then b else x.testBit q) : Wds n (put U (j + 1) b) (ws.set (j / 64) y) := by
  obtain ⟨hl, x', hx', hx2, hx3⟩ := h.at hj
  rw [hx] at hx'
  obtain rfl := Option.some.inj hx'
  refine ⟨by rw [List.length_set]; exact h.len, fun z hz => ?_, fun q => ?_, fun i hi => ?_⟩
  · rcases List.mem_or_eq_of_mem_set hz with h1 | h1
    · exact h.lt z h1
    · omega
  · rw [bit_set _ _ _ _ hl]
    by_cases e : q / 64 = j / 64
    · rw [if_pos e, ht]
      by_cases e2 : q % 64 = j % 64
      · have e3 : q = j := by omega
        subst e3
        simp [put]
      · rw [if_neg e2, put_ne _ _ (by omega)]
        have := h.is q
        unfold bit at this
        rw [e, List.getD_eq_getElem?_getD, hx] at this
        exact this
    · rw [if_neg e, put_ne _ _ (fun h => e (by rw [show q = j by omega]))]
      exact h.is q
  · by_cases e : i = j + 1
    · omega
    · rw [put_ne _ _ e] at hi
      exact h.dom i hi
theorem two_pow_lt {k : Nat} (hk : k < 64) : 2 ^ k < 18446744073709551616 := by
  have : (2 : Nat) ^ k < 2 ^ 64 := Nat.pow_lt_pow_right (by omega) hk
  omega
theorem or_bit (x k q : Nat) : (x ||| 2 ^ k).testBit q = if q = k then true else x.testBit q := by
  rw [Nat.testBit_or, Nat.testBit_two_pow]
  by_cases e : q = k
  · simp [e]
  · have : ¬ k = q := fun h => e h.symm
    simp [e, this]
theorem Wds.on {n : Nat} {U : Nat → Bool} {ws : List Nat} (h : Wds n U ws) {j x : Nat} (hj : j < n) (hx : ws[j / 64]? = some x) : x ||| 2 ^ (j % 64) < 18446744073709551616 ∧ Wds n (put U (j + 1) true) (ws.set (j / 64) (x ||| 2 ^ (j % 64))) := by
  obtain ⟨hl, x', hx', hx2, hx3⟩ := h.at hj
  rw [hx] at hx'
  obtain rfl := Option.some.inj hx'
  have h2 : x ||| 2 ^ (j % 64) < 2 ^ 64 := Nat.or_lt_two_pow (by omega) (by have := two_pow_lt (k := j % 64) (by omega); omega)
  exact ⟨by omega, h.turned true hj hx (by omega) (or_bit x _)⟩
theorem and_not_bit (x k q : Nat) : (x ^^^ (x &&& 2 ^ k)).testBit q = if q = k then false else x.testBit q := by
  rw [Nat.testBit_xor, Nat.testBit_and, Nat.testBit_two_pow]
  by_cases e : q = k
  · simp [e]
  · have : ¬ k = q := fun h => e h.symm
    simp [e, this]
theorem Wds.give {n : Nat} {U : Nat → Bool} {ws : List Nat} (h : Wds n U ws) {j x : Nat} (hj : j < n) (hx : ws[j / 64]? = some x) : x ^^^ (x &&& 2 ^ (j % 64)) < 18446744073709551616 ∧ Wds n (put U (j + 1) false) (ws.set (j / 64) (x ^^^ (x &&& 2 ^ (j % 64)))) := by
  obtain ⟨hl, x', hx', hx2, hx3⟩ := h.at hj
  rw [hx] at hx'
  obtain rfl := Option.some.inj hx'
  have h1 : x &&& 2 ^ (j % 64) < 2 ^ 64 := Nat.and_lt_two_pow _ (by have := two_pow_lt (k := j % 64) (by omega); omega)
  have h2 : x ^^^ (x &&& 2 ^ (j % 64)) < 2 ^ 64 := Nat.xor_lt_two_pow (by omega) h1
  exact ⟨by omega, h.turned false hj hx (by omega) (and_not_bit x _)⟩
theorem and_bit_zero (x k : Nat) : ((x &&& 2 ^ k) = 0) ↔ x.testBit k = false := by
  constructor
  · intro h
    have := congrArg (·.testBit k) h
    simpa [Nat.testBit_and, Nat.testBit_two_pow] using this
  · intro h
    apply Nat.eq_of_testBit_eq
    intro i
    rw [Nat.testBit_and, Nat.testBit_two_pow, Nat.zero_testBit]
    by_cases e : k = i
    · subst e; simp [h]
    · simp [e]

/-! the least page that is looked for -/
def turnN (t : Bool) : Nat := if t then 18446744073709551615 else 0
def fnd (t : Bool) (x k : Nat) : Nat := (x ^^^ turnN t) &&& (18446744073709551616 - 2 ^ k)
theorem turnN_bit (t : Bool) (b : Nat) (hb : b < 64) : (turnN t).testBit b = t := by
  cases t with
  | false => simp [turnN]
  | true =>
    unfold turnN
    rw [if_pos rfl, show 18446744073709551615 = 2 ^ 64 - 1 from rfl, Nat.testBit_two_pow_sub_one]
    simpa using hb
theorem from_bit (k b : Nat) (hk : k < 64) : (18446744073709551616 - 2 ^ k).testBit b = (decide (k ≤ b) && decide (b < 64)) := by
  have e : 18446744073709551616 - 2 ^ k = (2 ^ (64 - k) - 1) * 2 ^ k := by
    rw [Nat.sub_mul, ← Nat.pow_add, show 64 - k + k = 64 by omega]
    simp
  rw [e, Nat.testBit_mul_two_pow, Nat.testBit_two_pow_sub_one]
  by_cases h : k ≤ b
  · simp only [h, decide_true, Bool.true_and]
    congr 1
    apply propext
    omega
  · simp [h]
theorem fnd_bit (t : Bool) (x k b : Nat) (hk : k < 64) : (fnd t x k).testBit b = (decide (k ≤ b) && decide (b < 64) && (x.testBit b ^^ t)) := by
  unfold fnd
  rw [Nat.testBit_and, Nat.testBit_xor, from_bit k b hk]
  by_cases hb : b < 64
  · rw [turnN_bit t b hb]
    cases decide (k ≤ b) <;> cases x.testBit b <;> cases t <;> simp [hb]
  · simp [hb]
theorem fnd_lt (t : Bool) (x k : Nat) (hk : k < 64) : fnd t x k < 18446744073709551616 := by
  have : fnd t x k < 2 ^ 64 := Nat.and_lt_two_pow _ (by have := Nat.two_pow_pos k; omega)
  omega
theorem ctz_bit (x : Nat) (h0 : x ≠ 0) (hx : x < 18446744073709551616) : ctz 64 x < 64 ∧ x.testBit (ctz 64 x) = true ∧ ∀ b, b < ctz 64 x → x.testBit b = false := by
  obtain ⟨m, hm, hk⟩ := ctzFrom_spec 64 x (by omega) (by omega)
  have e : ctz 64 x = ctzFrom 64 x := by simp [ctz, h0]
  rw [e]
  obtain ⟨c, hc⟩ : ∃ c, ctzFrom 64 x = c := ⟨_, rfl⟩
  rw [hc] at hm hk ⊢
  refine ⟨hk, ?_, fun b hb => ?_⟩
  · rw [hm, Nat.mul_comm, Nat.testBit_mul_two_pow]
    simp
  · rw [hm, Nat.mul_comm, Nat.testBit_mul_two_pow]
    simp [show ¬ c ≤ b by omega]

/-- r is the least page from i on that is (t: free, else used), or n + 1 -/
structure Nx (U : Nat → Bool) (n i : Nat) (t : Bool) (r : Nat) : Prop where
  ge : i ≤ r
  le : r ≤ n + 1
  no : ∀ q, i ≤ q → q < r → U q = t
  yes : r ≤ n → U r = !t
/-- the pages ahead of place k of word v aren't looked for -/
structure Look (U : Nat → Bool) (n i : Nat) (t : Bool) (K v k : Nat) : Prop where
  vK : v < K
  k64 : k < 64
  i1 : 1 ≤ i
  iN : i ≤ n
  ge : i ≤ 64 * v + k + 1
  no : ∀ q, i ≤ q → q < 64 * v + k + 1 → U q = t
section
variable {n i v k x : Nat} {t : Bool} {U : Nat → Bool} {ws : List Nat}
theorem look_start (h : Wds n U ws) (h1 : 1 ≤ i) (h2 : i ≤ n) : Look U n i t ws.length ((i - 1) / 64) ((i - 1) % 64) :=
  ⟨by rw [h.len]; omega, by omega, h1, h2, by omega, fun q a b => by omega⟩
theorem look_found (h : Wds n U ws) (hl : Look U n i t ws.length v k) (hx : ws[v]? = some x) (h0 : fnd t x k ≠ 0) : Nx U n i t (64 * v + ctz 64 (fnd t x k) + 1) ∧ 64 * v + ctz 64 (fnd t x k) + 1 ≤ n + 1 := by
  obtain ⟨x', hx', hx2, hx3⟩ := h.word hl.vK
  rw [hx] at hx'
  obtain rfl := Option.some.inj hx'
  obtain ⟨c1, c2, c3⟩ := ctz_bit _ h0 (fnd_lt t x k hl.k64)
  obtain ⟨c, hc⟩ : ∃ c, ctz 64 (fnd t x k) = c := ⟨_, rfl⟩
  rw [hc] at c1 c2 c3 ⊢
  rw [fnd_bit _ _ _ _ hl.k64, hx3 c c1] at c2
  have hkc : k ≤ c := by
    simp only [Bool.and_eq_true, decide_eq_true_eq] at c2
    exact c2.1.1
  have hU : U (64 * v + c + 1) = !t := by
    simp only [Bool.and_eq_true] at c2
    have := c2.2
    revert this
    generalize U (64 * v + c + 1) = u
    cases u <;> cases t <;> decide
  have no : ∀ q, i ≤ q → q < 64 * v + c + 1 → U q = t := by
    intro q h1 h2
    by_cases e : q < 64 * v + k + 1
    · exact hl.no q h1 e
    · obtain ⟨b, rfl⟩ : ∃ b, q = 64 * v + b + 1 := ⟨q - 64 * v - 1, by omega⟩
      have := c3 b (by omega)
      rw [fnd_bit _ _ _ _ hl.k64, hx3 b (by omega)] at this
      have h3 : k ≤ b := by omega
      have h4 : b < 64 := by omega
      simp only [h3, h4, decide_true, Bool.true_and] at this
      revert this
      generalize U (64 * v + b + 1) = u
      cases u <;> cases t <;> decide
  have le : 64 * v + c + 1 ≤ n + 1 := by
    apply Classical.byContradiction
    intro hn
    have i2 := hl.iN
    cases t with
    | false =>
      have := (h.dom _ hU).2
      omega
    | true =>
      have := (h.dom _ (no (n + 1) (by omega) (by omega))).2
      omega
  have := hl.ge
  exact ⟨⟨by omega, le, no, fun _ => hU⟩, le⟩
theorem look_skip (h : Wds n U ws) (hl : Look U n i t ws.length v k) (hx : ws[v]? = some x) (h0 : fnd t x k = 0) : ∀ q, i ≤ q → q < 64 * (v + 1) + 1 → U q = t := by
  obtain ⟨x', hx', hx2, hx3⟩ := h.word hl.vK
  rw [hx] at hx'
  obtain rfl := Option.some.inj hx'
  intro q h1 h2
  by_cases e : q < 64 * v + k + 1
  · exact hl.no q h1 e
  · obtain ⟨b, rfl⟩ : ∃ b, q = 64 * v + b + 1 := ⟨q - 64 * v - 1, by omega⟩
    have : (fnd t x k).testBit b = false := by rw [h0, Nat.zero_testBit]
    rw [fnd_bit _ _ _ _ hl.k64, hx3 b (by omega)] at this
    have h3 : k ≤ b := by omega
    have h4 : b < 64 := by omega
    simp only [h3, h4, decide_true, Bool.true_and] at this
    revert this
    generalize U (64 * v + b + 1) = u
    cases u <;> cases t <;> decide
theorem look_next (h : Wds n U ws) (hl : Look U n i t ws.length v k) (hx : ws[v]? = some x) (h0 : fnd t x k = 0) (hv : v + 1 < ws.length) : Look U n i t ws.length (v + 1) 0 :=
  ⟨hv, by omega, hl.i1, hl.iN, by have := hl.ge; have := hl.k64; omega, fun q a b => look_skip h hl hx h0 q a (by omega)⟩
theorem look_end (h : Wds n U ws) (hl : Look U n i t ws.length v k) (hx : ws[v]? = some x) (h0 : fnd t x k = 0) (hv : ¬ v + 1 < ws.length) : Nx U n i t (n + 1) := by
  have hL := h.len
  have hK := hl.vK
  have hI := hl.iN
  exact ⟨by omega, by omega, fun q a b => look_skip h hl hx h0 q a (by omega), fun hr => by omega⟩
theorem nx_behind (hi : n < i) (h2 : i ≤ n + 1) : Nx U n i t (n + 1) := ⟨h2, by omega, fun q a b => by omega, fun hr => by omega⟩
end
end Pa
