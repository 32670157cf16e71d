import Derived.Test.YtohilconpcgjeaaFlMono
import Derived.Test.YtohilconpcgjeaaPoMath
namespace Fl
open Ieee

/-- a number, not below nought -/
def good (x : Nat) : Prop := nan x = false ∧ (neg x = true → rung x = 0)

theorem good_key {x : Nat} (h : good x) : key x = rung x := by
  rw [key_eq]
  cases hn : neg x
  · rfl
  · rw [h.2 hn]; rfl
theorem good_val {x : Nat} (h : good x) : val x = (V (rung x) : Int) := by
  unfold val
  cases hn : neg x
  · rfl
  · rw [h.2 hn, V_zero]; rfl
theorem good_le {x : Nat} (h : good x) : rung x ≤ inf := by have := h.1; simpa [nan] using this
theorem good_word {s : Bool} {R : Nat} (h : R ≤ inf) (hs : s = true → R = 0) : good (double.word s R) ∧ rung (double.word s R) = R := by
  obtain ⟨a, b, _⟩ := word_rung s R h
  exact ⟨⟨by unfold nan; rw [a]; simp; exact h, by rw [a, b]; exact hs⟩, a⟩
theorem good_inf {x : Nat} (h : good x) (hi : rung x = inf) : double.read x = .infinity false := by
  have hn : neg x = false := by
    cases hn : neg x
    · rfl
    · have := h.2 hn; rw [hi] at this; cases this
  rw [read_inf hi, hn]

theorem rung_nearest {s : Bool} {m : Nat} {p : Int} {R : Nat} (h : double.nearest s m p = double.word s R) (hR : R ≤ inf) : rung (double.nearest s m p) = R := by
  rw [h]; exact (word_rung s R hR).1
theorem good_nearest (s : Bool) (m : Nat) (p : Int) (h : s = true → m = 0) : good (double.nearest s m p) := by
  obtain ⟨R, e, hR, _⟩ := nearest_spec s m p
  rw [e]
  refine (good_word hR fun hs => ?_).1
  have h0 := h hs
  subst h0
  have e2 : double.nearest s 0 p = double.word s 0 := by unfold Format.nearest; rw [if_pos rfl]
  have := congrArg rung (e.symm.trans e2)
  rw [(word_rung s R hR).1, (word_rung s 0 (Nat.zero_le _)).1] at this
  exact this

theorem mul_near {K x : Nat} (hK : good K) (hKf : rung K < inf) (hx : good x) (hxf : rung x < inf) :
    ∃ s m q, double.mul K x = some (double.nearest s m (-2148 + (q : Nat))) ∧ m * 2 ^ q = V (rung K) * V (rung x) ∧ (s = true → m = 0) := by
  obtain ⟨m1, e1, r1, v1, _⟩ := read_num hKf
  obtain ⟨m2, e2, r2, v2, _⟩ := read_num hxf
  refine ⟨neg K ^^ neg x, m1 * m2, e1 + e2, ?_, ?_, ?_⟩
  · unfold Format.mul
    rw [r1, r2]
    show some (double.nearest _ _ _) = _
    rw [show (-1074 + (e1 : Int)) + (-1074 + (e2 : Int)) = -2148 + ((e1 + e2 : Nat) : Int) from by push_cast; omega]
  · rw [← v1, ← v2, Nat.shiftLeft_eq, Nat.shiftLeft_eq, Nat.pow_add]; ac_rfl
  · intro hs
    have z1 : neg K = true → m1 = 0 := by
      intro hn
      have := hK.2 hn
      rw [this, V_zero, Nat.shiftLeft_eq] at v1
      have := Nat.two_pow_pos e1
      rcases Nat.mul_eq_zero.1 v1 with h | h <;> omega
    have z2 : neg x = true → m2 = 0 := by
      intro hn
      have := hx.2 hn
      rw [this, V_zero, Nat.shiftLeft_eq] at v2
      have := Nat.two_pow_pos e2
      rcases Nat.mul_eq_zero.1 v2 with h | h <;> omega
    cases hk : neg K
    · rw [hk] at hs
      have : neg x = true := by simpa using hs
      rw [z2 this]; rfl
    · rw [z1 hk, Nat.zero_mul]

theorem mul_up {K x y : Nat} (hK : good K) (hKf : rung K < inf) (hx : good x) (hy : good y) (hxy : rung x ≤ rung y) (h0 : rung K = 0 → rung y < inf) :
    ∃ r q, double.mul K x = some r ∧ double.mul K y = some q ∧ good r ∧ good q ∧ rung r ≤ rung q ∧ (rung K = 0 → rung q = 0) := by
  have infy : ∀ z, good z → rung z = inf → rung K ≠ 0 → double.mul K z = some (double.word false inf) := by
    intro z hz hi hk
    obtain ⟨m1, e1, r1, v1, _⟩ := read_num hKf
    unfold Format.mul
    rw [r1, good_inf hz hi]
    have hm : m1 ≠ 0 := by
      intro h; subst h
      have := V_pos (a := rung K) (by omega)
      rw [Nat.shiftLeft_eq, Nat.zero_mul] at v1
      omega
    have hn : neg K = false := by
      cases hn : neg K
      · rfl
      · exact absurd (hK.2 hn) hk
    rw [hn]
    simp only [Datum.product]
    rw [if_neg hm]
    rfl
  have gi := good_word (s := false) (R := inf) (Nat.le_refl _) (fun h => by cases h)
  by_cases yi : rung y = inf
  · have hk : rung K ≠ 0 := by intro h; have := h0 h; omega
    by_cases xi : rung x = inf
    · exact ⟨_, _, infy x hx xi hk, infy y hy yi hk, gi.1, gi.1, Nat.le_refl _, fun h => absurd h hk⟩
    · obtain ⟨s, m, q, e, _, hs⟩ := mul_near hK hKf hx (by have := good_le hx; omega)
      have g := good_nearest s m (-2148 + (q : Int)) hs
      exact ⟨_, _, e, infy y hy yi hk, g, gi.1, by rw [gi.2]; exact good_le g, fun h => absurd h hk⟩
  · have yf : rung y < inf := by have := good_le hy; omega
    obtain ⟨s, m, q, e, hv, hs⟩ := mul_near hK hKf hx (by omega)
    obtain ⟨s', m', q', e', hv', hs'⟩ := mul_near hK hKf hy yf
    have g := good_nearest s m (-2148 + (q : Int)) hs
    have g' := good_nearest s' m' (-2148 + (q' : Int)) hs'
    obtain ⟨R, R', n1, n2, l1, l2, l3⟩ := nearest_mono s s' m m' (-2148 + (q : Int)) (-2148 + (q' : Int)) q 1074 q' 1074 (by omega) (by omega) (by
      rw [hv, hv']
      exact Nat.mul_le_mul_right _ (Nat.mul_le_mul_left _ (V_le hxy)))
    refine ⟨_, _, e, e', g, g', by rw [rung_nearest n1 l1, rung_nearest n2 l2]; exact l3, fun h => ?_⟩
    rw [h, V_zero, Nat.zero_mul] at hv'
    have hm : m' = 0 := by
      have := Nat.two_pow_pos q'
      rcases Nat.mul_eq_zero.1 hv' with h | h <;> omega
    subst hm
    have e2 : double.nearest s' 0 (-2148 + (q' : Int)) = double.word s' 0 := by unfold Format.nearest; rw [if_pos rfl]
    exact rung_nearest e2 (Nat.zero_le _)

theorem add_near {x y : Nat} (hx : good x) (hxf : rung x < inf) (hy : good y) (hyf : rung y < inf) :
    ∃ s m q, double.add x y = some (double.nearest s m (-1074 + (q : Nat))) ∧ m * 2 ^ q = V (rung x) + V (rung y) ∧ (s = true → m = 0) := by
  have hvx := good_val hx
  have hvy := good_val hy
  obtain ⟨m, e, h1, h2, _, _⟩ := read_num hxf
  obtain ⟨n, j, g1, g2, _, _⟩ := read_num hyf
  unfold Format.add
  rw [h1, g1]
  have e1 : ((-1074 + (e : Int)) - min (-1074 + (e : Int)) (-1074 + (j : Int))).toNat = e - min e j := by omega
  have e2 : ((-1074 + (j : Int)) - min (-1074 + (e : Int)) (-1074 + (j : Int))).toNat = j - min e j := by omega
  have e3 : min (-1074 + (e : Int)) (-1074 + (j : Int)) = -1074 + ((min e j : Nat) : Int) := by omega
  have hval : val x + val y = (signed (neg x) m (e - min e j) + signed (neg y) n (j - min e j)) * ((2 ^ (min e j) : Nat) : Int) := by
    unfold val
    rw [← h2, ← g2, signed_eq, signed_eq, Int.add_mul, ← sg_mul, ← sg_mul]
    simp only [Nat.shiftLeft_eq]
    rw [Nat.mul_assoc, Nat.mul_assoc, ← Nat.pow_add, ← Nat.pow_add, Nat.sub_add_cancel (by omega), Nat.sub_add_cancel (by omega)]
  have hS : (Datum.number (neg x) m (-1074 + (e : Int))).sum (.number (neg y) n (-1074 + (j : Int))) = some (.number (if signed (neg x) m (-1074 + (e : Int) - min (-1074 + (e : Int)) (-1074 + (j : Int))).toNat + signed (neg y) n (-1074 + (j : Int) - min (-1074 + (e : Int)) (-1074 + (j : Int))).toNat = 0 then neg x && neg y else decide (signed (neg x) m (-1074 + (e : Int) - min (-1074 + (e : Int)) (-1074 + (j : Int))).toNat + signed (neg y) n (-1074 + (j : Int) - min (-1074 + (e : Int)) (-1074 + (j : Int))).toNat < 0)) (signed (neg x) m (-1074 + (e : Int) - min (-1074 + (e : Int)) (-1074 + (j : Int))).toNat + signed (neg y) n (-1074 + (j : Int) - min (-1074 + (e : Int)) (-1074 + (j : Int))).toNat).natAbs (min (-1074 + (e : Int)) (-1074 + (j : Int)))) := rfl
  rw [hS]
  simp only [e1, e2]
  rw [e3]
  generalize signed (neg x) m (e - min e j) + signed (neg y) n (j - min e j) = T at *
  have hp := Nat.two_pow_pos (min e j)
  have hnn : 0 ≤ T := by
    have h : 0 ≤ T * ((2 ^ (min e j) : Nat) : Int) := by rw [← hval, hvx, hvy]; omega
    apply Classical.byContradiction; intro hc
    have := Int.mul_neg_of_neg_of_pos (a := T) (b := ((2 ^ (min e j) : Nat) : Int)) (by omega) (by omega)
    omega
  refine ⟨_, T.natAbs, min e j, rfl, ?_, ?_⟩
  · have h3 : ((T.natAbs * 2 ^ (min e j) : Nat) : Int) = ((V (rung x) + V (rung y) : Nat) : Int) := by
      rw [Int.natCast_mul, Int.natAbs_of_nonneg hnn, ← hval, hvx, hvy, Int.natCast_add]
    exact Int.ofNat.inj h3
  · intro hs
    by_cases hz : T = 0
    · rw [hz]; rfl
    · rw [if_neg hz] at hs
      have := of_decide_eq_true hs
      omega

theorem add_inf {x G : Nat} (hx : good x) (hi : rung x = inf) (hGf : rung G < inf) : double.add x G = some (double.word false inf) := by
  obtain ⟨m, e, h1, _⟩ := read_num hGf
  unfold Format.add
  rw [good_inf hx hi, h1]
  rfl

theorem add_up {x y G : Nat} (hx : good x) (hy : good y) (hxy : rung x ≤ rung y) (hG : good G) (hGf : rung G < inf) :
    ∃ r q, double.add x G = some r ∧ double.add y G = some q ∧ good r ∧ good q ∧ rung r ≤ rung q ∧ rung y ≤ rung q ∧ (rung y = 0 → rung q < inf) := by
  have gi := good_word (s := false) (R := inf) (Nat.le_refl _) (fun h => by cases h)
  by_cases yi : rung y = inf
  · have ey := add_inf hy yi hGf
    by_cases xi : rung x = inf
    · exact ⟨_, _, add_inf hx xi hGf, ey, gi.1, gi.1, Nat.le_refl _, by rw [gi.2]; omega, fun h => by rw [h] at yi; cases yi⟩
    · obtain ⟨s, m, q, e, _, hs⟩ := add_near hx (by have := good_le hx; omega) hG hGf
      have g := good_nearest s m (-1074 + (q : Int)) hs
      exact ⟨_, _, e, ey, g, gi.1, by rw [gi.2]; exact good_le g, by rw [gi.2]; omega, fun h => by rw [h] at yi; cases yi⟩
  · have yf : rung y < inf := by have := good_le hy; omega
    obtain ⟨s, m, q, e, hv, hs⟩ := add_near hx (by omega) hG hGf
    obtain ⟨s', m', q', e', hv', hs'⟩ := add_near hy yf hG hGf
    have g := good_nearest s m (-1074 + (q : Int)) hs
    have g' := good_nearest s' m' (-1074 + (q' : Int)) hs'
    obtain ⟨R, R', n1, n2, l1, l2, l3⟩ := nearest_mono s s' m m' (-1074 + (q : Int)) (-1074 + (q' : Int)) q 0 q' 0 (by omega) (by omega) (by
      rw [hv, hv', Nat.pow_zero, Nat.mul_one, Nat.mul_one]
      exact Nat.add_le_add_right (V_le hxy) _)
    obtain ⟨R2, n3, l4, l5⟩ := nearest_spec s' m' (-1074 + (q' : Int))
    have r1 := rung_nearest n1 l1
    have r2 := rung_nearest n2 l2
    have r3 := rung_nearest n3 l4
    refine ⟨_, _, e, e', g, g', by rw [r1, r2]; exact l3, ?_, fun h => ?_⟩
    · rw [r3]
      exact (l5 q' 0 (rung y) (by omega)).1 (by omega) (by rw [hv', Nat.pow_zero, Nat.mul_one]; exact Nat.le_add_right _ _)
    · rw [r3]
      have := (l5 q' 0 (rung G) (by omega)).2 (by rw [hv', Nat.pow_zero, Nat.mul_one, h, V_zero, Nat.zero_add]; exact Nat.le_refl _)
      omega

/-- two rows of scores, the one with syncs more -/
def Two (K : Nat) (o o' : Option Nat) : Prop := ∃ x y, o = some x ∧ o' = some y ∧ good x ∧ good y ∧ rung x ≤ rung y ∧ (rung K = 0 → rung y < inf)

theorem nx_up {K G : Nat} (hK : good K) (hKf : rung K < inf) (hG : good G) (hGf : rung G < inf) {o o' : Option Nat} (h : Two K o o') (b b' : Bool) (hb : b = true → b' = true) : Two K (nx K G o b) (nx K G o' b') := by
  obtain ⟨x, y, rfl, rfl, hx, hy, hxy, h0⟩ := h
  obtain ⟨r, q, e1, e2, g1, g2, l, z⟩ := mul_up hK hKf hx hy hxy h0
  have m1 : mulO (cv K) (some x) = some r := by rw [← cv_some hx.1, mulO_cv]; exact e1
  have m2 : mulO (cv K) (some y) = some q := by rw [← cv_some hy.1, mulO_cv]; exact e2
  unfold nx
  rw [m1, m2]
  obtain ⟨r', q', f1, f2, k1, k2, l1, l2, z2⟩ := add_up g1 g2 l hG hGf
  have a1 : addO (some r) (cv G) = some r' := by rw [← cv_some g1.1, addO_cv]; exact f1
  have a2 : addO (some q) (cv G) = some q' := by rw [← cv_some g2.1, addO_cv]; exact f2
  cases b <;> cases b'
  · exact ⟨r, q, rfl, rfl, g1, g2, l, fun h => by rw [z h]; decide⟩
  · exact ⟨r, q', rfl, a2, g1, k2, Nat.le_trans l l2, fun h => z2 (z h)⟩
  · cases hb rfl
  · exact ⟨r', q', a1, a2, k1, k2, l1, fun h => z2 (z h)⟩

theorem sc_up {K G : Nat} (hK : good K) (hKf : rung K < inf) (hG : good G) (hGf : rung G < inf) (l l' : List Bool) (hl : l'.length = l.length) (hm : ∀ i, (h : i < l.length) → l[i] = true → l'[i]'(by omega) = true) :
    ∀ k, k ≤ l.length → Two K (sc K G (l.take k)) (sc K G (l'.take k)) := by
  intro k
  induction k with
  | zero => intro _; exact ⟨0, 0, rfl, rfl, ⟨by decide, fun h => by cases h⟩, ⟨by decide, fun h => by cases h⟩, Nat.le_refl _, fun _ => by decide⟩
  | succ k ih =>
    intro hk
    rw [sc_take K G l k (by omega), sc_take K G l' k (by omega)]
    exact nx_up hK hKf hG hGf (ih (by omega)) _ _ (hm k (by omega))
end Fl
