import Derived.Test.YthonpifdhjpbgaaSoMath
namespace So

/-- two rows of n places, from a and from b on, exchanged -/
structure Swd (a b n : Nat) (xs ys : List Nat) : Prop where
  perm : ys.Perm xs
  one : ∀ k, k < n → ys[a + k]? = xs[b + k]?
  two : ∀ k, k < n → ys[b + k]? = xs[a + k]?
  rest : ∀ j, ¬ (a ≤ j ∧ j < a + n) → ¬ (b ≤ j ∧ j < b + n) → ys[j]? = xs[j]?

theorem Swd.none (a b : Nat) (xs : List Nat) : Swd a b 0 xs xs := ⟨.refl _, fun k h => absurd h (by omega), fun k h => absurd h (by omega), fun _ _ _ => rfl⟩

theorem Swd.step {a b n i x y : Nat} {xs ys : List Nat} (h : Swd a b i xs ys) (hi : i < n) (hab : a + n ≤ b) (hx : ys[a + i]? = some x) (hy : ys[b + i]? = some y) :
    Swd a b (i + 1) xs ((ys.set (a + i) y).set (b + i) x) := by
  obtain ⟨lx, ex⟩ := List.getElem?_eq_some_iff.1 hx
  obtain ⟨ly, ey⟩ := List.getElem?_eq_some_iff.1 hy
  have ox : xs[a + i]? = some x := by rw [← h.rest (a + i) (by omega) (by omega)]; exact hx
  have oy : xs[b + i]? = some y := by rw [← h.rest (b + i) (by omega) (by omega)]; exact hy
  refine ⟨?_, fun k hk => ?_, fun k hk => ?_, fun j h1 h2 => ?_⟩
  · have := List.set_set_perm (as := ys) lx ly
    rw [ex, ey] at this
    exact this.trans h.perm
  · by_cases e : k = i
    · subst e
      rw [List.getElem?_set_ne (by omega), List.getElem?_set_self lx, oy]
    · rw [List.getElem?_set_ne (by omega), List.getElem?_set_ne (by omega)]
      exact h.one k (by omega)
  · by_cases e : k = i
    · subst e
      rw [List.getElem?_set_self (by rw [List.length_set]; exact ly), ox]
    · rw [List.getElem?_set_ne (by omega), List.getElem?_set_ne (by omega)]
      exact h.two k (by omega)
  · rw [List.getElem?_set_ne (by omega), List.getElem?_set_ne (by omega)]
    exact h.rest j (by omega) (by omega)

/-- xs[s..m) and xs[m..e) have changed places -/
structure Rot (s m e : Nat) (xs ys : List Nat) : Prop where
  perm : ys.Perm xs
  out : ∀ k, k < s ∨ e ≤ k → ys[k]? = xs[k]?
  one : ∀ k, k < e - m → ys[s + k]? = xs[m + k]?
  two : ∀ k, k < m - s → ys[s + (e - m) + k]? = xs[s + k]?

theorem Rot.shuf {s m e : Nat} {xs ys : List Nat} (h : Rot s m e xs ys) (h1 : s ≤ m) (h2 : m ≤ e) : Shuf s e xs ys := by
  refine ⟨h.perm, h.out, fun p hp j x j1 j2 hx => ?_⟩
  by_cases c : j - s < e - m
  · have := h.one (j - s) c
    rw [show s + (j - s) = j from by omega, hx] at this
    exact hp (m + (j - s)) x (by omega) (by omega) this.symm
  · have := h.two (j - s - (e - m)) (by omega)
    rw [show s + (e - m) + (j - s - (e - m)) = j from by omega, hx] at this
    exact hp (s + (j - s - (e - m))) x (by omega) (by omega) this.symm

/-- on the way of a rotation: what is still to be done is a rotation of i places ahead of m and j behind -/
structure Way (m i j : Nat) (T : Nat → Option Nat) (xs ys : List Nat) : Prop where
  perm : ys.Perm xs
  out : ∀ k, k < m - i ∨ m + j ≤ k → ys[k]? = T k
  one : ∀ k, k < j → T (m - i + k) = ys[m + k]?
  two : ∀ k, k < i → T (m - i + j + k) = ys[m - i + k]?

def goal (s m e : Nat) (xs : List Nat) (k : Nat) : Option Nat := if k < s ∨ e ≤ k then xs[k]? else if k < s + (e - m) then xs[m + (k - s)]? else xs[k - (e - m)]?

theorem Way.start {s m e : Nat} (xs : List Nat) (h1 : s ≤ m) (h2 : m ≤ e) : Way m (m - s) (e - m) (goal s m e xs) xs xs := by
  refine ⟨.refl _, fun k hk => ?_, fun k hk => ?_, fun k hk => ?_⟩
  · unfold goal; rw [if_pos (by omega)]
  · unfold goal; rw [if_neg (by omega), if_pos (by omega)]; congr 1; omega
  · unfold goal; rw [if_neg (by omega), if_neg (by omega)]; congr 1; omega
theorem Way.more {m i j : Nat} {T : Nat → Option Nat} {xs ys zs : List Nat} (h : Way m i j T xs ys) (hi : i ≤ m) (hij : j < i) (k : Swd (m - i) m j ys zs) : Way m (i - j) j T xs zs := by
  refine ⟨k.perm.trans h.perm, fun q hq => ?_, fun q hq => ?_, fun q hq => ?_⟩
  · by_cases c : m - i ≤ q ∧ q < m - i + j
    · have a := k.one (q - (m - i)) (by omega)
      have b := h.one (q - (m - i)) (by omega)
      rw [show m - i + (q - (m - i)) = q from by omega] at a b
      rw [a, b]
    · rw [k.rest q c (by omega)]
      exact h.out q (by omega)
  · have a := k.two q hq
    have b := h.two q (by omega)
    rw [a, ← b]; congr 1; omega
  · have b := h.two (j + q) (by omega)
    rw [k.rest (m - (i - j) + q) (by omega) (by omega)]
    rw [show m - i + (j + q) = m - (i - j) + q from by omega] at b
    rw [← b]; congr 1; omega
theorem Way.less {m i j : Nat} {T : Nat → Option Nat} {xs ys zs : List Nat} (h : Way m i j T xs ys) (hi : i ≤ m) (hij : i < j) (k : Swd (m - i) (m + j - i) i ys zs) : Way m i (j - i) T xs zs := by
  refine ⟨k.perm.trans h.perm, fun q hq => ?_, fun q hq => ?_, fun q hq => ?_⟩
  · by_cases c : m + j - i ≤ q ∧ q < m + j - i + i
    · have a := k.two (q - (m + j - i)) (by omega)
      have b := h.two (q - (m + j - i)) (by omega)
      rw [show m + j - i + (q - (m + j - i)) = q from by omega] at a
      rw [a, ← b]; congr 1; omega
    · rw [k.rest q (by omega) c]
      exact h.out q (by omega)
  · have b := h.one q (by omega)
    rw [k.rest (m + q) (by omega) (by omega), ← b]
  · have a := k.one q (by omega)
    have b := h.one (j - i + q) (by omega)
    rw [a]
    rw [show m - i + (j - i) + q = m - i + (j - i + q) from by omega, b]; congr 1; omega
theorem Way.done {m i : Nat} {T : Nat → Option Nat} {xs ys zs : List Nat} (h : Way m i i T xs ys) (hi : i ≤ m) (k : Swd (m - i) m i ys zs) : zs.Perm xs ∧ ∀ q, zs[q]? = T q := by
  refine ⟨k.perm.trans h.perm, fun q => ?_⟩
  by_cases c : m - i ≤ q ∧ q < m - i + i
  · have a := k.one (q - (m - i)) (by omega)
    have b := h.one (q - (m - i)) (by omega)
    rw [show m - i + (q - (m - i)) = q from by omega] at a b
    rw [a, b]
  · by_cases d : m ≤ q ∧ q < m + i
    · have a := k.two (q - m) (by omega)
      have b := h.two (q - m) (by omega)
      rw [show m + (q - m) = q from by omega] at a
      rw [a, ← b]; congr 1; omega
    · rw [k.rest q c d]
      exact h.out q (by omega)
theorem rot_of {s m e : Nat} {xs zs : List Nat} (h1 : s ≤ m) (h2 : m ≤ e) (hp : zs.Perm xs) (h : ∀ q, zs[q]? = goal s m e xs q) : Rot s m e xs zs := by
  refine ⟨hp, fun k hk => ?_, fun k hk => ?_, fun k hk => ?_⟩
  · rw [h]; unfold goal; rw [if_pos hk]
  · rw [h]; unfold goal; rw [if_neg (by omega), if_pos (by omega)]; congr 1; omega
  · rw [h]; unfold goal; rw [if_neg (by omega), if_neg (by omega)]; congr 1; omega
end So
