import Derived.Test.YthonpifdhjpbgaaFlMath
namespace So

/-- what lies from place a on ahead of b has changed places among itself, the rest is as it was -/
structure Shuf (a b : Nat) (xs ys : List Nat) : Prop where
  perm : ys.Perm xs
  out : ∀ j, j < a ∨ b ≤ j → ys[j]? = xs[j]?
  all : ∀ p : Nat → Prop, (∀ j x, a ≤ j → j < b → xs[j]? = some x → p x) → ∀ j x, a ≤ j → j < b → ys[j]? = some x → p x

theorem Shuf.refl (a b : Nat) (xs : List Nat) : Shuf a b xs xs := ⟨.refl _, fun _ _ => rfl, fun _ h => h⟩
theorem Shuf.len {a b : Nat} {xs ys : List Nat} (h : Shuf a b xs ys) : ys.length = xs.length := h.perm.length_eq
theorem Shuf.trans {a b : Nat} {xs ys zs : List Nat} (h : Shuf a b xs ys) (k : Shuf a b ys zs) : Shuf a b xs zs :=
  ⟨k.perm.trans h.perm, fun j hj => (k.out j hj).trans (h.out j hj), fun p hp => k.all p (h.all p hp)⟩
theorem Shuf.mono {a b a' b' : Nat} {xs ys : List Nat} (h : Shuf a b xs ys) (ha : a' ≤ a) (hb : b ≤ b') : Shuf a' b' xs ys := by
  refine ⟨h.perm, fun j hj => h.out j (by omega), fun p hp j x h1 h2 hx => ?_⟩
  by_cases hin : a ≤ j ∧ j < b
  · exact h.all p (fun i y i1 i2 hy => hp i y (by omega) (by omega) hy) j x hin.1 hin.2 hx
  · rw [h.out j (by omega)] at hx
    exact hp j x h1 h2 hx
theorem Shuf.some {a b : Nat} {xs ys : List Nat} (h : Shuf a b xs ys) {j : Nat} (hj : j < xs.length) : ∃ y, ys[j]? = some y := ⟨_, List.getElem?_eq_getElem (by rw [h.len]; exact hj)⟩

/-- two places exchanged -/
theorem shuf_swap {a b i j x y : Nat} {xs : List Nat} (hi : xs[i]? = some x) (hj : xs[j]? = some y) (h1 : a ≤ i) (h2 : i < b) (h3 : a ≤ j) (h4 : j < b) : Shuf a b xs ((xs.set i y).set j x) := by
  obtain ⟨li, rfl⟩ := List.getElem?_eq_some_iff.1 hi
  obtain ⟨lj, rfl⟩ := List.getElem?_eq_some_iff.1 hj
  refine ⟨List.set_set_perm li lj, fun k hk => ?_, fun p hp k z k1 k2 hz => ?_⟩
  · rw [List.getElem?_set_ne (by omega), List.getElem?_set_ne (by omega)]
  · by_cases e : j = k
    · subst e
      rw [List.getElem?_set_self (by rw [List.length_set]; exact lj)] at hz
      exact hp i z h1 h2 (by rw [← hz, List.getElem?_eq_getElem li])
    · rw [List.getElem?_set_ne e] at hz
      by_cases e2 : i = k
      · subst e2
        rw [List.getElem?_set_self li] at hz
        exact hp j z h3 h4 (by rw [← hz, List.getElem?_eq_getElem lj])
      · rw [List.getElem?_set_ne e2] at hz
        exact hp k z k1 k2 hz

variable (rk : Nat → Int)

/-- rising by rank -/
def Srt (a b : Nat) (xs : List Nat) : Prop := ∀ i j x y, a ≤ i → i ≤ j → j < b → xs[i]? = some x → xs[j]? = some y → rk x ≤ rk y

variable {rk}
theorem Srt.empty {a b : Nat} {xs : List Nat} (h : b ≤ a + 1) : Srt rk a b xs := by
  intro i j x y h1 h2 h3 hx hy
  have : i = j := by omega
  subst this
  rw [hx] at hy; cases hy; exact Int.le_refl _
theorem Srt.mono {a b a' b' : Nat} {xs : List Nat} (h : Srt rk a b xs) (ha : a ≤ a') (hb : b' ≤ b) : Srt rk a' b' xs :=
  fun i j x y h1 h2 h3 => h i j x y (by omega) h2 (by omega)
theorem Srt.far {a b c d : Nat} {xs ys : List Nat} (h : Srt rk c d xs) (k : Shuf a b xs ys) (hd : d ≤ a ∨ b ≤ c) : Srt rk c d ys := by
  intro i j x y h1 h2 h3 hx hy
  rw [k.out i (by omega)] at hx
  rw [k.out j (by omega)] at hy
  exact h i j x y h1 h2 h3 hx hy
/-- two rising parts, the one no greater than the other -/
theorem Srt.join {a m b : Nat} {xs : List Nat} (h1 : Srt rk a m xs) (h2 : Srt rk m b xs) (hc : ∀ i j x y, a ≤ i → i < m → m ≤ j → j < b → xs[i]? = some x → xs[j]? = some y → rk x ≤ rk y) : Srt rk a b xs := by
  intro i j x y i1 i2 i3 hx hy
  by_cases c1 : j < m
  · exact h1 i j x y i1 i2 c1 hx hy
  · by_cases c2 : i < m
    · exact hc i j x y i1 c2 (by omega) i3 hx hy
    · exact h2 i j x y (by omega) i2 i3 hx hy
/-- rising rows of the same ranks are alike -/
theorem srt_unique {xs ys : List Nat} (hp : xs.Perm ys) (h1 : Srt rk 0 xs.length xs) (h2 : Srt rk 0 ys.length ys) : xs.map rk = ys.map rk := by
  have s1 : (xs.map rk).Pairwise (· ≤ ·) := by
    rw [List.pairwise_iff_getElem]
    intro i j hi hj hij
    simp only [List.getElem_map]
    simp only [List.length_map] at hi hj
    exact h1 i j _ _ (Nat.zero_le _) (Nat.le_of_lt hij) hj (List.getElem?_eq_getElem hi) (List.getElem?_eq_getElem hj)
  have s2 : (ys.map rk).Pairwise (· ≤ ·) := by
    rw [List.pairwise_iff_getElem]
    intro i j hi hj hij
    simp only [List.getElem_map]
    simp only [List.length_map] at hi hj
    exact h2 i j _ _ (Nat.zero_le _) (Nat.le_of_lt hij) hj (List.getElem?_eq_getElem hi) (List.getElem?_eq_getElem hj)
  exact List.Perm.eq_of_pairwise (fun a b _ _ h h' => Int.le_antisymm h h') s1 s2 (hp.map rk)

/-- a merge's cross: what stands ahead of mid is no greater than what stands behind, however each part is shuffled -/
def Cross (rk : Nat → Int) (a m b : Nat) (xs : List Nat) : Prop := ∀ i j x y, a ≤ i → i < m → m ≤ j → j < b → xs[i]? = some x → xs[j]? = some y → rk x ≤ rk y
theorem Cross.left {a m b : Nat} {xs ys : List Nat} (h : Cross rk a m b xs) (k : Shuf a m xs ys) : Cross rk a m b ys := by
  intro i j x y h1 h2 h3 h4 hx hy
  rw [k.out j (by omega)] at hy
  exact k.all (fun z => rk z ≤ rk y) (fun i' x' i1 i2 hx' => h i' j x' y i1 i2 h3 h4 hx' hy) i x h1 h2 hx
theorem Cross.right {a m b : Nat} {xs ys : List Nat} (h : Cross rk a m b xs) (k : Shuf m b xs ys) : Cross rk a m b ys := by
  intro i j x y h1 h2 h3 h4 hx hy
  rw [k.out i (by omega)] at hx
  exact k.all (fun z => rk x ≤ rk z) (fun j' y' j1 j2 hy' => h i j' x y' h1 h2 j1 j2 hx hy') j y h3 h4 hy
end So
