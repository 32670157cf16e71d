import Derived.Test.YtjhchddmbbibpaaDoorPaBits
/-! the used pages, as a list -/
namespace Pa
set_option linter.unusedVariables false

def upto (U : Nat → Bool) (m : Nat) : List Nat := (List.range' 1 m).filter U
section
variable {U : Nat → Bool} {n m r i : Nat}
theorem upto_zero : upto U 0 = [] := rfl
theorem upto_succ : upto U (m + 1) = upto U m ++ (if U (m + 1) then [m + 1] else []) := by
  unfold upto
  rw [List.range'_concat, List.filter_append]
  congr 1
  rw [Nat.one_mul, Nat.add_comm 1 m]
  cases h : U (m + 1) <;> simp [h]
theorem upto_skip (hm : m ≤ r) (no : ∀ q, m < q → q ≤ r → U q = false) : upto U r = upto U m := by
  induction r with
  | zero => obtain rfl : m = 0 := by omega
            rfl
  | succ r ih =>
    by_cases e : m = r + 1
    · subst e; rfl
    · rw [upto_succ, no (r + 1) (by omega) (by omega), ih (by omega) fun q a b => no q a (by omega)]
      simp
theorem upto_next (h : U (m + 1) = true) : upto U (m + 1) = upto U m ++ [m + 1] := by rw [upto_succ, if_pos h]
theorem mem_upto : i ∈ upto U m ↔ (1 ≤ i ∧ i ≤ m) ∧ U i = true := by
  unfold upto
  rw [List.mem_filter, List.mem_range'_1]
  constructor
  · rintro ⟨⟨a, b⟩, c⟩; exact ⟨⟨a, by omega⟩, c⟩
  · rintro ⟨⟨a, b⟩, c⟩; exact ⟨⟨a, by omega⟩, c⟩
theorem upto_sorted (U : Nat → Bool) (m : Nat) : (upto U m).Pairwise (· < ·) := (List.pairwise_lt_range').filter _
theorem upto_len_le : (upto U m).length ≤ m := by
  have := List.length_filter_le U (List.range' 1 m)
  rw [List.length_range'] at this
  exact this
theorem sorted_ext : ∀ {a b : List Nat}, a.Pairwise (· < ·) → b.Pairwise (· < ·) → (∀ i, i ∈ a ↔ i ∈ b) → a = b
  | [], [], _, _, _ => rfl
  | [], y :: b, _, _, h => by have := (h y).2 (by simp); cases this
  | x :: a, [], _, _, h => by have := (h x).1 (by simp); cases this
  | x :: a, y :: b, pa, pb, h => by
    have hx := (List.pairwise_cons.1 pa).1
    have hy := (List.pairwise_cons.1 pb).1
    have e : x = y := by
      rcases List.mem_cons.1 ((h x).1 (by simp)) with e | e
      · exact e
      · rcases List.mem_cons.1 ((h y).2 (by simp)) with e' | e'
        · exact e'.symm
        · have := hy x e; have := hx y e'; omega
    subst e
    congr 1
    refine sorted_ext (List.pairwise_cons.1 pa).2 (List.pairwise_cons.1 pb).2 fun i => ?_
    constructor
    · intro hi
      rcases List.mem_cons.1 ((h i).1 (by simp [hi])) with e | e
      · have := hx i hi; omega
      · exact e
    · intro hi
      rcases List.mem_cons.1 ((h i).2 (by simp [hi])) with e | e
      · have := hy i hi; omega
      · exact e
theorem count_put_on : ∀ (l : List Nat), l.Nodup → r ∈ l → U r = false → (l.filter (put U r true)).length = (l.filter U).length + 1
  | [], _, h, _ => by cases h
  | x :: l, hn, hr, hu => by
    obtain ⟨hx, hn⟩ := List.nodup_cons.1 hn
    by_cases e : x = r
    · subst e
      have h1 : l.filter (put U x true) = l.filter U := List.filter_congr fun y hy => put_ne U true (fun h => hx (h ▸ hy))
      rw [List.filter_cons_of_pos (put_same U x true), List.filter_cons_of_neg (by rw [hu]; simp), h1]
      simp
    · have hr' : r ∈ l := by
        rcases List.mem_cons.1 hr with h | h
        · exact absurd h.symm e
        · exact h
      have ih := count_put_on l hn hr' hu
      have h1 : put U r true x = U x := put_ne U true e
      cases hux : U x with
      | true => rw [List.filter_cons_of_pos (by rw [h1, hux]), List.filter_cons_of_pos hux, List.length_cons, List.length_cons, ih]
      | false => rw [List.filter_cons_of_neg (by rw [h1, hux]; simp), List.filter_cons_of_neg (by rw [hux]; simp), ih]
theorem put_put : put (put U r true) r (U r) = U := by
  funext q
  unfold put
  split
  · subst_vars; rfl
  · rfl
theorem put_back (b : Bool) : put (put U r b) r (U r) = U := by
  funext q
  unfold put
  split
  · subst_vars; rfl
  · rfl
theorem len_on (h1 : 1 ≤ r) (h2 : r ≤ n) (hu : U r = false) : (upto (put U r true) n).length = (upto U n).length + 1 :=
  count_put_on _ List.nodup_range' (by rw [List.mem_range'_1]; omega) hu
theorem len_off (h1 : 1 ≤ r) (h2 : r ≤ n) (hu : U r = true) : (upto (put U r false) n).length + 1 = (upto U n).length := by
  have := len_on (U := put U r false) h1 h2 (put_same U r false)
  rw [← this, show put (put U r false) r true = U by have := put_back (U := U) (r := r) false; rwa [hu] at this]
theorem all_of_len (h : (upto U n).length = n) (h1 : 1 ≤ i) (h2 : i ≤ n) : U i = true := by
  have h3 : (List.range' 1 n).filter U = List.range' 1 n := by
    apply List.filter_eq_self.2
    have : ((List.range' 1 n).filter U).length = (List.range' 1 n).length := by rw [List.length_range']; exact h
    exact List.length_filter_eq_length_iff.1 this
  exact List.filter_eq_self.1 h3 i (by rw [List.mem_range'_1]; omega)
theorem len_of_all (h : ∀ q, 1 ≤ q → q ≤ n → U q = true) : (upto U n).length = n := by
  unfold upto
  rw [List.filter_eq_self.2 fun q hq => by rw [List.mem_range'_1] at hq; exact h q (by omega) (by omega), List.length_range']
end

/-! ones and pages -/
def tot (ws : List Nat) : Nat := (ws.map (ones 64)).sum
theorem ones_count : ∀ (f x s : Nat), ((List.range' s f).filter fun i => x.testBit (i - s)).length = ones f x
  | 0, _, _ => rfl
  | f + 1, x, s => by
    have ih := ones_count f (x / 2) (s + 1)
    have e : (List.range' (s + 1) f).filter (fun i => x.testBit (i - s)) = (List.range' (s + 1) f).filter fun i => (x / 2).testBit (i - (s + 1)) := by
      apply List.filter_congr
      intro i hi
      rw [List.mem_range'_1] at hi
      rw [show i - s = (i - (s + 1)) + 1 by omega, Nat.testBit_succ]
    rw [List.range'_succ]
    simp only [ones]
    have h0 : x.testBit (s - s) = decide (x % 2 = 1) := by rw [Nat.sub_self, Nat.testBit_zero]
    by_cases h : x % 2 = 1
    · rw [List.filter_cons_of_pos (by rw [h0]; simpa using h), List.length_cons, e, ih]; omega
    · rw [List.filter_cons_of_neg (by rw [h0]; simpa using h), e, ih]; omega
theorem tot_app (a b : List Nat) : tot (a ++ b) = tot a + tot b := by unfold tot; rw [List.map_append, List.sum_append]
theorem tot_one (x : Nat) : tot [x] = ones 64 x := by unfold tot; rw [List.map_cons, List.map_nil, List.sum_cons, List.sum_nil, Nat.add_zero]
theorem tot_take {n : Nat} {U : Nat → Bool} {ws : List Nat} (h : Wds n U ws) (k : Nat) (hk : k ≤ ws.length) : tot (ws.take k) = (upto U (64 * k)).length := by
  induction k with
  | zero => rfl
  | succ k ih =>
    have ih := ih (by omega)
    obtain ⟨x, hx, _, hb⟩ := h.word (v := k) (by omega)
    have e1 : ws.take (k + 1) = ws.take k ++ [x] := by rw [List.take_add_one, hx, Option.toList_some]
    have key := ones_count 64 x (1 + 64 * k)
    have e3 : (List.range' (1 + 64 * k) 64).filter U = (List.range' (1 + 64 * k) 64).filter fun i => x.testBit (i - (1 + 64 * k)) := by
      apply List.filter_congr
      intro i hi
      rw [List.mem_range'_1] at hi
      rw [hb _ (by omega)]
      congr 1
      omega
    rw [e1, tot_app, tot_one, ih, ← key, ← e3]
    unfold upto
    rw [show 64 * (k + 1) = 64 * k + 64 by omega, ← List.range'_append, List.filter_append, List.length_append, Nat.one_mul]
theorem tot_all {n : Nat} {U : Nat → Bool} {ws : List Nat} (h : Wds n U ws) : tot ws = (upto U n).length := by
  have := tot_take h ws.length (Nat.le_refl _)
  rw [List.take_length] at this
  rw [this, upto_skip (m := n) (by rw [h.len]; omega) fun q a b => h.off (.inr a)]
theorem tot_step {n : Nat} {U : Nat → Bool} {ws : List Nat} (h : Wds n U ws) {k x : Nat} (hx : ws[k]? = some x) : tot (ws.take (k + 1)) = tot (ws.take k) + ones 64 x ∧ tot (ws.take (k + 1)) ≤ n := by
  have hk : k < ws.length := (List.getElem?_eq_some_iff.1 hx).1
  have e1 : ws.take (k + 1) = ws.take k ++ [x] := by rw [List.take_add_one, hx, Option.toList_some]
  refine ⟨by rw [e1, tot_app, tot_one], ?_⟩
  have h1 := tot_all h
  have h2 : tot ws = tot (ws.take (k + 1)) + tot (ws.drop (k + 1)) := by
    rw [← tot_app, List.take_append_drop]
  have := upto_len_le (U := U) (m := n)
  omega

/-! runs -/
def flat (rs : List (Nat × Nat)) : List Nat := rs.flatMap fun p => List.range' p.1 (p.2 + 1 - p.1)
/-- the runs of the pages ahead of b -/
structure Rns (U : Nat → Bool) (n b : Nat) (rs : List (Nat × Nat)) : Prop where
  pw : rs.Pairwise fun a c => a.2 + 1 < c.1
  ok : ∀ a ∈ rs, 1 ≤ a.1 ∧ a.1 ≤ a.2 ∧ (b ≤ n → a.2 + 1 < b) ∧ a.2 ≤ n
  all : flat rs = upto U (b - 1)
theorem rns_start {U : Nat → Bool} {n r : Nat} (h : Nx U n 1 false r) : Rns U n r [] :=
  ⟨List.Pairwise.nil, by simp, by
    have := h.ge
    rw [upto_skip (m := 0) (by omega) fun q a b => h.no q (by omega) (by omega)]; rfl⟩
theorem upto_row {U : Nat → Bool} {m r : Nat} (hm : m ≤ r) (h : ∀ q, m < q → q ≤ r → U q = true) : upto U r = upto U m ++ List.range' (m + 1) (r - m) := by
  induction r with
  | zero => obtain rfl : m = 0 := by omega
            simp
  | succ r ih =>
    by_cases e : m = r + 1
    · subst e; simp
    · rw [upto_next (h _ (by omega) (by omega)), ih (by omega) fun q a b => h q a (by omega), show r + 1 - m = (r - m) + 1 by omega, List.range'_concat, List.append_assoc]
      congr 3
      omega
theorem rns_step {U : Nat → Bool} {n f b r : Nat} {rs : List (Nat × Nat)} (h : Rns U n f rs) (hf1 : 1 ≤ f) (hf : f ≤ n) (hb : Nx U n f true b) (hu : U f = true) (hr : Nx U n b false r) (hn : U (n + 1) = false) : Rns U n r (rs ++ [(f, b - 1)]) ∧ f < b := by
  have h1 := hb.ge; have h2 := hb.le; have h3 := hr.ge; have h4 := hr.le
  have hfb : f < b := by
    apply Classical.byContradiction
    intro hc
    obtain rfl : b = f := by omega
    have := hb.yes hf
    rw [hu] at this
    cases this
  have hbr : b < r ∨ r = n + 1 := by
    by_cases e : b ≤ n
    · left
      apply Classical.byContradiction
      intro hc
      obtain rfl : r = b := by omega
      have k1 := hb.yes e
      have k2 := hr.yes e
      rw [k1] at k2
      cases k2
    · right; omega
  have hbr' : ∀ a ∈ rs ++ [(f, b - 1)], 1 ≤ a.1 ∧ a.1 ≤ a.2 ∧ a.2 ≤ n := by
    intro a ha
    rcases List.mem_append.1 ha with ha | ha
    · obtain ⟨a1, a2, a3, a4⟩ := h.ok a ha
      exact ⟨a1, a2, a4⟩
    · simp only [List.mem_singleton] at ha
      subst ha
      exact ⟨hf1, (by simp only; omega), (by simp only; omega)⟩
  have hall : flat (rs ++ [(f, b - 1)]) = upto U (r - 1) := by
    have e1 : flat (rs ++ [(f, b - 1)]) = flat rs ++ List.range' f (b - f) := by
      unfold flat
      rw [List.flatMap_append]
      congr 1
      simp only [List.flatMap_cons, List.flatMap_nil, List.append_nil]
      congr 1
      omega
    rw [e1, h.all, upto_skip (m := b - 1) (r := r - 1) (by omega) fun q a c => hr.no q (by omega) (by omega), upto_row (m := f - 1) (r := b - 1) (by omega) fun q a c => hb.no q (by omega) (by omega)]
    rw [show f - 1 + 1 = f by omega, show b - 1 - (f - 1) = b - f by omega]
  refine ⟨⟨?_, fun a ha => ?_, hall⟩, hfb⟩
  · rw [List.pairwise_append]
    refine ⟨h.pw, by simp, fun a ha c hc => ?_⟩
    simp only [List.mem_singleton] at hc
    subst hc
    exact (h.ok a ha).2.2.1 hf
  · obtain ⟨a1, a2, a3⟩ := hbr' a ha
    refine ⟨a1, a2, fun hrn => ?_, a3⟩
    rcases List.mem_append.1 ha with ha | ha
    · have := (h.ok a ha).2.2.1 hf
      omega
    · simp only [List.mem_singleton] at ha
      subst ha
      simp only
      omega
end Pa
