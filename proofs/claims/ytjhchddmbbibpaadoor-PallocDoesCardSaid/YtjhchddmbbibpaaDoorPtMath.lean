import Derived.Test.YtjhchddmbbibpaaDoorPaList
/-! a page laid into the list of the used ones, and taken out -/
namespace Pa
set_option linter.unusedVariables false
section
variable {U : Nat → Bool} {n i k : Nat}
theorem pw_at {l : List Nat} (h : l.Pairwise (· < ·)) {a b x y : Nat} (ha : l[a]? = some x) (hb : l[b]? = some y) (hab : a < b) : x < y := by
  obtain ⟨h1, e1⟩ := List.getElem?_eq_some_iff.1 ha
  obtain ⟨h2, e2⟩ := List.getElem?_eq_some_iff.1 hb
  have := List.pairwise_iff_getElem.1 h a b h1 h2 hab
  omega
theorem mem_take_drop {l : List Nat} {x : Nat} (k : Nat) : x ∈ l ↔ x ∈ l.take k ∨ x ∈ l.drop k := by
  conv => lhs; rw [← List.take_append_drop k l]
  exact List.mem_append
theorem upto_ins (h1 : 1 ≤ i) (h2 : i ≤ n) (hk : k ≤ (upto U n).length) (hlow : ∀ t (y : Nat), t < k → (upto U n)[t]? = some y → y < i) (hge : ∀ y : Nat, (upto U n)[k]? = some y → i ≤ y) (hno : U i = false) :
    (upto U n).take k ++ i :: (upto U n).drop k = upto (put U i true) n := by
  have hs := upto_sorted U n
  have hlo : ∀ y ∈ (upto U n).take k, y < i := fun y hy => by
    obtain ⟨t, ht, rfl⟩ := List.getElem_of_mem hy
    rw [List.length_take] at ht
    exact hlow t _ (by omega) (by rw [List.getElem_take, List.getElem?_eq_getElem (by omega)])
  have hne : ∀ y ∈ upto U n, y ≠ i := fun y hy e => by
    subst e
    have := (mem_upto.1 hy).2
    rw [hno] at this
    cases this
  have hhi : ∀ y ∈ (upto U n).drop k, i < y := fun y hy => by
    have hm := hne y ((mem_take_drop k).2 (.inr hy))
    obtain ⟨t, ht, rfl⟩ := List.getElem_of_mem hy
    rw [List.length_drop] at ht
    rw [List.getElem_drop] at hm ⊢
    have h0 : (upto U n)[k]? = some ((upto U n)[k]'(by omega)) := List.getElem?_eq_getElem (by omega)
    have g0 := hge _ h0
    by_cases e : t = 0
    · subst e
      simp only [Nat.add_zero] at hm ⊢
      omega
    · have := pw_at hs h0 (List.getElem?_eq_getElem (i := k + t) (by omega)) (by omega)
      omega
  refine sorted_ext ?_ (upto_sorted _ _) fun x => ?_
  · rw [List.pairwise_append]
    refine ⟨hs.sublist (List.take_sublist _ _), ?_, ?_⟩
    · rw [List.pairwise_cons]
      exact ⟨hhi, hs.sublist (List.drop_sublist _ _)⟩
    · intro a ha b hb
      rcases List.mem_cons.1 hb with rfl | hb
      · exact hlo a ha
      · have := hlo a ha; have := hhi b hb; omega
  · rw [mem_upto, List.mem_append, List.mem_cons]
    by_cases e : x = i
    · subst e
      rw [put_same]
      exact ⟨fun _ => ⟨⟨h1, h2⟩, rfl⟩, fun _ => .inr (.inl rfl)⟩
    · rw [put_ne U _ e, ← mem_upto, mem_take_drop (l := upto U n) k]
      constructor
      · rintro (h | h | h)
        · exact .inl h
        · exact absurd h e
        · exact .inr h
      · rintro (h | h)
        · exact .inl h
        · exact .inr (.inr h)
theorem upto_del (hx : (upto U n)[k]? = some i) : (upto U n).take k ++ (upto U n).drop (k + 1) = upto (put U i false) n := by
  have hs := upto_sorted U n
  obtain ⟨hk, hki⟩ := List.getElem?_eq_some_iff.1 hx
  have e : upto U n = (upto U n).take k ++ i :: (upto U n).drop (k + 1) := by
    conv => lhs; rw [← List.take_append_drop k (upto U n)]
    rw [List.drop_eq_getElem_cons hk, hki]
  refine sorted_ext ?_ (upto_sorted _ _) fun x => ?_
  · rw [e, List.pairwise_append] at hs
    rw [List.pairwise_append]
    exact ⟨hs.1, (List.pairwise_cons.1 hs.2.1).2, fun a ha b hb => hs.2.2 a ha b (List.mem_cons_of_mem _ hb)⟩
  · have hs2 := hs
    rw [e, List.pairwise_append] at hs2
    have hm : x ∈ upto U n ↔ x ∈ (upto U n).take k ∨ x = i ∨ x ∈ (upto U n).drop (k + 1) := by
      conv => lhs; rw [e]
      rw [List.mem_append, List.mem_cons]
    rw [mem_upto, List.mem_append]
    by_cases ex : x = i
    · subst ex
      rw [put_same]
      constructor
      · rintro (h | h)
        · have := hs2.2.2 x h x (List.mem_cons_self ..); omega
        · have := (List.pairwise_cons.1 hs2.2.1).1 x h; omega
      · rintro ⟨_, h⟩; cases h
    · rw [put_ne U _ ex, ← mem_upto, hm]
      constructor
      · rintro (h | h)
        · exact .inl h
        · exact .inr (.inr h)
      · rintro (h | h | h)
        · exact .inl h
        · exact absurd h ex
        · exact .inr h
end
end Pa
