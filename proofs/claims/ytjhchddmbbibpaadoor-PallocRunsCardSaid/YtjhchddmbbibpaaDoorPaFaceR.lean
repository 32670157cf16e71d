import Derived.Test.YtjhchddmbbibpaaDoorPaFace
import Derived.Test.YtjhchddmbbibpaaDoorPaRn
import Derived.Test.YtjhchddmbbibpaaDoorPtSame
namespace Go.Proofs.YtjhchddmbbibpaaDoor
open Wd Pa Go.ChangeShapes Go.WideShapes Go.RowKit Go.Sort
set_option linter.unusedVariables false
theorem rvals_len (rs : List (Nat × Nat)) : (rvals rs).length = rs.length * 2 := by
  induction rs with
  | nil => rfl
  | cons p rs ih => unfold rvals at ih ⊢; rw [List.flatMap_cons, List.length_append, ih, List.length_cons]; unfold r2; simp; omega
theorem rvals_at : ∀ (rs : List (Nat × Nat)) (j k : Nat) (p : Nat × Nat) (x : Value), rs[j]? = some p → (r2 p)[k]? = some x → (rvals rs)[j * 2 + k]? = some x
  | [], j, k, p, x, h, _ => by simp at h
  | q :: rs, 0, k, p, x, h, hk => by
    obtain rfl : q = p := by simpa using h
    have hl : k < (r2 q).length := (List.getElem?_eq_some_iff.1 hk).1
    unfold rvals
    rw [List.flatMap_cons, Nat.zero_mul, Nat.zero_add, List.getElem?_append_left hl]
    exact hk
  | q :: rs, j + 1, k, p, x, h, hk => by
    have h' : rs[j]? = some p := by simpa using h
    have := rvals_at rs j k p x h' hk
    have hl : (r2 q).length = 2 := rfl
    unfold rvals at this ⊢
    rw [List.flatMap_cons, List.getElem?_append_right (by omega), hl, show (j + 1) * 2 + k - 2 = j * 2 + k by omega]
    exact this
/-- the runs that were told, in their cells -/
def RunsAt (w : World) (A : Option Addr) (rs : List (Nat × Nat)) : Prop := ∀ (j : Nat) (p : Nat × Nat), rs[j]? = some p → ∃ g, A = some ⟨g, 0, none⟩ ∧ g < w.heap.size ∧ w.cell? ⟨g, j * 2, none⟩ = some (.int .i64 (p.1 : Nat)) ∧ w.cell? ⟨g, j * 2 + 1, none⟩ = some (.int .i64 (p.2 : Nat))
theorem RunsAt.below {w w' : World} {A : Option Addr} {rs : List (Nat × Nat)} (h : RunsAt w A rs) (hb : Below w.heap.size w w') : RunsAt w' A rs := by
  intro j p hp
  obtain ⟨g, e, hg, h1, h2⟩ := h j p hp
  exact ⟨g, e, Nat.lt_of_lt_of_le hg hb.size, (hb.cell (p := ⟨g, _, none⟩) hg).trans h1, (hb.cell (p := ⟨g, _, none⟩) hg).trans h2⟩
theorem runsAt_of_own {w : World} {B : Nat} {v : Value} {rs : List (Nat × Nat)} (h : w.ownsRow B 43 2 v rs.length (rvals rs)) : ∃ A c, v = .slice A rs.length c ∧ RunsAt w A rs := by
  rcases h.2 with ⟨rfl, h0⟩ | ⟨g, cap, cur, rfl, _, hh, hc, hm, _, ht⟩
  · obtain rfl : rs = [] := List.eq_nil_of_length_eq_zero h0
    exact ⟨none, 0, rfl, fun j p hp => by simp at hp⟩
  · refine ⟨_, cap, rfl, fun j p hp => ⟨g, rfl, lt_of_block hh, ?_, ?_⟩⟩
    all_goals
      have hcell : ∀ o, w.cell? ⟨g, o, none⟩ = cur[o]? := fun o => cell_of_row w g _ cur _ (0, 0) hh
      rw [hcell, ← Array.getElem?_toList]
    · have hx := rvals_at rs j 0 p _ hp rfl
      rw [← ht, List.getElem?_take] at hx
      split at hx
      · exact hx
      · cases hx
    · have hx := rvals_at rs j 1 p _ hp rfl
      rw [← ht, List.getElem?_take] at hx
      split at hx
      · exact hx
      · cases hx
section
variable {w0 w w' : World} {f : Pp} {n : Nat} {U : Nat → Bool}
theorem pgb_runs (h : PgB w0 w f n U) : Calls Tryd.prog 20 #[f.ptr] w fun e w' => ∃ A c rs, e = .returned (.slice A rs.length c) ∧ Rns U n (n + 1) rs ∧ RunsAt w' A rs ∧ PgB w0 w' f n U ∧ Below w.heap.size w w' := by
  obtain ⟨⟨ws, p⟩, b⟩ := id h
  refine (runs_is p).mono ?_
  rintro e w' ⟨v, rs, rfl, hr, ho, hb⟩
  obtain ⟨A, c, rfl, hA⟩ := runsAt_of_own ho
  exact ⟨A, c, rs, rfl, hr, hA, h.below hb, hb⟩
theorem pgb_take_any (h : PgB w0 w f n U) : Calls Tryd.prog 10 #[f.ptr] w fun e w' => ∃ v U', e = .returned v ∧ PgB w0 w' f n U' ∧ w.grownBy w' (some f.h) := by
  obtain ⟨⟨ws, p⟩, b⟩ := id h
  refine (take_is p).mono ?_
  rintro e w' (⟨r, ws', h1, h2, h3, h4, rfl, p', hg⟩ | ⟨_, rfl, d, rfl⟩)
  · exact ⟨_, _, rfl, h.step ⟨ws', p'⟩ hg, hg⟩
  · exact ⟨_, U, rfl, h.drewN d, grown_draws _ _ _⟩
theorem pgb_give_any (h : PgB w0 w f n U) (i : Int) : Calls Tryd.prog 12 #[f.ptr, .int .i64 i] w fun e w' => ∃ v U', e = .returned v ∧ PgB w0 w' f n U' ∧ w.grownBy w' (some f.h) := by
  cases hu : U i.toNat with
  | true =>
    refine (pgb_give_yes h i hu).mono ?_
    rintro e w' ⟨rfl, p, g⟩
    exact ⟨_, _, rfl, p, g⟩
  | false =>
    refine (pgb_give_no h i hu).mono ?_
    rintro e w' ⟨rfl, p, g⟩
    exact ⟨_, _, rfl, p, g⟩
/-- a row of ints stays where pages alone have changed -/
theorem IRow.pages {B : Nat} {v : Value} {xs : List Nat} (h : IRow w B v xs) (p : PgB w0 w f n U) (hg : w.grownBy w' (some f.h)) : IRow w' B v xs := by
  obtain ⟨⟨ws, q⟩, _⟩ := p
  exact h.keep fun g cs hc => hg.block g hc.lt (fun e => by
    obtain rfl : g = f.h := Option.some.inj e
    exact hc.ne q.words (by decide) rfl)
theorem PgB.other {c : Pp} {V : Nat → Bool} (h : PgB w0 w c n V) (p : PgB w0 w f n U) (hg : w.grownBy w' (some f.h)) (h1 : c.g ≠ f.h) (h2 : c.h ≠ f.h) : PgB w0 w' c n V := by
  obtain ⟨⟨ws, q⟩, _⟩ := p
  exact h.kept hg h1 h2 q.hB
theorem own_far {T T' : TypeId} {base n sz g : Nat} {v : Value} {xs : List Value} {cs : Array Value} (h : w.ownsRow base T sz v n xs) (hc : Cells w g T' cs) (hne : T ≠ T') : some g ≠ v.ownBlock := by
  intro e
  rcases h.2 with ⟨rfl, _⟩ | ⟨q, cap, cur, rfl, _, hh, _⟩
  · cases e
  · obtain rfl : g = q := Option.some.inj e
    exact (show Cells w g T cur from hh).ne hc hne rfl
end
end Go.Proofs.YtjhchddmbbibpaaDoor
