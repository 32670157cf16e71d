import Derived.Test.YtnjikgcigobcdaaGreatPmRd
namespace Go.Proofs.YtnjikgcigobcdaaGreat
open Wd Pm Go.Maps Go.RowKit
set_option linter.unusedVariables false

/-! words in a row -/
def sets (xs : List Value) (o : Nat) (r : RW) : List Value := (((((xs.set o (.int .i64 r.at_)).set (o + 1) (.int .u64 r.stays)).set (o + 2) (.int .u64 r.holds)).set (o + 3) (.bool r.dirty)).set (o + 4) (.bool r.way)).set (o + 5) (.int .u64 r.sent)
theorem rvals_cons (r : RW) (l : List RW) : rvals (r :: l) = r.vals ++ rvals l := rfl
theorem rvals_append (l l' : List RW) : rvals (l ++ l') = rvals l ++ rvals l' := by unfold rvals; rw [List.flatMap_append]
theorem rvals_length (l : List RW) : (rvals l).length = l.length * 6 := by
  induction l with
  | nil => rfl
  | cons r l ih => rw [rvals_cons, List.length_append, ih]; simp [RW.vals]; omega
theorem rvals_at {l : List RW} {k : Nat} {r : RW} (h : l[k]? = some r) : ∀ j, j < 6 → (rvals l)[k * 6 + j]? = r.vals[j]? := by
  induction l generalizing k with
  | nil => simp at h
  | cons x l ih =>
    intro j hj
    rw [rvals_cons]
    cases k with
    | zero =>
      simp at h; subst h
      rw [List.getElem?_append_left (by simp [RW.vals]; omega)]
      simp
    | succ k =>
      simp at h
      rw [List.getElem?_append_right (by simp [RW.vals]; omega), show (k + 1) * 6 + j - x.vals.length = k * 6 + j by simp [RW.vals]; omega]
      exact ih h j hj
theorem sets_append (ys xs : List Value) (o : Nat) (r : RW) : sets (ys ++ xs) (ys.length + o) r = ys ++ sets xs o r := by
  unfold sets
  simp only [Nat.add_assoc]
  simp [List.set_append_right]
theorem rvals_set (l : List RW) (k : Nat) (hk : k < l.length) (r : RW) : rvals (l.set k r) = sets (rvals l) (k * 6) r := by
  induction l generalizing k with
  | nil => simp at hk
  | cons x l ih =>
    cases k with
    | zero =>
      rw [List.set_cons_zero, rvals_cons, rvals_cons]
      simp [sets, RW.vals]
    | succ k =>
      rw [List.set_cons_succ, rvals_cons, rvals_cons, show (k + 1) * 6 = x.vals.length + k * 6 by simp [RW.vals]; omega, sets_append, ih k (by simpa using hk)]

/-- six cells stored -/
def set6 (w : World) (g o : Nat) (r : RW) : World :=
  (((((w.setCell ⟨g, o, none⟩ (.int .i64 r.at_)).setCell ⟨g, o + 1, none⟩ (.int .u64 r.stays)).setCell ⟨g, o + 2, none⟩ (.int .u64 r.holds)).setCell ⟨g, o + 3, none⟩ (.bool r.dirty)).setCell ⟨g, o + 4, none⟩ (.bool r.way)).setCell ⟨g, o + 5, none⟩ (.int .u64 r.sent)
theorem set6_other {w : World} {g o k : Nat} {r : RW} (h : k ≠ g) : (set6 w g o r).heap[k]? = w.heap[k]? := by
  unfold set6
  simp only [Below.heap_setCell _ _ _ k (show k ≠ (⟨g, _, none⟩ : Addr).block from h)]
section
variable {w : World} {B n : Nat} {v : Value} {l : List RW}
theorem own6_open (h : w.ownsRow B 74 6 v n (rvals l)) (hn : 0 < n) : ∃ g cap cur, v = .slice (some ⟨g, 0, none⟩) n cap ∧ B ≤ g ∧ n ≤ cap ∧ cap ≤ maxLen ∧ Cells w g 74 cur := by
  rcases h.2 with ⟨_, h0⟩ | ⟨g, cap, cur, rfl, hb, hh, h1, h2, _, _⟩
  · exfalso; omega
  · exact ⟨g, cap, cur, rfl, hb, h1, h2, hh⟩
theorem own6_cells {g cap : Nat} (h : w.ownsRow B 74 6 (.slice (some ⟨g, 0, none⟩) n cap) n (rvals l)) {k : Nat} {r : RW} (hk : l[k]? = some r) :
    w.cell? ⟨g, k * 6, none⟩ = some (.int .i64 r.at_) ∧ w.cell? ⟨g, k * 6 + 1, none⟩ = some (.int .u64 r.stays) ∧ w.cell? ⟨g, k * 6 + 2, none⟩ = some (.int .u64 r.holds) ∧ w.cell? ⟨g, k * 6 + 3, none⟩ = some (.bool r.dirty) ∧
      w.cell? ⟨g, k * 6 + 4, none⟩ = some (.bool r.way) ∧ w.cell? ⟨g, k * 6 + 5, none⟩ = some (.int .u64 r.sent) ∧ ∀ i, w.frozen? ⟨g, i, none⟩ = false := by
  have hl := h.1
  rcases h.2 with ⟨h0, _⟩ | ⟨g', cap', cur, hv, hb, hh, h1, h2, hs, ht⟩
  · cases h0
  · injection hv with hv _ hc
    injection hv with hv
    injection hv with hv
    subst hv hc
    have hc : Cells w g 74 cur := hh
    have hkl : k < l.length := (List.getElem?_eq_some_iff.1 hk).1
    rw [rvals_length] at hl
    have each : ∀ j, j < 6 → w.cell? ⟨g, k * 6 + j, none⟩ = r.vals[j]? := fun j hj => by
      rw [hc.cell, ← rvals_at hk j hj, ← ht, List.getElem?_take_of_lt (by omega)]
      simp
    exact ⟨each 0 (by omega), each 1 (by omega), each 2 (by omega), each 3 (by omega), each 4 (by omega), each 5 (by omega), hc.free⟩
theorem own6_set {g cap : Nat} (h : w.ownsRow B 74 6 (.slice (some ⟨g, 0, none⟩) n cap) n (rvals l)) {k : Nat} (hk : k < l.length) (r : RW) : (set6 w g (k * 6) r).ownsRow B 74 6 (.slice (some ⟨g, 0, none⟩) n cap) n (rvals (l.set k r)) := by
  refine ⟨by rw [rvals_length, List.length_set, ← rvals_length]; exact h.1, ?_⟩
  rcases h.2 with ⟨h0, _⟩ | ⟨g', cap', cur, hv, hb, hh, h1, h2, hs, ht⟩
  · cases h0
  · injection hv with hv _ hc
    injection hv with hv
    injection hv with hv
    subst hv hc
    have hc : Cells w g 74 cur := hh
    have hc' := (((((hc.set (k * 6) (.int .i64 r.at_)).set (k * 6 + 1) (.int .u64 r.stays)).set (k * 6 + 2) (.int .u64 r.holds)).set (k * 6 + 3) (.bool r.dirty)).set (k * 6 + 4) (.bool r.way)).set (k * 6 + 5) (.int .u64 r.sent)
    refine .inr ⟨g, cap, _, rfl, hb, hc', h1, h2, by simp [hs], ?_⟩
    rw [rvals_set l k hk r, ← ht]
    unfold sets
    simp only [Array.toList_setIfInBounds, List.take_set]
theorem set6_turn {g o : Nat} {cur : Array Value} (hc : Cells w g 74 cur) (hB : B ≤ g) (r : RW) : RTurn w (set6 w g o r) B := by
  have s0 := RTurn.set (B := B) (i := o) hc (.inr rfl) hB (.int .i64 r.at_)
  have h1 := hc.set o (.int .i64 r.at_)
  have s1 := RTurn.set (B := B) (i := o + 1) h1 (.inr rfl) hB (.int .u64 r.stays)
  have h2 := h1.set (o + 1) (.int .u64 r.stays)
  have s2 := RTurn.set (B := B) (i := o + 2) h2 (.inr rfl) hB (.int .u64 r.holds)
  have h3 := h2.set (o + 2) (.int .u64 r.holds)
  have s3 := RTurn.set (B := B) (i := o + 3) h3 (.inr rfl) hB (.bool r.dirty)
  have h4 := h3.set (o + 3) (.bool r.dirty)
  have s4 := RTurn.set (B := B) (i := o + 4) h4 (.inr rfl) hB (.bool r.way)
  have h5 := h4.set (o + 4) (.bool r.way)
  have s5 := RTurn.set (B := B) (i := o + 5) h5 (.inr rfl) hB (.int .u64 r.sent)
  exact ((((s0.trans s1).trans s2).trans s3).trans s4).trans s5
end
end Go.Proofs.YtnjikgcigobcdaaGreat
