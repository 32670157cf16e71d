import Derived.Test.YtbegnnohmahglaaEnCl
import Derived.Laws.CopyRow
import Derived.Laws.Tables
namespace Go.Proofs.Ytbegnnohmahglaa
open Wd Ino Go.RowKit Go.ChangeShapes Go.WideShapes Go.ChangeAt Go.Deep Go.Sort
set_option linter.unusedVariables false
set_option maxRecDepth 100000

/-! a row of names that the call made: its block, and what is stored into it -/
theorem evals_take (l : List Ent) (k : Nat) : evals (l.take k) = (evals l).take (k * 2) := by
  induction l generalizing k with
  | nil => simp [evals]
  | cons e l ih =>
    cases k with
    | zero => simp [evals]
    | succ k =>
      rw [List.take_succ_cons, evals_cons, evals_cons, ih, show (k + 1) * 2 = k * 2 + 1 + 1 by omega]
      rfl
theorem evals_drop (l : List Ent) (k : Nat) : evals (l.drop k) = (evals l).drop (k * 2) := by
  induction l generalizing k with
  | nil => simp [evals]
  | cons e l ih =>
    cases k with
    | zero => rfl
    | succ k =>
      rw [List.drop_succ_cons, ih, evals_cons, show (k + 1) * 2 = k * 2 + 1 + 1 by omega]
      rfl
theorem evals_set {l : List Ent} {k : Nat} {e : Ent} (x : Ent) (he : l[k]? = some e) : ((evals l).set (k * 2) (.string x.s)).set (k * 2 + 1) (.int .i64 x.n) = evals (l.set k x) := by
  induction l generalizing k with
  | nil => simp at he
  | cons d l ih =>
    cases k with
    | zero => rfl
    | succ k =>
      rw [List.set_cons_succ, evals_cons, evals_cons, ← ih (by simpa using he), show (k + 1) * 2 = k * 2 + 1 + 1 by omega]
      rfl
theorem evals_setS {l : List Ent} {k : Nat} {e : Ent} (he : l[k]? = some e) : (evals l).set (k * 2) (.string e.s) = evals l := by
  induction l generalizing k with
  | nil => simp at he
  | cons d l ih =>
    cases k with
    | zero =>
      simp only [List.getElem?_cons_zero, Option.some.injEq] at he
      subst he
      rfl
    | succ k =>
      have := ih (k := k) (by simpa using he)
      rw [evals_cons, show (k + 1) * 2 = k * 2 + 1 + 1 by omega]
      show Value.string d.s :: Value.int .i64 d.n :: (evals l).set (k * 2) (.string e.s) = _
      rw [this]; rfl
/-- its block, if it has one -/
theorem OwnE.block {w : World} {base : Nat} {v : Value} {l : List Ent} (h : OwnE w base v l) (hn : 0 < l.length) : ∃ g cap cur, v = .slice (some ⟨g, 0, none⟩) l.length cap ∧ base ≤ g ∧ Cells w g 32 cur ∧ l.length ≤ cap ∧ cap ≤ maxLen ∧ cur.size = cap * 2 ∧ cur.toList.take (l.length * 2) = evals l := by
  rcases h.2 with ⟨rfl, h0⟩ | ⟨g, cap, cur, rfl, hb, hh, hc, hm, hs, ht⟩
  · omega
  · exact ⟨g, cap, cur, rfl, hb, hh, hc, hm, hs, ht⟩
theorem OwnE.of {w : World} {base g cap : Nat} {cur : Array Value} {l : List Ent} {n : Nat} (hn : l.length = n) (hb : base ≤ g) (hc : Cells w g 32 cur) (h1 : n ≤ cap) (h2 : cap ≤ maxLen) (hs : cur.size = cap * 2) (ht : cur.toList.take (n * 2) = evals l) : OwnE w base (.slice (some ⟨g, 0, none⟩) n cap) l := by
  subst hn
  exact ⟨evals_len l, .inr ⟨g, cap, cur, rfl, hb, hc, h1, h2, hs, ht⟩⟩
theorem OwnE.get {w : World} {base : Nat} {v : Value} {l : List Ent} (h : OwnE w base v l) {k : Nat} {e : Ent} (he : l[k]? = some e) : ∃ g cap, v = .slice (some ⟨g, 0, none⟩) l.length cap ∧ base ≤ g ∧ g < w.heap.size ∧ l.length ≤ cap ∧
    w.cell? ⟨g, k * 2, none⟩ = some (.string e.s) ∧ w.cell? ⟨g, k * 2 + 1, none⟩ = some (.int .i64 e.n) ∧ w.frozen? ⟨g, k * 2, none⟩ = false ∧ w.frozen? ⟨g, k * 2 + 1, none⟩ = false := by
  have hk := (List.getElem?_eq_some_iff.1 he).1
  obtain ⟨g, cap, cur, rfl, hb, hc, h1, h2, hs, ht⟩ := h.block (by omega)
  have at_ : ∀ j u, (ev e)[j]? = some u → w.cell? ⟨g, k * 2 + j, none⟩ = some u := fun j u hu => by
    have hx := evals_at l k j e u he hu
    rw [← ht, List.getElem?_take] at hx
    rw [hc.cell, ← Array.getElem?_toList]
    split at hx
    · exact hx
    · cases hx
  exact ⟨g, cap, rfl, hb, hc.lt, h1, at_ 0 _ rfl, at_ 1 _ rfl, hc.free _, hc.free _⟩
/-- one cell stored -/
theorem OwnE.setS {w : World} {base g cap n : Nat} {l : List Ent} (h : OwnE w base (.slice (some ⟨g, 0, none⟩) n cap) l) {k : Nat} {e : Ent} (he : l[k]? = some e) : OwnE (w.setCell ⟨g, k * 2, none⟩ (.string e.s)) base (.slice (some ⟨g, 0, none⟩) n cap) l := by
  have hk := (List.getElem?_eq_some_iff.1 he).1
  obtain ⟨g', cap', cur, hv, hb, hc, h1, h2, hs, ht⟩ := h.block (by omega)
  injection hv with hv hn hcc
  injection hv with hv
  injection hv with hv _ _
  subst hv hn hcc
  refine OwnE.of rfl hb (hc.set _ _) h1 h2 (by simp [hs]) ?_
  rw [Array.toList_setIfInBounds, List.take_set, ht, evals_setS he]
/-- one name stored -/
theorem OwnE.set {w : World} {base g cap n : Nat} {l : List Ent} (h : OwnE w base (.slice (some ⟨g, 0, none⟩) n cap) l) {k : Nat} {e : Ent} (x : Ent) (he : l[k]? = some e) : OwnE ((w.setCell ⟨g, k * 2, none⟩ (.string x.s)).setCell ⟨g, k * 2 + 1, none⟩ (.int .i64 x.n)) base (.slice (some ⟨g, 0, none⟩) n cap) (l.set k x) := by
  have hk := (List.getElem?_eq_some_iff.1 he).1
  obtain ⟨g', cap', cur, hv, hb, hc, h1, h2, hs, ht⟩ := h.block (by omega)
  injection hv with hv hn hcc
  injection hv with hv
  injection hv with hv _ _
  subst hv hn hcc
  refine OwnE.of (by simp) hb ((hc.set _ _).set _ _) h1 h2 (by simp [hs]) ?_
  rw [Array.toList_setIfInBounds, Array.toList_setIfInBounds, List.take_set, List.take_set, ht, evals_set x he]
/-- the first names of it -/
theorem OwnE.first {w : World} {base g cap n : Nat} {l : List Ent} (h : OwnE w base (.slice (some ⟨g, 0, none⟩) n cap) l) (k : Nat) (hk : k ≤ n) (h0 : 0 < n) : OwnE w base (.slice (some ⟨g, 0, none⟩) k cap) (l.take k) := by
  have hl : 0 < l.length := by
    rcases h.2 with ⟨h1, _⟩ | ⟨_, _, _, h1, _⟩
    · cases h1
    · injection h1 with _ h1 _; omega
  obtain ⟨g', cap', cur, hv, hb, hc, h1, h2, hs, ht⟩ := h.block hl
  injection hv with hv hn hcc
  injection hv with hv
  injection hv with hv _ _
  subst hv hn hcc
  refine OwnE.of (by rw [List.length_take]; omega) hb hc (by omega) h2 hs ?_
  rw [evals_take, ← ht, List.take_take]
  congr 1; omega
end Go.Proofs.Ytbegnnohmahglaa
