import Derived.Test.YtnjikgcigobcdaaGreatMC
import Derived.Test.YtnjikgcigobcdaaGreatMD
namespace Go.Proofs.YtnjikgcigobcdaaGreat
open Wd Pm Go.Maps Go.RowKit
set_option linter.unusedVariables false

/-! the document's device, as it is made: no word was touched -/
def rcells (m : Int) : Array Value := #[.int .i64 m, .slice none 0 0, .int .i64 0, .bool false, .int .i64 0]
theorem rnew_any (n : Int) (w : World) : Calls Tryz.prog 8 #[.int .i64 n] w fun e w' => e = .returned (.pointer (some ⟨w.heap.size, 0, none⟩)) ∧ w' = w.alloc (.cells (rcells (clampN n)) 42) := by
  have hc : (clampN n : Int) = min (max n 0) 33554432 := by unfold clampN; omega
  rw [hc]
  unfold rcells
  rcases Int.lt_or_le n 0 with h | h
  · have e : min (max n 0) 33554432 = 0 := by omega
    rw [e]
    have q1 : decide (n < 0) = true := by simpa using h
    clear e hc
    go_enter Tryz.func8, Tryz.ntmps8
    go_wp2
    go_ret
    exact ⟨rfl, rfl⟩
  · have q1 : decide (n < 0) = false := by simp; omega
    rcases Int.lt_or_le 33554432 n with h2 | h2
    · have e : min (max n 0) 33554432 = 33554432 := by omega
      rw [e]
      have q2 : decide (n > 33554432) = true := by simp; omega
      clear e hc
      go_enter Tryz.func8, Tryz.ntmps8
      go_wp2
      go_ret
      exact ⟨rfl, rfl⟩
    · have e : min (max n 0) 33554432 = n := by omega
      rw [e]
      have q2 : decide (n > 33554432) = false := by simp; omega
      clear e hc
      go_enter Tryz.func8, Tryz.ntmps8
      go_wp2
      go_ret
      exact ⟨rfl, rfl⟩
theorem rcell {w : World} {q : Nat} {m : Int} (h : Cells w q 42 (rcells m)) :
    w.cell? ⟨q, 0, none⟩ = some (.int .i64 m) ∧ w.cell? ⟨q, 1, none⟩ = some (.slice none 0 0) ∧ w.cell? ⟨q, 2, none⟩ = some (.int .i64 0) ∧ w.cell? ⟨q, 3, none⟩ = some (.bool false) ∧ w.cell? ⟨q, 4, none⟩ = some (.int .i64 0) :=
  ⟨h.cell 0, h.cell 1, h.cell 2, h.cell 3, h.cell 4⟩
theorem revent_any {w : World} {q : Nat} {m : Int} (h : Cells w q 42 (rcells m)) : Calls Tryz.prog 60 #[.pointer (some ⟨q, 0, none⟩)] w fun e w' => e = .returned (.bool false) ∧ w.setCell ⟨q, 4, none⟩ (.int .i64 1) = w' := by
  obtain ⟨c0, c1, c2, c3, c4⟩ := rcell h
  have z4 := h.free 4
  go_enter Tryz.func60, Tryz.ntmps60
  go_wp2
  go_ret
  exact ⟨rfl, rfl⟩
/-- it answers something, and nothing but the document's device has turned -/
def RCall (w : World) (q : Nat) (e : Ending) (w' : World) : Prop := (∃ v : Int, e = .returned (.int .i64 v)) ∧ Turn w w' [q]
def RCallB (w : World) (q : Nat) (e : Ending) (w' : World) : Prop := e = .returned (.bool false) ∧ Turn w w' [q]
theorem rlines_any {w : World} {q : Nat} {m : Int} (h : Cells w q 42 (rcells m)) (hm : 0 ≤ m ∧ m ≤ 33554432) : Calls Tryz.prog 59 #[.pointer (some ⟨q, 0, none⟩)] w fun e w' => e = .returned (.int .i64 ((m + 7) / 8)) ∧ w = w' := by
  obtain ⟨c0, c1, c2, c3, c4⟩ := rcell h
  obtain ⟨m0, m1⟩ := hm
  go_enter Tryz.func59, Tryz.ntmps59
  go_wp2
  go_ret
  exact ⟨rfl, rfl⟩
theorem rflush_any {w : World} {q : Nat} {m : Int} (h : Cells w q 42 (rcells m)) (hm : 0 ≤ m ∧ m ≤ 33554432) (i : Int) : Calls Tryz.prog 24 #[.pointer (some ⟨q, 0, none⟩), .int .i64 i] w (RCall w q) := by
  obtain ⟨c0, c1, c2, c3, c4⟩ := rcell h
  have k1 : (w.setCell ⟨q, 4, none⟩ (.int .i64 1)).cell? ⟨q, 1, none⟩ = some (.slice none 0 0) := (h.set 4 (.int .i64 1)).cell 1
  by_cases h0 : i < 0
  · have q0 : decide (i < 0) = true := by simpa using h0
    go_enter Tryz.func24, Tryz.ntmps24
    go_wp2
    go_ret
    exact ⟨⟨_, rfl⟩, Turn.refl _ _⟩
  · have q0 : decide (i < 0) = false := by simpa using h0
    by_cases h1 : i ≥ (m + 7) / 8
    · have q1 : decide (i ≥ (m + 7) / 8) = true := by simpa using h1
      go_enter Tryz.func24, Tryz.ntmps24
      go_wp2_with (go_at_call 59; refine (rlines_any h hm).mono ?_; rintro e w' ⟨rfl, rfl⟩)
      go_ret
      exact ⟨⟨_, rfl⟩, Turn.refl _ _⟩
    · have q1 : decide (i ≥ (m + 7) / 8) = false := by simpa using h1
      go_enter Tryz.func24, Tryz.ntmps24
      go_wp2_with (first
        | (go_at_call 59; refine (rlines_any h hm).mono ?_; rintro e w' ⟨rfl, rfl⟩)
        | (go_at_call 60; refine (revent_any h).mono ?_; rintro e w' ⟨rfl, rfl⟩))
      refine wp_loop_rounds 1 ?_
      rw [rounds_succ]
      go_wp2
      go_ret
      exact ⟨⟨_, rfl⟩, Turn.set w (p := ⟨q, 4, none⟩) (by simp) _⟩
theorem rfence_any {w : World} {q : Nat} {m : Int} (h : Cells w q 42 (rcells m)) : Calls Tryz.prog 26 #[.pointer (some ⟨q, 0, none⟩)] w (RCall w q) := by
  obtain ⟨c0, c1, c2, c3, c4⟩ := rcell h
  have k1 : (w.setCell ⟨q, 4, none⟩ (.int .i64 1)).cell? ⟨q, 1, none⟩ = some (.slice none 0 0) := (h.set 4 (.int .i64 1)).cell 1
  go_enter Tryz.func26, Tryz.ntmps26
  go_wp2_with (go_at_call 60; refine (revent_any h).mono ?_; rintro e w' ⟨rfl, rfl⟩)
  refine wp_loop_rounds 1 ?_
  rw [rounds_succ]
  go_wp2
  go_ret
  exact ⟨⟨_, rfl⟩, Turn.set w (p := ⟨q, 4, none⟩) (by simp) _⟩
theorem revict_any {w : World} {q : Nat} {m : Int} (h : Cells w q 42 (rcells m)) (i : Int) : Calls Tryz.prog 28 #[.pointer (some ⟨q, 0, none⟩), .int .i64 i] w (RCallB w q) := by
  obtain ⟨c0, c1, c2, c3, c4⟩ := rcell h
  go_enter Tryz.func28, Tryz.ntmps28
  go_wp2
  refine wp_loop_rounds 1 ?_
  rw [rounds_succ]
  go_wp2
  go_ret
  exact ⟨rfl, Turn.refl _ _⟩
def RCallN (w : World) (q : Nat) (e : Ending) (w' : World) : Prop := e = .returned (.tuple #[]) ∧ Turn w w' [q]
theorem rcrash_any {w : World} {q : Nat} {m : Int} (h : Cells w q 42 (rcells m)) (keep : Value) : Calls Tryz.prog 30 #[.pointer (some ⟨q, 0, none⟩), keep] w (RCallN w q) := by
  obtain ⟨c0, c1, c2, c3, c4⟩ := rcell h
  have z2 := h.free 2
  have z3 := h.free 3
  go_enter Tryz.func30, Tryz.ntmps30
  go_wp2
  refine wp_loop_rounds 1 ?_
  rw [rounds_succ]
  go_wp2
  go_end0
  exact ⟨rfl, (Turn.set w (p := ⟨q, 2, none⟩) (by simp) _).trans (Turn.set _ (p := ⟨q, 3, none⟩) (by simp) _) (fun x hx => .inl hx)⟩
end Go.Proofs.YtnjikgcigobcdaaGreat
