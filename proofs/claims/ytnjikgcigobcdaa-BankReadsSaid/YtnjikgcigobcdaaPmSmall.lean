import Derived.Test.YtnjikgcigobcdaaPmDev
namespace Go.Proofs.Ytnjikgcigobcdaa
open Wd Pm Go.Maps Go.RowKit
set_option linter.unusedVariables false

/-- the cells that a walk reads -/
structure Reads (w : World) (f : Fp) (σ : St) : Prop where
  c0 : w.cell? ⟨f.p, 0, none⟩ = some (.slice (some ⟨f.bs, 0, none⟩) σ.n f.c)
  c1 : w.cell? ⟨f.p, 1, none⟩ = some (.map (some f.bh))
  c2 : w.cell? ⟨f.p, 2, none⟩ = some (.map (some f.bn))
  c3 : w.cell? ⟨f.p, 3, none⟩ = some (.int .i64 σ.ev)
  c4 : w.cell? ⟨f.p, 4, none⟩ = some (.int .i64 σ.ar)
  c5 : w.cell? ⟨f.p, 5, none⟩ = some (.bool σ.dead)
theorem Dev.reads {w : World} {f : Fp} {σ : St} (h : Dev w f σ) : Reads w f σ := ⟨h.cell 0, h.cell 1, h.cell 2, h.cell 3, h.cell 4, h.cell 5⟩

theorem neqMap (w : World) (r : Option Nat) : (binOp .neq 71 (.map r) (.map none)).run Try.prog w = .ok (.bool r.isSome) w := by
  have := run_neq_map_nil (P := Try.prog) w 71 3 49 r Try.underlying71
  cases r <;> simpa using this

/-- there is such a word, such a line -/
@[irreducible] def hasW (n : Nat) (i : Int) : Bool := decide (0 ≤ i ∧ i < n)
@[irreducible] def hasL (n : Nat) (i : Int) : Bool := decide (0 ≤ i ∧ i < (n + 7) / 8)
theorem hasW_iff {n : Nat} {i : Int} : hasW n i = true ↔ 0 ≤ i ∧ i < n := by unfold hasW; simp
theorem hasL_iff {n : Nat} {i : Int} : hasL n i = true ↔ 0 ≤ i ∧ i < (n + 7) / 8 := by unfold hasL; simp
theorem hasW_no {n : Nat} {i : Int} : hasW n i = false ↔ ¬ (0 ≤ i ∧ i < n) := by unfold hasW; simp only [decide_eq_false_iff_not]
theorem hasL_no {n : Nat} {i : Int} : hasL n i = false ↔ ¬ (0 ≤ i ∧ i < (n + 7) / 8) := by unfold hasL; simp only [decide_eq_false_iff_not]
/-- why a call can't be -/
@[irreducible] def refErr (dead there : Bool) : Int := if dead then 5 else if there then 0 else 90

theorem made_dev {w : World} {f : Fp} {σ : St} (h : Dev w f σ) : Calls Try.prog 45 #[f.ptr] w fun e w' => e = .returned (.bool true) ∧ w = w' := by
  unfold Fp.ptr
  have c1 := h.reads.c1
  have hq := fun (w : World) => neqMap w (some f.bh)
  clear h
  go_enter Try.func45, Try.ntmps45
  go_wp2
  go_ret
  exact ⟨rfl, rfl⟩
theorem made_nil (w : World) : Calls Try.prog 45 #[.pointer none] w fun e w' => e = .returned (.bool false) ∧ w = w' := by
  go_enter Try.func45, Try.ntmps45
  go_wp2
  go_ret
  exact ⟨rfl, rfl⟩

theorem words_dev {w : World} {f : Fp} {σ : St} (h : Dev w f σ) : Calls Try.prog 42 #[f.ptr] w fun e w' => e = .returned (.int .i64 σ.n) ∧ w = w' := by
  have c0 := h.reads.c0
  unfold Fp.ptr
  go_enter Try.func42, Try.ntmps42
  go_wp2_with (go_at_call 45; refine (made_dev h).mono ?_; rintro e w' ⟨rfl, rfl⟩)
  go_ret
  exact ⟨rfl, rfl⟩
theorem words_nil (w : World) : Calls Try.prog 42 #[.pointer none] w fun e w' => e = .returned (.int .i64 0) ∧ w = w' := by
  go_enter Try.func42, Try.ntmps42
  go_wp2_with (go_at_call 45; refine (made_nil _).mono ?_; rintro e w' ⟨rfl, rfl⟩)
  go_ret
  exact ⟨rfl, rfl⟩

theorem hasWord_dev {w : World} {f : Fp} {σ : St} (h : Dev w f σ) (i : Int) : Calls Try.prog 63 #[f.ptr, .int .i64 i] w fun e w' => e = .returned (.bool (hasW σ.n i)) ∧ w = w' := by
  by_cases h0 : 0 ≤ i
  · by_cases h1 : i < σ.n
    · rw [hasW_iff.2 ⟨h0, h1⟩]
      have h1' : decide (i < (σ.n : Int)) = true := by simpa using h1
      unfold Fp.ptr
      go_enter Try.func63, Try.ntmps63
      go_wp2_with (go_at_call 42; refine (words_dev h).mono ?_; rintro e w' ⟨rfl, rfl⟩)
      go_ret
      exact ⟨rfl, rfl⟩
    · rw [hasW_no.2 fun h => h1 h.2]
      have h1' : decide (i < (σ.n : Int)) = false := by simpa using h1
      unfold Fp.ptr
      go_enter Try.func63, Try.ntmps63
      go_wp2_with (go_at_call 42; refine (words_dev h).mono ?_; rintro e w' ⟨rfl, rfl⟩)
      go_ret
      exact ⟨rfl, rfl⟩
  · rw [hasW_no.2 fun h => h0 h.1]
    have h0' : decide (i ≥ 0) = false := by simpa using h0
    unfold Fp.ptr
    go_enter Try.func63, Try.ntmps63
    go_wp2
    go_ret
    exact ⟨rfl, rfl⟩

theorem hasLine_dev {w : World} {f : Fp} {σ : St} (h : Dev w f σ) (i : Int) : Calls Try.prog 71 #[f.ptr, .int .i64 i] w fun e w' => e = .returned (.bool (hasL σ.n i)) ∧ w = w' := by
  have nle := h.good.nle
  by_cases h0 : 0 ≤ i
  · by_cases h1 : i < (σ.n + 7) / 8
    · rw [hasL_iff.2 ⟨h0, h1⟩]
      have h1' : decide (i < ((σ.n : Int) + 8 - 1) / 8) = true := by simp; omega
      unfold Fp.ptr
      go_enter Try.func71, Try.ntmps71
      go_wp2_with (go_at_call 42; refine (words_dev h).mono ?_; rintro e w' ⟨rfl, rfl⟩)
      go_ret
      exact ⟨rfl, rfl⟩
    · rw [hasL_no.2 fun h => h1 h.2]
      have h1' : decide (i < ((σ.n : Int) + 8 - 1) / 8) = false := by simp; omega
      unfold Fp.ptr
      go_enter Try.func71, Try.ntmps71
      go_wp2_with (go_at_call 42; refine (words_dev h).mono ?_; rintro e w' ⟨rfl, rfl⟩)
      go_ret
      exact ⟨rfl, rfl⟩
  · rw [hasL_no.2 fun h => h0 h.1]
    have h0' : decide (i ≥ 0) = false := by simpa using h0
    unfold Fp.ptr
    go_enter Try.func71, Try.ntmps71
    go_wp2
    go_ret
    exact ⟨rfl, rfl⟩

theorem refusal_dev {w : World} {f : Fp} {σ : St} (h : Dev w f σ) (b : Bool) : Calls Try.prog 62 #[f.ptr, .bool b] w fun e w' => e = .returned (.int .i64 (refErr σ.dead b)) ∧ w = w' := by
  have c5 := h.reads.c5
  unfold Fp.ptr refErr
  cases hb : σ.dead <;> rw [hb] at c5 <;> cases b
  all_goals
    go_enter Try.func62, Try.ntmps62
    go_wp2_with (go_at_call 45; refine (made_dev h).mono ?_; rintro e w' ⟨rfl, rfl⟩)
    go_ret
    exact ⟨rfl, rfl⟩
theorem refusal_nil (w : World) (b : Bool) : Calls Try.prog 62 #[.pointer none, .bool b] w fun e w' => e = .returned (.int .i64 91) ∧ w = w' := by
  go_enter Try.func62, Try.ntmps62
  go_wp2_with (go_at_call 45; refine (made_nil _).mono ?_; rintro e w' ⟨rfl, rfl⟩)
  go_ret
  exact ⟨rfl, rfl⟩