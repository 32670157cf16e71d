import Derived.Test.YtnoojhkkojijpaaDoorEfFace
namespace Go.Proofs.YtnoojhkkojijpaaDoor
open Wd U Go.RowKit Go.ChangeShapes Go.WideShapes Go.Sort
set_option linter.unusedVariables false


theorem Eff.Ok.bare {e : Eff} {w : World} (h : e.Ok w w.heap.size) : e.bare.Ok w w.heap.size := ⟨h.kind, h.ino, h.dir, h.dst, h.page, h.size, h.name, h.other, (fun x hx => by cases hx), Row.nil, by simp [Eff.bare], by simp [Eff.bare]⟩
theorem Eff.few.bare {e : Eff} (h : e.few) : e.bare.few := ⟨by simp [Eff.bare], h.2.1, h.2.2⟩
theorem effs_one {w : World} {e : Eff} (ok : e.Ok w w.heap.size) : Effs (w.alloc (.cells (effCells e) 24)) (w.alloc (.cells (effCells e) 24)).heap.size (some ⟨w.heap.size, 0, none⟩) [e] := by
  refine ⟨fun _ => ⟨w.heap.size, 0, rfl, by simp, fun j e' hj k x hk => ?_⟩, fun e' he => ?_⟩
  · match j, hj with
    | 0, hj =>
      cases hj
      rw [Nat.zero_mul, Nat.zero_add, Nat.zero_add, (Cells.new w 24 (effCells e)).cell k]
      rw [← Array.getElem?_toList]
      exact hk
    | j + 1, hj => simp at hj
  · rw [List.mem_singleton] at he
    subst he
    exact ok.at_ ((Below.refl _ _).alloc (Nat.le_refl _) _)
/-- what an effect that may be says of others -/
theorem check_ino {e : Eff} (h : e.check = true) : 1 ≤ e.ino ∧ e.ino ≤ 1048576 := by
  unfold Eff.check ndB at h
  simpa using (Bool.and_eq_true_iff.1 h).2
theorem check_kind {e : Eff} (h : e.check = true) : 1 ≤ e.kind ∧ e.kind ≤ 8 := by
  have h1 := (Bool.and_eq_true_iff.1 h).1
  unfold Eff.mayBe at h1
  split at h1
  · omega
  · split at h1
    · omega
    · split at h1
      · omega
      · split at h1
        · omega
        · split at h1
          · omega
          · split at h1
            · omega
            · cases h1
theorem check_other {e : Eff} {n : Int} (h : n < 1 ∨ 8 < n) : ({ e with kind := n } : Eff).check = false := by
  cases hc : ({ e with kind := n } : Eff).check
  · rfl
  · have := check_kind hc
    simp at this
    omega
theorem check_write {e : Eff} (h : e.check = true) (h7 : e.kind = 7) : e.data.length = 256 ∧ 256 * e.page < e.size ∧ 0 ≤ e.page ∧ e.page ≤ 63 ∧ e.bare.check = false := by
  have h1 := (Bool.and_eq_true_iff.1 h).1
  unfold Eff.mayBe at h1
  simp [h7] at h1
  refine ⟨h1.1.1.1.1.2, h1.2, h1.1.1.1.2, h1.1.1.2, ?_⟩
  cases hc : e.bare.check
  · rfl
  · have h2 := (Bool.and_eq_true_iff.1 hc).1
    unfold Eff.mayBe Eff.bare at h2
    simp [h7] at h2
theorem check_empty {e : Eff} (h : e.check = true) (h7 : e.kind ≠ 7) : e.data = [] := by
  have h1 := (Bool.and_eq_true_iff.1 h).1
  unfold Eff.mayBe at h1
  simp only [h7, if_false] at h1
  apply List.eq_nil_of_length_eq_zero
  split at h1
  · simp [Eff.noData] at h1; simp [h1]
  · split at h1
    · simp [Eff.noData] at h1; simp [h1]
    · split at h1
      · simp [Eff.noData] at h1; simp [h1]
      · split at h1
        · simp [Eff.noData] at h1; simp [h1]
        · split at h1
          · simp [Eff.noData] at h1; simp [h1]
          · cases h1
theorem same_bare {e : Eff} (h : e.data = []) : sameB e.bare e = true := by
  unfold sameB Eff.bare
  rw [h]
  simp
end Go.Proofs.YtnoojhkkojijpaaDoor
