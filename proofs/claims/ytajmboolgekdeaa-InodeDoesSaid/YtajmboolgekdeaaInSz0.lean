import Derived.Test.YtajmboolgekdeaaInPl0
namespace Go.Proofs.Ytajmboolgekdeaa
open Wd Ino Go.RowKit Go.ChangeShapes Go.WideShapes Go.Sort
set_option linter.unusedVariables false
set_option maxRecDepth 100000

theorem right_resize {i k l s u size : Int} {np nn K : Nat} (h : rightB i k l s u np nn = true) (hk : k = 1) (hz : inB size 0 16384 = true) (hK : needP size = (K : Int)) : rightB i k l size u K nn = true := by
  unfold rightB at h ⊢
  rw [if_pos hk] at h ⊢
  split at h
  · rename_i h1
    rw [if_pos h1]
    unfold fileB at h ⊢
    rw [hz, hK]
    simp at h ⊢
    exact ⟨h.1.1.1, h.1.1.2⟩
  · cases h
theorem need_mono {a b : Int} (h : a ≤ b) : needP a ≤ needP b := by
  unfold needP
  split <;> split <;> omega
theorem refs_append (a b : List Int) : refsP (a ++ b) = refsP a ++ refsP b := by unfold refsP; exact List.filter_append _ _
theorem refs_zero (k : Nat) : refsP (List.replicate k 0) = [] := by unfold refsP; rw [List.filter_replicate]; simp
theorem refs_fit (P : List Int) (K : Nat) : (refsP (fitP P K)).length + (refsP (P.drop K)).length = (refsP P).length := by
  unfold fitP
  rw [refs_append, refs_zero, List.append_nil, ← List.length_append, ← refs_append, List.take_append_drop]
theorem fit_ints {P : List Int} {K : Nat} (h : ∀ x ∈ P, i64R x) : ∀ x ∈ fitP P K, i64R x := by
  intro x hx
  unfold fitP at hx
  rcases List.mem_append.1 hx with hx | hx
  · exact h x (List.mem_of_mem_take hx)
  · rw [List.eq_of_mem_replicate hx]
    unfold i64R; omega
theorem fit_none (l : List Int) (K K2 : Nat) (h : l.length = K) (hk : K ≤ K2) : refsP (l.drop K2) = [] := by
  rw [List.drop_of_length_le (by omega)]; rfl
end Go.Proofs.Ytajmboolgekdeaa
