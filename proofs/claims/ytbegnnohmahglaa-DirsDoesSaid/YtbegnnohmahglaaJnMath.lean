import Derived.Test.YtbegnnohmahglaaJnRef
namespace Go.Proofs.Ytbegnnohmahglaa
set_option linter.unusedVariables false

theorem good_name {p : List UInt8} (h : nameN p = 0) : p ≠ [] ∧ (47 : UInt8) ∉ p := by
  unfold nameN at h
  by_cases h1 : p = [] ∨ p = [46] ∨ p = [46, 46]
  · rw [if_pos h1] at h; cases h
  · rw [if_neg h1] at h
    refine ⟨fun e => h1 (.inl e), fun hm => ?_⟩
    unfold plainN at h
    rw [if_pos (List.any_eq_true.2 ⟨47, hm, rfl⟩)] at h
    cases h
theorem cut_end {p : List UInt8} (h : (47 : UInt8) ∉ p) : ∀ acc, cutS p acc = [acc ++ p] := by
  induction p with
  | nil => intro acc; simp [cutS]
  | cons c t ih =>
    intro acc
    have hc : c ≠ 47 := by rintro rfl; exact h (by simp)
    unfold cutS
    rw [if_neg hc, ih (fun hm => h (by simp [hm]))]
    simp
theorem cut_on {p : List UInt8} (h : (47 : UInt8) ∉ p) (r : List UInt8) : ∀ acc, cutS (p ++ 47 :: r) acc = (acc ++ p) :: cutS r [] := by
  induction p with
  | nil => intro acc; simp [cutS]
  | cons c t ih =>
    intro acc
    have hc : c ≠ 47 := by rintro rfl; exact h (by simp)
    show cutS (c :: (t ++ 47 :: r)) acc = _
    conv => lhs; unfold cutS
    rw [if_neg hc, ih (fun hm => h (by simp [hm]))]
    simp
theorem slashed_cons (p : List UInt8) (ls : List (List UInt8)) : slashed (p :: ls) = 47 :: (p ++ slashed ls) := by unfold slashed; simp
theorem pieces_join {ls : List (List UInt8)} (h : ∀ p ∈ ls, nameN p = 0) (hne : ls ≠ []) : pieces ((slashed ls).drop 1) = ls := by
  induction ls with
  | nil => exact absurd rfl hne
  | cons p ls ih =>
    obtain ⟨h1, h2⟩ := good_name (h p (by simp))
    have hpe : p.isEmpty = false := by cases p with | nil => exact absurd rfl h1 | cons a t => rfl
    rw [slashed_cons, List.drop_one, List.tail_cons]
    unfold pieces
    cases hls : ls with
    | nil =>
      rw [show slashed [] = [] from rfl, List.append_nil, cut_end h2, List.nil_append, keep_cons, hpe]
      rfl
    | cons q qs =>
      have ih' := ih (fun r hr => h r (by simp [hr])) (by rw [hls]; simp)
      rw [hls, slashed_cons, List.drop_one, List.tail_cons] at ih'
      rw [slashed_cons, cut_on h2, List.nil_append, keep_cons, hpe]
      show p :: keepS (cutS (q ++ slashed qs) []) = _
      unfold pieces at ih'
      rw [ih']
/-- the path of good names, split again -/
theorem path_join {ls : List (List UInt8)} (h : ∀ p ∈ ls, nameN p = 0) : pathE (joinN ls) = (if 120 < (joinN ls).length then 36 else 0) ∧ pathL (joinN ls) = (if 120 < (joinN ls).length then [] else ls) := by
  have hp : (joinN ls).head? = some 47 ∧ pieces ((joinN ls).drop 1) = ls := by
    unfold joinN
    by_cases hne : ls = []
    · rw [if_pos hne, hne]; exact ⟨rfl, rfl⟩
    · rw [if_neg hne]
      refine ⟨?_, pieces_join h hne⟩
      cases ls with
      | nil => exact absurd rfl hne
      | cons p ls => rw [slashed_cons]; rfl
  have hE : pathE (joinN ls) = if 120 < (joinN ls).length then 36 else 0 := by
    unfold pathE
    rw [if_pos hp.1, hp.2, errOf_zero h]
  refine ⟨hE, ?_⟩
  unfold pathL
  rw [hE, hp.2]
  by_cases h120 : 120 < (joinN ls).length
  · rw [if_pos h120, if_pos h120, if_neg (by decide)]
  · rw [if_neg h120, if_neg h120, if_pos rfl]
end Go.Proofs.Ytbegnnohmahglaa
