import Derived.Test.YtblfhohoomkcmaaDoorNaBack
/-
  UNDER, AS PLAIN LISTS: of two paths that can be split, the names of the one begin with those of the other, and are more.
-/
namespace Go.Proofs.YtblfhohoomkcmaaDoor
open Wd Go.ChangeShapes Go.WideShapes Go.RowKit Go.Sort
set_option linter.unusedVariables false

def underP (a b : List UInt8) : Prop := pathE a = 0 ∧ pathE b = 0 ∧ pathL b <+: pathL a ∧ (pathL b).length < (pathL a).length
open Classical in
noncomputable def underB (a b : List UInt8) : Bool := decide (underP a b)
theorem under_iff {a b : List UInt8} : underB a b = true ↔ underP a b := by unfold underB; exact @decide_eq_true_iff _ (Classical.propDecidable _)
theorem under_self (a : List UInt8) : underB a a = false := by
  rw [Bool.eq_false_iff, Ne, under_iff]
  exact fun h => Nat.lt_irrefl _ h.2.2.2
theorem under_trans {a b c : List UInt8} (h : underB a b = true) (g : underB b c = true) : underB a c = true := by
  rw [under_iff] at *
  exact ⟨h.1, g.2.1, g.2.2.1.trans h.2.2.1, Nat.lt_trans g.2.2.2 h.2.2.2⟩
theorem under_back {a b : List UInt8} (h : underB a b = true) : underB b a = false := by
  rw [Bool.eq_false_iff, Ne, under_iff]
  rw [under_iff] at h
  exact fun g => Nat.lt_asymm g.2.2.2 h.2.2.2

theorem errOf_all {ps : List (List UInt8)} (h : errOf ps = 0) : ∀ p ∈ ps, nameN p = 0 := by
  induction ps with
  | nil => intro p hp; cases hp
  | cons q ps ih =>
    have h' : (if nameN q = 0 then errOf ps else nameN q) = 0 := h
    by_cases hq : nameN q = 0
    · rw [if_pos hq] at h'
      intro p hp
      rcases List.mem_cons.1 hp with rfl | hp
      · exact hq
      · exact ih h' p hp
    · rw [if_neg hq] at h'; exact absurd h' hq
theorem keep_len (p : List UInt8) (ps : List (List UInt8)) : (slashed (keepS (p :: ps))).length ≤ 1 + p.length + (slashed (keepS ps)).length := by
  unfold keepS
  rw [List.filter_cons]
  split
  · rw [slashed_cons, List.length_cons, List.length_append]; omega
  · omega
theorem cut_len (t : List UInt8) : ∀ acc, (slashed (keepS (cutS t acc))).length ≤ t.length + acc.length + 1 := by
  induction t with
  | nil =>
    intro acc
    have h := keep_len acc []
    have h0 : (slashed (keepS [])).length = 0 := rfl
    have e : cutS [] acc = [acc] := rfl
    rw [e, List.length_nil]; omega
  | cons c t ih =>
    intro acc
    by_cases hc : c = 47
    · have e : cutS (c :: t) acc = acc :: cutS t [] := by show (if c = 47 then _ else _) = _; rw [if_pos hc]
      rw [e]
      have h := keep_len acc (cutS t [])
      have h1 := ih []
      rw [List.length_nil] at h1
      rw [List.length_cons]; omega
    · have e : cutS (c :: t) acc = cutS t (acc ++ [c]) := by show (if c = 47 then _ else _) = _; rw [if_neg hc]
      rw [e]
      have h1 := ih (acc ++ [c])
      rw [List.length_append, List.length_singleton] at h1
      rw [List.length_cons]; omega
theorem path_good {a : List UInt8} (h : pathE a = 0) : a.length ≤ 120 ∧ (∀ p ∈ pathL a, nameN p = 0) ∧ (slashed (pathL a)).length ≤ a.length := by
  have hL : pathL a = pieces (a.drop 1) := by unfold pathL; rw [if_pos h]
  unfold pathE at h
  by_cases h1 : 120 < a.length
  · rw [if_pos h1] at h; cases h
  · rw [if_neg h1] at h
    by_cases h2 : a.head? = some 47
    · rw [if_pos h2] at h
      refine ⟨by omega, by rw [hL]; exact errOf_all h, ?_⟩
      rw [hL]
      have h3 := cut_len (a.drop 1) []
      cases a with
      | nil => cases h2
      | cons x t =>
        rw [List.drop_succ_cons, List.drop_zero, List.length_nil] at h3
        show (slashed (keepS (cutS t []))).length ≤ (x :: t).length
        rw [List.length_cons]; omega
    · rw [if_neg h2] at h; cases h
theorem slashed_init (l : List (List UInt8)) : (slashed l.dropLast).length ≤ (slashed l).length := by
  rw [List.dropLast_eq_take]; exact slashed_le l _
/-- the error's number of Base -/
def baseE (a : List UInt8) : Int := if pathE a = 0 then (if pathL a = [] then 22 else 0) else pathE a
theorem base_up {a : List UInt8} (h : baseE a = 0) : pathE a = 0 ∧ pathL a ≠ [] := by
  unfold baseE at h
  by_cases h1 : pathE a = 0
  · rw [if_pos h1] at h
    refine ⟨h1, fun e => ?_⟩
    rw [if_pos e] at h; cases h
  · rw [if_neg h1] at h; exact absurd h h1
theorem up_len {a : List UInt8} (h : baseE a = 0) : (joinN (pathL a).dropLast).length ≤ 120 := by
  obtain ⟨h1, _⟩ := base_up h
  obtain ⟨g1, _, g3⟩ := path_good h1
  unfold joinN
  split
  · simp
  · have := slashed_init (pathL a); omega
theorem under_up {a : List UInt8} (h : baseE a = 0) : underB a (joinN (pathL a).dropLast) = true := by
  have hl := up_len h
  obtain ⟨h1, h2⟩ := base_up h
  obtain ⟨g1, g2, g3⟩ := path_good h1
  obtain ⟨p1, p2⟩ := path_join (ls := (pathL a).dropLast) (fun p hp => g2 p (List.dropLast_subset _ hp))
  rw [if_neg (by omega)] at p1 p2
  rw [under_iff]
  refine ⟨h1, p1, ?_, ?_⟩
  · rw [p2]; exact List.dropLast_prefix _
  · rw [p2, List.length_dropLast]
    have := List.length_pos_iff.2 h2
    omega

def BaseR (a : List UInt8) (W : World) (e : Ending) (w : World) : Prop :=
  ∃ u v : ByteArray, e = .returned (.tuple #[.string u, .string v, .int .i64 (baseE a)]) ∧ (baseE a = 0 → u.toList = joinN (pathL a).dropLast) ∧ Below W.heap.size W w
end Go.Proofs.YtblfhohoomkcmaaDoor
