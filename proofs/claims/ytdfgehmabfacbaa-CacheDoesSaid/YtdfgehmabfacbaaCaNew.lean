import Derived.Test.YtdfgehmabfacbaaCaKeys
import Derived.Deep.DeepCutAuto
/-! A new cache; a page told; a page gone. -/
namespace Go.Proofs.Ytdfgehmabfacbaa
open Wd Sm Go.Maps Go.RowKit Go.ChangeShapes Go.WideShapes Go.Sort
set_option linter.unusedVariables false
set_option maxRecDepth 100000
def mostOf (n : Int) : Nat := (min (max n 8) 256).toNat
def newC (n : Int) : Cst := ⟨mostOf n, 0, [], fun _ => none⟩
theorem newC_ok (n : Int) : (newC n).Ok := by
  unfold newC mostOf
  exact ⟨by dsimp only; omega, by dsimp only; omega, by simp, by simp, List.Pairwise.nil, by simp, by simp, fun x v h => by simp at h⟩
section
variable {w w' : World} {base p m : Nat} {S : Cst}
def NewCa (n : Int) (w : World) (e : Ending) (w' : World) : Prop := e = .returned (CPtr (w.heap.size + 1)) ∧ CaAt w' w.heap.size (w.heap.size + 1) w.heap.size (newC n) ∧ Below w.heap.size w w'
theorem caNew (w : World) (n : Int) : Calls Try.prog 6 #[.int .i64 n] w (NewCa n w) := by
  obtain ⟨M, hM⟩ : ∃ M, M = mostOf n := ⟨_, rfl⟩
  have hC : CaAt ((w.alloc (.map #[] 0)).alloc (.cells #[.map (some w.heap.size), .int .i64 M, .int .i64 0] 41)) w.heap.size (w.heap.size + 1) w.heap.size (newC n) := by
    refine ⟨newC_ok n, by omega, Nat.le_refl _, ?_, ?_⟩
    · have := Cells.new (w.alloc (.map #[] 0)) 41 #[.map (some w.heap.size), .int .i64 M, .int .i64 0]
      rw [World.size_alloc] at this
      rw [hM] at this ⊢
      exact this
    · refine (Mv.made w Try.prog 3).same ?_
      exact Below.heap_alloc _ _ _ (by rw [World.size_alloc]; omega)
  have hB : Below w.heap.size w ((w.alloc (.map #[] 0)).alloc (.cells #[.map (some w.heap.size), .int .i64 M, .int .i64 0] 41)) := ((Below.refl _ _).alloc (Nat.le_refl _) _).alloc (by simp) _
  have fin : ∀ x : Int, x = (M : Int) → NewCa n w (.returned (CPtr (w.heap.size + 1))) ((w.alloc (.map #[] 0)).alloc (.cells #[.map (some w.heap.size), .int .i64 x, .int .i64 0] 41)) := fun x hx => by rw [hx]; exact ⟨rfl, hC, hB⟩
  have FIN := Lib.hid fin; have HM := Lib.hid hM
  unfold mostOf at hM
  have hmm := @run_makeMap Try.prog
  clear hC hB fin
  go_enter Try.func6, Try.ntmps6
  by_cases h1 : n ≤ 8
  · have e : (M : Int) = 8 := by omega
    have hmx : max n 8 = 8 := by omega
    clear hM HM
    go_wp2
    all_goals go_ret
    all_goals exact FIN.out _ (by omega)
  · have hmx : max n 8 = n := by omega
    by_cases h2 : n ≤ 256
    · have e : (M : Int) = n := by omega
      clear hM HM
      go_wp2
      all_goals go_ret
      all_goals exact FIN.out _ (by omega)
    · have e : (M : Int) = 256 := by omega
      clear hM HM
      go_wp2
      all_goals go_ret
      all_goals exact FIN.out _ (by omega)
end
end Go.Proofs.Ytdfgehmabfacbaa
