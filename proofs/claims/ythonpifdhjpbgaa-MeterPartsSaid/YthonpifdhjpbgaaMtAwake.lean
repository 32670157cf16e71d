import Derived.Test.YthonpifdhjpbgaaMtCount
namespace Go.Proofs.Ythonpifdhjpbgaa
open Wd So Go.ChangeShapes Go.WideShapes Go.RowKit
set_option linter.unusedVariables false

def TrueB (w : World) (e : Ending) (w' : World) : Prop := e = .returned (.bool true) ∧ Below w.heap.size w w'

theorem IRow.row {w : World} {g n B : Nat} {cs : List Nat} (h : IRow w g cs) (hn : cs.length = n) (hg : g < B) : Row w B (some ⟨g, 0, none⟩) n (cs.map nat_) := by
  have := Row.of_cells (B := B) h hg
  rw [show (List.map nat_ cs).toArray.size = n by rw [List.size_toArray, List.length_map]; exact hn] at this
  exact this

set_option maxHeartbeats 1000000 in
theorem awake_true (w : World) : Calls Try.prog 6 #[] w (TrueB w) := by
  go_enter Try.func6, Try.ntmps6
  go_wp2_with fail
  have r1 : Row ((w.alloc (.cells #[.float .f64 4607182418800017408, .float .f64 4611686018427387904, .float .f64 4613937818241073152] 26)).alloc (.cells #[.float .f64 4611686018427387904] 26)) ((w.alloc (.cells #[.float .f64 4607182418800017408, .float .f64 4611686018427387904, .float .f64 4613937818241073152] 26)).alloc (.cells #[.float .f64 4611686018427387904] 26)).heap.size (some ⟨w.heap.size, 0, none⟩) 3 ([4607182418800017408, 4611686018427387904, 4613937818241073152].map (Value.float .f64)) :=
    Row.of_cells ((Cells.new w _ _).alloc _) (by simp; omega)
  have r2 : Row ((w.alloc (.cells #[.float .f64 4607182418800017408, .float .f64 4611686018427387904, .float .f64 4613937818241073152] 26)).alloc (.cells #[.float .f64 4611686018427387904] 26)) ((w.alloc (.cells #[.float .f64 4607182418800017408, .float .f64 4611686018427387904, .float .f64 4613937818241073152] 26)).alloc (.cells #[.float .f64 4611686018427387904] 26)).heap.size (some ⟨w.heap.size + 1, 0, none⟩) 1 ([4611686018427387904].map (Value.float .f64)) := by
    have := Row.of_cells (B := ((w.alloc (.cells #[.float .f64 4607182418800017408, .float .f64 4611686018427387904, .float .f64 4613937818241073152] 26)).alloc (.cells #[.float .f64 4611686018427387904] 26)).heap.size) (Cells.new (w.alloc (.cells #[.float .f64 4607182418800017408, .float .f64 4611686018427387904, .float .f64 4613937818241073152] 26)) 26 #[.float .f64 4611686018427387904]) (by simp)
    simp only [World.size_alloc] at this ⊢
    exact this
  refine (boxes_any [4607182418800017408, 4611686018427387904, 4613937818241073152] [4611686018427387904] _ _ _ _ 1 _ (by decide) rfl (by omega) (by intro x hx; simp at hx; omega) (by intro x hx; simp at hx; omega) r1 r2 [4611686018427387904] (.refl _) (Srt.empty (by omega))).mono ?_
  rintro e w2 ⟨g, rfl, hi, hg, hb⟩
  rw [show boxes ([4611686018427387904].map rk) ([4607182418800017408, 4611686018427387904, 4613937818241073152].map rk) = [1, 2] by decide] at hi
  simp only [World.size_alloc] at hg hb
  have hgl : g < w2.heap.size := Cells.lt hi
  have HI := Lib.hid hi; have HB := Lib.hid hb
  clear hi hb r1 r2
  go_wp2_with fail
  have h2 : IRow (w2.alloc (.cells #[.int .i64 1, .int .i64 2] 3)) w2.heap.size [1, 2] := Cells.new w2 _ _
  refine (sameInts_eq [1, 2] 2 rfl (by omega) _ _ _ _ _ _ ((IRow.row (n := 2) (B := w2.heap.size + 1) (Cells.alloc HI.out _) rfl (by omega))) (h2.row rfl (by omega))).mono ?_
  rintro e w3 ⟨n, rfl, rfl⟩
  go_wp2
  go_ret
  refine ⟨rfl, below_drewN ?_ _⟩
  exact ((((Below.refl _ _).alloc (Nat.le_refl _) _).alloc (by simp) _).trans (HB.out.mono (by omega))).alloc (by have := HB.out.size; omega) _
end Go.Proofs.Ythonpifdhjpbgaa
