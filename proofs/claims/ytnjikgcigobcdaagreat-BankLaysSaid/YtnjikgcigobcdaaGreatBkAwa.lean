import Derived.Test.YtnjikgcigobcdaaGreatBkMad
namespace Go.Proofs.YtnjikgcigobcdaaGreat
open Wd Pm Go.Maps Go.ChangeShapes Go.WideShapes Go.RowKit Go.Sort
set_option linter.unusedVariables false

theorem few_is (A : Option Addr) (n c : Nat) (w : World) : Calls Tryz.prog 6 #[.slice A n c] w fun e w' => e = .returned (.bool (decide (n ≤ 200))) ∧ w = w' := by
  have q : decide ((n : Int) ≤ 200) = decide (n ≤ 200) := by apply decide_eq_decide.2; omega
  go_enter Tryz.func6, Tryz.ntmps6
  go_wp2
  go_ret
  exact ⟨by rw [← q]; rfl, rfl⟩
theorem row_lit (W : World) (l : List Int) (arr : Array Value) (ha : arr.toList = l.map VU64) : RowB (W.alloc (.cells arr 31)) (some ⟨W.heap.size, 0, none⟩) l := by
  have hr := Row.of_cells (B := (W.alloc (.cells arr 31)).heap.size) (Cells.new W 31 arr) (by simp)
  have hs : arr.size = l.length := by rw [← Array.length_toList, ha, List.length_map]
  rw [ha, hs] at hr
  exact hr
theorem u64_list {l : List Int} (h : ∀ v ∈ l, 0 ≤ v ∧ v ≤ 1000) : ∀ v ∈ l, U64 v := fun v hv => u64_of (h v hv).1 (by have := (h v hv).2; omega)
set_option maxRecDepth 100000 in
set_option maxHeartbeats 4000000 in
theorem awake_bank (w : World) : Calls Tryz.prog 4 #[] w (TrueB w) := by
  have r1 := row_lit w [1, 2] #[.int .u64 1, .int .u64 2] rfl
  have b1 : Below w.heap.size w (w.alloc (.cells #[.int .u64 1, .int .u64 2] 31)) := (Below.refl _ _).alloc (Nat.le_refl _) _
  have r2 := row_lit (w.alloc (.cells #[.int .u64 1, .int .u64 2] 31)) [3] #[.int .u64 3] rfl
  have r1' : RowB ((w.alloc (.cells #[.int .u64 1, .int .u64 2] 31)).alloc (.cells #[.int .u64 3] 31)) (some ⟨w.heap.size, 0, none⟩) [1, 2] :=
    (Row.below r1 ((Below.refl _ _).alloc (Nat.le_refl _) _)).more (by simp)
  have b2 : Below w.heap.size w ((w.alloc (.cells #[.int .u64 1, .int .u64 2] 31)).alloc (.cells #[.int .u64 3] 31)) := b1.alloc b1.size _
  obtain ⟨w2, hw2⟩ : ∃ w2, (w.alloc (.cells #[.int .u64 1, .int .u64 2] 31)).alloc (.cells #[.int .u64 3] 31) = w2 := ⟨_, rfl⟩
  rw [hw2] at r1' r2 b2
  rw [show (w.alloc (.cells #[.int .u64 1, .int .u64 2] 31)).heap.size = w.heap.size + 1 by simp] at r2
  have KM := made_ok 64 ⟨by omega, by omega⟩ (some ⟨w.heap.size, 0, none⟩) 2 [1, 2] (some ⟨w.heap.size + 1, 0, none⟩) 1 [3] w2 r1' (u64_list (by decide)) (by decide) r2 (u64_list (by decide)) (by decide)
  have hgo : (([1, 2] : List Int).length : Int) ≤ imageG 64 ∧ (([3] : List Int).length : Int) ≤ logG 64 := by decide
  have KMH := Lib.hid KM; have HW2 := Lib.hid hw2; have B2 := Lib.hid b2; have GO := Lib.hid hgo
  obtain ⟨gb, hgb⟩ : ∃ gb, bankG 64 = gb := ⟨_, rfl⟩
  clear KM hw2 r1 b1 r2 r1' b2 hgo hgb
  go_enter Tryz.func4, Tryz.ntmps4
  go_wp2_with fail
  rw [HW2.out]
  refine (KMH.out).mono ?_
  rintro e w3 ⟨f, rfl, b3, h3⟩
  obtain ⟨σ, d3, fr3, fnd⟩ := h3 GO.out
  rw [decide_eq_true GO.out]
  have B3 := Lib.hid (B2.out.trans (b3.mono B2.out.size)); have V3 := Lib.hid d3; have FN := Lib.hid fnd
  clear h3 b3 d3 fr3 fnd KMH
  unfold Fp.ptr
  have B4 := Lib.hid (B3.out.alloc B3.out.size (.cells #[.int .i64 64, .int .i64 (bankG 64), .int .i64 (imageG 64), .int .i64 (logG 64), .int .i64 (dataG 64)] 49))
  have V4 := Lib.hid (V3.out.alloc (.cells #[.int .i64 64, .int .i64 (bankG 64), .int .i64 (imageG 64), .int .i64 (logG 64), .int .i64 (dataG 64)] 49))
  have CN := Lib.hid (Cells.new w3 49 #[.int .i64 64, .int .i64 (bankG 64), .int .i64 (imageG 64), .int .i64 (logG 64), .int .i64 (dataG 64)])
  go_upto_region 2 with fail
  obtain ⟨w4, hw4⟩ : ∃ w4, w3.alloc (.cells #[.int .i64 64, .int .i64 (bankG 64), .int .i64 (imageG 64), .int .i64 (logG 64), .int .i64 (dataG 64)] 49) = w4 := ⟨_, rfl⟩
  rw [hw4] at B4 V4 CN ⊢
  clear hw4 B3 V3
  have k0 := CN.out.cell 0
  have k1 := CN.out.cell 1
  have k2 := CN.out.cell 2
  have k3 := CN.out.cell 3
  have k4 := CN.out.cell 4
  have KR := Lib.hid (read_dev (P := 64) (B := bankG 64) (D := dataG 64) V4.out FN.out.k.bank ⟨by decide, by decide⟩)
  unfold Fp.ptr at KR
  go_wp2_with fail
  refine (KR.out).mono ?_
  rintro e w5 ⟨A, c, A2, c2, rfl, ra, rb, _, _, b5⟩
  have RA := Lib.hid ra; have RB := Lib.hid rb; have B5 := Lib.hid (B4.out.trans (b5.mono B4.out.size))
  clear ra rb b5 KR k0 k1 k2 k3 k4 CN
  go_wp2_with fail
  refine (same_words [1, 2] [1, 2] 2 2 rfl rfl (by omega) A (some ⟨w5.heap.size, 0, none⟩) c 2 _ _ ((Row.below RA.out ((Below.refl _ _).alloc (Nat.le_refl _) _)).more (by simp)) (row_lit w5 [1, 2] #[.int .u64 1, .int .u64 2] rfl)).mono ?_
  rintro e w6 hg
  obtain ⟨rfl, b6⟩ := hg.below
  have B5a := B5.out.alloc B5.out.size (.cells #[.int .u64 1, .int .u64 2] 31)
  have B6 := Lib.hid (B5a.trans (b6.mono B5a.size))
  have RB6 := Lib.hid (show Row w6 w6.heap.size A2 1 (([3] : List Int).map VU64) from (Row.below ((Row.below RB.out ((Below.refl _ _).alloc (Nat.le_refl _) _)).more (by simp)) b6).more b6.size)
  clear hg b6 B5a RA RB
  rw [decide_eq_true (rfl : ([1, 2] : List Int) = [1, 2])]
  go_wp2_with fail
  refine (same_words [3] [3] 1 1 rfl rfl (by omega) A2 (some ⟨w6.heap.size, 0, none⟩) c2 1 _ _ ((Row.below RB6.out ((Below.refl _ _).alloc (Nat.le_refl _) _)).more (by simp)) (row_lit w6 [3] #[.int .u64 3] rfl)).mono ?_
  rintro e w7 hg
  obtain ⟨rfl, b7⟩ := hg.below
  have B6a := B6.out.alloc B6.out.size (.cells #[.int .u64 3] 31)
  have B7 := Lib.hid (B6a.trans (b7.mono B6a.size))
  clear hg b7 B6a RB6
  rw [decide_eq_true (rfl : ([3] : List Int) = [3])]
  go_wp2
  go_ret
  exact ⟨rfl, B7.out⟩
end Go.Proofs.YtnjikgcigobcdaaGreat
