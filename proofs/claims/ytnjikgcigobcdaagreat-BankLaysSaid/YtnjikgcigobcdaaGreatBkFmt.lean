import Derived.Test.YtnjikgcigobcdaaGreatBkMak
namespace Go.Proofs.YtnjikgcigobcdaaGreat
open Wd Pm Go.Maps Go.RowKit Go.Sort
set_option linter.unusedVariables false
set_option linter.unusedSectionVars false

theorem row_new {w W : World} {f : Fp} {σ : St} (h : Dev w f σ) (b : Below w.heap.size w W) (l : List Int) (arr : Array Value) (ha : arr.toList = l.map VU64) : RowO (W.alloc (.cells arr 31)) f (some ⟨W.heap.size, 0, none⟩) l := by
  have hr := Row.of_cells (B := (W.alloc (.cells arr 31)).heap.size) (Cells.new W 31 arr) (by simp)
  have hs : arr.size = l.length := by rw [← Array.length_toList, ha, List.length_map]
  rw [ha, hs] at hr
  exact ⟨hr, fun b' o m e _ => by cases e; exact h.out b.size⟩

set_option maxRecDepth 100000 in
set_option maxHeartbeats 2000000 in
theorem format_dev {w : World} {f : Fp} {σ : St} {P B I L D : Int} (h : Dev w f σ) (hP : 0 ≤ P ∧ P ≤ 10000000) (hev : σ.ev + 1000 < 4611686018427387904) :
    Calls Tryz.prog 46 #[f.ptr, .agg #[.int .i64 P, .int .i64 B, .int .i64 I, .int .i64 L, .int .i64 D]] w fun e w' => e = .returned (.int .i64 (runS (layA 0 [1937075568, P]) σ).2) ∧ Goes w f (runS (layA 0 [1937075568, P]) σ).1 w' := by
  have q2 : IntKind.u64.wrap P = P := by rw [IntKind.wrap_u64]; omega
  have b1 : Below w.heap.size w (w.alloc (.cells #[.int .i64 P, .int .i64 B, .int .i64 I, .int .i64 L, .int .i64 D] 49)) := (Below.refl _ _).alloc (Nat.le_refl _) _
  obtain ⟨W, hW⟩ : ∃ W, w.alloc (.cells #[.int .i64 P, .int .i64 B, .int .i64 I, .int .i64 L, .int .i64 D] 49) = W := ⟨_, rfl⟩
  rw [hW] at b1
  have b2 : Below w.heap.size w (W.alloc (.cells #[.int .u64 1937075568, .int .u64 P] 31)) := b1.alloc b1.size _
  have KL := lay_dev (h.below b2) 0 (some ⟨W.heap.size, 0, none⟩) 2 [1937075568, P] (by simp only [List.length_cons, List.length_nil]; omega) (by omega) (by omega) (by simp) (fun v hv => by
      simp only [List.mem_cons, List.not_mem_nil, or_false] at hv
      rcases hv with rfl | rfl
      · exact u64_of (by omega) (by omega)
      · exact u64_of (by omega) (by omega)) (row_new h b1 [1937075568, P] #[.int .u64 1937075568, .int .u64 P] rfl)
  have KLH := Lib.hid KL; have B2 := Lib.hid b2; have HW := Lib.hid hW
  clear KL b2 hW b1 h hev hP
  unfold Fp.ptr at KLH ⊢
  go_enter Tryz.func46, Tryz.ntmps46
  go_upto_region 1 with fail
  rw [HW.out]
  have k0 : W.cell? ⟨w.heap.size, 0, none⟩ = some (.int .i64 P) := by rw [← HW.out]; exact (Cells.new w _ _).cell 0
  go_wp2_with fail
  refine (KLH.out).mono ?_
  rintro e w2 ⟨rfl, hg⟩
  have HG := Lib.hid hg
  clear hg KLH k0
  go_wp2
  go_ret
  exact ⟨rfl, HG.out.from B2.out⟩

set_option maxRecDepth 100000 in
set_option maxHeartbeats 2000000 in
theorem switch_dev {w : World} {f : Fp} {σ : St} (h : Dev w f σ) (e k : Int) (h0 : 0 ≤ e) (h1 : e ≤ 1099511627776) (hev : σ.ev + 1000 < 4611686018427387904) :
    Calls Tryz.prog 45 #[f.ptr, .int .i64 e, .int .i64 k] w fun en w' => en = .returned (.int .i64 (runS (layA 2 [rootV e k]) σ).2) ∧ Goes w f (runS (layA 2 [rootV e k]) σ).1 w' := by
  have hu : U64 (rootV e k) := by unfold rootV; split <;> exact WalkArith.wf_u64 (by omega)
  have KR := Lib.hid (gRoot e k h0 h1 w)
  obtain ⟨x, hx⟩ : ∃ x, rootV e k = x := ⟨_, rfl⟩
  rw [hx] at hu KR ⊢
  have KL := fun (W : World) (b1 : Below w.heap.size w W) => lay_dev (h.below (b1.alloc b1.size (.cells #[.int .u64 x] 31))) 2 (some ⟨W.heap.size, 0, none⟩) 1 [x] (by simp only [List.length_cons, List.length_nil]; omega) (by omega) (by omega) (by simp) (fun v hv => by rw [List.mem_singleton.1 hv]; exact hu) (row_new h b1 [x] #[.int .u64 x] rfl)
  have KLH := Lib.hid KL
  clear KL h hev hu hx
  unfold Fp.ptr at KLH ⊢
  go_enter Tryz.func45, Tryz.ntmps45
  go_wp2_with fail
  refine (KR.out).mono ?_
  rintro en w2 hg
  obtain ⟨rfl, b2⟩ := hg.below
  have B2 := Lib.hid b2
  clear hg b2 KR
  go_wp2_with fail
  refine (KLH.out w2 B2.out).mono ?_
  rintro en w3 ⟨rfl, hg⟩
  have HG := Lib.hid hg
  clear hg KLH
  go_wp2
  go_ret
  exact ⟨rfl, HG.out.from (B2.out.alloc B2.out.size _)⟩