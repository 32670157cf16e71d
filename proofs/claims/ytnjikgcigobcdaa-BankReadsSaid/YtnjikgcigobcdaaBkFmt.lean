import Derived.Test.YtnjikgcigobcdaaBkMak
namespace Go.Proofs.Ytnjikgcigobcdaa
open Wd Pm Go.Maps Go.RowKit Go.Sort
set_option linter.unusedVariables false
set_option linter.unusedSectionVars false

theorem row_new {w W : World} {f : Fp} {σ : St} (h : Dev w f σ) (b : Below w.heap.size w W) (l : List Int) (arr : Array Value) (ha : arr.toList = l.map VU64) : RowO (W.alloc (.cells arr 49)) f (some ⟨W.heap.size, 0, none⟩) l := by
  have hr := Row.of_cells (B := (W.alloc (.cells arr 49)).heap.size) (Cells.new W 49 arr) (by simp)
  have hs : arr.size = l.length := by rw [← Array.length_toList, ha, List.length_map]
  rw [ha, hs] at hr
  exact ⟨hr, fun b' o m e _ => by cases e; exact h.out b.size⟩
set_option maxRecDepth 100000 in
set_option maxHeartbeats 2000000 in
theorem format_dev {w : World} {f : Fp} {σ : St} {P B I L D : Int} (h : Dev w f σ) (hP : 0 ≤ P ∧ P ≤ 10000000) (hev : σ.ev + 1000 < 4611686018427387904) :
    Calls Try.prog 22 #[f.ptr, .agg #[.int .i64 P, .int .i64 B, .int .i64 I, .int .i64 L, .int .i64 D]] w fun e w' => e = .returned (.int .i64 (runS (layA 0 [1937075568, P]) σ).2) ∧ Goes w f (runS (layA 0 [1937075568, P]) σ).1 w' := by
  have q2 : IntKind.u64.wrap P = P := by rw [IntKind.wrap_u64]; omega
  have b1 : Below w.heap.size w (w.alloc (.cells #[.int .i64 P, .int .i64 B, .int .i64 I, .int .i64 L, .int .i64 D] 28)) := (Below.refl _ _).alloc (Nat.le_refl _) _
  obtain ⟨W, hW⟩ : ∃ W, w.alloc (.cells #[.int .i64 P, .int .i64 B, .int .i64 I, .int .i64 L, .int .i64 D] 28) = W := ⟨_, rfl⟩
  rw [hW] at b1
  have b2 : Below w.heap.size w (W.alloc (.cells #[.int .u64 1937075568, .int .u64 P] 49)) := b1.alloc b1.size _
  have KL := lay_dev (h.below b2) 0 (some ⟨W.heap.size, 0, none⟩) 2 [1937075568, P] (by simp only [List.length_cons, List.length_nil]; omega) (by omega) (by omega) (by simp) (fun v hv => by
      simp only [List.mem_cons, List.not_mem_nil, or_false] at hv
      rcases hv with rfl | rfl
      · exact u64_of (by omega) (by omega)
      · exact u64_of (by omega) (by omega)) (row_new h b1 [1937075568, P] #[.int .u64 1937075568, .int .u64 P] rfl)
  have KLH := Lib.hid KL; have B2 := Lib.hid b2; have HW := Lib.hid hW
  clear KL b2 hW b1 h hev hP
  unfold Fp.ptr at KLH ⊢
  go_enter Try.func22, Try.ntmps22
  go_upto_region 1 with fail
  rw [HW.out]
  have k0 : W.cell? ⟨w.heap.size, 0, none⟩ = some (.int .i64 P) := by rw [← HW.out]; exact (Cells.new w _ _).cell 0
  go_wp2_with fail
  refine (KLH.out).mono ?_
  rintro e w2 ⟨rfl, hg⟩
  have HG := Lib.hid hg
  clear hg KLH k0
  go_wp2
  go_ret
  exact ⟨rfl, HG.out.from B2.out⟩
set_option maxRecDepth 100000 in
set_option maxHeartbeats 2000000 in
theorem switch_dev {w : World} {f : Fp} {σ : St} (h : Dev w f σ) (e k : Int) (h0 : 0 ≤ e) (h1 : e ≤ 1099511627776) (hev : σ.ev + 1000 < 4611686018427387904) :
    Calls Try.prog 17 #[f.ptr, .int .i64 e, .int .i64 k] w fun en w' => en = .returned (.int .i64 (runS (layA 2 [rootV e k]) σ).2) ∧ Goes w f (runS (layA 2 [rootV e k]) σ).1 w' := by
  have hu : U64 (rootV e k) := by unfold rootV; split <;> exact WalkArith.wf_u64 (by omega)
  have KR := Lib.hid (gRoot e k h0 h1 w)
  obtain ⟨x, hx⟩ : ∃ x, rootV e k = x := ⟨_, rfl⟩
  rw [hx] at hu KR ⊢
  have KL := fun (W : World) (b1 : Below w.heap.size w W) => lay_dev (h.below (b1.alloc b1.size (.cells #[.int .u64 x] 49))) 2 (some ⟨W.heap.size, 0, none⟩) 1 [x] (by simp only [List.length_cons, List.length_nil]; omega) (by omega) (by omega) (by simp) (fun v hv => by rw [List.mem_singleton.1 hv]; exact hu) (row_new h b1 [x] #[.int .u64 x] rfl)
  have KLH := Lib.hid KL
  clear KL h hev hu hx
  unfold Fp.ptr at KLH ⊢
  go_enter Try.func17, Try.ntmps17
  go_wp2_with fail
  refine (KR.out).mono ?_
  rintro en w2 hg
  obtain ⟨rfl, b2⟩ := hg.below
  have B2 := Lib.hid b2
  clear hg b2 KR
  go_wp2_with fail
  refine (KLH.out w2 B2.out).mono ?_
  rintro en w3 ⟨rfl, hg⟩
  have HG := Lib.hid hg
  clear hg KLH
  go_wp2
  go_ret
  exact ⟨rfl, HG.out.from (B2.out.alloc B2.out.size _)⟩
set_option maxRecDepth 100000 in
set_option maxHeartbeats 2000000 in
theorem root_dev {w : World} {f : Fp} {σ : St} (h : Dev w f σ) (hd : σ.dead = false) (hn : 2 < σ.n) (r : Int) (hr : σ.loadVal 2 = r) (h0 : 0 ≤ r) (h1 : r / 2 ≤ 1099511627776) :
    Calls Try.prog 14 #[f.ptr] w fun en w' => en = .returned (.tuple #[.int .i64 (r / 2), .int .i64 (r % 2), .int .i64 0]) ∧ Below w.heap.size w w' := by
  have hl := load_dev h 2
  rw [loadErr_ok hd (by omega) (by omega), hr] at hl
  have KL := Lib.hid hl
  have KE := Lib.hid (gEpoch_yes r h0 h1 w)
  obtain ⟨e, he⟩ : ∃ e, r / 2 = e := ⟨_, rfl⟩
  obtain ⟨k, hk⟩ : ∃ k, r % 2 = k := ⟨_, rfl⟩
  rw [he, hk] at KE ⊢
  clear hl h hd hr he hk
  unfold Fp.ptr at KL ⊢
  go_enter Try.func14, Try.ntmps14
  go_wp2_with fail
  refine (KL.out).mono ?_
  rintro en w2 ⟨rfl, rfl⟩
  clear KL
  go_wp2_with fail
  refine (KE.out).mono ?_
  rintro en w2 hg
  obtain ⟨rfl, b2⟩ := hg.below
  have B2 := Lib.hid b2
  clear hg b2 KE
  go_wp2
  go_ret3
  exact ⟨rfl, B2.out⟩
set_option maxRecDepth 100000 in
set_option maxHeartbeats 4000000 in
theorem find_dev {w : World} {f : Fp} {σ : St} (h : Dev w f σ) (hd : σ.dead = false) (p : Int) (hp : 64 ≤ p ∧ p ≤ 1048576) (hn : (σ.n : Int) = 32 * p) (hm : σ.loadVal 0 = 1937075568) (hpg : σ.loadVal 1 = p) :
    Calls Try.prog 13 #[f.ptr] w fun en w' => en = .returned (.tuple #[geomV p, .int .i64 0]) ∧ Below w.heap.size w w' := by
  have b1 : Below w.heap.size w (w.alloc (.cells #[.int .i64 0, .int .i64 0, .int .i64 0, .int .i64 0, .int .i64 0] 28)) := (Below.refl _ _).alloc (Nat.le_refl _) _
  have C2 := Lib.hid (Cells.new w 28 #[.int .i64 0, .int .i64 0, .int .i64 0, .int .i64 0, .int .i64 0])
  obtain ⟨W, hW⟩ : ∃ W, w.alloc (.cells #[.int .i64 0, .int .i64 0, .int .i64 0, .int .i64 0, .int .i64 0] 28) = W := ⟨_, rfl⟩
  rw [hW] at b1 C2
  have KL := load_many (h.below b1) hd 0 2 (by omega) (by omega)
  have e2 : ldVals σ 0 2 = [1937075568, p] := by
    rw [ldVals_succ, ldVals_succ]
    show [] ++ [σ.loadVal (0 + ((0 : Nat) : Int))] ++ [σ.loadVal (0 + ((1 : Nat) : Int))] = _
    have z0 : (0 : Int) + ((0 : Nat) : Int) = 0 := rfl
    have z1 : (0 : Int) + ((1 : Nat) : Int) = 1 := rfl
    rw [z0, z1, hm, hpg]
    rfl
  have KLH := Lib.hid KL; have E2 := Lib.hid e2; have B1 := Lib.hid b1; have HW := Lib.hid hW; have H := Lib.hid h; have HN := Lib.hid hn
  have q1 : IntKind.i64.wrap p = p := wrapI (by omega) (by omega)
  clear KL e2 b1 hW h hd hm hpg hn
  unfold Fp.ptr at KLH ⊢
  go_enter Try.func13, Try.ntmps13
  go_upto_region 1 with fail
  rw [HW.out]
  go_wp2_with fail
  refine (KLH.out).mono ?_
  rintro e w3 ⟨A, c, rfl, hr, hA, b3⟩
  rw [E2.out] at hr
  obtain ⟨bb, o, rfl, hbb, hc⟩ := hr.2 (by omega)
  have g0 := hc 0 (by simp)
  have g1 := hc 1 (by simp)
  simp only [List.map_cons, List.map_nil, List.getElem_cons_zero, List.getElem_cons_succ, VU64, Nat.add_zero] at g0 g1
  have C3 := Lib.hid (C2.out.below' b3); have B3 := Lib.hid (B1.out.trans (b3.mono B1.out.size))
  clear hbb hr hA b3 hc KLH C2
  go_upto_region 4 with fail
  go_quiet (fail)
  clear g0 g1
  have C4 := Lib.hid (show Cells (w3.drewN nq) w.heap.size 28 _ from C3.out)
  have B4 := Lib.hid (show Below w.heap.size w (w3.drewN nq) from below_drewN B3.out nq)
  obtain ⟨w4, hw4⟩ : ∃ w4, w3.drewN nq = w4 := ⟨_, rfl⟩
  rw [hw4] at C4 B4 ⊢
  clear hw4 C3 B3
  go_wp2_with fail
  refine (geomOf_yes p hp.1 hp.2 _).mono ?_
  rintro en w5 hg
  obtain ⟨rfl, b5⟩ := hg.below
  have C5 := Lib.hid (C4.out.below' b5); have B5 := Lib.hid (B4.out.trans (b5.mono B4.out.size))
  clear hg b5 C4 B4
  unfold geomV
  have CN := Lib.hid (Cells.new w5 28 #[.int .i64 p, .int .i64 (bankG p), .int .i64 (imageG p), .int .i64 (logG p), .int .i64 (dataG p)])
  have B6 := Lib.hid (B5.out.alloc B5.out.size (.cells #[.int .i64 p, .int .i64 (bankG p), .int .i64 (imageG p), .int .i64 (logG p), .int .i64 (dataG p)] 28))
  have C6 := Lib.hid (C5.out.alloc (.cells #[.int .i64 p, .int .i64 (bankG p), .int .i64 (imageG p), .int .i64 (logG p), .int .i64 (dataG p)] 28))
  obtain ⟨w6, hw6⟩ : ∃ w6, w5.alloc (.cells #[.int .i64 p, .int .i64 (bankG p), .int .i64 (imageG p), .int .i64 (logG p), .int .i64 (dataG p)] 28) = w6 := ⟨_, rfl⟩
  rw [hw6] at CN B6 C6
  have HW6 := Lib.hid hw6
  clear hw6 C5 B5
  go_upto_region 6 with fail
  rw [HW6.out]
  have k0 : w6.cell? ⟨w5.heap.size, 0, none⟩ = some (.int .i64 p) := CN.out.cell 0
  have k1 : w6.cell? ⟨w5.heap.size, 1, none⟩ = some (.int .i64 (bankG p)) := CN.out.cell 1
  have k2 : w6.cell? ⟨w5.heap.size, 2, none⟩ = some (.int .i64 (imageG p)) := CN.out.cell 2
  have k3 : w6.cell? ⟨w5.heap.size, 3, none⟩ = some (.int .i64 (logG p)) := CN.out.cell 3
  have k4 : w6.cell? ⟨w5.heap.size, 4, none⟩ = some (.int .i64 (dataG p)) := CN.out.cell 4
  go_wp2_with fail
  refine (gWords p (bankG p) (imageG p) (logG p) (dataG p) (by omega) (by omega) _).mono ?_
  rintro en w7 hg
  obtain ⟨rfl, b7⟩ := hg.below
  have CN7 := Lib.hid (CN.out.below' b7); have B7 := Lib.hid (B6.out.trans (b7.mono B6.out.size)); have C7 := Lib.hid (C6.out.below' b7)
  have KW := Lib.hid (words_dev (H.out.below B7.out))
  rw [HN.out] at KW
  unfold Fp.ptr at KW
  clear hg b7 k0 k1 k2 k3 k4 CN B6 C6
  go_wp2_with fail
  refine (KW.out).mono ?_
  rintro en w8 ⟨rfl, rfl⟩
  have k0 : w7.cell? ⟨w5.heap.size, 0, none⟩ = some (.int .i64 p) := CN7.out.cell 0
  have k1 : w7.cell? ⟨w5.heap.size, 1, none⟩ = some (.int .i64 (bankG p)) := CN7.out.cell 1
  have k2 : w7.cell? ⟨w5.heap.size, 2, none⟩ = some (.int .i64 (imageG p)) := CN7.out.cell 2
  have k3 : w7.cell? ⟨w5.heap.size, 3, none⟩ = some (.int .i64 (logG p)) := CN7.out.cell 3
  have k4 : w7.cell? ⟨w5.heap.size, 4, none⟩ = some (.int .i64 (dataG p)) := CN7.out.cell 4
  have z0 := C7.out.free 0
  have z1 := C7.out.free 1
  have z2 := C7.out.free 2
  have z3 := C7.out.free 3
  have z4 := C7.out.free 4
  have x0 := C7.out.cell 0
  have x1 := C7.out.cell 1
  have x2 := C7.out.cell 2
  have x3 := C7.out.cell 3
  have x4 := C7.out.cell 4
  clear KW
  go_wp2
  have cc := ((((C7.out.set 0 (.int .i64 p)).set 1 (.int .i64 (bankG p))).set 2 (.int .i64 (imageG p))).set 3 (.int .i64 (logG p))).set 4 (.int .i64 (dataG p))
  have d0 := cc.cell 0
  have d1 := cc.cell 1
  have d2 := cc.cell 2
  have d3 := cc.cell 3
  have d4 := cc.cell 4
  simp at d0 d1 d2 d3 d4
  have hsz := C7.out.lt
  exact bodyPost_ret (v := .tuple #[.agg #[.int .i64 p, .int .i64 (bankG p), .int .i64 (imageG p), .int .i64 (logG p), .int .i64 (dataG p)], .int .i64 0]) (by simp [results, Try.results13, go_sem, d0, d1, d2, d3, d4]) rfl ⟨rfl, ((((B7.out.setCell (by simp) _).setCell (by simp) _).setCell (by simp) _).setCell (by simp) _).setCell (by simp) _⟩
end Go.Proofs.Ytnjikgcigobcdaa
