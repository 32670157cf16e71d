import Derived.Test.YtnjikgcigobcdaaGreatBkSam
import Derived.Test.YtnjikgcigobcdaaGreatMC
import Derived.BigRegion
namespace Go.Proofs.YtnjikgcigobcdaaGreat
open Wd Pm Go.Maps Go.ChangeShapes Go.WideShapes Go.RowKit Go.Sort
set_option linter.unusedVariables false
set_option linter.unusedSectionVars false

/-! a device, made with a picture and a log -/
def good (p : Int) : Prop := 64 ≤ p ∧ p ≤ 100
theorem good_bd {p : Int} (h : good p) : (0 ≤ bankG p ∧ bankG p ≤ 200000) ∧ (0 ≤ imageG p ∧ imageG p ≤ 1000) ∧ (0 ≤ logG p ∧ logG p ≤ 1000) ∧ 34 + imageG p + logG p ≤ 32 * p := by
  unfold good at h
  unfold bankG imageG logG
  omega
structure Found (σ : St) (p : Int) (image log : List Int) : Prop where
  k : Kept σ (imageG p) (logG p) image log
  n : (σ.n : Int) = 32 * p
  ar : σ.ar = 0
  ev : σ.ev ≤ 1000000
  m : σ.st 0 = 1937075568
  p : σ.st 1 = p
  r : σ.st 2 = 2
def RowB (w : World) (A : Option Addr) (l : List Int) : Prop := Row w w.heap.size A l.length (l.map VU64)
theorem RowB.o {w w' : World} {f : Fp} {A : Option Addr} {l : List Int} (h : RowB w A l) (b : Below w.heap.size w w') (fr : Fresh w f) : RowO w' f A l :=
  ⟨(Row.below h b).more b.size, fun bb o m e hp hm => by
    obtain ⟨b', o', e', hb, _⟩ := h.2 hp
    rw [e] at e'
    cases e'
    have := fr _ hm
    omega⟩
def MadeNo (w : World) (e : Ending) (w' : World) : Prop := (∃ a0 a1 a2 a3 a4, e = .returned (.tuple #[.pointer none, .agg #[.int .i64 a0, .int .i64 a1, .int .i64 a2, .int .i64 a3, .int .i64 a4], .bool false])) ∧ Below w.heap.size w w'
def MadeOk (w : World) (p : Int) (image log : List Int) (e : Ending) (w' : World) : Prop :=
  ∃ f, e = .returned (.tuple #[f.ptr, .agg #[.int .i64 p, .int .i64 (bankG p), .int .i64 (imageG p), .int .i64 (logG p), .int .i64 (dataG p)], .bool (decide ((image.length : Int) ≤ imageG p ∧ (log.length : Int) ≤ logG p))]) ∧ Below w.heap.size w w' ∧
    ((image.length : Int) ≤ imageG p ∧ (log.length : Int) ≤ logG p → ∃ σ, Dev w' f σ ∧ Fresh w f ∧ Found σ p image log)
theorem goes_step {w w1 w2 : World} {f : Fp} {σ σ' : St} (d : Dev w1 f σ) (g : Goes w1 f σ' w2) (fr : Fresh w f) (b : Below w.heap.size w w1) {n7 n9 : Nat} {c7 c9 : Array Value} (h7 : Cells w1 n7 49 c7) (h9 : Cells w1 n9 49 c9) :
    ∃ f', f'.p = f.p ∧ Dev w2 f' σ' ∧ Fresh w f' ∧ Below w.heap.size w w2 ∧ Cells w2 n7 49 c7 ∧ Cells w2 n9 49 c9 := by
  obtain ⟨f', d', hp, hb, t⟩ := g
  refine ⟨f', hp, d', fun k hk => ?_, b.trans (t.below (.inr b.size) fr), cells_turn h7 (dev_out d h7 (by decide) (by decide)) t, cells_turn h9 (dev_out d h9 (by decide) (by decide)) t⟩
  rcases hb k hk with h | h
  · exact fr k h
  · exact Nat.le_trans b.size h
set_option maxRecDepth 100000 in
set_option maxHeartbeats 2000000 in
theorem made_low (p : Int) (h : p < 64 ∨ 1048576 < p) (v1 v2 : Value) (w : World) : Calls Tryz.prog 20 #[.int .i64 p, v1, v2] w (MadeNo w) := by
  have b1 : Below w.heap.size w (w.alloc (.cells #[.int .i64 0, .int .i64 0, .int .i64 0, .int .i64 0, .int .i64 0] 49)) := (Below.refl _ _).alloc (Nat.le_refl _) _
  have C1 := Lib.hid (Cells.new w 49 #[.int .i64 0, .int .i64 0, .int .i64 0, .int .i64 0, .int .i64 0])
  go_enter Tryz.func20, Tryz.ntmps20
  go_wp2_with fail
  refine (geomOf_no p h _).mono ?_
  rintro en w2 hg
  obtain ⟨rfl, b2⟩ := hg.below
  have B2 := Lib.hid (b1.trans (b2.mono b1.size)); have C2 := Lib.hid (C1.out.below' b2)
  clear hg b2 b1 C1
  unfold noneV
  have B3 := Lib.hid (B2.out.alloc B2.out.size (.cells #[.int .i64 0, .int .i64 0, .int .i64 0, .int .i64 0, .int .i64 0] 49)); have C3 := Lib.hid (C2.out.alloc (.cells #[.int .i64 0, .int .i64 0, .int .i64 0, .int .i64 0, .int .i64 0] 49)); have CN := Lib.hid (Cells.new w2 49 #[.int .i64 0, .int .i64 0, .int .i64 0, .int .i64 0, .int .i64 0])
  go_upto_region 3 with fail
  obtain ⟨w3, hw3⟩ : ∃ w3, w2.alloc (.cells #[.int .i64 0, .int .i64 0, .int .i64 0, .int .i64 0, .int .i64 0] 49) = w3 := ⟨_, rfl⟩
  rw [hw3] at B3 C3 CN ⊢
  obtain ⟨n7, h7⟩ : ∃ n, w.heap.size = n := ⟨_, rfl⟩
  obtain ⟨n9, h9⟩ : ∃ n, w2.heap.size = n := ⟨_, rfl⟩
  rw [h7] at C3 ⊢
  rw [h9] at CN ⊢
  have HLE := Lib.hid (show w.heap.size ≤ n7 by omega)
  clear hw3 h7 h9 B2 C2 h
  have k0 := CN.out.cell 0
  have x0 := C3.out.cell 0
  have z0 := C3.out.free 0
  have k1 := CN.out.cell 1
  have x1 := C3.out.cell 1
  have z1 := C3.out.free 1
  have k2 := CN.out.cell 2
  have x2 := C3.out.cell 2
  have z2 := C3.out.free 2
  have k3 := CN.out.cell 3
  have x3 := C3.out.cell 3
  have z3 := C3.out.free 3
  have k4 := CN.out.cell 4
  have x4 := C3.out.cell 4
  have z4 := C3.out.free 4
  go_region
  go_wp2
  have cc := (((((C3.out.set 0 (.int .i64 0)).set 1 (.int .i64 0)).set 2 (.int .i64 0)).set 3 (.int .i64 0)).set 4 (.int .i64 0))
  have d0 := cc.cell 0
  have d1 := cc.cell 1
  have d2 := cc.cell 2
  have d3 := cc.cell 3
  have d4 := cc.cell 4
  simp at d0 d1 d2 d3 d4
  have hsz := C3.out.lt
  exact bodyPost_ret (v := .tuple #[.pointer none, .agg #[.int .i64 0, .int .i64 0, .int .i64 0, .int .i64 0, .int .i64 0], .bool false]) (by simp [results, Tryz.results20, go_sem, d0, d1, d2, d3, d4]) rfl (⟨⟨_, _, _, _, _, rfl⟩, below_drewN (((((B3.out.setCell HLE.out _).setCell HLE.out _).setCell HLE.out _).setCell HLE.out _).setCell HLE.out _) 1⟩)
set_option maxRecDepth 100000 in
set_option maxHeartbeats 2000000 in
theorem made_high (p : Int) (h : 100 < p ∧ p ≤ 1048576) (v1 v2 : Value) (w : World) : Calls Tryz.prog 20 #[.int .i64 p, v1, v2] w (MadeNo w) := by
  have b1 : Below w.heap.size w (w.alloc (.cells #[.int .i64 0, .int .i64 0, .int .i64 0, .int .i64 0, .int .i64 0] 49)) := (Below.refl _ _).alloc (Nat.le_refl _) _
  have C1 := Lib.hid (Cells.new w 49 #[.int .i64 0, .int .i64 0, .int .i64 0, .int .i64 0, .int .i64 0])
  have q1 : decide (p > 100) = true := by simp; omega
  go_enter Tryz.func20, Tryz.ntmps20
  go_wp2_with fail
  refine (geomOf_yes p (by omega) h.2 _).mono ?_
  rintro en w2 hg
  obtain ⟨rfl, b2⟩ := hg.below
  have B2 := Lib.hid (b1.trans (b2.mono b1.size)); have C2 := Lib.hid (C1.out.below' b2)
  clear hg b2 b1 C1
  unfold geomV
  have B3 := Lib.hid (B2.out.alloc B2.out.size (.cells #[.int .i64 p, .int .i64 (bankG p), .int .i64 (imageG p), .int .i64 (logG p), .int .i64 (dataG p)] 49)); have C3 := Lib.hid (C2.out.alloc (.cells #[.int .i64 p, .int .i64 (bankG p), .int .i64 (imageG p), .int .i64 (logG p), .int .i64 (dataG p)] 49)); have CN := Lib.hid (Cells.new w2 49 #[.int .i64 p, .int .i64 (bankG p), .int .i64 (imageG p), .int .i64 (logG p), .int .i64 (dataG p)])
  go_upto_region 3 with fail
  obtain ⟨w3, hw3⟩ : ∃ w3, w2.alloc (.cells #[.int .i64 p, .int .i64 (bankG p), .int .i64 (imageG p), .int .i64 (logG p), .int .i64 (dataG p)] 49) = w3 := ⟨_, rfl⟩
  rw [hw3] at B3 C3 CN ⊢
  obtain ⟨n7, h7⟩ : ∃ n, w.heap.size = n := ⟨_, rfl⟩
  obtain ⟨n9, h9⟩ : ∃ n, w2.heap.size = n := ⟨_, rfl⟩
  rw [h7] at C3 ⊢
  rw [h9] at CN ⊢
  have HLE := Lib.hid (show w.heap.size ≤ n7 by omega)
  clear hw3 h7 h9 B2 C2 h
  have k0 := CN.out.cell 0
  have x0 := C3.out.cell 0
  have z0 := C3.out.free 0
  have k1 := CN.out.cell 1
  have x1 := C3.out.cell 1
  have z1 := C3.out.free 1
  have k2 := CN.out.cell 2
  have x2 := C3.out.cell 2
  have z2 := C3.out.free 2
  have k3 := CN.out.cell 3
  have x3 := C3.out.cell 3
  have z3 := C3.out.free 3
  have k4 := CN.out.cell 4
  have x4 := C3.out.cell 4
  have z4 := C3.out.free 4
  go_region
  go_wp2
  have cc := (((((C3.out.set 0 (.int .i64 p)).set 1 (.int .i64 (bankG p))).set 2 (.int .i64 (imageG p))).set 3 (.int .i64 (logG p))).set 4 (.int .i64 (dataG p)))
  have d0 := cc.cell 0
  have d1 := cc.cell 1
  have d2 := cc.cell 2
  have d3 := cc.cell 3
  have d4 := cc.cell 4
  simp at d0 d1 d2 d3 d4
  have hsz := C3.out.lt
  exact bodyPost_ret (v := .tuple #[.pointer none, .agg #[.int .i64 p, .int .i64 (bankG p), .int .i64 (imageG p), .int .i64 (logG p), .int .i64 (dataG p)], .bool false]) (by simp [results, Tryz.results20, go_sem, d0, d1, d2, d3, d4]) rfl (⟨⟨_, _, _, _, _, rfl⟩, below_drewN (((((B3.out.setCell HLE.out _).setCell HLE.out _).setCell HLE.out _).setCell HLE.out _).setCell HLE.out _) 1⟩)
set_option maxRecDepth 100000 in
set_option maxHeartbeats 8000000 in
theorem made_ok (p : Int) (hg : good p) (A : Option Addr) (c : Nat) (image : List Int) (A2 : Option Addr) (c2 : Nat) (log : List Int) (w : World) (r1 : RowB w A image) (u1 : ∀ v ∈ image, U64 v) (m1 : image.length ≤ 1000) (r2 : RowB w A2 log) (u2 : ∀ v ∈ log, U64 v) (m2 : log.length ≤ 1000) :
    Calls Tryz.prog 20 #[.int .i64 p, .slice A image.length c, .slice A2 log.length c2] w (MadeOk w p image log) := by
  obtain ⟨hB, hI, hL, hsz⟩ := good_bd hg
  have h64 : 64 ≤ p ∧ p ≤ 1048576 := ⟨hg.1, by have := hg.2; omega⟩
  have q1 : decide (p > 100) = false := by have := hg.2; simp; omega
  have b1 : Below w.heap.size w (w.alloc (.cells #[.int .i64 0, .int .i64 0, .int .i64 0, .int .i64 0, .int .i64 0] 49)) := (Below.refl _ _).alloc (Nat.le_refl _) _
  have C1 := Lib.hid (Cells.new w 49 #[.int .i64 0, .int .i64 0, .int .i64 0, .int .i64 0, .int .i64 0])
  have R1 := Lib.hid r1; have R2 := Lib.hid r2; have U1 := Lib.hid u1; have U2 := Lib.hid u2; have M1 := Lib.hid m1; have M2 := Lib.hid m2; have HSZ := Lib.hid hsz; have HG := Lib.hid hg
  obtain ⟨n, hn⟩ : ∃ n, image.length = n := ⟨_, rfl⟩
  obtain ⟨m, hm⟩ : ∃ m, log.length = m := ⟨_, rfl⟩
  rw [hn, hm]
  have HN := Lib.hid hn; have HM := Lib.hid hm
  clear r1 r2 u1 u2 m1 m2 hsz hg hn hm
  go_enter Tryz.func20, Tryz.ntmps20
  go_wp2_with fail
  refine (geomOf_yes p h64.1 h64.2 _).mono ?_
  rintro en w2 hg
  obtain ⟨rfl, b2⟩ := hg.below
  have B2 := Lib.hid (b1.trans (b2.mono b1.size)); have C2 := Lib.hid (C1.out.below' b2)
  clear hg b2 b1 C1
  unfold geomV
  have B3 := Lib.hid (B2.out.alloc B2.out.size (.cells #[.int .i64 p, .int .i64 (bankG p), .int .i64 (imageG p), .int .i64 (logG p), .int .i64 (dataG p)] 49)); have C3 := Lib.hid (C2.out.alloc (.cells #[.int .i64 p, .int .i64 (bankG p), .int .i64 (imageG p), .int .i64 (logG p), .int .i64 (dataG p)] 49)); have CN := Lib.hid (Cells.new w2 49 #[.int .i64 p, .int .i64 (bankG p), .int .i64 (imageG p), .int .i64 (logG p), .int .i64 (dataG p)])
  go_upto_region 4 with fail
  obtain ⟨w3, hw3⟩ : ∃ w3, w2.alloc (.cells #[.int .i64 p, .int .i64 (bankG p), .int .i64 (imageG p), .int .i64 (logG p), .int .i64 (dataG p)] 49) = w3 := ⟨_, rfl⟩
  rw [hw3] at B3 C3 CN ⊢
  obtain ⟨n7, h7⟩ : ∃ n, w.heap.size = n := ⟨_, rfl⟩
  obtain ⟨n9, h9⟩ : ∃ n, w2.heap.size = n := ⟨_, rfl⟩
  rw [h7] at C3 ⊢
  rw [h9] at CN ⊢
  have HLE := Lib.hid (show w.heap.size ≤ n7 by omega)
  clear hw3 h7 h9 B2 C2
  have k0 := CN.out.cell 0
  have k1 := CN.out.cell 1
  have k2 := CN.out.cell 2
  have k3 := CN.out.cell 3
  have k4 := CN.out.cell 4
  go_wp2_with fail
  refine (gWords p (bankG p) (imageG p) (logG p) (dataG p) (by omega) (by omega) _).mono ?_
  rintro en w4 hg
  obtain ⟨rfl, b4⟩ := hg.below
  have B4 := Lib.hid (B3.out.trans (b4.mono B3.out.size)); have C4 := Lib.hid (C3.out.below' b4); have D4 := Lib.hid (CN.out.below' b4)
  clear hg b4 k0 k1 k2 k3 k4 B3 C3 CN
  go_wp2_with fail
  refine (new_dev (32 * p) w4).mono ?_
  rintro en w5 ⟨f, rfl, d5, fr5, b5⟩
  have hcl : clampN (32 * p) = (32 * p).toNat := by unfold clampN; omega
  rw [hcl] at d5
  have Fr5 := Lib.hid (show Fresh w f from fun k hk => Nat.le_trans B4.out.size (fr5 k hk))
  have B5 := Lib.hid (B4.out.trans (b5.mono B4.out.size)); have C5 := Lib.hid (C4.out.below' b5); have D5 := Lib.hid (D4.out.below' b5); have V5 := Lib.hid d5
  clear d5 fr5 b5 B4 C4 D4 hcl
  unfold Fp.ptr
  have KM := Lib.hid (make_dev (P := p) (L := logG p) (D := dataG p) V5.out hB ⟨hI.1, by omega⟩ A c image (R1.out.o B5.out Fr5.out) U1.out (by have := M1.out; omega) (by have := M1.out; show (0 : Int) + _ < _; omega))
  rw [HN.out] at KM
  unfold Fp.ptr at KM
  have k0 := D5.out.cell 0
  have k1 := D5.out.cell 1
  have k2 := D5.out.cell 2
  have k3 := D5.out.cell 3
  have k4 := D5.out.cell 4
  go_wp2_with fail
  refine (KM.out).mono ?_
  rintro en w6 ⟨rfl, g6⟩
  obtain ⟨f6, hp6, d6, fr6, b6, c6, e6⟩ := goes_step V5.out g6 Fr5.out B5.out C5.out D5.out
  have Fr6 := Lib.hid fr6; have B6 := Lib.hid b6; have C6 := Lib.hid c6; have D6 := Lib.hid e6; have V6 := Lib.hid d6; have P6 := Lib.hid hp6
  clear g6 d6 fr6 b6 c6 e6 hp6 KM B5 C5 D5 V5 Fr5 k0 k1 k2 k3 k4
  by_cases hfit : (image.length : Int) ≤ imageG p
  rotate_left
  · have NF := Lib.hid hfit
    rw [make_full hfit] at V6 ⊢
    have hdec : decide ((n : Int) ≤ imageG p ∧ (m : Int) ≤ logG p) = false := decide_eq_false (fun h => hfit (by have := HN.out; omega))
    have HDEC := Lib.hid hdec
    clear hdec hfit
    go_upto_region 6 with fail
    have k0 := D6.out.cell 0
    have x0 := C6.out.cell 0
    have z0 := C6.out.free 0
    have k1 := D6.out.cell 1
    have x1 := C6.out.cell 1
    have z1 := C6.out.free 1
    have k2 := D6.out.cell 2
    have x2 := C6.out.cell 2
    have z2 := C6.out.free 2
    have k3 := D6.out.cell 3
    have x3 := C6.out.cell 3
    have z3 := C6.out.free 3
    have k4 := D6.out.cell 4
    have x4 := C6.out.cell 4
    have z4 := C6.out.free 4
    go_region
    go_wp2
    have cc := (((((C6.out.set 0 (.int .i64 p)).set 1 (.int .i64 (bankG p))).set 2 (.int .i64 (imageG p))).set 3 (.int .i64 (logG p))).set 4 (.int .i64 (dataG p)))
    have d0 := cc.cell 0
    have d1 := cc.cell 1
    have d2 := cc.cell 2
    have d3 := cc.cell 3
    have d4 := cc.cell 4
    simp at d0 d1 d2 d3 d4
    have hsz := C6.out.lt
    exact bodyPost_ret (v := .tuple #[.pointer (some ⟨f.p, 0, none⟩), .agg #[.int .i64 p, .int .i64 (bankG p), .int .i64 (imageG p), .int .i64 (logG p), .int .i64 (dataG p)], .bool false]) (by simp [results, Tryz.results20, go_sem, d0, d1, d2, d3, d4]) rfl (⟨f, by rw [HN.out, HM.out, HDEC.out]; rfl, below_drewN (((((B6.out.setCell HLE.out _).setCell HLE.out _).setCell HLE.out _).setCell HLE.out _).setCell HLE.out _) 1, fun h => by have h1 := NF.out; have h2 := h.1; omega⟩)
  obtain ⟨τ1, e1, kp1, ar1, n1, ev1⟩ := make_kept (σ := St.fresh (32 * p).toNat) (L := logG p) ⟨fun _ => rfl, fun _ => rfl, rfl⟩ rfl (by have := HSZ.out; show _ ≤ (((32 * p).toNat : Nat) : Int); omega) ⟨hI.1, by omega⟩ ⟨hL.1, by omega⟩ hfit
  rw [e1] at V6 ⊢
  have V6 := Lib.hid (show Dev w6 f6 τ1 from V6.out)
  have hev1 : τ1.ev ≤ 0 + (2 * image.length + 20) := ev1
  have hn1 : (τ1.n : Int) = 32 * p := by rw [n1]; show (((32 * p).toNat : Nat) : Int) = _; omega
  have KP1 := Lib.hid kp1; have AR1 := Lib.hid ar1; have N1 := Lib.hid hn1; have EV1 := Lib.hid hev1
  clear kp1 ar1 n1 ev1 e1 hev1 hn1
  have KA := Lib.hid (append_dev (P := p) (D := dataG p) V6.out KP1.out.bank hB A2 c2 log (R2.out.o B6.out Fr6.out) U2.out (by have := M2.out; omega) (by have := M1.out; have := M2.out; have := EV1.out; omega))
  unfold Fp.ptr at KA
  rw [P6.out, HM.out] at KA
  have k0 := D6.out.cell 0
  have k1 := D6.out.cell 1
  have k2 := D6.out.cell 2
  have k3 := D6.out.cell 3
  have k4 := D6.out.cell 4
  go_wp2_with fail
  refine (KA.out).mono ?_
  rintro en w7 ⟨rfl, g7⟩
  obtain ⟨f7, hp7, d7, fr7, b7, c7, e7⟩ := goes_step V6.out g7 Fr6.out B6.out C6.out D6.out
  have Fr7 := Lib.hid fr7; have B7 := Lib.hid b7; have C7 := Lib.hid c7; have D7 := Lib.hid e7; have V7 := Lib.hid d7; have P7 := Lib.hid (hp7.trans P6.out)
  clear g7 d7 fr7 b7 c7 e7 hp7 KA B6 C6 D6 V6 Fr6 P6 k0 k1 k2 k3 k4
  have HF : ¬ (log.length : Int) ≤ logG p → appR τ1 (imageG p) (logG p) ([] : List Int).length log = (τ1, 28) := fun h => append_full (by simpa using h)
  have HK2 : (log.length : Int) ≤ logG p → _ := fun h => append_kept (l := log) KP1.out AR1.out (by simpa using h)
  by_cases hfit2 : (log.length : Int) ≤ logG p
  rotate_left
  · have NF := Lib.hid hfit2
    rw [HF hfit2] at V7 ⊢
    have hdec : decide ((n : Int) ≤ imageG p ∧ (m : Int) ≤ logG p) = false := decide_eq_false (fun h => hfit2 (by have := HM.out; omega))
    have HDEC := Lib.hid hdec
    clear hdec HF HK2 hfit2
    go_upto_region 6 with fail
    have k0 := D7.out.cell 0
    have x0 := C7.out.cell 0
    have z0 := C7.out.free 0
    have k1 := D7.out.cell 1
    have x1 := C7.out.cell 1
    have z1 := C7.out.free 1
    have k2 := D7.out.cell 2
    have x2 := C7.out.cell 2
    have z2 := C7.out.free 2
    have k3 := D7.out.cell 3
    have x3 := C7.out.cell 3
    have z3 := C7.out.free 3
    have k4 := D7.out.cell 4
    have x4 := C7.out.cell 4
    have z4 := C7.out.free 4
    go_region
    go_wp2
    have cc := (((((C7.out.set 0 (.int .i64 p)).set 1 (.int .i64 (bankG p))).set 2 (.int .i64 (imageG p))).set 3 (.int .i64 (logG p))).set 4 (.int .i64 (dataG p)))
    have d0 := cc.cell 0
    have d1 := cc.cell 1
    have d2 := cc.cell 2
    have d3 := cc.cell 3
    have d4 := cc.cell 4
    simp at d0 d1 d2 d3 d4
    have hsz := C7.out.lt
    exact bodyPost_ret (v := .tuple #[.pointer (some ⟨f.p, 0, none⟩), .agg #[.int .i64 p, .int .i64 (bankG p), .int .i64 (imageG p), .int .i64 (logG p), .int .i64 (dataG p)], .bool false]) (by simp [results, Tryz.results20, go_sem, d0, d1, d2, d3, d4]) rfl (⟨f, by rw [HN.out, HM.out, HDEC.out]; rfl, below_drewN (((((B7.out.setCell HLE.out _).setCell HLE.out _).setCell HLE.out _).setCell HLE.out _).setCell HLE.out _) 1, fun h => by have h1 := NF.out; have h2 := h.2; omega⟩)
  obtain ⟨τ2, e2, kp2, ar2, n2, ev2, _⟩ := HK2 hfit2
  rw [e2] at V7 ⊢
  have V7 := Lib.hid (show Dev w7 f7 τ2 from V7.out)
  have hev2 : τ2.ev ≤ 5000 := by have := EV1.out; have := M1.out; have := M2.out; omega
  have hn2 : (τ2.n : Int) = 32 * p := by rw [n2]; exact N1.out
  obtain ⟨τ3, e3, q3⟩ := lay_laid kp2.c ar2 2 [2] (by omega) (by simp; omega)
  obtain ⟨τ4, e4, q4⟩ := lay_laid q3.c q3.ar 0 [1937075568, p] (by omega) (by rw [q3.n]; simp; omega)
  have KS := switch_dev V7.out 1 0 (by omega) (by omega) (by omega)
  rw [show rootV 1 0 = 2 from rfl, e3] at KS
  unfold Fp.ptr at KS
  rw [P7.out] at KS
  have hfound : Found τ4 p image log := by
    have h3 := q3.ev; have h4 := q4.ev
    simp only [List.length_cons, List.length_nil] at h3 h4
    have hs : ∀ x : Int, x ≠ 0 → x ≠ 1 → x ≠ 2 → τ4.st x = τ2.st x := fun x h0 h1 h2 => by
      rw [q4.st, newSt_two, if_neg h0, if_neg (by omega), q3.st, newSt_one, if_neg h2]
    refine ⟨kp2.same q4.c (q4.n.trans q3.n) (fun x hx => hs x (by omega) (by omega) (by omega)), by rw [q4.n, q3.n]; exact hn2, q4.ar, by omega, ?_, ?_, ?_⟩
    · rw [q4.st, newSt_two, if_pos rfl]
    · rw [q4.st, newSt_two, if_neg (by decide), if_pos (by decide)]
    · rw [q4.st, newSt_two, if_neg (by decide), if_neg (by decide), q3.st, newSt_one, if_pos rfl]
  have KSH := Lib.hid KS; have E4 := Lib.hid e4; have FND := Lib.hid hfound; have EV3 := Lib.hid (show τ3.ev ≤ 6000 by have h3 := q3.ev; simp only [List.length_cons, List.length_nil] at h3; omega)
  clear KS e3 e4 q3 q4 hfound hev2 hn2 kp2 ar2 n2 ev2 e2 HF HK2 EV1 N1 AR1 KP1
  go_wp2_with fail
  refine (KSH.out).mono ?_
  rintro en w8 ⟨rfl, g8⟩
  obtain ⟨f8, hp8, d8, fr8, b8, c8, e8⟩ := goes_step V7.out g8 Fr7.out B7.out C7.out D7.out
  have Fr8 := Lib.hid fr8; have B8 := Lib.hid b8; have C8 := Lib.hid c8; have D8 := Lib.hid e8; have V8 := Lib.hid d8; have P8 := Lib.hid (hp8.trans P7.out)
  clear g8 d8 fr8 b8 c8 e8 hp8 KSH B7 C7 D7 V7 Fr7 P7
  have KF := format_dev (P := p) (B := bankG p) (I := imageG p) (L := logG p) (D := dataG p) V8.out ⟨by omega, by omega⟩ (by have := EV3.out; omega)
  rw [E4.out] at KF
  unfold Fp.ptr at KF
  rw [P8.out] at KF
  have KFH := Lib.hid KF
  clear KF
  have k0 := D8.out.cell 0
  have k1 := D8.out.cell 1
  have k2 := D8.out.cell 2
  have k3 := D8.out.cell 3
  have k4 := D8.out.cell 4
  go_wp2_with fail
  refine (KFH.out).mono ?_
  rintro en w9 ⟨rfl, g9⟩
  obtain ⟨f9, hp9, d9, fr9, b9, c9, e9⟩ := goes_step V8.out g9 Fr8.out B8.out C8.out D8.out
  have Fr9 := Lib.hid fr9; have B9 := Lib.hid b9; have C9 := Lib.hid c9; have D9 := Lib.hid e9; have V9 := Lib.hid d9; have P9 := Lib.hid (hp9.trans P8.out)
  clear g9 d9 fr9 b9 c9 e9 hp9 KFH B8 C8 D8 V8 Fr8 P8 k0 k1 k2 k3 k4
  have hdec : decide ((n : Int) ≤ imageG p ∧ (m : Int) ≤ logG p) = true := decide_eq_true ⟨by have := HN.out; omega, by have := HM.out; omega⟩
  have HDEC := Lib.hid hdec
  clear hdec
  go_upto_region 6 with fail
  have k0 := D9.out.cell 0
  have x0 := C9.out.cell 0
  have z0 := C9.out.free 0
  have k1 := D9.out.cell 1
  have x1 := C9.out.cell 1
  have z1 := C9.out.free 1
  have k2 := D9.out.cell 2
  have x2 := C9.out.cell 2
  have z2 := C9.out.free 2
  have k3 := D9.out.cell 3
  have x3 := C9.out.cell 3
  have z3 := C9.out.free 3
  have k4 := D9.out.cell 4
  have x4 := C9.out.cell 4
  have z4 := C9.out.free 4
  have hdev : ∀ w', w' = (((((w9.setCell ⟨n7, 0, none⟩ (.int .i64 p)).setCell ⟨n7, 1, none⟩ (.int .i64 (bankG p))).setCell ⟨n7, 2, none⟩ (.int .i64 (imageG p))).setCell ⟨n7, 3, none⟩ (.int .i64 (logG p))).setCell ⟨n7, 4, none⟩ (.int .i64 (dataG p))).drew → Dev w' f9 τ4 := fun w' e => by
    have hn7 : n7 ∉ f9.blocks := dev_out V9.out C9.out (by decide) (by decide)
    subst e
    exact (((((V9.out.far (p := ⟨n7, 0, none⟩) hn7 _).far (p := ⟨n7, 1, none⟩) hn7 _).far (p := ⟨n7, 2, none⟩) hn7 _).far (p := ⟨n7, 3, none⟩) hn7 _).far (p := ⟨n7, 4, none⟩) hn7 _).drewN 1
  have HDEV := Lib.hid hdev
  clear hdev
  go_region
  go_wp2
  have cc := (((((C9.out.set 0 (.int .i64 p)).set 1 (.int .i64 (bankG p))).set 2 (.int .i64 (imageG p))).set 3 (.int .i64 (logG p))).set 4 (.int .i64 (dataG p)))
  have d0 := cc.cell 0
  have d1 := cc.cell 1
  have d2 := cc.cell 2
  have d3 := cc.cell 3
  have d4 := cc.cell 4
  simp at d0 d1 d2 d3 d4
  have hsz := C9.out.lt
  exact bodyPost_ret (v := .tuple #[.pointer (some ⟨f.p, 0, none⟩), .agg #[.int .i64 p, .int .i64 (bankG p), .int .i64 (imageG p), .int .i64 (logG p), .int .i64 (dataG p)], .bool true]) (by simp [results, Tryz.results20, go_sem, d0, d1, d2, d3, d4]) rfl (⟨f9, by rw [HN.out, HM.out, HDEC.out]; unfold Fp.ptr; rw [P9.out], below_drewN (((((B9.out.setCell HLE.out _).setCell HLE.out _).setCell HLE.out _).setCell HLE.out _).setCell HLE.out _) 1, fun _ => ⟨τ4, HDEV.out _ rfl, Fr9.out, FND.out⟩⟩)
end Go.Proofs.YtnjikgcigobcdaaGreat
