import Derived.Test.YtnjikgcigobcdaaGreatBkLd
import Derived.Test.YtnjikgcigobcdaaGreatME
import Derived.BigRegion
import Derived.Shelf.SlSortCmp.QuietGrown
import Derived.StillTailTactics

namespace Go.Proofs.YtnjikgcigobcdaaGreat
open Wd Pm Go.Maps Go.RowKit Go.Sort
set_option linter.unusedVariables false

theorem u64_of {x : Int} (h0 : 0 ≤ x) (h1 : x ≤ 1000000000000) : U64 x := WalkArith.wf_u64 (by omega)
set_option maxRecDepth 100000 in
theorem above_no (x room : Int) (h0 : 0 ≤ x) (h1 : x ≤ room) (h2 : room ≤ 10000000) (w : World) : Calls Tryz.prog 85 #[.int .u64 x, .int .i64 room] w (Grows (.bool false) w) := by
  have q1 : decide (room < 0) = false := by simp; omega
  have q2 : decide (x > room) = false := by simp; omega
  have q3 : IntKind.u64.wrap room = room := by rw [IntKind.wrap_u64]; omega
  go_enter Tryz.func85, Tryz.ntmps85
  go_wp2
  go_ret
  exact ⟨rfl, grow_none w⟩
set_option maxRecDepth 100000 in
theorem there_ok {w : World} {f : Fp} {σ : St} (h : Dev w f σ) (hd : σ.dead = false) (at_ : Int) (many : Nat) (h0 : 0 ≤ at_) (h1 : at_ + many ≤ σ.n) :
    Calls Tryz.prog 96 #[f.ptr, .int .i64 at_, .int .i64 many] w fun e w' => e = .returned (.int .i64 0) ∧ w = w' := by
  have nle := h.good.nle
  by_cases hm : many = 0
  · subst hm
    clear h
    unfold Fp.ptr
    go_enter Tryz.func96, Tryz.ntmps96
    go_wp2
    go_ret
    exact ⟨rfl, rfl⟩
  · have hl := load_dev h (at_ + many - 1)
    rw [loadErr_ok hd (by omega) (by omega)] at hl
    obtain ⟨x, hx⟩ : ∃ x, σ.loadVal (at_ + many - 1) = x := ⟨_, rfl⟩
    rw [hx] at hl
    have q1 : IntKind.i64.wrap (at_ + (many : Int)) = at_ + (many : Int) := wrapI (by omega) (by omega)
    have q2 : IntKind.i64.wrap (at_ + (many : Int) - 1) = at_ + (many : Int) - 1 := wrapI (by omega) (by omega)
    have q3 : ((many : Int) == 0) = false := by simp; omega
    have HL := Lib.hid hl
    clear h hl hx hm
    unfold Fp.ptr at HL ⊢
    go_enter Tryz.func96, Tryz.ntmps96
    go_wp2_with fail
    refine (HL.out).mono ?_
    rintro e w' ⟨rfl, rfl⟩
    clear HL
    go_wp2
    go_ret
    exact ⟨rfl, rfl⟩
def GV (P B I L D : Int) : Value := .agg #[.int .i64 P, .int .i64 B, .int .i64 I, .int .i64 L, .int .i64 D]
set_option maxRecDepth 100000 in
set_option maxHeartbeats 4000000 in
theorem count_dev {w : World} {f : Fp} {σ : St} (h : Dev w f σ) (hd : σ.dead = false) (P B I L D k : Int) (hB : 0 ≤ B) (hB2 : B ≤ 200000) (hL : L ≤ 10000000) (hI : I ≤ 10000000) (h1 : bankP B k + 2 ≤ σ.n) (x0 x1 : Int)
    (hx0 : σ.loadVal (bankP B k) = x0) (hx1 : σ.loadVal (bankP B k + 1) = x1) (a0 : 0 ≤ x0) (b0 : x0 ≤ L) (a1 : 0 ≤ x1) (b1 : x1 ≤ I) :
    Calls Tryz.prog 48 #[f.ptr, .agg #[.int .i64 P, .int .i64 B, .int .i64 I, .int .i64 L, .int .i64 D], .int .i64 k] w fun e w' => e = .returned (.tuple #[.agg #[.int .i64 x0, .int .i64 x1], .int .i64 0]) ∧ Below w.heap.size w w' := by
  obtain ⟨p1, p2⟩ := bankP_bd B k hB hB2
  have KB := Lib.hid (gBankAt P B I L D k hB hB2)
  have H := Lib.hid h; have HD := Lib.hid hd
  clear h hd
  have KA0 := Lib.hid (above_no x0 L a0 b0 hL)
  have KA1 := Lib.hid (above_no x1 I a1 b1 hI)
  obtain ⟨bp, hbp⟩ : ∃ bp, bankP B k = bp := ⟨_, rfl⟩
  rw [hbp] at p1 p2 h1 hx0 hx1 KB
  have HX0 := Lib.hid hx0; have HX1 := Lib.hid hx1
  clear hx0 hx1 hbp
  have w0 : IntKind.i64.wrap x0 = x0 := wrapI (by omega) (by omega)
  have w1 : IntKind.i64.wrap x1 = x1 := wrapI (by omega) (by omega)
  unfold Fp.ptr
  have hb0 : Below w.heap.size w ((w.alloc (.cells #[.int .i64 P, .int .i64 B, .int .i64 I, .int .i64 L, .int .i64 D] 49)).alloc (.cells #[.int .i64 0, .int .i64 0] 82)) := ((Below.refl _ _).alloc (Nat.le_refl _) _).alloc (by simp) _
  have cG := (Cells.new w 49 #[.int .i64 P, .int .i64 B, .int .i64 I, .int .i64 L, .int .i64 D]).alloc (.cells #[.int .i64 0, .int .i64 0] 82)
  have cR := Cells.new (w.alloc (.cells #[.int .i64 P, .int .i64 B, .int .i64 I, .int .i64 L, .int .i64 D] 49)) 82 #[.int .i64 0, .int .i64 0]
  rw [World.size_alloc] at cR
  have HB0 := Lib.hid hb0; have CG := Lib.hid cG; have CR := Lib.hid cR
  clear hb0 cG cR
  go_enter Tryz.func48, Tryz.ntmps48
  go_wp2_with fail
  refine (KB.out _).mono ?_
  rintro e w2 hg
  obtain ⟨rfl, b2⟩ := hg.below
  have HB2 := Lib.hid (HB0.out.trans (b2.mono HB0.out.size)); have CG2 := Lib.hid (CG.out.below' b2); have CR2 := Lib.hid (CR.out.below' b2)
  clear hg b2 KB CG CR HB0
  have KL := Lib.hid (load_many (H.out.below HB2.out) HD.out bp 2 p1 (by omega))
  unfold Fp.ptr at KL
  go_wp2_with fail
  refine (KL.out).mono ?_
  rintro e w3 ⟨A, c, rfl, hr, hA, b3⟩
  have e2 : ldVals σ bp 2 = [x0, x1] := by
    rw [ldVals_succ, ldVals_succ]
    show [] ++ [σ.loadVal (bp + ((0 : Nat) : Int))] ++ [σ.loadVal (bp + ((1 : Nat) : Int))] = _
    have z0 : bp + ((0 : Nat) : Int) = bp := by omega
    have z1 : bp + ((1 : Nat) : Int) = bp + 1 := rfl
    rw [z0, z1, HX0.out, HX1.out]
    rfl
  rw [e2] at hr
  obtain ⟨bb, o, rfl, hbb, hc⟩ := hr.2 (by omega)
  have HBB := Lib.hid hbb
  have g0 := hc 0 (by simp)
  have g1 := hc 1 (by simp)
  simp only [List.map_cons, List.map_nil, List.getElem_cons_zero, List.getElem_cons_succ, VU64, Nat.add_zero] at g0 g1
  have c3 : w3.cell? ⟨w.heap.size, 3, none⟩ = some (.int .i64 L) := (CG2.out.below' b3).cell 3
  have c2 : w3.cell? ⟨w.heap.size, 2, none⟩ = some (.int .i64 I) := (CG2.out.below' b3).cell 2
  have HB3 := Lib.hid (HB2.out.trans (b3.mono HB2.out.size)); have CR3 := Lib.hid (CR2.out.below' b3)
  have hnz : bb ≠ w.heap.size + 1 := by
    have h1 := hA bb o none rfl
    have h2 := CR2.out.lt
    omega
  clear hbb hr hA b3 hc e2 KL CG2 CR2 HB2
  go_upto_region 5 with fail
  have hlt0 : (⟨bb, o, none⟩ : Addr).block < w3.heap.size := HBB.out
  have hlt1 : (⟨bb, o + 1, none⟩ : Addr).block < w3.heap.size := HBB.out
  have hltg : w.heap.size < w3.heap.size := by have := CR3.out.lt; omega
  have gg0 := cell_grown hlt0 g0
  have gg1 := cell_grown hlt1 g1
  have gc3 := cell_grown (a := ⟨w.heap.size, 3, none⟩) hltg c3
  have gc2 := cell_grown (a := ⟨w.heap.size, 2, none⟩) hltg c2
  have hfol : Tryz.prog.follows .mixedOrders = true := by kernel_rfl
  clear hlt0 hlt1 hltg
  refine wp_region_quiet_grown hfol (by kernel_rfl) ?_
  repeat (go_big_quiet_step (first
    | (go_at_call 85; (with_reducible exact Grows.in KA0.out _ _ _))
    | (go_at_call 85; (with_reducible exact Grows.in KA1.out _ _ _))))
  refine wpQuiet_nil ?_
  intro _ hw'
  obtain ⟨⟨nr, osr⟩, hw''⟩ := hw'
  subst hw''
  clear gg0 gg1 gc3 gc2 c3 c2
  have b34 := below_grow' w3 nr osr
  obtain ⟨w4, hw4⟩ : ∃ w4, grow (w3.drewN nr) osr = w4 := ⟨_, rfl⟩
  rw [hw4] at b34 ⊢
  have t0 : w4.cell? ⟨bb, o, none⟩ = some (.int .u64 x0) := (b34.cell (p := ⟨bb, o, none⟩) HBB.out).trans g0
  have t1 : w4.cell? ⟨bb, o + 1, none⟩ = some (.int .u64 x1) := (b34.cell (p := ⟨bb, o + 1, none⟩) HBB.out).trans g1
  have CR4 := Lib.hid (CR3.out.below' b34)
  have HB4 := Lib.hid (HB3.out.trans (b34.mono HB3.out.size))
  have zr0 := CR4.out.free 0
  have zr1 := CR4.out.free 1
  have cr0 := CR4.out.cell 0
  have cr1 := CR4.out.cell 1
  clear hw4 b34 HB3 CR3 g0 g1 hfol HBB
  go_upto_region 7 with fail
  go_still_tail 9, (by kernel_rfl)
  change wpList _ _ _ _ _ w4.drew
  have HB5 := Lib.hid (show Below w.heap.size w w4.drew from below_drewN HB4.out 1)
  have CR5 := Lib.hid (show Cells w4.drew (w.heap.size + 1) 82 #[.int .i64 0, .int .i64 0] from CR4.out)
  have zr0 := CR5.out.free 0
  have zr1 := CR5.out.free 1
  have cr0 := CR5.out.cell 0
  have cr1 := CR5.out.cell 1
  obtain ⟨w5, hw5⟩ : ∃ w5, w4.drew = w5 := ⟨_, rfl⟩
  rw [hw5] at HB5 CR5 zr0 zr1 cr0 cr1 ⊢
  go_wp2
  have cc := (CR5.out.set 0 (.int .i64 x0)).set 1 (.int .i64 x1)
  have d0 := cc.cell 0
  have d1 := cc.cell 1
  simp at d0 d1
  have hsz := CR5.out.lt
  exact bodyPost_ret (v := .tuple #[.agg #[.int .i64 x0, .int .i64 x1], .int .i64 0]) (by simp [results, Tryz.results48, go_sem, d0, d1]) rfl ⟨rfl, (HB5.out.setCell (by simp) _).setCell (by simp) _⟩
end Go.Proofs.YtnjikgcigobcdaaGreat

namespace Go.Proofs.YtnjikgcigobcdaaGreat
open Wd Pm Go.Maps Go.RowKit Go.Sort
set_option linter.unusedVariables false
set_option linter.unusedSectionVars false

/-! what a bank is on a device -/
structure Bank (σ : St) (I L : Int) (image log : List Int) : Prop where
  dead : σ.dead = false
  n : 34 + I + L ≤ σ.n
  i0 : 0 ≤ I ∧ I ≤ 1000000
  l0 : 0 ≤ L ∧ L ≤ 1000000
  il : (image.length : Int) ≤ I
  ll : (log.length : Int) ≤ L
  t : σ.loadVal 32 = log.length
  i : σ.loadVal 33 = image.length
  im : ldVals σ 34 image.length = image
  lg : ldVals σ (34 + I) log.length = log
theorem row_turn {W w' : World} {S : List Nat} {R : Option Addr} {n : Nat} {xs : List Value} (h : Row W W.heap.size R n xs) (t : Turn W w' S) (hR : ∀ b o m, R = some ⟨b, o, m⟩ → b ∉ S) : Row w' w'.heap.size R n xs := by
  refine ⟨h.1, fun hp => ?_⟩
  obtain ⟨b, o, rfl, hb, hc⟩ := h.2 hp
  refine ⟨b, o, rfl, Nat.lt_of_lt_of_le hb t.size, fun j hj => ?_⟩
  have hk := t.block b hb (hR b o _ rfl)
  rw [← hc j hj]
  simp only [World.cell?, hk]
theorem dev_out {w : World} {f : Fp} {σ : St} (d : Dev w f σ) {q : Nat} {T : TypeId} {cs : Array Value} (h : Cells w q T cs) (h1 : T ≠ 57) (h2 : T ≠ 31) : q ∉ f.blocks := by
  intro hm
  simp only [Fp.blocks, List.mem_cons, List.not_mem_nil, or_false] at hm
  rcases hm with rfl | rfl | rfl | rfl
  · exact d.1.ne h (Ne.symm h1) rfl
  · exact d.2.1.ne h (Ne.symm h2) rfl
  · exact d.2.2.1.cells h rfl
  · exact d.2.2.2.1.cells h rfl
theorem dev_turn {W w' : World} {f : Fp} {σ : St} {S : List Nat} (d : Dev W f σ) (t : Turn W w' S) (hS : ∀ k ∈ f.blocks, k ∉ S) : Dev w' f σ :=
  d.keep fun k hk => t.block k (by have := d.lt; simp [Fp.blocks] at hk; omega) (hS k hk)
structure FreeB (W : World) (f : Fp) (σ : St) (P B I L D : Int) (n3 n4 n5 n8 : Nat) : Prop where
  d : Dev W f σ
  c3 : Cells W n3 27 #[.pointer (some ⟨f.p, 0, none⟩)]
  c4 : Cells W n4 49 #[.int .i64 P, .int .i64 B, .int .i64 I, .int .i64 L, .int .i64 D]
  c5 : Cells W n5 3 #[.int .i64 0]
  c8 : ∃ cs, Cells W n8 82 cs
  B0 : 0 ≤ B ∧ B ≤ 200000
structure FreeI (W : World) (n8 : Nat) (v0 v1 : Int) (w' : World) : Prop where
  t : Turn W w' [n8]
  c : Cells w' n8 82 #[.int .i64 v0, .int .i64 v1]
theorem FreeB.far {W : World} {f : Fp} {σ : St} {P B I L D : Int} {n3 n4 n5 n8 : Nat} (hb : FreeB W f σ P B I L D n3 n4 n5 n8) : (∀ k ∈ f.blocks, k ∉ [n8]) ∧ n3 ∉ [n8] ∧ n4 ∉ [n8] ∧ n5 ∉ [n8] := by
  obtain ⟨cs, c8⟩ := hb.c8
  refine ⟨fun k hk hm => ?_, fun hm => ?_, fun hm => ?_, fun hm => ?_⟩
  · rw [List.mem_singleton.1 hm] at hk
    exact dev_out hb.d c8 (by decide) (by decide) hk
  · exact hb.c3.ne c8 (by decide) (List.mem_singleton.1 hm)
  · exact hb.c4.ne c8 (by decide) (List.mem_singleton.1 hm)
  · exact hb.c5.ne c8 (by decide) (List.mem_singleton.1 hm)
section
variable {W wr : World} {f : Fp} {σ : St} {P B I L D : Int} {n3 n4 n5 n8 : Nat} {image log : List Int} (hb : FreeB W f σ P B I L D n3 n4 n5 n8) (hk : Bank σ I L image log)
include hb hk
set_option maxRecDepth 100000 in
set_option maxHeartbeats 2000000 in
theorem free1_dev (t0 i0 : Int) (hi : FreeI W n8 t0 i0 wr) : Calls Tryz.prog 94 #[.pointer (some ⟨n3, 0, none⟩), .pointer (some ⟨n4, 0, none⟩), .pointer (some ⟨n5, 0, none⟩), .pointer (some ⟨n8, 0, none⟩)] wr (Ends (FreeI W n8 log.length image.length) (fun _ _ => False)) := by
  obtain ⟨s0, s3, s4, s5⟩ := FreeB.far hb
  have hn := hk.n; have hi0 := hk.i0; have hl0 := hk.l0; have hil := hk.il; have hll := hk.ll; have hB := hb.B0
  have KC := Lib.hid (count_dev (dev_turn hb.d hi.t s0) hk.dead P B I L D 0 hB.1 hB.2 (by omega) (by omega) (by show (32 : Int) + 2 ≤ _; omega) log.length image.length hk.t hk.i (by omega) hll (by omega) hil)
  have k3 : wr.cell? ⟨n3, 0, none⟩ = some (.pointer (some ⟨f.p, 0, none⟩)) := (hb.c3.turn' s3 hi.t).cell 0
  have C4 := hb.c4.turn' s4 hi.t
  have k40 := C4.cell 0; have k41 := C4.cell 1; have k42 := C4.cell 2; have k43 := C4.cell 3; have k44 := C4.cell 4
  have k5 : wr.cell? ⟨n5, 0, none⟩ = some (.int .i64 0) := (hb.c5.turn' s5 hi.t).cell 0
  have HI := Lib.hid hi
  unfold Fp.ptr at KC
  clear hb hk hi s0 s3 s4 s5 hn hi0 hl0 hil hll hB C4
  go_enter Tryz.func94, Tryz.ntmps94
  go_wp2_with fail
  refine (KC.out).mono ?_
  rintro e w2 ⟨rfl, b2⟩
  have C8 := Lib.hid (HI.out.c.below' b2)
  have z0 := C8.out.free 0
  have z1 := C8.out.free 1
  have x0 := C8.out.cell 0
  have x1 := C8.out.cell 1
  have T2 := Lib.hid (HI.out.t.trans (S' := [n8]) (Turn.ofBelow b2) (fun x hx => .inl hx))
  clear b2 KC k3 k40 k41 k42 k43 k44 k5
  go_wp2
  go_ret
  refine ⟨0, rfl, .inl ⟨rfl, ?_, ?_⟩⟩
  · exact (T2.out.trans (S' := [n8]) (Turn.set _ (p := ⟨n8, 0, none⟩) (by simp) _) (fun x hx => .inl hx)).trans (S' := [n8]) (Turn.set _ (p := ⟨n8, 1, none⟩) (by simp) _) (fun x hx => .inl hx)
  · have := (C8.out.set 0 (.int .i64 log.length)).set 1 (.int .i64 image.length)
    simpa using this

set_option maxRecDepth 100000 in
set_option maxHeartbeats 2000000 in
theorem free2_dev (hi : FreeI W n8 log.length image.length wr) : Calls Tryz.prog 95 #[.pointer (some ⟨n3, 0, none⟩), .pointer (some ⟨n4, 0, none⟩), .pointer (some ⟨n5, 0, none⟩), .pointer (some ⟨n8, 0, none⟩)] wr (Ends (FreeI W n8 log.length image.length) (fun _ _ => False)) := by
  obtain ⟨s0, s3, s4, s5⟩ := FreeB.far hb
  have hn := hk.n; have hi0 := hk.i0; have hl0 := hk.l0; have hil := hk.il; have hll := hk.ll; have hB := hb.B0
  have hd := dev_turn hb.d hi.t s0
  have KT := Lib.hid (fun (n : Nat) (os : Array Obj) => (there_ok (hd.below (below_grow' wr n os)) hk.dead (34) image.length (by omega) (by omega)).mono (fun e w' (h : _ ∧ _) => (⟨h.1, h.2 ▸ grow_none _⟩ : Grows (.int .i64 0) (grow (wr.drewN n) os) e w')))
  have KG : ∀ w, Calls Tryz.prog 51 #[.agg #[.int .i64 P, .int .i64 B, .int .i64 I, .int .i64 L, .int .i64 D], .int .i64 0] w (Grows (.int .i64 (34)) w) := fun w => by
    have := gImageAt P B I L D 0 hB.1 hB.2 w
    simpa [bankP] using this
  have KG := Lib.hid KG
  have C3 := hb.c3.turn' s3 hi.t
  have C4 := hb.c4.turn' s4 hi.t
  have C5 := hb.c5.turn' s5 hi.t
  have C8 := hi.c
  have g3 := cell_grown (a := ⟨n3, 0, none⟩) C3.lt (C3.cell 0)
  have g40 := cell_grown (a := ⟨n4, 0, none⟩) C4.lt (C4.cell 0)
  have g41 := cell_grown (a := ⟨n4, 1, none⟩) C4.lt (C4.cell 1)
  have g42 := cell_grown (a := ⟨n4, 2, none⟩) C4.lt (C4.cell 2)
  have g43 := cell_grown (a := ⟨n4, 3, none⟩) C4.lt (C4.cell 3)
  have g44 := cell_grown (a := ⟨n4, 4, none⟩) C4.lt (C4.cell 4)
  have g5 := cell_grown (a := ⟨n5, 0, none⟩) C5.lt (C5.cell 0)
  have g8 := cell_grown (a := ⟨n8, 1, none⟩) C8.lt (C8.cell 1)
  obtain ⟨il, hil'⟩ : ∃ il, image.length = il := ⟨_, rfl⟩
  obtain ⟨ll, hll'⟩ : ∃ ll, log.length = ll := ⟨_, rfl⟩
  rw [hil', hll'] at hi g8 ⊢
  rw [hil'] at KT
  have HI := Lib.hid hi
  unfold Fp.ptr at KT
  have hfol : Tryz.prog.follows .mixedOrders = true := by kernel_rfl
  clear hb hk hi s0 s3 s4 s5 hn hi0 hl0 hil hll hB C3 C4 C5 C8 hd hil' hll'
  go_enter Tryz.func95, Tryz.ntmps95
  go_upto_region 1 with fail
  refine wp_region_quiet_grown hfol (by kernel_rfl) ?_
  repeat (go_big_quiet_step (first
    | (go_at_call 51; (with_reducible exact Grows.in KG.out _ _ _))
    | (go_at_call 96; (with_reducible exact Grows.inAt KT.out _ _))))
  refine wpQuiet_nil ?_
  intro _ hw'
  obtain ⟨⟨nr, osr⟩, hw''⟩ := hw'
  subst hw''
  go_wp2
  go_ret
  have b := below_grow' wr nr osr
  exact ⟨0, rfl, .inl ⟨rfl, HI.out.t.trans (S' := [n8]) (Turn.ofBelow b) (fun x hx => .inl hx), HI.out.c.below' b⟩⟩

set_option maxRecDepth 100000 in
set_option maxHeartbeats 2000000 in
theorem free3_dev (hi : FreeI W n8 log.length image.length wr) : Calls Tryz.prog 97 #[.pointer (some ⟨n3, 0, none⟩), .pointer (some ⟨n4, 0, none⟩), .pointer (some ⟨n5, 0, none⟩), .pointer (some ⟨n8, 0, none⟩)] wr (Ends (FreeI W n8 log.length image.length) (fun _ _ => False)) := by
  obtain ⟨s0, s3, s4, s5⟩ := FreeB.far hb
  have hn := hk.n; have hi0 := hk.i0; have hl0 := hk.l0; have hil := hk.il; have hll := hk.ll; have hB := hb.B0
  have hd := dev_turn hb.d hi.t s0
  have KT := Lib.hid (fun (n : Nat) (os : Array Obj) => (there_ok (hd.below (below_grow' wr n os)) hk.dead (34 + I) log.length (by omega) (by omega)).mono (fun e w' (h : _ ∧ _) => (⟨h.1, h.2 ▸ grow_none _⟩ : Grows (.int .i64 0) (grow (wr.drewN n) os) e w')))
  have KG : ∀ w, Calls Tryz.prog 53 #[.agg #[.int .i64 P, .int .i64 B, .int .i64 I, .int .i64 L, .int .i64 D], .int .i64 0] w (Grows (.int .i64 (34 + I)) w) := fun w => by
    have := gLogAt P B I L D 0 hB.1 hB.2 hi0.1 (by omega) w
    simpa [bankP] using this
  have KG := Lib.hid KG
  have C3 := hb.c3.turn' s3 hi.t
  have C4 := hb.c4.turn' s4 hi.t
  have C5 := hb.c5.turn' s5 hi.t
  have C8 := hi.c
  have g3 := cell_grown (a := ⟨n3, 0, none⟩) C3.lt (C3.cell 0)
  have g40 := cell_grown (a := ⟨n4, 0, none⟩) C4.lt (C4.cell 0)
  have g41 := cell_grown (a := ⟨n4, 1, none⟩) C4.lt (C4.cell 1)
  have g42 := cell_grown (a := ⟨n4, 2, none⟩) C4.lt (C4.cell 2)
  have g43 := cell_grown (a := ⟨n4, 3, none⟩) C4.lt (C4.cell 3)
  have g44 := cell_grown (a := ⟨n4, 4, none⟩) C4.lt (C4.cell 4)
  have g5 := cell_grown (a := ⟨n5, 0, none⟩) C5.lt (C5.cell 0)
  have g8 := cell_grown (a := ⟨n8, 0, none⟩) C8.lt (C8.cell 0)
  obtain ⟨il, hil'⟩ : ∃ il, image.length = il := ⟨_, rfl⟩
  obtain ⟨ll, hll'⟩ : ∃ ll, log.length = ll := ⟨_, rfl⟩
  rw [hil', hll'] at hi g8 ⊢
  rw [hll'] at KT
  have HI := Lib.hid hi
  unfold Fp.ptr at KT
  have hfol : Tryz.prog.follows .mixedOrders = true := by kernel_rfl
  clear hb hk hi s0 s3 s4 s5 hn hi0 hl0 hil hll hB C3 C4 C5 C8 hd hil' hll'
  go_enter Tryz.func97, Tryz.ntmps97
  go_upto_region 1 with fail
  refine wp_region_quiet_grown hfol (by kernel_rfl) ?_
  repeat (go_big_quiet_step (first
    | (go_at_call 53; (with_reducible exact Grows.in KG.out _ _ _))
    | (go_at_call 96; (with_reducible exact Grows.inAt KT.out _ _))))
  refine wpQuiet_nil ?_
  intro _ hw'
  obtain ⟨⟨nr, osr⟩, hw''⟩ := hw'
  subst hw''
  go_wp2
  go_ret
  have b := below_grow' wr nr osr
  exact ⟨0, rfl, .inl ⟨rfl, HI.out.t.trans (S' := [n8]) (Turn.ofBelow b) (fun x hx => .inl hx), HI.out.c.below' b⟩⟩
end
end Go.Proofs.YtnjikgcigobcdaaGreat

namespace Go.Proofs.YtnjikgcigobcdaaGreat
open Wd Pm Go.Maps Go.RowKit Go.Sort
set_option linter.unusedVariables false

def FreeF (j : Nat) : FuncId := if j = 0 then 94 else if j = 1 then 95 else 97
set_option maxRecDepth 100000 in
set_option maxHeartbeats 2000000 in
theorem free_turn {W : World} {f : Fp} {σ : St} {P B I L D : Int} {n3 n4 n5 n8 : Nat} {image log : List Int} (hb : FreeB W f σ P B I L D n3 n4 n5 n8) (hk : Bank σ I L image log) (h8 : Cells W n8 82 #[.int .i64 0, .int .i64 0])
    (R : Nat) (hR : Cells W R 60 #[.func (.func 94) #[] #[.pointer (some ⟨n3, 0, none⟩), .pointer (some ⟨n4, 0, none⟩), .pointer (some ⟨n5, 0, none⟩), .pointer (some ⟨n8, 0, none⟩)], .func (.func 95) #[] #[.pointer (some ⟨n3, 0, none⟩), .pointer (some ⟨n4, 0, none⟩), .pointer (some ⟨n5, 0, none⟩), .pointer (some ⟨n8, 0, none⟩)], .func (.func 97) #[] #[.pointer (some ⟨n3, 0, none⟩), .pointer (some ⟨n4, 0, none⟩), .pointer (some ⟨n5, 0, none⟩), .pointer (some ⟨n8, 0, none⟩)]]) :
    Calls Tryz.prog 35 #[.slice (some ⟨R, 0, none⟩) 3 3] W fun e w' => e = .returned (.int .i64 0) ∧ FreeI W n8 log.length image.length w' := by
  have hrow := Row.of_cells (B := W.heap.size) hR hR.lt
  have hne : ∀ b o m, (some ⟨R, 0, none⟩ : Option Addr) = some ⟨b, o, m⟩ → b ∉ [n8] := fun b o m e hm => by
    cases e
    exact hR.ne h8 (by decide) (List.mem_singleton.1 hm)
  have key := inTurn_any 3 (by omega) FreeF (fun _ => #[]) (fun _ => #[.pointer (some ⟨n3, 0, none⟩), .pointer (some ⟨n4, 0, none⟩), .pointer (some ⟨n5, 0, none⟩), .pointer (some ⟨n8, 0, none⟩)]) (some ⟨R, 0, none⟩) 3
    (fun j wr => if j = 0 then FreeI W n8 0 0 wr else FreeI W n8 log.length image.length wr) (fun _ _ => False) W (by rw [if_pos rfl]; exact ⟨Turn.refl _ _, h8⟩)
    (fun j wr hj => by
      have ht : Turn W wr [n8] := by
        by_cases h0 : j = 0
        · simp only [h0, if_true] at hj; exact hj.t
        · simp only [h0, if_false] at hj; exact hj.t
      exact row_turn hrow ht hne)
    (fun j hj => by
      unfold FreeF
      split
      · exact fun args w => by simp [go_sem]
      · split
        · exact fun args w => by simp [go_sem]
        · exact fun args w => by simp [go_sem])
    (fun j wr hj hA => by
      match j, hj with
      | 0, _ => exact free1_dev hb hk 0 0 hA
      | 1, _ => exact free2_dev hb hk hA
      | 2, _ => exact free3_dev hb hk hA)
  refine key.mono ?_
  rintro e w2 ⟨er, rfl, ⟨rfl, h⟩ | ⟨_, h⟩⟩
  · exact ⟨rfl, h⟩
  · exact h.elim
set_option maxRecDepth 100000 in
set_option maxHeartbeats 2000000 in
theorem free_dev {w : World} {f : Fp} {σ : St} {P B I L D : Int} {image log : List Int} (h : Dev w f σ) (hk : Bank σ I L image log) (hB : 0 ≤ B ∧ B ≤ 200000) :
    Calls Tryz.prog 80 #[f.ptr, .agg #[.int .i64 P, .int .i64 B, .int .i64 I, .int .i64 L, .int .i64 D], .int .i64 0] w fun e w' => e = .returned (.tuple #[.int .i64 (L - log.length), .int .i64 0]) ∧ Below w.heap.size w w' := by
  have hmf : ∀ (fn : Fn) (first cap : Array Value) (w : World), (Instr.makeFunc fn first cap).run Tryz.prog w = .ok (.func fn first cap) w := fun _ _ _ _ => rfl
  have hl0 := hk.l0; have hll := hk.ll
  have q1 : IntKind.i64.wrap (L - (log.length : Int)) = L - log.length := wrapI (by omega) (by omega)
  obtain ⟨ll, hLL⟩ : ∃ ll, log.length = ll := ⟨_, rfl⟩
  rw [hLL] at q1 ⊢
  have HLL := Lib.hid hLL
  have H := Lib.hid h; have HK := Lib.hid hk
  clear h hk hl0 hll hLL
  unfold Fp.ptr
  go_enter Tryz.func80, Tryz.ntmps80
  go_upto_region 2 with fail
  have c3 := (((Cells.new w 27 #[.pointer (some ⟨f.p, 0, none⟩)]).alloc (.cells #[.int .i64 P, .int .i64 B, .int .i64 I, .int .i64 L, .int .i64 D] 49)).alloc (.cells #[.int .i64 0] 3)).alloc (.cells #[.int .i64 0, .int .i64 0] 82)
  have c4 := ((Cells.new (w.alloc (.cells #[.pointer (some ⟨f.p, 0, none⟩)] 27)) 49 #[.int .i64 P, .int .i64 B, .int .i64 I, .int .i64 L, .int .i64 D]).alloc (.cells #[.int .i64 0] 3)).alloc (.cells #[.int .i64 0, .int .i64 0] 82)
  have c5 := (Cells.new ((w.alloc (.cells #[.pointer (some ⟨f.p, 0, none⟩)] 27)).alloc (.cells #[.int .i64 P, .int .i64 B, .int .i64 I, .int .i64 L, .int .i64 D] 49)) 3 #[.int .i64 0]).alloc (.cells #[.int .i64 0, .int .i64 0] 82)
  have c8 := Cells.new (((w.alloc (.cells #[.pointer (some ⟨f.p, 0, none⟩)] 27)).alloc (.cells #[.int .i64 P, .int .i64 B, .int .i64 I, .int .i64 L, .int .i64 D] 49)).alloc (.cells #[.int .i64 0] 3)) 82 #[.int .i64 0, .int .i64 0]
  simp only [World.size_alloc] at c4 c5 c8
  have b4 : Below w.heap.size w ((((w.alloc (.cells #[.pointer (some ⟨f.p, 0, none⟩)] 27)).alloc (.cells #[.int .i64 P, .int .i64 B, .int .i64 I, .int .i64 L, .int .i64 D] 49)).alloc (.cells #[.int .i64 0] 3)).alloc (.cells #[.int .i64 0, .int .i64 0] 82)) := ((((Below.refl _ _).alloc (Nat.le_refl _) _).alloc (by simp) _).alloc (by simp; omega) _).alloc (by simp; omega) _
  obtain ⟨W, hW⟩ : ∃ W, (((w.alloc (.cells #[.pointer (some ⟨f.p, 0, none⟩)] 27)).alloc (.cells #[.int .i64 P, .int .i64 B, .int .i64 I, .int .i64 L, .int .i64 D] 49)).alloc (.cells #[.int .i64 0] 3)).alloc (.cells #[.int .i64 0, .int .i64 0] 82) = W := ⟨_, rfl⟩
  rw [hW] at c3 c4 c5 c8 b4 ⊢
  have C3 := Lib.hid c3; have C4 := Lib.hid c4; have C5 := Lib.hid c5; have C8 := Lib.hid c8; have B4 := Lib.hid b4
  clear c3 c4 c5 c8 b4 hW
  obtain ⟨n3, e3⟩ : ∃ n, w.heap.size = n := ⟨_, rfl⟩
  rw [e3] at C3 C4 C5 C8 B4 ⊢
  obtain ⟨arr, harr⟩ : ∃ arr : Array Value, arr = #[.func (.func 94) #[] #[.pointer (some ⟨n3, 0, none⟩), .pointer (some ⟨n3 + 1, 0, none⟩), .pointer (some ⟨n3 + 1 + 1, 0, none⟩), .pointer (some ⟨n3 + 1 + 1 + 1, 0, none⟩)], .func (.func 95) #[] #[.pointer (some ⟨n3, 0, none⟩), .pointer (some ⟨n3 + 1, 0, none⟩), .pointer (some ⟨n3 + 1 + 1, 0, none⟩), .pointer (some ⟨n3 + 1 + 1 + 1, 0, none⟩)], .func (.func 97) #[] #[.pointer (some ⟨n3, 0, none⟩), .pointer (some ⟨n3 + 1, 0, none⟩), .pointer (some ⟨n3 + 1 + 1, 0, none⟩), .pointer (some ⟨n3 + 1 + 1 + 1, 0, none⟩)]] := ⟨_, rfl⟩
  have KT := free_turn (W := W.alloc (.cells arr 60)) (n3 := n3) (n4 := n3 + 1) (n5 := n3 + 1 + 1) (n8 := n3 + 1 + 1 + 1) (P := P) (D := D)
    ⟨(H.out.below (e3 ▸ B4.out)).alloc _, C3.out.alloc _, C4.out.alloc _, C5.out.alloc _, ⟨_, C8.out.alloc _⟩, hB⟩ HK.out (C8.out.alloc _) W.heap.size (harr ▸ Cells.new W _ arr)
  have D4 := C4.out.alloc (.cells arr 60)
  have N4 : n3 + 1 ∉ [n3 + 1 + 1 + 1] := by simp
  rw [harr] at KT D4
  have KTH := Lib.hid KT; have D4H := Lib.hid D4
  clear KT D4 harr
  go_wp2_with fail
  refine (KTH.out).mono ?_
  rintro e w5 ⟨rfl, hi⟩
  have G4 := D4H.out.turn' N4 hi.t
  have k4 := G4.cell 3
  have k8 := hi.c.cell 0
  rw [HLL.out] at k8
  have HI := Lib.hid hi
  clear hi KTH D4H N4 G4
  go_wp2
  go_ret2
  refine ⟨rfl, ?_⟩
  have tb := HI.out.t
  have hs := B4.out.size
  rw [e3] at hs ⊢
  exact (B4.out.alloc hs _).trans (tb.below (.inr (by simp; omega)) (fun x hx => by rw [List.mem_singleton.1 hx]; omega))
end Go.Proofs.YtnjikgcigobcdaaGreat

namespace Go.Proofs.YtnjikgcigobcdaaGreat
open Wd Pm Go.Maps Go.RowKit Go.Sort
set_option linter.unusedVariables false
set_option linter.unusedSectionVars false

/-! Read: its steps -/
structure ReadB (W : World) (f : Fp) (σ : St) (P B I L D : Int) (n3 n4 n5 n8 n9 n10 : Nat) : Prop where
  b : FreeB W f σ P B I L D n3 n4 n5 n8
  c9 : ∃ v, Cells W n9 23 #[v]
  c10 : ∃ v, Cells W n10 23 #[v]
  ne : n9 ≠ n10
def ReadS (n8 n9 n10 : Nat) : List Nat := [n8, n9, n10]
structure ReadI (W : World) (n8 n9 n10 : Nat) (v0 v1 : Int) (im lg : Option (List Int)) (w' : World) : Prop where
  t : Turn W w' (ReadS n8 n9 n10)
  c : Cells w' n8 82 #[.int .i64 v0, .int .i64 v1]
  c9 : ∃ A k c, Cells w' n9 23 #[.slice A k c] ∧ ∀ l, im = some l → k = l.length ∧ Row w' w'.heap.size A k (l.map VU64) ∧ ∀ b o m, A = some ⟨b, o, m⟩ → W.heap.size ≤ b
  c10 : ∃ A k c, Cells w' n10 23 #[.slice A k c] ∧ ∀ l, lg = some l → k = l.length ∧ Row w' w'.heap.size A k (l.map VU64) ∧ ∀ b o m, A = some ⟨b, o, m⟩ → W.heap.size ≤ b
theorem ReadB.far {W : World} {f : Fp} {σ : St} {P B I L D : Int} {n3 n4 n5 n8 n9 n10 : Nat} (hb : ReadB W f σ P B I L D n3 n4 n5 n8 n9 n10) : (∀ k ∈ f.blocks, k ∉ ReadS n8 n9 n10) ∧ n3 ∉ ReadS n8 n9 n10 ∧ n4 ∉ ReadS n8 n9 n10 ∧ n5 ∉ ReadS n8 n9 n10 ∧ n8 ≠ n9 ∧ n8 ≠ n10 := by
  obtain ⟨cs, c8⟩ := hb.b.c8
  obtain ⟨v9, c9⟩ := hb.c9
  obtain ⟨v10, c10⟩ := hb.c10
  unfold ReadS
  refine ⟨fun k hk hm => ?_, fun hm => ?_, fun hm => ?_, fun hm => ?_, c8.ne c9 (by decide), c8.ne c10 (by decide)⟩
  · simp only [List.mem_cons, List.not_mem_nil, or_false] at hm
    rcases hm with rfl | rfl | rfl
    · exact dev_out hb.b.d c8 (by decide) (by decide) hk
    · exact dev_out hb.b.d c9 (by decide) (by decide) hk
    · exact dev_out hb.b.d c10 (by decide) (by decide) hk
  · simp only [List.mem_cons, List.not_mem_nil, or_false] at hm
    rcases hm with h | h | h
    · exact hb.b.c3.ne c8 (by decide) h
    · exact hb.b.c3.ne c9 (by decide) h
    · exact hb.b.c3.ne c10 (by decide) h
  · simp only [List.mem_cons, List.not_mem_nil, or_false] at hm
    rcases hm with h | h | h
    · exact hb.b.c4.ne c8 (by decide) h
    · exact hb.b.c4.ne c9 (by decide) h
    · exact hb.b.c4.ne c10 (by decide) h
  · simp only [List.mem_cons, List.not_mem_nil, or_false] at hm
    rcases hm with h | h | h
    · exact hb.b.c5.ne c8 (by decide) h
    · exact hb.b.c5.ne c9 (by decide) h
    · exact hb.b.c5.ne c10 (by decide) h
theorem fresh_row {w w' : World} {A : Option Addr} {k : Nat} {xs : List Value} {B : Nat} (h : Row w w.heap.size A k xs) (hA : ∀ b o m, A = some ⟨b, o, m⟩ → B ≤ b) {S : List Nat} (t : Turn w w' S) (hS : ∀ x ∈ S, x < B) : Row w' w'.heap.size A k xs :=
  row_turn h t (fun b o m e hm => by have := hA b o m e; have := hS b hm; omega)
theorem ReadI.below {W w1 w2 : World} {n8 n9 n10 : Nat} {v0 v1 : Int} {im lg : Option (List Int)} (h : ReadI W n8 n9 n10 v0 v1 im lg w1) (b : Below w1.heap.size w1 w2) : ReadI W n8 n9 n10 v0 v1 im lg w2 := by
  obtain ⟨t, c, ⟨A, k, cc, c9, h9⟩, A2, k2, cc2, c10, h10⟩ := h
  exact ⟨t.trans (S' := ReadS n8 n9 n10) (Turn.ofBelow b) (fun x hx => .inl hx), c.below' b, ⟨A, k, cc, c9.below' b, fun l e => ⟨(h9 l e).1, (Row.below (h9 l e).2.1 b).more b.size, (h9 l e).2.2⟩⟩, A2, k2, cc2, c10.below' b, fun l e => ⟨(h10 l e).1, (Row.below (h10 l e).2.1 b).more b.size, (h10 l e).2.2⟩⟩
section
variable {W wr : World} {f : Fp} {σ : St} {P B I L D : Int} {n3 n4 n5 n8 n9 n10 : Nat} {image log : List Int} (hb : ReadB W f σ P B I L D n3 n4 n5 n8 n9 n10) (hk : Bank σ I L image log)
include hb hk
set_option maxRecDepth 100000 in
set_option maxHeartbeats 4000000 in
theorem read2_dev (hi : ReadI W n8 n9 n10 log.length image.length none none wr) : Calls Tryz.prog 49 #[.pointer (some ⟨n3, 0, none⟩), .pointer (some ⟨n4, 0, none⟩), .pointer (some ⟨n5, 0, none⟩), .pointer (some ⟨n8, 0, none⟩), .pointer (some ⟨n9, 0, none⟩)] wr (Ends (ReadI W n8 n9 n10 log.length image.length (some image) none) (fun _ _ => False)) := by
  obtain ⟨s0, s3, s4, s5, x89, x810⟩ := ReadB.far hb
  have hn := hk.n; have hi0 := hk.i0; have hl0 := hk.l0; have hil := hk.il; have hll := hk.ll; have hB := hb.b.B0
  have hd := dev_turn hb.b.d hi.t s0
  have KL := Lib.hid (fun (w' : World) (b : Below wr.heap.size wr w') => load_many (hd.below b) hk.dead 34 image.length (by omega) (by omega))
  have him := hk.im
  have KG : ∀ w, Calls Tryz.prog 51 #[.agg #[.int .i64 P, .int .i64 B, .int .i64 I, .int .i64 L, .int .i64 D], .int .i64 0] w (Grows (.int .i64 34) w) := fun w => by
    have := gImageAt P B I L D 0 hB.1 hB.2 w
    simpa [bankP] using this
  have KG := Lib.hid KG
  have C3 := hb.b.c3.turn' s3 hi.t
  have C4 := hb.b.c4.turn' s4 hi.t
  have C5 := hb.b.c5.turn' s5 hi.t
  have C8 := hi.c
  obtain ⟨A0, k0, c0, C9, _⟩ := hi.c9
  obtain ⟨il, hil'⟩ : ∃ il, image.length = il := ⟨_, rfl⟩
  rw [hil'] at hi KL him C8
  have HI := Lib.hid hi
  have HIL := Lib.hid hil'; have HIM := Lib.hid him
  unfold Fp.ptr at KL
  have s9 : ∀ w' : World, (∀ k, k < wr.heap.size → k ≠ n9 → w'.heap[k]? = wr.heap[k]?) → w'.cell? ⟨n3, 0, none⟩ = some (.pointer (some ⟨f.p, 0, none⟩)) ∧ w'.cell? ⟨n4, 0, none⟩ = some (.int .i64 P) ∧ w'.cell? ⟨n4, 1, none⟩ = some (.int .i64 B) ∧ w'.cell? ⟨n4, 2, none⟩ = some (.int .i64 I) ∧ w'.cell? ⟨n4, 3, none⟩ = some (.int .i64 L) ∧ w'.cell? ⟨n4, 4, none⟩ = some (.int .i64 D) ∧ w'.cell? ⟨n5, 0, none⟩ = some (.int .i64 0) ∧ w'.cell? ⟨n8, 1, none⟩ = some (.int .i64 il) := fun w' hw => by
    have d3 : Cells w' n3 _ _ := (hw n3 C3.lt (fun e => s3 (by rw [e]; simp [ReadS]))).trans C3
    have d4 : Cells w' n4 _ _ := (hw n4 C4.lt (fun e => s4 (by rw [e]; simp [ReadS]))).trans C4
    have d5 : Cells w' n5 _ _ := (hw n5 C5.lt (fun e => s5 (by rw [e]; simp [ReadS]))).trans C5
    have d8 : Cells w' n8 _ _ := (hw n8 C8.lt x89).trans C8
    exact ⟨d3.cell 0, d4.cell 0, d4.cell 1, d4.cell 2, d4.cell 3, d4.cell 4, d5.cell 0, d8.cell 1⟩
  have S9 := Lib.hid s9
  have HC9 := Lib.hid C9; have NE := Lib.hid hb.ne; have X89 := Lib.hid x89
  clear hb hk hi s0 s3 s4 s5 hn hi0 hl0 hil hll hB C3 C4 C5 C8 hd hil' s9 him C9 x89 x810
  have b0 : Below wr.heap.size wr wr.drew := below_drewN (Below.refl _ _) 1
  go_enter Tryz.func49, Tryz.ntmps49
  go_upto_region 1 with fail
  go_region_held3 (fun w' => w'.cell? ⟨n3, 0, none⟩ = some (.pointer (some ⟨f.p, 0, none⟩)) ∧ w'.cell? ⟨n4, 0, none⟩ = some (.int .i64 P) ∧ w'.cell? ⟨n4, 1, none⟩ = some (.int .i64 B) ∧ w'.cell? ⟨n4, 2, none⟩ = some (.int .i64 I) ∧ w'.cell? ⟨n4, 3, none⟩ = some (.int .i64 L) ∧ w'.cell? ⟨n4, 4, none⟩ = some (.int .i64 D) ∧ w'.cell? ⟨n5, 0, none⟩ = some (.int .i64 0) ∧ w'.cell? ⟨n8, 1, none⟩ = some (.int .i64 il))
    (first | exact S9.out _ (fun k hk _ => b0.block k hk) | exact S9.out _ (fun k hk _ => kG.block k hk) | exact S9.out _ (fun k hk _ => kL.block k hk) | exact S9.out _ (fun k hk hne => (Below.heap_setCell _ _ _ k hne).trans (kL.block k hk)))
    (first
      | (go_at_call 51; (with_reducible refine (KG.out _).mono ?_); rintro e' wG hG; obtain ⟨rfl, bG⟩ := hG.below; clear hG; have kG : Below wr.heap.size wr wG := b0.trans (bG.mono b0.size))
      | (go_at_call 50; (with_reducible refine (KL.out _ kG).mono ?_); rintro e' wL ⟨A, c, rfl, rL, aL, bL⟩; have kL : Below wr.heap.size wr wL := kG.trans (bL.mono kG.size); have z9 := (HC9.out.below' kL).free 0; have x9 := (HC9.out.below' kL).cell 0))
  all_goals
    have RL := Lib.hid rL; have AL := Lib.hid aL; have KL2 := Lib.hid kL; have WG := Lib.hid kG
    clear rL aL bL kG z9 x9 KL KG
    go_wp2
    go_ret
    have bk := KL2.out
    have t2 := (HI.out.t.trans (S' := ReadS n8 n9 n10) (Turn.ofBelow bk) (fun x hx => .inl hx)).trans (S' := ReadS n8 n9 n10) (Turn.set _ (p := ⟨n9, 0, none⟩) (by simp [ReadS]) (.slice A il c)) (fun x hx => .inl hx)
    rw [HIL.out]
    refine ⟨0, rfl, .inl ⟨rfl, t2, (HI.out.c.below' bk).far X89.out _, ⟨A, il, c, by simpa using (HC9.out.below' bk).set 0 (.slice A il c), fun l e => ?_⟩, ?_⟩⟩
    · cases e
      have hw := wr.heap.size
      refine ⟨HIL.out.symm, ?_, fun b o m e => Nat.le_trans HI.out.t.size (Nat.le_trans WG.out.size (AL.out b o m e))⟩
      have r := RL.out
      rw [HIM.out] at r
      exact row_turn r (Turn.set (S := [n9]) _ (p := ⟨n9, 0, none⟩) (by simp) _) (fun b o m e hm => by have h1 := AL.out b o m e; have h2 := HC9.out.lt; have h3 := WG.out.size; rw [List.mem_singleton] at hm; omega)
    · obtain ⟨A2, k2, c2, C10, h10⟩ := HI.out.c10
      exact ⟨A2, k2, c2, (C10.below' bk).far (Ne.symm NE.out) _, fun l e => by cases e⟩
set_option maxRecDepth 100000 in
set_option maxHeartbeats 4000000 in
theorem read3_dev (hi : ReadI W n8 n9 n10 log.length image.length (some image) none wr) : Calls Tryz.prog 52 #[.pointer (some ⟨n3, 0, none⟩), .pointer (some ⟨n4, 0, none⟩), .pointer (some ⟨n5, 0, none⟩), .pointer (some ⟨n8, 0, none⟩), .pointer (some ⟨n10, 0, none⟩)] wr (Ends (ReadI W n8 n9 n10 log.length image.length (some image) (some log)) (fun _ _ => False)) := by
  obtain ⟨s0, s3, s4, s5, x89, x810⟩ := ReadB.far hb
  have hn := hk.n; have hi0 := hk.i0; have hl0 := hk.l0; have hil := hk.il; have hll := hk.ll; have hB := hb.b.B0
  have hd := dev_turn hb.b.d hi.t s0
  have KL := Lib.hid (fun (w' : World) (b : Below wr.heap.size wr w') => load_many (hd.below b) hk.dead (34 + I) log.length (by omega) (by omega))
  have him := hk.lg
  have KG : ∀ w, Calls Tryz.prog 53 #[.agg #[.int .i64 P, .int .i64 B, .int .i64 I, .int .i64 L, .int .i64 D], .int .i64 0] w (Grows (.int .i64 (34 + I)) w) := fun w => by
    have := gLogAt P B I L D 0 hB.1 hB.2 hi0.1 (by omega) w
    simpa [bankP] using this
  have KG := Lib.hid KG
  have C3 := hb.b.c3.turn' s3 hi.t
  have C4 := hb.b.c4.turn' s4 hi.t
  have C5 := hb.b.c5.turn' s5 hi.t
  have C8 := hi.c
  obtain ⟨A0, k0, c0, C9, _⟩ := hi.c10
  have LT10 := Lib.hid (show n10 < W.heap.size from (let ⟨_, h⟩ := hb.c10; h.lt))
  obtain ⟨il, hil'⟩ : ∃ il, log.length = il := ⟨_, rfl⟩
  rw [hil'] at hi KL him C8
  have HI := Lib.hid hi
  have HIL := Lib.hid hil'; have HIM := Lib.hid him
  unfold Fp.ptr at KL
  have s9 : ∀ w' : World, (∀ k, k < wr.heap.size → k ≠ n10 → w'.heap[k]? = wr.heap[k]?) → w'.cell? ⟨n3, 0, none⟩ = some (.pointer (some ⟨f.p, 0, none⟩)) ∧ w'.cell? ⟨n4, 0, none⟩ = some (.int .i64 P) ∧ w'.cell? ⟨n4, 1, none⟩ = some (.int .i64 B) ∧ w'.cell? ⟨n4, 2, none⟩ = some (.int .i64 I) ∧ w'.cell? ⟨n4, 3, none⟩ = some (.int .i64 L) ∧ w'.cell? ⟨n4, 4, none⟩ = some (.int .i64 D) ∧ w'.cell? ⟨n5, 0, none⟩ = some (.int .i64 0) ∧ w'.cell? ⟨n8, 0, none⟩ = some (.int .i64 il) := fun w' hw => by
    have d3 : Cells w' n3 _ _ := (hw n3 C3.lt (fun e => s3 (by rw [e]; simp [ReadS]))).trans C3
    have d4 : Cells w' n4 _ _ := (hw n4 C4.lt (fun e => s4 (by rw [e]; simp [ReadS]))).trans C4
    have d5 : Cells w' n5 _ _ := (hw n5 C5.lt (fun e => s5 (by rw [e]; simp [ReadS]))).trans C5
    have d8 : Cells w' n8 _ _ := (hw n8 C8.lt x810).trans C8
    exact ⟨d3.cell 0, d4.cell 0, d4.cell 1, d4.cell 2, d4.cell 3, d4.cell 4, d5.cell 0, d8.cell 0⟩
  have S9 := Lib.hid s9
  have HC9 := Lib.hid C9; have NE := Lib.hid hb.ne; have X89 := Lib.hid x810
  clear hb hk hi s0 s3 s4 s5 hn hi0 hl0 hil hll hB C3 C4 C5 C8 hd hil' s9 him C9 x89 x810
  have b0 : Below wr.heap.size wr wr.drew := below_drewN (Below.refl _ _) 1
  go_enter Tryz.func52, Tryz.ntmps52
  go_upto_region 1 with fail
  go_region_held3 (fun w' => w'.cell? ⟨n3, 0, none⟩ = some (.pointer (some ⟨f.p, 0, none⟩)) ∧ w'.cell? ⟨n4, 0, none⟩ = some (.int .i64 P) ∧ w'.cell? ⟨n4, 1, none⟩ = some (.int .i64 B) ∧ w'.cell? ⟨n4, 2, none⟩ = some (.int .i64 I) ∧ w'.cell? ⟨n4, 3, none⟩ = some (.int .i64 L) ∧ w'.cell? ⟨n4, 4, none⟩ = some (.int .i64 D) ∧ w'.cell? ⟨n5, 0, none⟩ = some (.int .i64 0) ∧ w'.cell? ⟨n8, 0, none⟩ = some (.int .i64 il))
    (first | exact S9.out _ (fun k hk _ => b0.block k hk) | exact S9.out _ (fun k hk _ => kG.block k hk) | exact S9.out _ (fun k hk _ => kL.block k hk) | exact S9.out _ (fun k hk hne => (Below.heap_setCell _ _ _ k hne).trans (kL.block k hk)))
    (first
      | (go_at_call 53; (with_reducible refine (KG.out _).mono ?_); rintro e' wG hG; obtain ⟨rfl, bG⟩ := hG.below; clear hG; have kG : Below wr.heap.size wr wG := b0.trans (bG.mono b0.size))
      | (go_at_call 50; (with_reducible refine (KL.out _ kG).mono ?_); rintro e' wL ⟨A, c, rfl, rL, aL, bL⟩; have kL : Below wr.heap.size wr wL := kG.trans (bL.mono kG.size); have z9 := (HC9.out.below' kL).free 0; have x9 := (HC9.out.below' kL).cell 0))
  all_goals
    have RL := Lib.hid rL; have AL := Lib.hid aL; have KL2 := Lib.hid kL; have WG := Lib.hid kG
    clear rL aL bL kG z9 x9 KL KG
    go_wp2
    go_ret
    have bk := KL2.out
    have t2 := (HI.out.t.trans (S' := ReadS n8 n9 n10) (Turn.ofBelow bk) (fun x hx => .inl hx)).trans (S' := ReadS n8 n9 n10) (Turn.set _ (p := ⟨n10, 0, none⟩) (by simp [ReadS]) (.slice A il c)) (fun x hx => .inl hx)
    rw [HIL.out]
    refine ⟨0, rfl, .inl ⟨rfl, t2, (HI.out.c.below' bk).far X89.out _, ?_, ?_⟩⟩
    · obtain ⟨A2, k2, c2, C9', h9⟩ := HI.out.c9
      refine ⟨A2, k2, c2, (C9'.below' bk).far NE.out _, fun l e => ?_⟩
      obtain ⟨e1, r1, a1⟩ := h9 l e
      refine ⟨e1, ?_, a1⟩
      exact row_turn ((Row.below r1 bk).more bk.size) (Turn.set (S := [n10]) _ (p := ⟨n10, 0, none⟩) (by simp) _) (fun b o m e hm => by have h1 := a1 b o m e; have h2 := LT10.out; rw [List.mem_singleton] at hm; omega)
    · refine ⟨A, il, c, by simpa using (HC9.out.below' bk).set 0 (.slice A il c), fun l e => ?_⟩
      cases e
      refine ⟨HIL.out.symm, ?_, fun b o m e => Nat.le_trans HI.out.t.size (Nat.le_trans WG.out.size (AL.out b o m e))⟩
      have r := RL.out
      rw [HIM.out] at r
      exact row_turn r (Turn.set (S := [n10]) _ (p := ⟨n10, 0, none⟩) (by simp) _) (fun b o m e hm => by have h1 := AL.out b o m e; have h2 := HC9.out.lt; have h3 := WG.out.size; rw [List.mem_singleton] at hm; omega)
end
end Go.Proofs.YtnjikgcigobcdaaGreat

namespace Go.Proofs.YtnjikgcigobcdaaGreat
open Wd Pm Go.Maps Go.RowKit Go.Sort
set_option linter.unusedVariables false
set_option linter.unusedSectionVars false

section
variable {W wr : World} {f : Fp} {σ : St} {P B I L D : Int} {n3 n4 n5 n8 n9 n10 : Nat} {image log : List Int} (hb : ReadB W f σ P B I L D n3 n4 n5 n8 n9 n10) (hk : Bank σ I L image log)
include hb hk
set_option maxRecDepth 100000 in
set_option maxHeartbeats 2000000 in
theorem read1_dev (hi : ReadI W n8 n9 n10 0 0 none none wr) : Calls Tryz.prog 47 #[.pointer (some ⟨n3, 0, none⟩), .pointer (some ⟨n4, 0, none⟩), .pointer (some ⟨n5, 0, none⟩), .pointer (some ⟨n8, 0, none⟩)] wr (Ends (ReadI W n8 n9 n10 log.length image.length none none) (fun _ _ => False)) := by
  obtain ⟨s0, s3, s4, s5, x89, x810⟩ := ReadB.far hb
  have hn := hk.n; have hi0 := hk.i0; have hl0 := hk.l0; have hil := hk.il; have hll := hk.ll; have hB := hb.b.B0
  have KC := Lib.hid (count_dev (dev_turn hb.b.d hi.t s0) hk.dead P B I L D 0 hB.1 hB.2 (by omega) (by omega) (by show (32 : Int) + 2 ≤ _; omega) log.length image.length hk.t hk.i (by omega) hll (by omega) hil)
  have k3 : wr.cell? ⟨n3, 0, none⟩ = some (.pointer (some ⟨f.p, 0, none⟩)) := (hb.b.c3.turn' s3 hi.t).cell 0
  have C4 := hb.b.c4.turn' s4 hi.t
  have k40 := C4.cell 0; have k41 := C4.cell 1; have k42 := C4.cell 2; have k43 := C4.cell 3; have k44 := C4.cell 4
  have k5 : wr.cell? ⟨n5, 0, none⟩ = some (.int .i64 0) := (hb.b.c5.turn' s5 hi.t).cell 0
  have HI := Lib.hid hi
  unfold Fp.ptr at KC
  clear hb hk hi s0 s3 s4 s5 hn hi0 hl0 hil hll hB C4
  go_enter Tryz.func47, Tryz.ntmps47
  go_wp2_with fail
  refine (KC.out).mono ?_
  rintro e w2 ⟨rfl, b2⟩
  have HI2 := Lib.hid (HI.out.below b2)
  have C8 := Lib.hid HI2.out.c
  have z0 := C8.out.free 0
  have z1 := C8.out.free 1
  have x0 := C8.out.cell 0
  have x1 := C8.out.cell 1
  clear b2 KC k3 k40 k41 k42 k43 k44 k5
  go_wp2
  go_ret
  obtain ⟨A9, k9, c9, C9, h9⟩ := HI2.out.c9
  obtain ⟨A10, k10, c10, C10, h10⟩ := HI2.out.c10
  refine ⟨0, rfl, .inl ⟨rfl, ?_, ?_, ⟨A9, k9, c9, (C9.far (C9.ne C8.out (by decide)) _).far (C9.ne C8.out (by decide)) _, fun l e => by cases e⟩, A10, k10, c10, (C10.far (C10.ne C8.out (by decide)) _).far (C10.ne C8.out (by decide)) _, fun l e => by cases e⟩⟩
  · exact (HI2.out.t.trans (S' := ReadS n8 n9 n10) (Turn.set _ (p := ⟨n8, 0, none⟩) (by simp [ReadS]) _) (fun x hx => .inl hx)).trans (S' := ReadS n8 n9 n10) (Turn.set _ (p := ⟨n8, 1, none⟩) (by simp [ReadS]) _) (fun x hx => .inl hx)
  · have := (C8.out.set 0 (.int .i64 log.length)).set 1 (.int .i64 image.length)
    simpa using this

def ReadF (j : Nat) : FuncId := if j = 0 then 47 else if j = 1 then 49 else 52
def ReadC (n3 n4 n5 n8 n9 n10 : Nat) (j : Nat) : Array Value := if j = 0 then #[.pointer (some ⟨n3, 0, none⟩), .pointer (some ⟨n4, 0, none⟩), .pointer (some ⟨n5, 0, none⟩), .pointer (some ⟨n8, 0, none⟩)] else if j = 1 then #[.pointer (some ⟨n3, 0, none⟩), .pointer (some ⟨n4, 0, none⟩), .pointer (some ⟨n5, 0, none⟩), .pointer (some ⟨n8, 0, none⟩), .pointer (some ⟨n9, 0, none⟩)] else #[.pointer (some ⟨n3, 0, none⟩), .pointer (some ⟨n4, 0, none⟩), .pointer (some ⟨n5, 0, none⟩), .pointer (some ⟨n8, 0, none⟩), .pointer (some ⟨n10, 0, none⟩)]
def readRow (n3 n4 n5 n8 n9 n10 : Nat) : Array Value := #[.func (.func 47) #[] #[.pointer (some ⟨n3, 0, none⟩), .pointer (some ⟨n4, 0, none⟩), .pointer (some ⟨n5, 0, none⟩), .pointer (some ⟨n8, 0, none⟩)], .func (.func 49) #[] #[.pointer (some ⟨n3, 0, none⟩), .pointer (some ⟨n4, 0, none⟩), .pointer (some ⟨n5, 0, none⟩), .pointer (some ⟨n8, 0, none⟩), .pointer (some ⟨n9, 0, none⟩)], .func (.func 52) #[] #[.pointer (some ⟨n3, 0, none⟩), .pointer (some ⟨n4, 0, none⟩), .pointer (some ⟨n5, 0, none⟩), .pointer (some ⟨n8, 0, none⟩), .pointer (some ⟨n10, 0, none⟩)]]
theorem read_turn (h8 : Cells W n8 82 #[.int .i64 0, .int .i64 0]) (h9 : Cells W n9 23 #[.slice none 0 0]) (h10 : Cells W n10 23 #[.slice none 0 0]) (R : Nat) (hR : Cells W R 60 (readRow n3 n4 n5 n8 n9 n10)) :
    Calls Tryz.prog 35 #[.slice (some ⟨R, 0, none⟩) 3 3] W fun e w' => e = .returned (.int .i64 0) ∧ ReadI W n8 n9 n10 log.length image.length (some image) (some log) w' := by
  have hrow := Row.of_cells (B := W.heap.size) hR hR.lt
  have hne : ∀ b o m, (some ⟨R, 0, none⟩ : Option Addr) = some ⟨b, o, m⟩ → b ∉ ReadS n8 n9 n10 := fun b o m e hm => by
    cases e
    simp only [ReadS, List.mem_cons, List.not_mem_nil, or_false] at hm
    rcases hm with h | h | h
    · exact hR.ne h8 (by decide) h
    · exact hR.ne h9 (by decide) h
    · exact hR.ne h10 (by decide) h
  have key := inTurn_any 3 (by omega) ReadF (fun _ => #[]) (ReadC n3 n4 n5 n8 n9 n10) (some ⟨R, 0, none⟩) 3
    (fun j wr => if j = 0 then ReadI W n8 n9 n10 0 0 none none wr else if j = 1 then ReadI W n8 n9 n10 log.length image.length none none wr else if j = 2 then ReadI W n8 n9 n10 log.length image.length (some image) none wr else ReadI W n8 n9 n10 log.length image.length (some image) (some log) wr) (fun _ _ => False) W
    (by rw [if_pos rfl]; exact ⟨Turn.refl _ _, h8, ⟨none, 0, 0, h9, fun l e => by cases e⟩, none, 0, 0, h10, fun l e => by cases e⟩)
    (fun j wr hj => by
      have ht : Turn W wr (ReadS n8 n9 n10) := by
        split at hj
        · exact hj.t
        · split at hj
          · exact hj.t
          · split at hj
            · exact hj.t
            · exact hj.t
      exact row_turn hrow ht hne)
    (fun j hj => by
      unfold ReadF
      split
      · exact fun args w => by simp [go_sem]
      · split
        · exact fun args w => by simp [go_sem]
        · exact fun args w => by simp [go_sem])
    (fun j wr hj hA => by
      match j, hj with
      | 0, _ => exact read1_dev hb hk hA
      | 1, _ => exact read2_dev hb hk hA
      | 2, _ => exact read3_dev hb hk hA)
  refine key.mono ?_
  rintro e w2 ⟨er, rfl, ⟨rfl, h⟩ | ⟨_, h⟩⟩
  · exact ⟨rfl, h⟩
  · exact h.elim
end
def ReadDone (w : World) (image log : List Int) (e : Ending) (w' : World) : Prop :=
  ∃ A c A2 c2, e = .returned (.tuple #[.slice A image.length c, .slice A2 log.length c2, .int .i64 0]) ∧ Row w' w'.heap.size A image.length (image.map VU64) ∧ Row w' w'.heap.size A2 log.length (log.map VU64) ∧ (∀ b o m, A = some ⟨b, o, m⟩ → w.heap.size ≤ b) ∧ (∀ b o m, A2 = some ⟨b, o, m⟩ → w.heap.size ≤ b) ∧ Below w.heap.size w w'
set_option maxRecDepth 100000 in
set_option maxHeartbeats 2000000 in
theorem read_dev {w : World} {f : Fp} {σ : St} {P B I L D : Int} {image log : List Int} (h : Dev w f σ) (hk : Bank σ I L image log) (hB : 0 ≤ B ∧ B ≤ 200000) :
    Calls Tryz.prog 21 #[f.ptr, .agg #[.int .i64 P, .int .i64 B, .int .i64 I, .int .i64 L, .int .i64 D], .int .i64 0] w (ReadDone w image log) := by
  have hmf : ∀ (fn : Fn) (first cap : Array Value) (w : World), (Instr.makeFunc fn first cap).run Tryz.prog w = .ok (.func fn first cap) w := fun _ _ _ _ => rfl
  have H := Lib.hid h; have HK := Lib.hid hk
  clear h hk
  unfold Fp.ptr
  go_enter Tryz.func21, Tryz.ntmps21
  go_upto_region 3 with fail
  have c3 := (((((Cells.new w 27 #[.pointer (some ⟨f.p, 0, none⟩)]).alloc (.cells #[.int .i64 P, .int .i64 B, .int .i64 I, .int .i64 L, .int .i64 D] 49)).alloc (.cells #[.int .i64 0] 3)).alloc (.cells #[.int .i64 0, .int .i64 0] 82)).alloc (.cells #[.slice none 0 0] 23)).alloc (.cells #[.slice none 0 0] 23)
  have c4 := ((((Cells.new (w.alloc (.cells #[.pointer (some ⟨f.p, 0, none⟩)] 27)) 49 #[.int .i64 P, .int .i64 B, .int .i64 I, .int .i64 L, .int .i64 D]).alloc (.cells #[.int .i64 0] 3)).alloc (.cells #[.int .i64 0, .int .i64 0] 82)).alloc (.cells #[.slice none 0 0] 23)).alloc (.cells #[.slice none 0 0] 23)
  have c5 := (((Cells.new ((w.alloc (.cells #[.pointer (some ⟨f.p, 0, none⟩)] 27)).alloc (.cells #[.int .i64 P, .int .i64 B, .int .i64 I, .int .i64 L, .int .i64 D] 49)) 3 #[.int .i64 0]).alloc (.cells #[.int .i64 0, .int .i64 0] 82)).alloc (.cells #[.slice none 0 0] 23)).alloc (.cells #[.slice none 0 0] 23)
  have c8 := ((Cells.new (((w.alloc (.cells #[.pointer (some ⟨f.p, 0, none⟩)] 27)).alloc (.cells #[.int .i64 P, .int .i64 B, .int .i64 I, .int .i64 L, .int .i64 D] 49)).alloc (.cells #[.int .i64 0] 3)) 82 #[.int .i64 0, .int .i64 0]).alloc (.cells #[.slice none 0 0] 23)).alloc (.cells #[.slice none 0 0] 23)
  have c9 := (Cells.new ((((w.alloc (.cells #[.pointer (some ⟨f.p, 0, none⟩)] 27)).alloc (.cells #[.int .i64 P, .int .i64 B, .int .i64 I, .int .i64 L, .int .i64 D] 49)).alloc (.cells #[.int .i64 0] 3)).alloc (.cells #[.int .i64 0, .int .i64 0] 82)) 23 #[.slice none 0 0]).alloc (.cells #[.slice none 0 0] 23)
  have c10 := Cells.new (((((w.alloc (.cells #[.pointer (some ⟨f.p, 0, none⟩)] 27)).alloc (.cells #[.int .i64 P, .int .i64 B, .int .i64 I, .int .i64 L, .int .i64 D] 49)).alloc (.cells #[.int .i64 0] 3)).alloc (.cells #[.int .i64 0, .int .i64 0] 82)).alloc (.cells #[.slice none 0 0] 23)) 23 #[.slice none 0 0]
  simp only [World.size_alloc] at c4 c5 c8 c9 c10
  have b4 : Below w.heap.size w ((((((w.alloc (.cells #[.pointer (some ⟨f.p, 0, none⟩)] 27)).alloc (.cells #[.int .i64 P, .int .i64 B, .int .i64 I, .int .i64 L, .int .i64 D] 49)).alloc (.cells #[.int .i64 0] 3)).alloc (.cells #[.int .i64 0, .int .i64 0] 82)).alloc (.cells #[.slice none 0 0] 23)).alloc (.cells #[.slice none 0 0] 23)) := ((((((Below.refl _ _).alloc (Nat.le_refl _) _).alloc (by simp) _).alloc (by simp; omega) _).alloc (by simp; omega) _).alloc (by simp; omega) _).alloc (by simp; omega) _
  obtain ⟨W, hW⟩ : ∃ W, (((((w.alloc (.cells #[.pointer (some ⟨f.p, 0, none⟩)] 27)).alloc (.cells #[.int .i64 P, .int .i64 B, .int .i64 I, .int .i64 L, .int .i64 D] 49)).alloc (.cells #[.int .i64 0] 3)).alloc (.cells #[.int .i64 0, .int .i64 0] 82)).alloc (.cells #[.slice none 0 0] 23)).alloc (.cells #[.slice none 0 0] 23) = W := ⟨_, rfl⟩
  rw [hW] at c3 c4 c5 c8 c9 c10 b4 ⊢
  have C3 := Lib.hid c3; have C4 := Lib.hid c4; have C5 := Lib.hid c5; have C8 := Lib.hid c8; have C9 := Lib.hid c9; have C10 := Lib.hid c10; have B4 := Lib.hid b4
  clear c3 c4 c5 c8 c9 c10 b4 hW
  obtain ⟨n3, e3⟩ : ∃ n, w.heap.size = n := ⟨_, rfl⟩
  rw [e3] at C3 C4 C5 C8 C9 C10 B4 ⊢
  obtain ⟨arr, harr⟩ : ∃ arr : Array Value, arr = readRow n3 (n3 + 1) (n3 + 1 + 1) (n3 + 1 + 1 + 1) (n3 + 1 + 1 + 1 + 1) (n3 + 1 + 1 + 1 + 1 + 1) := ⟨_, rfl⟩
  have KT := read_turn (W := W.alloc (.cells arr 60)) (n3 := n3) (n4 := n3 + 1) (n5 := n3 + 1 + 1) (n8 := n3 + 1 + 1 + 1) (n9 := n3 + 1 + 1 + 1 + 1) (n10 := n3 + 1 + 1 + 1 + 1 + 1) (P := P) (D := D)
    ⟨⟨(H.out.below (e3 ▸ B4.out)).alloc _, C3.out.alloc _, C4.out.alloc _, C5.out.alloc _, ⟨_, C8.out.alloc _⟩, hB⟩, ⟨_, C9.out.alloc _⟩, ⟨_, C10.out.alloc _⟩, by omega⟩ HK.out (C8.out.alloc _) (C9.out.alloc _) (C10.out.alloc _) W.heap.size (harr ▸ Cells.new W _ arr)
  unfold readRow at harr
  rw [harr] at KT
  have KTH := Lib.hid KT
  clear KT harr
  go_wp2_with fail
  refine (KTH.out).mono ?_
  rintro e w5 ⟨rfl, hi⟩
  obtain ⟨t5, _, ⟨A9, k9, cc9, D9, h9⟩, A10, k10, cc10, D10, h10⟩ := hi
  obtain ⟨rfl, r9, a9⟩ := h9 _ rfl
  obtain ⟨rfl, r10, a10⟩ := h10 _ rfl
  have k9 := D9.cell 0
  have k10 := D10.cell 0
  have T5 := Lib.hid t5; have R9 := Lib.hid r9; have R10 := Lib.hid r10; have A9H := Lib.hid a9; have A10H := Lib.hid a10
  clear t5 h9 h10 r9 r10 a9 a10 KTH D9 D10
  go_wp2
  go_quiet (fail)
  go_wp2
  go_ret3
  have hs := B4.out.size
  rw [e3] at hs
  refine ⟨A9, cc9, A10, cc10, rfl, R9.out.drewN _, R10.out.drewN _, fun b o m e => ?_, fun b o m e => ?_, ?_⟩
  · have := A9H.out b o m e; simp at this; omega
  · have := A10H.out b o m e; simp at this; omega
  · rw [e3]
    exact below_drewN ((B4.out.alloc hs _).trans (T5.out.below (.inr (by simp; omega)) (fun x hx => by simp only [ReadS, List.mem_cons, List.not_mem_nil, or_false] at hx; omega))) _
end Go.Proofs.YtnjikgcigobcdaaGreat
