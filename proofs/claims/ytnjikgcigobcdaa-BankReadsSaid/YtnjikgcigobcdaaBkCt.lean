import Derived.Test.YtnjikgcigobcdaaBkLd
import Derived.Test.YtnjikgcigobcdaaGeCode
import Derived.BigRegion
import Derived.Test.YtnjikgcigobcdaaGrow
import Derived.Shelf.SlSortCmp.QuietGrown
import Derived.StillTailTactics
namespace Go.Proofs.Ytnjikgcigobcdaa
open Wd Pm Go.Maps Go.RowKit Go.Sort
set_option linter.unusedVariables false

theorem u64_of {x : Int} (h0 : 0 ≤ x) (h1 : x ≤ 1000000000000) : U64 x := WalkArith.wf_u64 (by omega)
set_option maxRecDepth 100000 in
theorem above_no (x room : Int) (h0 : 0 ≤ x) (h1 : x ≤ room) (h2 : room ≤ 10000000) (w : World) : Calls Try.prog 60 #[.int .u64 x, .int .i64 room] w (Grows (.bool false) w) := by
  have q1 : decide (room < 0) = false := by simp; omega
  have q2 : decide (x > room) = false := by simp; omega
  have q3 : IntKind.u64.wrap room = room := by rw [IntKind.wrap_u64]; omega
  go_enter Try.func60, Try.ntmps60
  go_wp2
  go_ret
  exact ⟨rfl, grow_none w⟩
set_option maxRecDepth 100000 in
theorem there_ok {w : World} {f : Fp} {σ : St} (h : Dev w f σ) (hd : σ.dead = false) (at_ : Int) (many : Nat) (h0 : 0 ≤ at_) (h1 : at_ + many ≤ σ.n) :
    Calls Try.prog 35 #[f.ptr, .int .i64 at_, .int .i64 many] w fun e w' => e = .returned (.int .i64 0) ∧ w = w' := by
  have nle := h.good.nle
  by_cases hm : many = 0
  · subst hm
    clear h
    unfold Fp.ptr
    go_enter Try.func35, Try.ntmps35
    go_wp2
    go_ret
    exact ⟨rfl, rfl⟩
  · have hl := load_dev h (at_ + many - 1)
    rw [loadErr_ok hd (by omega) (by omega)] at hl
    obtain ⟨x, hx⟩ : ∃ x, σ.loadVal (at_ + many - 1) = x := ⟨_, rfl⟩
    rw [hx] at hl
    have q1 : IntKind.i64.wrap (at_ + (many : Int)) = at_ + (many : Int) := wrapI (by omega) (by omega)
    have q2 : IntKind.i64.wrap (at_ + (many : Int) - 1) = at_ + (many : Int) - 1 := wrapI (by omega) (by omega)
    have q3 : ((many : Int) == 0) = false := by simp; omega
    have HL := Lib.hid hl
    clear h hl hx hm
    unfold Fp.ptr at HL ⊢
    go_enter Try.func35, Try.ntmps35
    go_wp2_with fail
    refine (HL.out).mono ?_
    rintro e w' ⟨rfl, rfl⟩
    clear HL
    go_wp2
    go_ret
    exact ⟨rfl, rfl⟩
def GV (P B I L D : Int) : Value := .agg #[.int .i64 P, .int .i64 B, .int .i64 I, .int .i64 L, .int .i64 D]
set_option maxRecDepth 100000 in
set_option maxHeartbeats 4000000 in
theorem count_dev {w : World} {f : Fp} {σ : St} (h : Dev w f σ) (hd : σ.dead = false) (P B I L D k : Int) (hB : 0 ≤ B) (hB2 : B ≤ 200000) (hL : L ≤ 10000000) (hI : I ≤ 10000000) (h1 : bankP B k + 2 ≤ σ.n) (x0 x1 : Int)
    (hx0 : σ.loadVal (bankP B k) = x0) (hx1 : σ.loadVal (bankP B k + 1) = x1) (a0 : 0 ≤ x0) (b0 : x0 ≤ L) (a1 : 0 ≤ x1) (b1 : x1 ≤ I) :
    Calls Try.prog 33 #[f.ptr, .agg #[.int .i64 P, .int .i64 B, .int .i64 I, .int .i64 L, .int .i64 D], .int .i64 k] w fun e w' => e = .returned (.tuple #[.agg #[.int .i64 x0, .int .i64 x1], .int .i64 0]) ∧ Below w.heap.size w w' := by
  obtain ⟨p1, p2⟩ := bankP_bd B k hB hB2
  have KB := Lib.hid (gBankAt P B I L D k hB hB2)
  have H := Lib.hid h; have HD := Lib.hid hd
  clear h hd
  have KA0 := Lib.hid (above_no x0 L a0 b0 hL)
  have KA1 := Lib.hid (above_no x1 I a1 b1 hI)
  obtain ⟨bp, hbp⟩ : ∃ bp, bankP B k = bp := ⟨_, rfl⟩
  rw [hbp] at p1 p2 h1 hx0 hx1 KB
  have HX0 := Lib.hid hx0; have HX1 := Lib.hid hx1
  clear hx0 hx1 hbp
  have w0 : IntKind.i64.wrap x0 = x0 := wrapI (by omega) (by omega)
  have w1 : IntKind.i64.wrap x1 = x1 := wrapI (by omega) (by omega)
  unfold Fp.ptr
  have hb0 : Below w.heap.size w ((w.alloc (.cells #[.int .i64 P, .int .i64 B, .int .i64 I, .int .i64 L, .int .i64 D] 28)).alloc (.cells #[.int .i64 0, .int .i64 0] 61)) := ((Below.refl _ _).alloc (Nat.le_refl _) _).alloc (by simp) _
  have cG := (Cells.new w 28 #[.int .i64 P, .int .i64 B, .int .i64 I, .int .i64 L, .int .i64 D]).alloc (.cells #[.int .i64 0, .int .i64 0] 61)
  have cR := Cells.new (w.alloc (.cells #[.int .i64 P, .int .i64 B, .int .i64 I, .int .i64 L, .int .i64 D] 28)) 61 #[.int .i64 0, .int .i64 0]
  rw [World.size_alloc] at cR
  have HB0 := Lib.hid hb0; have CG := Lib.hid cG; have CR := Lib.hid cR
  clear hb0 cG cR
  go_enter Try.func33, Try.ntmps33
  go_wp2_with fail
  refine (KB.out _).mono ?_
  rintro e w2 hg
  obtain ⟨rfl, b2⟩ := hg.below
  have HB2 := Lib.hid (HB0.out.trans (b2.mono HB0.out.size)); have CG2 := Lib.hid (CG.out.below' b2); have CR2 := Lib.hid (CR.out.below' b2)
  clear hg b2 KB CG CR HB0
  have KL := Lib.hid (load_many (H.out.below HB2.out) HD.out bp 2 p1 (by omega))
  unfold Fp.ptr at KL
  go_wp2_with fail
  refine (KL.out).mono ?_
  rintro e w3 ⟨A, c, rfl, hr, hA, b3⟩
  have e2 : ldVals σ bp 2 = [x0, x1] := by
    rw [ldVals_succ, ldVals_succ]
    show [] ++ [σ.loadVal (bp + ((0 : Nat) : Int))] ++ [σ.loadVal (bp + ((1 : Nat) : Int))] = _
    have z0 : bp + ((0 : Nat) : Int) = bp := by omega
    have z1 : bp + ((1 : Nat) : Int) = bp + 1 := rfl
    rw [z0, z1, HX0.out, HX1.out]
    rfl
  rw [e2] at hr
  obtain ⟨bb, o, rfl, hbb, hc⟩ := hr.2 (by omega)
  have HBB := Lib.hid hbb
  have g0 := hc 0 (by simp)
  have g1 := hc 1 (by simp)
  simp only [List.map_cons, List.map_nil, List.getElem_cons_zero, List.getElem_cons_succ, VU64, Nat.add_zero] at g0 g1
  have c3 : w3.cell? ⟨w.heap.size, 3, none⟩ = some (.int .i64 L) := (CG2.out.below' b3).cell 3
  have c2 : w3.cell? ⟨w.heap.size, 2, none⟩ = some (.int .i64 I) := (CG2.out.below' b3).cell 2
  have HB3 := Lib.hid (HB2.out.trans (b3.mono HB2.out.size)); have CR3 := Lib.hid (CR2.out.below' b3)
  have hnz : bb ≠ w.heap.size + 1 := by
    have h1 := hA bb o none rfl
    have h2 := CR2.out.lt
    omega
  clear hbb hr hA b3 hc e2 KL CG2 CR2 HB2
  go_upto_region 5 with fail
  have hlt0 : (⟨bb, o, none⟩ : Addr).block < w3.heap.size := HBB.out
  have hlt1 : (⟨bb, o + 1, none⟩ : Addr).block < w3.heap.size := HBB.out
  have hltg : w.heap.size < w3.heap.size := by have := CR3.out.lt; omega
  have gg0 := cell_grown hlt0 g0
  have gg1 := cell_grown hlt1 g1
  have gc3 := cell_grown (a := ⟨w.heap.size, 3, none⟩) hltg c3
  have gc2 := cell_grown (a := ⟨w.heap.size, 2, none⟩) hltg c2
  have hfol : Try.prog.follows .mixedOrders = true := by kernel_rfl
  clear hlt0 hlt1 hltg
  refine wp_region_quiet_grown hfol (by kernel_rfl) ?_
  repeat (go_big_quiet_step (first
    | (go_at_call 60; (with_reducible exact Grows.in KA0.out _ _ _))
    | (go_at_call 60; (with_reducible exact Grows.in KA1.out _ _ _))))
  refine wpQuiet_nil ?_
  intro _ hw'
  obtain ⟨⟨nr, osr⟩, hw''⟩ := hw'
  subst hw''
  clear gg0 gg1 gc3 gc2 c3 c2
  have b34 := below_grow' w3 nr osr
  obtain ⟨w4, hw4⟩ : ∃ w4, grow (w3.drewN nr) osr = w4 := ⟨_, rfl⟩
  rw [hw4] at b34 ⊢
  have t0 : w4.cell? ⟨bb, o, none⟩ = some (.int .u64 x0) := (b34.cell (p := ⟨bb, o, none⟩) HBB.out).trans g0
  have t1 : w4.cell? ⟨bb, o + 1, none⟩ = some (.int .u64 x1) := (b34.cell (p := ⟨bb, o + 1, none⟩) HBB.out).trans g1
  have CR4 := Lib.hid (CR3.out.below' b34)
  have HB4 := Lib.hid (HB3.out.trans (b34.mono HB3.out.size))
  have zr0 := CR4.out.free 0
  have zr1 := CR4.out.free 1
  have cr0 := CR4.out.cell 0
  have cr1 := CR4.out.cell 1
  clear hw4 b34 HB3 CR3 g0 g1 hfol HBB
  go_upto_region 7 with fail
  go_still_tail 9, (by kernel_rfl)
  change wpList _ _ _ _ _ w4.drew
  have HB5 := Lib.hid (show Below w.heap.size w w4.drew from below_drewN HB4.out 1)
  have CR5 := Lib.hid (show Cells w4.drew (w.heap.size + 1) 61 #[.int .i64 0, .int .i64 0] from CR4.out)
  have zr0 := CR5.out.free 0
  have zr1 := CR5.out.free 1
  have cr0 := CR5.out.cell 0
  have cr1 := CR5.out.cell 1
  obtain ⟨w5, hw5⟩ : ∃ w5, w4.drew = w5 := ⟨_, rfl⟩
  rw [hw5] at HB5 CR5 zr0 zr1 cr0 cr1 ⊢
  go_wp2
  have cc := (CR5.out.set 0 (.int .i64 x0)).set 1 (.int .i64 x1)
  have d0 := cc.cell 0
  have d1 := cc.cell 1
  simp at d0 d1
  have hsz := CR5.out.lt
  exact bodyPost_ret (v := .tuple #[.agg #[.int .i64 x0, .int .i64 x1], .int .i64 0]) (by simp [results, Try.results33, go_sem, d0, d1]) rfl ⟨rfl, (HB5.out.setCell (by simp) _).setCell (by simp) _⟩
end Go.Proofs.Ytnjikgcigobcdaa
