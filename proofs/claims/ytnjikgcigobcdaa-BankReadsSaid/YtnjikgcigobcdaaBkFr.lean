import Derived.Test.YtnjikgcigobcdaaBkCt
namespace Go.Proofs.Ytnjikgcigobcdaa
open Wd Pm Go.Maps Go.RowKit Go.Sort
set_option linter.unusedVariables false
set_option linter.unusedSectionVars false

/-! what a bank is on a device -/
structure Bank (σ : St) (I L : Int) (image log : List Int) : Prop where
  dead : σ.dead = false
  n : 34 + I + L ≤ σ.n
  i0 : 0 ≤ I ∧ I ≤ 1000000
  l0 : 0 ≤ L ∧ L ≤ 1000000
  il : (image.length : Int) ≤ I
  ll : (log.length : Int) ≤ L
  t : σ.loadVal 32 = log.length
  i : σ.loadVal 33 = image.length
  im : ldVals σ 34 image.length = image
  lg : ldVals σ (34 + I) log.length = log
theorem row_turn {W w' : World} {S : List Nat} {R : Option Addr} {n : Nat} {xs : List Value} (h : Row W W.heap.size R n xs) (t : Turn W w' S) (hR : ∀ b o m, R = some ⟨b, o, m⟩ → b ∉ S) : Row w' w'.heap.size R n xs := by
  refine ⟨h.1, fun hp => ?_⟩
  obtain ⟨b, o, rfl, hb, hc⟩ := h.2 hp
  refine ⟨b, o, rfl, Nat.lt_of_lt_of_le hb t.size, fun j hj => ?_⟩
  have hk := t.block b hb (hR b o _ rfl)
  rw [← hc j hj]
  simp only [World.cell?, hk]
theorem dev_out {w : World} {f : Fp} {σ : St} (d : Dev w f σ) {q : Nat} {T : TypeId} {cs : Array Value} (h : Cells w q T cs) (h1 : T ≠ 73) (h2 : T ≠ 49) : q ∉ f.blocks := by
  intro hm
  simp only [Fp.blocks, List.mem_cons, List.not_mem_nil, or_false] at hm
  rcases hm with rfl | rfl | rfl | rfl
  · exact d.1.ne h (Ne.symm h1) rfl
  · exact d.2.1.ne h (Ne.symm h2) rfl
  · exact d.2.2.1.cells h rfl
  · exact d.2.2.2.1.cells h rfl
theorem dev_turn {W w' : World} {f : Fp} {σ : St} {S : List Nat} (d : Dev W f σ) (t : Turn W w' S) (hS : ∀ k ∈ f.blocks, k ∉ S) : Dev w' f σ :=
  d.keep fun k hk => t.block k (by have := d.lt; simp [Fp.blocks] at hk; omega) (hS k hk)
structure FreeB (W : World) (f : Fp) (σ : St) (P B I L D : Int) (n3 n4 n5 n8 : Nat) : Prop where
  d : Dev W f σ
  c3 : Cells W n3 26 #[.pointer (some ⟨f.p, 0, none⟩)]
  c4 : Cells W n4 28 #[.int .i64 P, .int .i64 B, .int .i64 I, .int .i64 L, .int .i64 D]
  c5 : Cells W n5 3 #[.int .i64 0]
  c8 : ∃ cs, Cells W n8 61 cs
  B0 : 0 ≤ B ∧ B ≤ 200000
structure FreeI (W : World) (n8 : Nat) (v0 v1 : Int) (w' : World) : Prop where
  t : Turn W w' [n8]
  c : Cells w' n8 61 #[.int .i64 v0, .int .i64 v1]
theorem FreeB.far {W : World} {f : Fp} {σ : St} {P B I L D : Int} {n3 n4 n5 n8 : Nat} (hb : FreeB W f σ P B I L D n3 n4 n5 n8) : (∀ k ∈ f.blocks, k ∉ [n8]) ∧ n3 ∉ [n8] ∧ n4 ∉ [n8] ∧ n5 ∉ [n8] := by
  obtain ⟨cs, c8⟩ := hb.c8
  refine ⟨fun k hk hm => ?_, fun hm => ?_, fun hm => ?_, fun hm => ?_⟩
  · rw [List.mem_singleton.1 hm] at hk
    exact dev_out hb.d c8 (by decide) (by decide) hk
  · exact hb.c3.ne c8 (by decide) (List.mem_singleton.1 hm)
  · exact hb.c4.ne c8 (by decide) (List.mem_singleton.1 hm)
  · exact hb.c5.ne c8 (by decide) (List.mem_singleton.1 hm)
section
variable {W wr : World} {f : Fp} {σ : St} {P B I L D : Int} {n3 n4 n5 n8 : Nat} {image log : List Int} (hb : FreeB W f σ P B I L D n3 n4 n5 n8) (hk : Bank σ I L image log)
include hb hk
set_option maxRecDepth 100000 in
set_option maxHeartbeats 2000000 in
theorem free1_dev (t0 i0 : Int) (hi : FreeI W n8 t0 i0 wr) : Calls Try.prog 32 #[.pointer (some ⟨n3, 0, none⟩), .pointer (some ⟨n4, 0, none⟩), .pointer (some ⟨n5, 0, none⟩), .pointer (some ⟨n8, 0, none⟩)] wr (Ends (FreeI W n8 log.length image.length) (fun _ _ => False)) := by
  obtain ⟨s0, s3, s4, s5⟩ := FreeB.far hb
  have hn := hk.n; have hi0 := hk.i0; have hl0 := hk.l0; have hil := hk.il; have hll := hk.ll; have hB := hb.B0
  have KC := Lib.hid (count_dev (dev_turn hb.d hi.t s0) hk.dead P B I L D 0 hB.1 hB.2 (by omega) (by omega) (by show (32 : Int) + 2 ≤ _; omega) log.length image.length hk.t hk.i (by omega) hll (by omega) hil)
  have k3 : wr.cell? ⟨n3, 0, none⟩ = some (.pointer (some ⟨f.p, 0, none⟩)) := (hb.c3.turn' s3 hi.t).cell 0
  have C4 := hb.c4.turn' s4 hi.t
  have k40 := C4.cell 0; have k41 := C4.cell 1; have k42 := C4.cell 2; have k43 := C4.cell 3; have k44 := C4.cell 4
  have k5 : wr.cell? ⟨n5, 0, none⟩ = some (.int .i64 0) := (hb.c5.turn' s5 hi.t).cell 0
  have HI := Lib.hid hi
  unfold Fp.ptr at KC
  clear hb hk hi s0 s3 s4 s5 hn hi0 hl0 hil hll hB C4
  go_enter Try.func32, Try.ntmps32
  go_wp2_with fail
  refine (KC.out).mono ?_
  rintro e w2 ⟨rfl, b2⟩
  have C8 := Lib.hid (HI.out.c.below' b2)
  have z0 := C8.out.free 0
  have z1 := C8.out.free 1
  have x0 := C8.out.cell 0
  have x1 := C8.out.cell 1
  have T2 := Lib.hid (HI.out.t.trans (S' := [n8]) (Turn.ofBelow b2) (fun x hx => .inl hx))
  clear b2 KC k3 k40 k41 k42 k43 k44 k5
  go_wp2
  go_ret
  refine ⟨0, rfl, .inl ⟨rfl, ?_, ?_⟩⟩
  · exact (T2.out.trans (S' := [n8]) (Turn.set _ (p := ⟨n8, 0, none⟩) (by simp) _) (fun x hx => .inl hx)).trans (S' := [n8]) (Turn.set _ (p := ⟨n8, 1, none⟩) (by simp) _) (fun x hx => .inl hx)
  · have := (C8.out.set 0 (.int .i64 log.length)).set 1 (.int .i64 image.length)
    simpa using this

set_option maxRecDepth 100000 in
set_option maxHeartbeats 2000000 in
theorem free2_dev (hi : FreeI W n8 log.length image.length wr) : Calls Try.prog 34 #[.pointer (some ⟨n3, 0, none⟩), .pointer (some ⟨n4, 0, none⟩), .pointer (some ⟨n5, 0, none⟩), .pointer (some ⟨n8, 0, none⟩)] wr (Ends (FreeI W n8 log.length image.length) (fun _ _ => False)) := by
  obtain ⟨s0, s3, s4, s5⟩ := FreeB.far hb
  have hn := hk.n; have hi0 := hk.i0; have hl0 := hk.l0; have hil := hk.il; have hll := hk.ll; have hB := hb.B0
  have hd := dev_turn hb.d hi.t s0
  have KT := Lib.hid (fun (n : Nat) (os : Array Obj) => (there_ok (hd.below (below_grow' wr n os)) hk.dead (34) image.length (by omega) (by omega)).mono (fun e w' (h : _ ∧ _) => (⟨h.1, h.2 ▸ grow_none _⟩ : Grows (.int .i64 0) (grow (wr.drewN n) os) e w')))
  have KG : ∀ w, Calls Try.prog 36 #[.agg #[.int .i64 P, .int .i64 B, .int .i64 I, .int .i64 L, .int .i64 D], .int .i64 0] w (Grows (.int .i64 (34)) w) := fun w => by
    have := gImageAt P B I L D 0 hB.1 hB.2 w
    simpa [bankP] using this
  have KG := Lib.hid KG
  have C3 := hb.c3.turn' s3 hi.t
  have C4 := hb.c4.turn' s4 hi.t
  have C5 := hb.c5.turn' s5 hi.t
  have C8 := hi.c
  have g3 := cell_grown (a := ⟨n3, 0, none⟩) C3.lt (C3.cell 0)
  have g40 := cell_grown (a := ⟨n4, 0, none⟩) C4.lt (C4.cell 0)
  have g41 := cell_grown (a := ⟨n4, 1, none⟩) C4.lt (C4.cell 1)
  have g42 := cell_grown (a := ⟨n4, 2, none⟩) C4.lt (C4.cell 2)
  have g43 := cell_grown (a := ⟨n4, 3, none⟩) C4.lt (C4.cell 3)
  have g44 := cell_grown (a := ⟨n4, 4, none⟩) C4.lt (C4.cell 4)
  have g5 := cell_grown (a := ⟨n5, 0, none⟩) C5.lt (C5.cell 0)
  have g8 := cell_grown (a := ⟨n8, 1, none⟩) C8.lt (C8.cell 1)
  obtain ⟨il, hil'⟩ : ∃ il, image.length = il := ⟨_, rfl⟩
  obtain ⟨ll, hll'⟩ : ∃ ll, log.length = ll := ⟨_, rfl⟩
  rw [hil', hll'] at hi g8 ⊢
  rw [hil'] at KT
  have HI := Lib.hid hi
  unfold Fp.ptr at KT
  have hfol : Try.prog.follows .mixedOrders = true := by kernel_rfl
  clear hb hk hi s0 s3 s4 s5 hn hi0 hl0 hil hll hB C3 C4 C5 C8 hd hil' hll'
  go_enter Try.func34, Try.ntmps34
  go_upto_region 1 with fail
  refine wp_region_quiet_grown hfol (by kernel_rfl) ?_
  repeat (go_big_quiet_step (first
    | (go_at_call 36; (with_reducible exact Grows.in KG.out _ _ _))
    | (go_at_call 35; (with_reducible exact Grows.inAt KT.out _ _))))
  refine wpQuiet_nil ?_
  intro _ hw'
  obtain ⟨⟨nr, osr⟩, hw''⟩ := hw'
  subst hw''
  go_wp2
  go_ret
  have b := below_grow' wr nr osr
  exact ⟨0, rfl, .inl ⟨rfl, HI.out.t.trans (S' := [n8]) (Turn.ofBelow b) (fun x hx => .inl hx), HI.out.c.below' b⟩⟩

set_option maxRecDepth 100000 in
set_option maxHeartbeats 2000000 in
theorem free3_dev (hi : FreeI W n8 log.length image.length wr) : Calls Try.prog 37 #[.pointer (some ⟨n3, 0, none⟩), .pointer (some ⟨n4, 0, none⟩), .pointer (some ⟨n5, 0, none⟩), .pointer (some ⟨n8, 0, none⟩)] wr (Ends (FreeI W n8 log.length image.length) (fun _ _ => False)) := by
  obtain ⟨s0, s3, s4, s5⟩ := FreeB.far hb
  have hn := hk.n; have hi0 := hk.i0; have hl0 := hk.l0; have hil := hk.il; have hll := hk.ll; have hB := hb.B0
  have hd := dev_turn hb.d hi.t s0
  have KT := Lib.hid (fun (n : Nat) (os : Array Obj) => (there_ok (hd.below (below_grow' wr n os)) hk.dead (34 + I) log.length (by omega) (by omega)).mono (fun e w' (h : _ ∧ _) => (⟨h.1, h.2 ▸ grow_none _⟩ : Grows (.int .i64 0) (grow (wr.drewN n) os) e w')))
  have KG : ∀ w, Calls Try.prog 29 #[.agg #[.int .i64 P, .int .i64 B, .int .i64 I, .int .i64 L, .int .i64 D], .int .i64 0] w (Grows (.int .i64 (34 + I)) w) := fun w => by
    have := gLogAt P B I L D 0 hB.1 hB.2 hi0.1 (by omega) w
    simpa [bankP] using this
  have KG := Lib.hid KG
  have C3 := hb.c3.turn' s3 hi.t
  have C4 := hb.c4.turn' s4 hi.t
  have C5 := hb.c5.turn' s5 hi.t
  have C8 := hi.c
  have g3 := cell_grown (a := ⟨n3, 0, none⟩) C3.lt (C3.cell 0)
  have g40 := cell_grown (a := ⟨n4, 0, none⟩) C4.lt (C4.cell 0)
  have g41 := cell_grown (a := ⟨n4, 1, none⟩) C4.lt (C4.cell 1)
  have g42 := cell_grown (a := ⟨n4, 2, none⟩) C4.lt (C4.cell 2)
  have g43 := cell_grown (a := ⟨n4, 3, none⟩) C4.lt (C4.cell 3)
  have g44 := cell_grown (a := ⟨n4, 4, none⟩) C4.lt (C4.cell 4)
  have g5 := cell_grown (a := ⟨n5, 0, none⟩) C5.lt (C5.cell 0)
  have g8 := cell_grown (a := ⟨n8, 0, none⟩) C8.lt (C8.cell 0)
  obtain ⟨il, hil'⟩ : ∃ il, image.length = il := ⟨_, rfl⟩
  obtain ⟨ll, hll'⟩ : ∃ ll, log.length = ll := ⟨_, rfl⟩
  rw [hil', hll'] at hi g8 ⊢
  rw [hll'] at KT
  have HI := Lib.hid hi
  unfold Fp.ptr at KT
  have hfol : Try.prog.follows .mixedOrders = true := by kernel_rfl
  clear hb hk hi s0 s3 s4 s5 hn hi0 hl0 hil hll hB C3 C4 C5 C8 hd hil' hll'
  go_enter Try.func37, Try.ntmps37
  go_upto_region 1 with fail
  refine wp_region_quiet_grown hfol (by kernel_rfl) ?_
  repeat (go_big_quiet_step (first
    | (go_at_call 29; (with_reducible exact Grows.in KG.out _ _ _))
    | (go_at_call 35; (with_reducible exact Grows.inAt KT.out _ _))))
  refine wpQuiet_nil ?_
  intro _ hw'
  obtain ⟨⟨nr, osr⟩, hw''⟩ := hw'
  subst hw''
  go_wp2
  go_ret
  have b := below_grow' wr nr osr
  exact ⟨0, rfl, .inl ⟨rfl, HI.out.t.trans (S' := [n8]) (Turn.ofBelow b) (fun x hx => .inl hx), HI.out.c.below' b⟩⟩
end
end Go.Proofs.Ytnjikgcigobcdaa
