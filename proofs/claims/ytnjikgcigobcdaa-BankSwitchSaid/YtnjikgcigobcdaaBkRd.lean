import Derived.Test.YtnjikgcigobcdaaBkFre
namespace Go.Proofs.Ytnjikgcigobcdaa
open Wd Pm Go.Maps Go.RowKit Go.Sort
set_option linter.unusedVariables false
set_option linter.unusedSectionVars false

/-! Read: its steps -/
structure ReadB (W : World) (f : Fp) (σ : St) (P B I L D : Int) (n3 n4 n5 n8 n9 n10 : Nat) : Prop where
  b : FreeB W f σ P B I L D n3 n4 n5 n8
  c9 : ∃ v, Cells W n9 22 #[v]
  c10 : ∃ v, Cells W n10 22 #[v]
  ne : n9 ≠ n10
def ReadS (n8 n9 n10 : Nat) : List Nat := [n8, n9, n10]
structure ReadI (W : World) (n8 n9 n10 : Nat) (v0 v1 : Int) (im lg : Option (List Int)) (w' : World) : Prop where
  t : Turn W w' (ReadS n8 n9 n10)
  c : Cells w' n8 61 #[.int .i64 v0, .int .i64 v1]
  c9 : ∃ A k c, Cells w' n9 22 #[.slice A k c] ∧ ∀ l, im = some l → k = l.length ∧ Row w' w'.heap.size A k (l.map VU64) ∧ ∀ b o m, A = some ⟨b, o, m⟩ → W.heap.size ≤ b
  c10 : ∃ A k c, Cells w' n10 22 #[.slice A k c] ∧ ∀ l, lg = some l → k = l.length ∧ Row w' w'.heap.size A k (l.map VU64) ∧ ∀ b o m, A = some ⟨b, o, m⟩ → W.heap.size ≤ b
theorem ReadB.far {W : World} {f : Fp} {σ : St} {P B I L D : Int} {n3 n4 n5 n8 n9 n10 : Nat} (hb : ReadB W f σ P B I L D n3 n4 n5 n8 n9 n10) : (∀ k ∈ f.blocks, k ∉ ReadS n8 n9 n10) ∧ n3 ∉ ReadS n8 n9 n10 ∧ n4 ∉ ReadS n8 n9 n10 ∧ n5 ∉ ReadS n8 n9 n10 ∧ n8 ≠ n9 ∧ n8 ≠ n10 := by
  obtain ⟨cs, c8⟩ := hb.b.c8
  obtain ⟨v9, c9⟩ := hb.c9
  obtain ⟨v10, c10⟩ := hb.c10
  unfold ReadS
  refine ⟨fun k hk hm => ?_, fun hm => ?_, fun hm => ?_, fun hm => ?_, c8.ne c9 (by decide), c8.ne c10 (by decide)⟩
  · simp only [List.mem_cons, List.not_mem_nil, or_false] at hm
    rcases hm with rfl | rfl | rfl
    · exact dev_out hb.b.d c8 (by decide) (by decide) hk
    · exact dev_out hb.b.d c9 (by decide) (by decide) hk
    · exact dev_out hb.b.d c10 (by decide) (by decide) hk
  · simp only [List.mem_cons, List.not_mem_nil, or_false] at hm
    rcases hm with h | h | h
    · exact hb.b.c3.ne c8 (by decide) h
    · exact hb.b.c3.ne c9 (by decide) h
    · exact hb.b.c3.ne c10 (by decide) h
  · simp only [List.mem_cons, List.not_mem_nil, or_false] at hm
    rcases hm with h | h | h
    · exact hb.b.c4.ne c8 (by decide) h
    · exact hb.b.c4.ne c9 (by decide) h
    · exact hb.b.c4.ne c10 (by decide) h
  · simp only [List.mem_cons, List.not_mem_nil, or_false] at hm
    rcases hm with h | h | h
    · exact hb.b.c5.ne c8 (by decide) h
    · exact hb.b.c5.ne c9 (by decide) h
    · exact hb.b.c5.ne c10 (by decide) h
theorem fresh_row {w w' : World} {A : Option Addr} {k : Nat} {xs : List Value} {B : Nat} (h : Row w w.heap.size A k xs) (hA : ∀ b o m, A = some ⟨b, o, m⟩ → B ≤ b) {S : List Nat} (t : Turn w w' S) (hS : ∀ x ∈ S, x < B) : Row w' w'.heap.size A k xs :=
  row_turn h t (fun b o m e hm => by have := hA b o m e; have := hS b hm; omega)
theorem ReadI.below {W w1 w2 : World} {n8 n9 n10 : Nat} {v0 v1 : Int} {im lg : Option (List Int)} (h : ReadI W n8 n9 n10 v0 v1 im lg w1) (b : Below w1.heap.size w1 w2) : ReadI W n8 n9 n10 v0 v1 im lg w2 := by
  obtain ⟨t, c, ⟨A, k, cc, c9, h9⟩, A2, k2, cc2, c10, h10⟩ := h
  exact ⟨t.trans (S' := ReadS n8 n9 n10) (Turn.ofBelow b) (fun x hx => .inl hx), c.below' b, ⟨A, k, cc, c9.below' b, fun l e => ⟨(h9 l e).1, (Row.below (h9 l e).2.1 b).more b.size, (h9 l e).2.2⟩⟩, A2, k2, cc2, c10.below' b, fun l e => ⟨(h10 l e).1, (Row.below (h10 l e).2.1 b).more b.size, (h10 l e).2.2⟩⟩
section
variable {W wr : World} {f : Fp} {σ : St} {P B I L D : Int} {n3 n4 n5 n8 n9 n10 : Nat} {image log : List Int} (hb : ReadB W f σ P B I L D n3 n4 n5 n8 n9 n10) (hk : Bank σ I L image log)
include hb hk
set_option maxRecDepth 100000 in
set_option maxHeartbeats 4000000 in
theorem read2_dev (hi : ReadI W n8 n9 n10 log.length image.length none none wr) : Calls Try.prog 39 #[.pointer (some ⟨n3, 0, none⟩), .pointer (some ⟨n4, 0, none⟩), .pointer (some ⟨n5, 0, none⟩), .pointer (some ⟨n8, 0, none⟩), .pointer (some ⟨n9, 0, none⟩)] wr (Ends (ReadI W n8 n9 n10 log.length image.length (some image) none) (fun _ _ => False)) := by
  obtain ⟨s0, s3, s4, s5, x89, x810⟩ := ReadB.far hb
  have hn := hk.n; have hi0 := hk.i0; have hl0 := hk.l0; have hil := hk.il; have hll := hk.ll; have hB := hb.b.B0
  have hd := dev_turn hb.b.d hi.t s0
  have KL := Lib.hid (fun (w' : World) (b : Below wr.heap.size wr w') => load_many (hd.below b) hk.dead 34 image.length (by omega) (by omega))
  have him := hk.im
  have KG : ∀ w, Calls Try.prog 36 #[.agg #[.int .i64 P, .int .i64 B, .int .i64 I, .int .i64 L, .int .i64 D], .int .i64 0] w (Grows (.int .i64 34) w) := fun w => by
    have := gImageAt P B I L D 0 hB.1 hB.2 w
    simpa [bankP] using this
  have KG := Lib.hid KG
  have C3 := hb.b.c3.turn' s3 hi.t
  have C4 := hb.b.c4.turn' s4 hi.t
  have C5 := hb.b.c5.turn' s5 hi.t
  have C8 := hi.c
  obtain ⟨A0, k0, c0, C9, _⟩ := hi.c9
  obtain ⟨il, hil'⟩ : ∃ il, image.length = il := ⟨_, rfl⟩
  rw [hil'] at hi KL him C8
  have HI := Lib.hid hi
  have HIL := Lib.hid hil'; have HIM := Lib.hid him
  unfold Fp.ptr at KL
  have s9 : ∀ w' : World, (∀ k, k < wr.heap.size → k ≠ n9 → w'.heap[k]? = wr.heap[k]?) → w'.cell? ⟨n3, 0, none⟩ = some (.pointer (some ⟨f.p, 0, none⟩)) ∧ w'.cell? ⟨n4, 0, none⟩ = some (.int .i64 P) ∧ w'.cell? ⟨n4, 1, none⟩ = some (.int .i64 B) ∧ w'.cell? ⟨n4, 2, none⟩ = some (.int .i64 I) ∧ w'.cell? ⟨n4, 3, none⟩ = some (.int .i64 L) ∧ w'.cell? ⟨n4, 4, none⟩ = some (.int .i64 D) ∧ w'.cell? ⟨n5, 0, none⟩ = some (.int .i64 0) ∧ w'.cell? ⟨n8, 1, none⟩ = some (.int .i64 il) := fun w' hw => by
    have d3 : Cells w' n3 _ _ := (hw n3 C3.lt (fun e => s3 (by rw [e]; simp [ReadS]))).trans C3
    have d4 : Cells w' n4 _ _ := (hw n4 C4.lt (fun e => s4 (by rw [e]; simp [ReadS]))).trans C4
    have d5 : Cells w' n5 _ _ := (hw n5 C5.lt (fun e => s5 (by rw [e]; simp [ReadS]))).trans C5
    have d8 : Cells w' n8 _ _ := (hw n8 C8.lt x89).trans C8
    exact ⟨d3.cell 0, d4.cell 0, d4.cell 1, d4.cell 2, d4.cell 3, d4.cell 4, d5.cell 0, d8.cell 1⟩
  have S9 := Lib.hid s9
  have HC9 := Lib.hid C9; have NE := Lib.hid hb.ne; have X89 := Lib.hid x89
  clear hb hk hi s0 s3 s4 s5 hn hi0 hl0 hil hll hB C3 C4 C5 C8 hd hil' s9 him C9 x89 x810
  have b0 : Below wr.heap.size wr wr.drew := below_drewN (Below.refl _ _) 1
  go_enter Try.func39, Try.ntmps39
  go_upto_region 1 with fail
  go_region_held3 (fun w' => w'.cell? ⟨n3, 0, none⟩ = some (.pointer (some ⟨f.p, 0, none⟩)) ∧ w'.cell? ⟨n4, 0, none⟩ = some (.int .i64 P) ∧ w'.cell? ⟨n4, 1, none⟩ = some (.int .i64 B) ∧ w'.cell? ⟨n4, 2, none⟩ = some (.int .i64 I) ∧ w'.cell? ⟨n4, 3, none⟩ = some (.int .i64 L) ∧ w'.cell? ⟨n4, 4, none⟩ = some (.int .i64 D) ∧ w'.cell? ⟨n5, 0, none⟩ = some (.int .i64 0) ∧ w'.cell? ⟨n8, 1, none⟩ = some (.int .i64 il))
    (first | exact S9.out _ (fun k hk _ => b0.block k hk) | exact S9.out _ (fun k hk _ => kG.block k hk) | exact S9.out _ (fun k hk _ => kL.block k hk) | exact S9.out _ (fun k hk hne => (Below.heap_setCell _ _ _ k hne).trans (kL.block k hk)))
    (first
      | (go_at_call 36; (with_reducible refine (KG.out _).mono ?_); rintro e' wG hG; obtain ⟨rfl, bG⟩ := hG.below; clear hG; have kG : Below wr.heap.size wr wG := b0.trans (bG.mono b0.size))
      | (go_at_call 40; (with_reducible refine (KL.out _ kG).mono ?_); rintro e' wL ⟨A, c, rfl, rL, aL, bL⟩; have kL : Below wr.heap.size wr wL := kG.trans (bL.mono kG.size); have z9 := (HC9.out.below' kL).free 0; have x9 := (HC9.out.below' kL).cell 0))
  all_goals
    have RL := Lib.hid rL; have AL := Lib.hid aL; have KL2 := Lib.hid kL; have WG := Lib.hid kG
    clear rL aL bL kG z9 x9 KL KG
    go_wp2
    go_ret
    have bk := KL2.out
    have t2 := (HI.out.t.trans (S' := ReadS n8 n9 n10) (Turn.ofBelow bk) (fun x hx => .inl hx)).trans (S' := ReadS n8 n9 n10) (Turn.set _ (p := ⟨n9, 0, none⟩) (by simp [ReadS]) (.slice A il c)) (fun x hx => .inl hx)
    rw [HIL.out]
    refine ⟨0, rfl, .inl ⟨rfl, t2, (HI.out.c.below' bk).far X89.out _, ⟨A, il, c, by simpa using (HC9.out.below' bk).set 0 (.slice A il c), fun l e => ?_⟩, ?_⟩⟩
    · cases e
      have hw := wr.heap.size
      refine ⟨HIL.out.symm, ?_, fun b o m e => Nat.le_trans HI.out.t.size (Nat.le_trans WG.out.size (AL.out b o m e))⟩
      have r := RL.out
      rw [HIM.out] at r
      exact row_turn r (Turn.set (S := [n9]) _ (p := ⟨n9, 0, none⟩) (by simp) _) (fun b o m e hm => by have h1 := AL.out b o m e; have h2 := HC9.out.lt; have h3 := WG.out.size; rw [List.mem_singleton] at hm; omega)
    · obtain ⟨A2, k2, c2, C10, h10⟩ := HI.out.c10
      exact ⟨A2, k2, c2, (C10.below' bk).far (Ne.symm NE.out) _, fun l e => by cases e⟩
set_option maxRecDepth 100000 in
set_option maxHeartbeats 4000000 in
theorem read3_dev (hi : ReadI W n8 n9 n10 log.length image.length (some image) none wr) : Calls Try.prog 41 #[.pointer (some ⟨n3, 0, none⟩), .pointer (some ⟨n4, 0, none⟩), .pointer (some ⟨n5, 0, none⟩), .pointer (some ⟨n8, 0, none⟩), .pointer (some ⟨n10, 0, none⟩)] wr (Ends (ReadI W n8 n9 n10 log.length image.length (some image) (some log)) (fun _ _ => False)) := by
  obtain ⟨s0, s3, s4, s5, x89, x810⟩ := ReadB.far hb
  have hn := hk.n; have hi0 := hk.i0; have hl0 := hk.l0; have hil := hk.il; have hll := hk.ll; have hB := hb.b.B0
  have hd := dev_turn hb.b.d hi.t s0
  have KL := Lib.hid (fun (w' : World) (b : Below wr.heap.size wr w') => load_many (hd.below b) hk.dead (34 + I) log.length (by omega) (by omega))
  have him := hk.lg
  have KG : ∀ w, Calls Try.prog 29 #[.agg #[.int .i64 P, .int .i64 B, .int .i64 I, .int .i64 L, .int .i64 D], .int .i64 0] w (Grows (.int .i64 (34 + I)) w) := fun w => by
    have := gLogAt P B I L D 0 hB.1 hB.2 hi0.1 (by omega) w
    simpa [bankP] using this
  have KG := Lib.hid KG
  have C3 := hb.b.c3.turn' s3 hi.t
  have C4 := hb.b.c4.turn' s4 hi.t
  have C5 := hb.b.c5.turn' s5 hi.t
  have C8 := hi.c
  obtain ⟨A0, k0, c0, C9, _⟩ := hi.c10
  have LT10 := Lib.hid (show n10 < W.heap.size from (let ⟨_, h⟩ := hb.c10; h.lt))
  obtain ⟨il, hil'⟩ : ∃ il, log.length = il := ⟨_, rfl⟩
  rw [hil'] at hi KL him C8
  have HI := Lib.hid hi
  have HIL := Lib.hid hil'; have HIM := Lib.hid him
  unfold Fp.ptr at KL
  have s9 : ∀ w' : World, (∀ k, k < wr.heap.size → k ≠ n10 → w'.heap[k]? = wr.heap[k]?) → w'.cell? ⟨n3, 0, none⟩ = some (.pointer (some ⟨f.p, 0, none⟩)) ∧ w'.cell? ⟨n4, 0, none⟩ = some (.int .i64 P) ∧ w'.cell? ⟨n4, 1, none⟩ = some (.int .i64 B) ∧ w'.cell? ⟨n4, 2, none⟩ = some (.int .i64 I) ∧ w'.cell? ⟨n4, 3, none⟩ = some (.int .i64 L) ∧ w'.cell? ⟨n4, 4, none⟩ = some (.int .i64 D) ∧ w'.cell? ⟨n5, 0, none⟩ = some (.int .i64 0) ∧ w'.cell? ⟨n8, 0, none⟩ = some (.int .i64 il) := fun w' hw => by
    have d3 : Cells w' n3 _ _ := (hw n3 C3.lt (fun e => s3 (by rw [e]; simp [ReadS]))).trans C3
    have d4 : Cells w' n4 _ _ := (hw n4 C4.lt (fun e => s4 (by rw [e]; simp [ReadS]))).trans C4
    have d5 : Cells w' n5 _ _ := (hw n5 C5.lt (fun e => s5 (by rw [e]; simp [ReadS]))).trans C5
    have d8 : Cells w' n8 _ _ := (hw n8 C8.lt x810).trans C8
    exact ⟨d3.cell 0, d4.cell 0, d4.cell 1, d4.cell 2, d4.cell 3, d4.cell 4, d5.cell 0, d8.cell 0⟩
  have S9 := Lib.hid s9
  have HC9 := Lib.hid C9; have NE := Lib.hid hb.ne; have X89 := Lib.hid x810
  clear hb hk hi s0 s3 s4 s5 hn hi0 hl0 hil hll hB C3 C4 C5 C8 hd hil' s9 him C9 x89 x810
  have b0 : Below wr.heap.size wr wr.drew := below_drewN (Below.refl _ _) 1
  go_enter Try.func41, Try.ntmps41
  go_upto_region 1 with fail
  go_region_held3 (fun w' => w'.cell? ⟨n3, 0, none⟩ = some (.pointer (some ⟨f.p, 0, none⟩)) ∧ w'.cell? ⟨n4, 0, none⟩ = some (.int .i64 P) ∧ w'.cell? ⟨n4, 1, none⟩ = some (.int .i64 B) ∧ w'.cell? ⟨n4, 2, none⟩ = some (.int .i64 I) ∧ w'.cell? ⟨n4, 3, none⟩ = some (.int .i64 L) ∧ w'.cell? ⟨n4, 4, none⟩ = some (.int .i64 D) ∧ w'.cell? ⟨n5, 0, none⟩ = some (.int .i64 0) ∧ w'.cell? ⟨n8, 0, none⟩ = some (.int .i64 il))
    (first | exact S9.out _ (fun k hk _ => b0.block k hk) | exact S9.out _ (fun k hk _ => kG.block k hk) | exact S9.out _ (fun k hk _ => kL.block k hk) | exact S9.out _ (fun k hk hne => (Below.heap_setCell _ _ _ k hne).trans (kL.block k hk)))
    (first
      | (go_at_call 29; (with_reducible refine (KG.out _).mono ?_); rintro e' wG hG; obtain ⟨rfl, bG⟩ := hG.below; clear hG; have kG : Below wr.heap.size wr wG := b0.trans (bG.mono b0.size))
      | (go_at_call 40; (with_reducible refine (KL.out _ kG).mono ?_); rintro e' wL ⟨A, c, rfl, rL, aL, bL⟩; have kL : Below wr.heap.size wr wL := kG.trans (bL.mono kG.size); have z9 := (HC9.out.below' kL).free 0; have x9 := (HC9.out.below' kL).cell 0))
  all_goals
    have RL := Lib.hid rL; have AL := Lib.hid aL; have KL2 := Lib.hid kL; have WG := Lib.hid kG
    clear rL aL bL kG z9 x9 KL KG
    go_wp2
    go_ret
    have bk := KL2.out
    have t2 := (HI.out.t.trans (S' := ReadS n8 n9 n10) (Turn.ofBelow bk) (fun x hx => .inl hx)).trans (S' := ReadS n8 n9 n10) (Turn.set _ (p := ⟨n10, 0, none⟩) (by simp [ReadS]) (.slice A il c)) (fun x hx => .inl hx)
    rw [HIL.out]
    refine ⟨0, rfl, .inl ⟨rfl, t2, (HI.out.c.below' bk).far X89.out _, ?_, ?_⟩⟩
    · obtain ⟨A2, k2, c2, C9', h9⟩ := HI.out.c9
      refine ⟨A2, k2, c2, (C9'.below' bk).far NE.out _, fun l e => ?_⟩
      obtain ⟨e1, r1, a1⟩ := h9 l e
      refine ⟨e1, ?_, a1⟩
      exact row_turn ((Row.below r1 bk).more bk.size) (Turn.set (S := [n10]) _ (p := ⟨n10, 0, none⟩) (by simp) _) (fun b o m e hm => by have h1 := a1 b o m e; have h2 := LT10.out; rw [List.mem_singleton] at hm; omega)
    · refine ⟨A, il, c, by simpa using (HC9.out.below' bk).set 0 (.slice A il c), fun l e => ?_⟩
      cases e
      refine ⟨HIL.out.symm, ?_, fun b o m e => Nat.le_trans HI.out.t.size (Nat.le_trans WG.out.size (AL.out b o m e))⟩
      have r := RL.out
      rw [HIM.out] at r
      exact row_turn r (Turn.set (S := [n10]) _ (p := ⟨n10, 0, none⟩) (by simp) _) (fun b o m e hm => by have h1 := AL.out b o m e; have h2 := HC9.out.lt; have h3 := WG.out.size; rw [List.mem_singleton] at hm; omega)
end
end Go.Proofs.Ytnjikgcigobcdaa
