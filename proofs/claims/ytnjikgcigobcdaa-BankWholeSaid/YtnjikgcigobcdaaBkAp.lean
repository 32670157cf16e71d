import Derived.Test.YtnjikgcigobcdaaBkGo
namespace Go.Proofs.Ytnjikgcigobcdaa
open Wd Pm Go.Maps Go.RowKit Go.Sort
set_option linter.unusedVariables false
set_option linter.unusedSectionVars false

/-! Append: its steps -/
structure AppB (W : World) (f : Fp) (σ : St) (P B I L D : Int) (n4 n5 n6 n7 n9 n10 : Nat) (A : Option Addr) (c : Nat) (l : List Int) : Prop where
  d : Dev W f σ
  c4 : Cells W n4 26 #[.pointer (some ⟨f.p, 0, none⟩)]
  c5 : Cells W n5 28 #[.int .i64 P, .int .i64 B, .int .i64 I, .int .i64 L, .int .i64 D]
  c6 : Cells W n6 3 #[.int .i64 0]
  c7 : Cells W n7 22 #[.slice A l.length c]
  c9 : ∃ v, Cells W n9 3 #[v]
  c10 : ∃ v, Cells W n10 3 #[v]
  n69 : n6 ≠ n9
  n610 : n6 ≠ n10
  n910 : n9 ≠ n10
  B0 : 0 ≤ B ∧ B ≤ 200000
  row : Row W W.heap.size A l.length (l.map VU64)
  out : ∀ b o m, A = some ⟨b, o, m⟩ → 0 < l.length → b ∉ n9 :: n10 :: f.blocks
  u : ∀ v ∈ l, U64 v
  len : l.length ≤ 1000000
  ev : σ.ev + (4 * l.length + 1000) < 4611686018427387904
def AppS (f : Fp) (n9 n10 : Nat) : List Nat := n9 :: n10 :: f.blocks
structure AppI (W : World) (f : Fp) (σ : St) (n9 n10 : Nat) (os : List Act) (v9 v10 : Int) (w' : World) : Prop where
  g : GoS W (AppS f n9 n10) f σ os 0 w'
  c9 : Cells w' n9 3 #[.int .i64 v9]
  c10 : Cells w' n10 3 #[.int .i64 v10]
/-- what comes of it -/
def appA (I : Int) (t : Nat) (l : List Int) : List Act := layA (34 + I + t) l ++ layA 32 [(t : Int) + l.length]
def AppQ (W : World) (f : Fp) (σ : St) (n9 n10 : Nat) (I L : Int) (t : Nat) (l : List Int) (er : Int) (w' : World) : Prop :=
  if L - t < l.length then er = 28 ∧ GoS W (AppS f n9 n10) f σ [] 0 w' else GoS W (AppS f n9 n10) f σ (appA I t l) er w'
theorem row_turn' {W w' : World} {S : List Nat} {R : Option Addr} {n : Nat} {xs : List Value} (h : Row W W.heap.size R n xs) (t : Turn W w' S) (hR : ∀ b o m, R = some ⟨b, o, m⟩ → 0 < n → b ∉ S) : Row w' w'.heap.size R n xs := by
  refine ⟨h.1, fun hp => ?_⟩
  obtain ⟨b, o, rfl, hb, hc⟩ := h.2 hp
  refine ⟨b, o, rfl, Nat.lt_of_lt_of_le hb t.size, fun j hj => ?_⟩
  have hk := t.block b hb (hR b o _ rfl hp)
  rw [← hc j hj]
  simp only [World.cell?, hk]
theorem AppB.far {W : World} {f : Fp} {σ : St} {P B I L D : Int} {n4 n5 n6 n7 n9 n10 : Nat} {A : Option Addr} {c : Nat} {l : List Int} (hb : AppB W f σ P B I L D n4 n5 n6 n7 n9 n10 A c l) : n4 ∉ AppS f n9 n10 ∧ n5 ∉ AppS f n9 n10 ∧ n6 ∉ AppS f n9 n10 ∧ n7 ∉ AppS f n9 n10 ∧ n9 ∉ f.blocks ∧ n10 ∉ f.blocks ∧ (∀ k ∈ f.blocks, k ∈ AppS f n9 n10) := by
  obtain ⟨v9, c9⟩ := hb.c9
  obtain ⟨v10, c10⟩ := hb.c10
  refine ⟨fun hm => ?_, fun hm => ?_, fun hm => ?_, fun hm => ?_, dev_out hb.d c9 (by decide) (by decide), dev_out hb.d c10 (by decide) (by decide), fun k hk => by simp [AppS, hk]⟩
  · simp only [AppS, List.mem_cons] at hm
    rcases hm with h | h | h
    · exact hb.c4.ne c9 (by decide) h
    · exact hb.c4.ne c10 (by decide) h
    · exact dev_out hb.d hb.c4 (by decide) (by decide) h
  · simp only [AppS, List.mem_cons] at hm
    rcases hm with h | h | h
    · exact hb.c5.ne c9 (by decide) h
    · exact hb.c5.ne c10 (by decide) h
    · exact dev_out hb.d hb.c5 (by decide) (by decide) h
  · simp only [AppS, List.mem_cons] at hm
    rcases hm with h | h | h
    · exact hb.n69 h
    · exact hb.n610 h
    · exact dev_out hb.d hb.c6 (by decide) (by decide) h
  · simp only [AppS, List.mem_cons] at hm
    rcases hm with h | h | h
    · exact hb.c7.ne c9 (by decide) h
    · exact hb.c7.ne c10 (by decide) h
    · exact dev_out hb.d hb.c7 (by decide) (by decide) h
section
variable {W wr : World} {f : Fp} {σ : St} {P B I L D : Int} {n4 n5 n6 n7 n9 n10 : Nat} {A : Option Addr} {c : Nat} {l image log : List Int} (hb : AppB W f σ P B I L D n4 n5 n6 n7 n9 n10 A c l) (hk : Bank σ I L image log)
include hb hk
set_option maxRecDepth 100000 in
set_option maxHeartbeats 2000000 in
theorem app1_dev (hi : AppI W f σ n9 n10 [] 0 0 wr) : Calls Try.prog 24 #[.pointer (some ⟨n4, 0, none⟩), .pointer (some ⟨n5, 0, none⟩), .pointer (some ⟨n6, 0, none⟩), .pointer (some ⟨n9, 0, none⟩)] wr (Ends (AppI W f σ n9 n10 [] (L - log.length) 0) (AppQ W f σ n9 n10 I L log.length l)) := by
  obtain ⟨s4, s5, s6, s7, s9, s10, sS⟩ := AppB.far hb
  have ht := hi.g.turn
  obtain ⟨σ', f', hr, d', hp, hbl, _⟩ := hi.g
  obtain ⟨rfl, _⟩ := Prod.mk.inj hr
  have KF := free_dev (P := P) (D := D) d' hk hb.B0
  rw [show f'.ptr = .pointer (some ⟨f.p, 0, none⟩) by unfold Fp.ptr; rw [hp]] at KF
  have KF := Lib.hid KF
  have k4 : wr.cell? ⟨n4, 0, none⟩ = some (.pointer (some ⟨f.p, 0, none⟩)) := (hb.c4.turn' s4 ht).cell 0
  have C5 := hb.c5.turn' s5 ht
  have k50 := C5.cell 0; have k51 := C5.cell 1; have k52 := C5.cell 2; have k53 := C5.cell 3; have k54 := C5.cell 4
  have k6 : wr.cell? ⟨n6, 0, none⟩ = some (.int .i64 0) := (hb.c6.turn' s6 ht).cell 0
  have HI := Lib.hid hi; have NE := Lib.hid hb.n910
  obtain ⟨fr, hfr⟩ : ∃ fr : Int, L - log.length = fr := ⟨_, rfl⟩
  rw [hfr] at KF ⊢
  clear hb hk hi s4 s5 s6 s7 s9 s10 C5 hr d' hp hbl ht hfr
  go_enter Try.func24, Try.ntmps24
  go_wp2_with fail
  refine (KF.out).mono ?_
  rintro e w2 ⟨rfl, b2⟩
  have C9 := Lib.hid (HI.out.c9.below' b2); have C10 := Lib.hid (HI.out.c10.below' b2); have G2 := Lib.hid (HI.out.g.below b2)
  have z0 := C9.out.free 0
  have x0 := C9.out.cell 0
  clear b2 KF k4 k50 k51 k52 k53 k54 k6
  go_wp2
  go_ret
  refine ⟨0, rfl, .inl ⟨rfl, G2.out.set C9.out (by decide) (by decide) (by simp [AppS]) 0 _, by simpa using C9.out.set 0 (.int .i64 fr), C10.out.far (Ne.symm NE.out) _⟩⟩
set_option maxRecDepth 100000 in
set_option maxHeartbeats 2000000 in
theorem app2_dev (hi : AppI W f σ n9 n10 [] (L - log.length) 0 wr) : Calls Try.prog 25 #[.pointer (some ⟨n7, 0, none⟩), .pointer (some ⟨n9, 0, none⟩)] wr (Ends (fun w' => l.length ≤ L - log.length ∧ AppI W f σ n9 n10 [] (L - log.length) 0 w') (AppQ W f σ n9 n10 I L log.length l)) := by
  obtain ⟨s4, s5, s6, s7, s9, s10, sS⟩ := AppB.far hb
  have ht := hi.g.turn
  have k7 : wr.cell? ⟨n7, 0, none⟩ = some (.slice A l.length c) := (hb.c7.turn' s7 ht).cell 0
  have k9 := hi.c9.cell 0
  have hQ : L - log.length < l.length → AppQ W f σ n9 n10 I L log.length l 28 wr := fun h => by unfold AppQ; rw [if_pos h]; exact ⟨rfl, hi.g⟩
  have HI := Lib.hid hi; have HQ := Lib.hid hQ
  obtain ⟨fr, hfr⟩ : ∃ fr : Int, L - log.length = fr := ⟨_, rfl⟩
  obtain ⟨n, hn⟩ : ∃ n, l.length = n := ⟨_, rfl⟩
  rw [hfr, hn] at HQ
  rw [hfr] at HI k9
  rw [hn] at k7
  simp only [hfr, hn]
  clear hb hk hi s4 s5 s6 s7 s9 s10 ht hfr hQ hn
  go_enter Try.func25, Try.ntmps25
  go_wp2_with fail
  refine (fits_is _ _ _).mono ?_
  rintro e w2 ⟨rfl, rfl⟩
  by_cases hc : fr < n
  · rw [if_pos hc]
    go_wp2
    go_ret
    exact ⟨28, rfl, .inr ⟨by decide, HQ.out hc⟩⟩
  · rw [if_neg hc]
    go_wp2
    go_ret
    exact ⟨0, rfl, .inl ⟨rfl, by omega, HI.out⟩⟩
set_option maxRecDepth 100000 in
set_option maxHeartbeats 4000000 in
theorem app3_dev (hfit : (l.length : Int) ≤ L - log.length) (hi : AppI W f σ n9 n10 [] (L - log.length) 0 wr) : Calls Try.prog 27 #[.pointer (some ⟨n5, 0, none⟩), .pointer (some ⟨n9, 0, none⟩), .pointer (some ⟨n10, 0, none⟩), .pointer (some ⟨n4, 0, none⟩), .pointer (some ⟨n6, 0, none⟩), .pointer (some ⟨n7, 0, none⟩)] wr (Ends (AppI W f σ n9 n10 (layA (34 + I + log.length) l) (L - log.length) log.length) (AppQ W f σ n9 n10 I L log.length l)) := by
  obtain ⟨s4, s5, s6, s7, s9, s10, sS⟩ := AppB.far hb
  have hi0 := hk.i0; have hl0 := hk.l0; have hll := hk.ll; have hB := hb.B0; have hlen := hb.len; have hev := hb.ev
  have ht := hi.g.turn
  have C4 := hb.c4.turn' s4 ht
  have C5 := hb.c5.turn' s5 ht
  have C6 := hb.c6.turn' s6 ht
  have C7 := hb.c7.turn' s7 ht
  obtain ⟨w3, hw3⟩ : ∃ w3, wr.setCell ⟨n10, 0, none⟩ (.int .i64 log.length) = w3 := ⟨_, rfl⟩
  have g3 : GoS W (AppS f n9 n10) f σ [] 0 w3 := hw3 ▸ hi.g.set hi.c10 (by decide) (by decide) (by simp [AppS]) 0 _
  have t3 := g3.turn
  have D4 := hb.c4.turn' s4 t3
  have D5 := hb.c5.turn' s5 t3
  have D6 := hb.c6.turn' s6 t3
  have D7 := hb.c7.turn' s7 t3
  have D9 : Cells w3 n9 3 #[.int .i64 (L - log.length)] := hw3 ▸ hi.c9.far hb.n910 _
  have D10 : Cells w3 n10 3 #[.int .i64 log.length] := by have := hi.c10.set 0 (.int .i64 log.length); rw [hw3] at this; simpa using this
  have hrow : ∀ wk, Below w3.heap.size w3 wk → RowIn W w3 wk f A l := fun wk b => by
    refine ⟨(Row.below (row_turn' hb.row t3 hb.out) b).more b.size, fun bb o m e hp => .inl ⟨?_, fun hm => ?_⟩⟩
    · obtain ⟨b', o', e', hlt, _⟩ := hb.row.2 hp
      rw [e] at e'
      cases e'
      exact hlt
    · exact hb.out bb o m e hp (by simp [hm])
  have KG : ∀ w, Calls Try.prog 29 #[.agg #[.int .i64 P, .int .i64 B, .int .i64 I, .int .i64 L, .int .i64 D], .int .i64 0] w (Grows (.int .i64 (34 + I)) w) := fun w => by
    have := gLogAt P B I L D 0 hB.1 hB.2 hi0.1 (by omega) w
    simpa [bankP] using this
  have KL := fun (wk : World) (b : Below w3.heap.size w3 wk) => lay_goS sS g3 b (fun o ho => by cases ho) (34 + I + log.length) A c l (by simp only [List.length_nil]; omega) (by omega) (by omega) (by omega) hb.u (hrow wk b)
  have hQ : ∀ er w', er ≠ 0 → GoS W (AppS f n9 n10) f σ ([] ++ layA (34 + I + log.length) l) er w' → AppQ W f σ n9 n10 I L log.length l er w' := fun er w' h0 h => by
    unfold AppQ
    rw [if_neg (by omega)]
    exact GoS.pre h h0 _
  have hJ : ∀ w', GoS W (AppS f n9 n10) f σ ([] ++ layA (34 + I + log.length) l) 0 w' → (∀ k, k = n9 ∨ k = n10 → w'.heap[k]? = w3.heap[k]?) → AppI W f σ n9 n10 (layA (34 + I + log.length) l) (L - log.length) log.length w' := fun w' h e => ⟨h, (e n9 (.inl rfl)).trans D9, (e n10 (.inr rfl)).trans D10⟩
  have L9 : n9 < W.heap.size := (let ⟨_, h⟩ := hb.c9; h.lt)
  have L10 : n10 < W.heap.size := (let ⟨_, h⟩ := hb.c10; h.lt)
  obtain ⟨ll, hLL⟩ : ∃ ll, log.length = ll := ⟨_, rfl⟩
  obtain ⟨fr, hfr⟩ : ∃ fr : Int, L - (ll : Int) = fr := ⟨_, rfl⟩
  rw [hLL] at hw3 hll KL hQ hJ hi ⊢
  rw [hfr] at hi
  have q1 : IntKind.i64.wrap (L - fr) = (ll : Int) := by rw [← hfr, show L - (L - (ll : Int)) = ll by omega]; exact wrapI (by omega) (by omega)
  have q2 : IntKind.i64.wrap (34 + I + (ll : Int)) = 34 + I + ll := wrapI (by omega) (by omega)
  have k53 : wr.cell? ⟨n5, 3, none⟩ = some (.int .i64 L) := C5.cell 3
  have k9 := hi.c9.cell 0
  have k10 := hi.c10.cell 0
  have z10 := hi.c10.free 0
  have s9' : ∀ w' : World, (∀ k, k < W.heap.size → k ∉ f.blocks → w'.heap[k]? = w3.heap[k]?) → w'.cell? ⟨n4, 0, none⟩ = some (.pointer (some ⟨f.p, 0, none⟩)) ∧ w'.cell? ⟨n5, 0, none⟩ = some (.int .i64 P) ∧ w'.cell? ⟨n5, 1, none⟩ = some (.int .i64 B) ∧ w'.cell? ⟨n5, 2, none⟩ = some (.int .i64 I) ∧ w'.cell? ⟨n5, 3, none⟩ = some (.int .i64 L) ∧ w'.cell? ⟨n5, 4, none⟩ = some (.int .i64 D) ∧ w'.cell? ⟨n6, 0, none⟩ = some (.int .i64 0) ∧ w'.cell? ⟨n10, 0, none⟩ = some (.int .i64 ll) ∧ w'.cell? ⟨n7, 0, none⟩ = some (.slice A l.length c) := fun w' hw => by
    have d4 : Cells w' n4 _ _ := (hw n4 hb.c4.lt (fun h => s4 (sS _ h))).trans D4
    have d5 : Cells w' n5 _ _ := (hw n5 hb.c5.lt (fun h => s5 (sS _ h))).trans D5
    have d6 : Cells w' n6 _ _ := (hw n6 hb.c6.lt (fun h => s6 (sS _ h))).trans D6
    have d7 : Cells w' n7 _ _ := (hw n7 hb.c7.lt (fun h => s7 (sS _ h))).trans D7
    have d10 : Cells w' n10 _ _ := (hw n10 L10 s10).trans D10
    rw [hLL] at d10
    exact ⟨d4.cell 0, d5.cell 0, d5.cell 1, d5.cell 2, d5.cell 3, d5.cell 4, d6.cell 0, d10.cell 0, d7.cell 0⟩
  have S9 := Lib.hid s9'; have KGH := Lib.hid KG; have KLH := Lib.hid KL; have HQ := Lib.hid hQ; have HJ := Lib.hid hJ
  have W3S := Lib.hid g3.turn.size; have L9H := Lib.hid (⟨L9, L10, s9, s10⟩ : n9 < W.heap.size ∧ n10 < W.heap.size ∧ n9 ∉ f.blocks ∧ n10 ∉ f.blocks)
  have HW3 := Lib.hid hw3
  clear hb hk hi s4 s5 s6 s7 s9 s10 sS hi0 hl0 hll hB hlen hev ht C4 C5 C6 C7 g3 t3 D4 D5 D6 D7 D9 D10 hrow KG KL hQ hJ L9 L10 s9' hw3 hfr hLL
  have b0 : Below w3.heap.size w3 w3.drew := below_drewN (Below.refl _ _) 1
  go_enter Try.func27, Try.ntmps27
  go_upto_region 2 with fail
  rw [HW3.out]
  clear k53 k9 k10 z10
  go_region_held3 (fun w' => w'.cell? ⟨n4, 0, none⟩ = some (.pointer (some ⟨f.p, 0, none⟩)) ∧ w'.cell? ⟨n5, 0, none⟩ = some (.int .i64 P) ∧ w'.cell? ⟨n5, 1, none⟩ = some (.int .i64 B) ∧ w'.cell? ⟨n5, 2, none⟩ = some (.int .i64 I) ∧ w'.cell? ⟨n5, 3, none⟩ = some (.int .i64 L) ∧ w'.cell? ⟨n5, 4, none⟩ = some (.int .i64 D) ∧ w'.cell? ⟨n6, 0, none⟩ = some (.int .i64 0) ∧ w'.cell? ⟨n10, 0, none⟩ = some (.int .i64 ll) ∧ w'.cell? ⟨n7, 0, none⟩ = some (.slice A l.length c))
    (first | exact S9.out _ (fun k hk _ => b0.block k (Nat.lt_of_lt_of_le hk W3S.out)) | exact S9.out _ (fun k hk _ => kG.block k (Nat.lt_of_lt_of_le hk W3S.out)) | exact S9.out _ eL)
    (first
      | (go_at_call 29; (with_reducible refine (KGH.out _).mono ?_); rintro e' wG hG; obtain ⟨rfl, bG⟩ := hG.below; clear hG; have kG : Below w3.heap.size w3 wG := b0.trans (bG.mono b0.size))
      | (go_at_call 28; (with_reducible refine (KLH.out _ kG).mono ?_); rintro e' wL ⟨er, rfl, gL, eL'⟩; have eL : ∀ k, k < W.heap.size → k ∉ f.blocks → wL.heap[k]? = w3.heap[k]? := fun k hk hn => (eL' k hk hn).trans (kG.block k (Nat.lt_of_lt_of_le hk W3S.out))))
  all_goals
    have GL := Lib.hid gL; have EL := Lib.hid eL
    clear gL eL eL' kG KGH KLH
    go_wp2
    go_ret
    refine ⟨er, rfl, ?_⟩
    by_cases h0 : er = 0
    · subst h0
      exact .inl ⟨rfl, HJ.out _ GL.out (fun k hk => by rcases hk with rfl | rfl; exact EL.out _ L9H.out.1 L9H.out.2.2.1; exact EL.out _ L9H.out.2.1 L9H.out.2.2.2)⟩
    · exact .inr ⟨h0, HQ.out _ _ h0 GL.out⟩
end
end Go.Proofs.Ytnjikgcigobcdaa
