import Derived.Test.YtnjikgcigobcdaaGreatMF

namespace Go.Proofs.YtnjikgcigobcdaaGreat
open Wd Pm Go.Maps Go.RowKit Go.Sort
set_option linter.unusedVariables false
set_option linter.unusedSectionVars false

/-! a device under way, beside other things that turn -/
def GoS (W : World) (S : List Nat) (f : Fp) (σ : St) (os : List Act) (er : Int) (w' : World) : Prop :=
  ∃ σ' f', runS os σ = (σ', er) ∧ Dev w' f' σ' ∧ f'.p = f.p ∧ (∀ k ∈ f'.blocks, k ∈ f.blocks ∨ W.heap.size ≤ k) ∧ Turn W w' S
theorem GoS.start {W : World} {S : List Nat} {f : Fp} {σ : St} (h : Dev W f σ) : GoS W S f σ [] 0 W := ⟨σ, f, rfl, h, rfl, fun k hk => .inl hk, Turn.refl _ _⟩
theorem GoS.pre {W w' : World} {S : List Nat} {f : Fp} {σ : St} {os : List Act} {er : Int} (h : GoS W S f σ os er w') (he : er ≠ 0) (rest : List Act) : GoS W S f σ (os ++ rest) er w' := by
  obtain ⟨σ', f', hr, h2⟩ := h
  exact ⟨σ', f', by rw [runS_pre (by rw [hr]; exact he), hr], h2⟩
theorem GoS.turn {W w' : World} {S : List Nat} {f : Fp} {σ : St} {os : List Act} {er : Int} (h : GoS W S f σ os er w') : Turn W w' S := by
  obtain ⟨_, _, _, _, _, _, t⟩ := h
  exact t
theorem GoS.below {W w1 w2 : World} {S : List Nat} {f : Fp} {σ : St} {os : List Act} {er : Int} (h : GoS W S f σ os er w1) (b : Below w1.heap.size w1 w2) : GoS W S f σ os er w2 := by
  obtain ⟨σ', f', hr, d, hp, hb, t⟩ := h
  exact ⟨σ', f', hr, d.below b, hp, hb, t.trans (S' := S) (Turn.ofBelow b) (fun x hx => .inl hx)⟩
theorem GoS.set {W w1 : World} {S : List Nat} {f : Fp} {σ : St} {os : List Act} {er : Int} {g : Nat} {cs : Array Value} {T : TypeId} (h : GoS W S f σ os er w1) (hc : Cells w1 g T cs) (h1 : T ≠ 57) (h2 : T ≠ 31) (hS : g ∈ S) (i : Nat) (u : Value) : GoS W S f σ os er (w1.setCell ⟨g, i, none⟩ u) := by
  obtain ⟨σ', f', hr, d, hp, hb, t⟩ := h
  exact ⟨σ', f', hr, d.far (p := ⟨g, i, none⟩) (dev_out d hc h1 h2) u, hp, hb, t.trans (S' := S) (Turn.set _ (p := ⟨g, i, none⟩) hS u) (fun x hx => .inl hx)⟩
theorem GoS.goes {W w' : World} {S : List Nat} {f : Fp} {σ : St} {os : List Act} {er : Int} (h : GoS W S f σ os er w') {w : World} (b : Below w.heap.size w W) (hS : ∀ k ∈ S, k < w.heap.size → k ∈ f.blocks) : (runS os σ).2 = er ∧ Goes w f (runS os σ).1 w' := by
  obtain ⟨σ', f', hr, d, hp, hb, t⟩ := h
  rw [hr]
  refine ⟨rfl, f', d, hp, fun k hk => ?_, ⟨t.os.trans b.os, t.tape.trans b.tape, t.output.trans b.output, Nat.le_trans b.size t.size, fun k hk hn => ?_⟩⟩
  · rcases hb k hk with h | h
    · exact .inl h
    · exact .inr (Nat.le_trans b.size h)
  · exact (t.block k (Nat.lt_of_lt_of_le hk b.size) (fun hm => hn (hS k hm hk))).trans (b.block k hk)
def RowIn (W wr wk : World) (f : Fp) (A : Option Addr) (l : List Int) : Prop := Row wk wk.heap.size A l.length (l.map VU64) ∧ ∀ b o m, A = some ⟨b, o, m⟩ → 0 < l.length → (b < W.heap.size ∧ b ∉ f.blocks) ∨ wr.heap.size ≤ b
theorem lay_goS {W wr wk : World} {S : List Nat} {f : Fp} {σ : St} {os : List Act} (hS : ∀ k ∈ f.blocks, k ∈ S) (h : GoS W S f σ os 0 wr) (b : Below wr.heap.size wr wk) (hsm : ∀ o ∈ os, Small1 o) (at_ : Int) (A : Option Addr) (c : Nat) (l : List Int)
    (hev : σ.ev + (os.length + 2 * l.length + 3) < 4611686018427387904) (h0 : 0 ≤ at_) (h1 : at_ ≤ 900000000) (hn : l.length ≤ 10000000) (hu : ∀ v ∈ l, U64 v) (hr : RowIn W wr wk f A l) :
    Calls Tryz.prog 12 #[.pointer (some ⟨f.p, 0, none⟩), .int .i64 at_, .slice A l.length c] wk fun e w' => ∃ er, e = .returned (.int .i64 er) ∧ GoS W S f σ (os ++ layA at_ l) er w' ∧ ∀ k, k < W.heap.size → k ∉ f.blocks → w'.heap[k]? = wk.heap[k]? := by
  obtain ⟨σ1, f1, hr1, d1, hp, hb, t⟩ := h
  have he := runS_ev os σ hsm
  rw [hr1] at he
  have ht := t.size
  have hlt := d1.lt
  have key := lay_dev (d1.below b) at_ A c l (by simp only at he; omega) h0 h1 hn hu ⟨hr.1, fun bb o m e hp0 hm => by
    rcases hr.2 bb o m e hp0 with ⟨h1, h2⟩ | h1
    · rcases hb bb hm with h | h
      · exact h2 h
      · omega
    · simp [Fp.blocks] at hm; omega⟩
  have hp2 : f1.ptr = .pointer (some ⟨f.p, 0, none⟩) := by unfold Fp.ptr; rw [hp]
  rw [hp2] at key
  refine key.mono ?_
  rintro e w2 ⟨rfl, f2, d2, e2, n2, t2⟩
  have bk : Turn W wk S := t.trans (S' := S) (Turn.ofBelow b) (fun x hx => .inl hx)
  refine ⟨_, rfl, ⟨(runS (layA at_ l) σ1).1, f2, ?_, d2, e2.trans hp, fun k hk => ?_, bk.trans t2 (fun x hx => ?_)⟩, fun k hk hn => ?_⟩
  · rw [runS_append, hr1, if_pos rfl]
  · rcases n2 k hk with h | h
    · exact hb k h
    · exact .inr (Nat.le_trans bk.size h)
  · rcases hb x hx with h | h
    · exact .inl (hS x h)
    · exact .inr h
  · refine t2.block k (Nat.lt_of_lt_of_le hk bk.size) (fun hm => ?_)
    rcases hb k hm with h | h
    · exact hn h
    · omega
set_option maxRecDepth 100000 in
theorem fits_is (many room : Int) (w : World) : Calls Tryz.prog 75 #[.int .i64 many, .int .i64 room] w fun e w' => e = .returned (.int .i64 (if room < many then 28 else 0)) ∧ w = w' := by
  by_cases h : room < many
  · have q : decide (many > room) = true := by simpa using h
    rw [if_pos h]
    go_enter Tryz.func75, Tryz.ntmps75
    go_wp2
    go_ret
    exact ⟨rfl, rfl⟩
  · have q : decide (many > room) = false := by simpa using h
    rw [if_neg h]
    go_enter Tryz.func75, Tryz.ntmps75
    go_wp2
    go_ret
    exact ⟨rfl, rfl⟩
end Go.Proofs.YtnjikgcigobcdaaGreat

namespace Go.Proofs.YtnjikgcigobcdaaGreat
open Wd Pm Go.Maps Go.RowKit Go.Sort
set_option linter.unusedVariables false
set_option linter.unusedSectionVars false

/-! Append: its steps -/
structure AppB (W : World) (f : Fp) (σ : St) (P B I L D : Int) (n4 n5 n6 n7 n9 n10 : Nat) (A : Option Addr) (c : Nat) (l : List Int) : Prop where
  d : Dev W f σ
  c4 : Cells W n4 27 #[.pointer (some ⟨f.p, 0, none⟩)]
  c5 : Cells W n5 49 #[.int .i64 P, .int .i64 B, .int .i64 I, .int .i64 L, .int .i64 D]
  c6 : Cells W n6 3 #[.int .i64 0]
  c7 : Cells W n7 23 #[.slice A l.length c]
  c9 : ∃ v, Cells W n9 3 #[v]
  c10 : ∃ v, Cells W n10 3 #[v]
  n69 : n6 ≠ n9
  n610 : n6 ≠ n10
  n910 : n9 ≠ n10
  B0 : 0 ≤ B ∧ B ≤ 200000
  row : Row W W.heap.size A l.length (l.map VU64)
  out : ∀ b o m, A = some ⟨b, o, m⟩ → 0 < l.length → b ∉ n9 :: n10 :: f.blocks
  u : ∀ v ∈ l, U64 v
  len : l.length ≤ 1000000
  ev : σ.ev + (4 * l.length + 1000) < 4611686018427387904
def AppS (f : Fp) (n9 n10 : Nat) : List Nat := n9 :: n10 :: f.blocks
structure AppI (W : World) (f : Fp) (σ : St) (n9 n10 : Nat) (os : List Act) (v9 v10 : Int) (w' : World) : Prop where
  g : GoS W (AppS f n9 n10) f σ os 0 w'
  c9 : Cells w' n9 3 #[.int .i64 v9]
  c10 : Cells w' n10 3 #[.int .i64 v10]
/-- what comes of it -/
def appA (I : Int) (t : Nat) (l : List Int) : List Act := layA (34 + I + t) l ++ layA 32 [(t : Int) + l.length]
def AppQ (W : World) (f : Fp) (σ : St) (n9 n10 : Nat) (I L : Int) (t : Nat) (l : List Int) (er : Int) (w' : World) : Prop :=
  if L - t < l.length then er = 28 ∧ GoS W (AppS f n9 n10) f σ [] 0 w' else GoS W (AppS f n9 n10) f σ (appA I t l) er w'
theorem row_turn' {W w' : World} {S : List Nat} {R : Option Addr} {n : Nat} {xs : List Value} (h : Row W W.heap.size R n xs) (t : Turn W w' S) (hR : ∀ b o m, R = some ⟨b, o, m⟩ → 0 < n → b ∉ S) : Row w' w'.heap.size R n xs := by
  refine ⟨h.1, fun hp => ?_⟩
  obtain ⟨b, o, rfl, hb, hc⟩ := h.2 hp
  refine ⟨b, o, rfl, Nat.lt_of_lt_of_le hb t.size, fun j hj => ?_⟩
  have hk := t.block b hb (hR b o _ rfl hp)
  rw [← hc j hj]
  simp only [World.cell?, hk]
theorem AppB.far {W : World} {f : Fp} {σ : St} {P B I L D : Int} {n4 n5 n6 n7 n9 n10 : Nat} {A : Option Addr} {c : Nat} {l : List Int} (hb : AppB W f σ P B I L D n4 n5 n6 n7 n9 n10 A c l) : n4 ∉ AppS f n9 n10 ∧ n5 ∉ AppS f n9 n10 ∧ n6 ∉ AppS f n9 n10 ∧ n7 ∉ AppS f n9 n10 ∧ n9 ∉ f.blocks ∧ n10 ∉ f.blocks ∧ (∀ k ∈ f.blocks, k ∈ AppS f n9 n10) := by
  obtain ⟨v9, c9⟩ := hb.c9
  obtain ⟨v10, c10⟩ := hb.c10
  refine ⟨fun hm => ?_, fun hm => ?_, fun hm => ?_, fun hm => ?_, dev_out hb.d c9 (by decide) (by decide), dev_out hb.d c10 (by decide) (by decide), fun k hk => by simp [AppS, hk]⟩
  · simp only [AppS, List.mem_cons] at hm
    rcases hm with h | h | h
    · exact hb.c4.ne c9 (by decide) h
    · exact hb.c4.ne c10 (by decide) h
    · exact dev_out hb.d hb.c4 (by decide) (by decide) h
  · simp only [AppS, List.mem_cons] at hm
    rcases hm with h | h | h
    · exact hb.c5.ne c9 (by decide) h
    · exact hb.c5.ne c10 (by decide) h
    · exact dev_out hb.d hb.c5 (by decide) (by decide) h
  · simp only [AppS, List.mem_cons] at hm
    rcases hm with h | h | h
    · exact hb.n69 h
    · exact hb.n610 h
    · exact dev_out hb.d hb.c6 (by decide) (by decide) h
  · simp only [AppS, List.mem_cons] at hm
    rcases hm with h | h | h
    · exact hb.c7.ne c9 (by decide) h
    · exact hb.c7.ne c10 (by decide) h
    · exact dev_out hb.d hb.c7 (by decide) (by decide) h
section
variable {W wr : World} {f : Fp} {σ : St} {P B I L D : Int} {n4 n5 n6 n7 n9 n10 : Nat} {A : Option Addr} {c : Nat} {l image log : List Int} (hb : AppB W f σ P B I L D n4 n5 n6 n7 n9 n10 A c l) (hk : Bank σ I L image log)
include hb hk
set_option maxRecDepth 100000 in
set_option maxHeartbeats 2000000 in
theorem app1_dev (hi : AppI W f σ n9 n10 [] 0 0 wr) : Calls Tryz.prog 79 #[.pointer (some ⟨n4, 0, none⟩), .pointer (some ⟨n5, 0, none⟩), .pointer (some ⟨n6, 0, none⟩), .pointer (some ⟨n9, 0, none⟩)] wr (Ends (AppI W f σ n9 n10 [] (L - log.length) 0) (AppQ W f σ n9 n10 I L log.length l)) := by
  obtain ⟨s4, s5, s6, s7, s9, s10, sS⟩ := AppB.far hb
  have ht := hi.g.turn
  obtain ⟨σ', f', hr, d', hp, hbl, _⟩ := hi.g
  obtain ⟨rfl, _⟩ := Prod.mk.inj hr
  have KF := free_dev (P := P) (D := D) d' hk hb.B0
  rw [show f'.ptr = .pointer (some ⟨f.p, 0, none⟩) by unfold Fp.ptr; rw [hp]] at KF
  have KF := Lib.hid KF
  have k4 : wr.cell? ⟨n4, 0, none⟩ = some (.pointer (some ⟨f.p, 0, none⟩)) := (hb.c4.turn' s4 ht).cell 0
  have C5 := hb.c5.turn' s5 ht
  have k50 := C5.cell 0; have k51 := C5.cell 1; have k52 := C5.cell 2; have k53 := C5.cell 3; have k54 := C5.cell 4
  have k6 : wr.cell? ⟨n6, 0, none⟩ = some (.int .i64 0) := (hb.c6.turn' s6 ht).cell 0
  have HI := Lib.hid hi; have NE := Lib.hid hb.n910
  obtain ⟨fr, hfr⟩ : ∃ fr : Int, L - log.length = fr := ⟨_, rfl⟩
  rw [hfr] at KF ⊢
  clear hb hk hi s4 s5 s6 s7 s9 s10 C5 hr d' hp hbl ht hfr
  go_enter Tryz.func79, Tryz.ntmps79
  go_wp2_with fail
  refine (KF.out).mono ?_
  rintro e w2 ⟨rfl, b2⟩
  have C9 := Lib.hid (HI.out.c9.below' b2); have C10 := Lib.hid (HI.out.c10.below' b2); have G2 := Lib.hid (HI.out.g.below b2)
  have z0 := C9.out.free 0
  have x0 := C9.out.cell 0
  clear b2 KF k4 k50 k51 k52 k53 k54 k6
  go_wp2
  go_ret
  refine ⟨0, rfl, .inl ⟨rfl, G2.out.set C9.out (by decide) (by decide) (by simp [AppS]) 0 _, by simpa using C9.out.set 0 (.int .i64 fr), C10.out.far (Ne.symm NE.out) _⟩⟩
set_option maxRecDepth 100000 in
set_option maxHeartbeats 2000000 in
theorem app2_dev (hi : AppI W f σ n9 n10 [] (L - log.length) 0 wr) : Calls Tryz.prog 81 #[.pointer (some ⟨n7, 0, none⟩), .pointer (some ⟨n9, 0, none⟩)] wr (Ends (fun w' => l.length ≤ L - log.length ∧ AppI W f σ n9 n10 [] (L - log.length) 0 w') (AppQ W f σ n9 n10 I L log.length l)) := by
  obtain ⟨s4, s5, s6, s7, s9, s10, sS⟩ := AppB.far hb
  have ht := hi.g.turn
  have k7 : wr.cell? ⟨n7, 0, none⟩ = some (.slice A l.length c) := (hb.c7.turn' s7 ht).cell 0
  have k9 := hi.c9.cell 0
  have hQ : L - log.length < l.length → AppQ W f σ n9 n10 I L log.length l 28 wr := fun h => by unfold AppQ; rw [if_pos h]; exact ⟨rfl, hi.g⟩
  have HI := Lib.hid hi; have HQ := Lib.hid hQ
  obtain ⟨fr, hfr⟩ : ∃ fr : Int, L - log.length = fr := ⟨_, rfl⟩
  obtain ⟨n, hn⟩ : ∃ n, l.length = n := ⟨_, rfl⟩
  rw [hfr, hn] at HQ
  rw [hfr] at HI k9
  rw [hn] at k7
  simp only [hfr, hn]
  clear hb hk hi s4 s5 s6 s7 s9 s10 ht hfr hQ hn
  go_enter Tryz.func81, Tryz.ntmps81
  go_wp2_with fail
  refine (fits_is _ _ _).mono ?_
  rintro e w2 ⟨rfl, rfl⟩
  by_cases hc : fr < n
  · rw [if_pos hc]
    go_wp2
    go_ret
    exact ⟨28, rfl, .inr ⟨by decide, HQ.out hc⟩⟩
  · rw [if_neg hc]
    go_wp2
    go_ret
    exact ⟨0, rfl, .inl ⟨rfl, by omega, HI.out⟩⟩
set_option maxRecDepth 100000 in
set_option maxHeartbeats 4000000 in
theorem app3_dev (hfit : (l.length : Int) ≤ L - log.length) (hi : AppI W f σ n9 n10 [] (L - log.length) 0 wr) : Calls Tryz.prog 82 #[.pointer (some ⟨n5, 0, none⟩), .pointer (some ⟨n9, 0, none⟩), .pointer (some ⟨n10, 0, none⟩), .pointer (some ⟨n4, 0, none⟩), .pointer (some ⟨n6, 0, none⟩), .pointer (some ⟨n7, 0, none⟩)] wr (Ends (AppI W f σ n9 n10 (layA (34 + I + log.length) l) (L - log.length) log.length) (AppQ W f σ n9 n10 I L log.length l)) := by
  obtain ⟨s4, s5, s6, s7, s9, s10, sS⟩ := AppB.far hb
  have hi0 := hk.i0; have hl0 := hk.l0; have hll := hk.ll; have hB := hb.B0; have hlen := hb.len; have hev := hb.ev
  have ht := hi.g.turn
  have C4 := hb.c4.turn' s4 ht
  have C5 := hb.c5.turn' s5 ht
  have C6 := hb.c6.turn' s6 ht
  have C7 := hb.c7.turn' s7 ht
  obtain ⟨w3, hw3⟩ : ∃ w3, wr.setCell ⟨n10, 0, none⟩ (.int .i64 log.length) = w3 := ⟨_, rfl⟩
  have g3 : GoS W (AppS f n9 n10) f σ [] 0 w3 := hw3 ▸ hi.g.set hi.c10 (by decide) (by decide) (by simp [AppS]) 0 _
  have t3 := g3.turn
  have D4 := hb.c4.turn' s4 t3
  have D5 := hb.c5.turn' s5 t3
  have D6 := hb.c6.turn' s6 t3
  have D7 := hb.c7.turn' s7 t3
  have D9 : Cells w3 n9 3 #[.int .i64 (L - log.length)] := hw3 ▸ hi.c9.far hb.n910 _
  have D10 : Cells w3 n10 3 #[.int .i64 log.length] := by have := hi.c10.set 0 (.int .i64 log.length); rw [hw3] at this; simpa using this
  have hrow : ∀ wk, Below w3.heap.size w3 wk → RowIn W w3 wk f A l := fun wk b => by
    refine ⟨(Row.below (row_turn' hb.row t3 hb.out) b).more b.size, fun bb o m e hp => .inl ⟨?_, fun hm => ?_⟩⟩
    · obtain ⟨b', o', e', hlt, _⟩ := hb.row.2 hp
      rw [e] at e'
      cases e'
      exact hlt
    · exact hb.out bb o m e hp (by simp [hm])
  have KG : ∀ w, Calls Tryz.prog 53 #[.agg #[.int .i64 P, .int .i64 B, .int .i64 I, .int .i64 L, .int .i64 D], .int .i64 0] w (Grows (.int .i64 (34 + I)) w) := fun w => by
    have := gLogAt P B I L D 0 hB.1 hB.2 hi0.1 (by omega) w
    simpa [bankP] using this
  have KL := fun (wk : World) (b : Below w3.heap.size w3 wk) => lay_goS sS g3 b (fun o ho => by cases ho) (34 + I + log.length) A c l (by simp only [List.length_nil]; omega) (by omega) (by omega) (by omega) hb.u (hrow wk b)
  have hQ : ∀ er w', er ≠ 0 → GoS W (AppS f n9 n10) f σ ([] ++ layA (34 + I + log.length) l) er w' → AppQ W f σ n9 n10 I L log.length l er w' := fun er w' h0 h => by
    unfold AppQ
    rw [if_neg (by omega)]
    exact GoS.pre h h0 _
  have hJ : ∀ w', GoS W (AppS f n9 n10) f σ ([] ++ layA (34 + I + log.length) l) 0 w' → (∀ k, k = n9 ∨ k = n10 → w'.heap[k]? = w3.heap[k]?) → AppI W f σ n9 n10 (layA (34 + I + log.length) l) (L - log.length) log.length w' := fun w' h e => ⟨h, (e n9 (.inl rfl)).trans D9, (e n10 (.inr rfl)).trans D10⟩
  have L9 : n9 < W.heap.size := (let ⟨_, h⟩ := hb.c9; h.lt)
  have L10 : n10 < W.heap.size := (let ⟨_, h⟩ := hb.c10; h.lt)
  obtain ⟨ll, hLL⟩ : ∃ ll, log.length = ll := ⟨_, rfl⟩
  obtain ⟨fr, hfr⟩ : ∃ fr : Int, L - (ll : Int) = fr := ⟨_, rfl⟩
  rw [hLL] at hw3 hll KL hQ hJ hi ⊢
  rw [hfr] at hi
  have q1 : IntKind.i64.wrap (L - fr) = (ll : Int) := by rw [← hfr, show L - (L - (ll : Int)) = ll by omega]; exact wrapI (by omega) (by omega)
  have q2 : IntKind.i64.wrap (34 + I + (ll : Int)) = 34 + I + ll := wrapI (by omega) (by omega)
  have k53 : wr.cell? ⟨n5, 3, none⟩ = some (.int .i64 L) := C5.cell 3
  have k9 := hi.c9.cell 0
  have k10 := hi.c10.cell 0
  have z10 := hi.c10.free 0
  have s9' : ∀ w' : World, (∀ k, k < W.heap.size → k ∉ f.blocks → w'.heap[k]? = w3.heap[k]?) → w'.cell? ⟨n4, 0, none⟩ = some (.pointer (some ⟨f.p, 0, none⟩)) ∧ w'.cell? ⟨n5, 0, none⟩ = some (.int .i64 P) ∧ w'.cell? ⟨n5, 1, none⟩ = some (.int .i64 B) ∧ w'.cell? ⟨n5, 2, none⟩ = some (.int .i64 I) ∧ w'.cell? ⟨n5, 3, none⟩ = some (.int .i64 L) ∧ w'.cell? ⟨n5, 4, none⟩ = some (.int .i64 D) ∧ w'.cell? ⟨n6, 0, none⟩ = some (.int .i64 0) ∧ w'.cell? ⟨n10, 0, none⟩ = some (.int .i64 ll) ∧ w'.cell? ⟨n7, 0, none⟩ = some (.slice A l.length c) := fun w' hw => by
    have d4 : Cells w' n4 _ _ := (hw n4 hb.c4.lt (fun h => s4 (sS _ h))).trans D4
    have d5 : Cells w' n5 _ _ := (hw n5 hb.c5.lt (fun h => s5 (sS _ h))).trans D5
    have d6 : Cells w' n6 _ _ := (hw n6 hb.c6.lt (fun h => s6 (sS _ h))).trans D6
    have d7 : Cells w' n7 _ _ := (hw n7 hb.c7.lt (fun h => s7 (sS _ h))).trans D7
    have d10 : Cells w' n10 _ _ := (hw n10 L10 s10).trans D10
    rw [hLL] at d10
    exact ⟨d4.cell 0, d5.cell 0, d5.cell 1, d5.cell 2, d5.cell 3, d5.cell 4, d6.cell 0, d10.cell 0, d7.cell 0⟩
  have S9 := Lib.hid s9'; have KGH := Lib.hid KG; have KLH := Lib.hid KL; have HQ := Lib.hid hQ; have HJ := Lib.hid hJ
  have W3S := Lib.hid g3.turn.size; have L9H := Lib.hid (⟨L9, L10, s9, s10⟩ : n9 < W.heap.size ∧ n10 < W.heap.size ∧ n9 ∉ f.blocks ∧ n10 ∉ f.blocks)
  have HW3 := Lib.hid hw3
  clear hb hk hi s4 s5 s6 s7 s9 s10 sS hi0 hl0 hll hB hlen hev ht C4 C5 C6 C7 g3 t3 D4 D5 D6 D7 D9 D10 hrow KG KL hQ hJ L9 L10 s9' hw3 hfr hLL
  have b0 : Below w3.heap.size w3 w3.drew := below_drewN (Below.refl _ _) 1
  go_enter Tryz.func82, Tryz.ntmps82
  go_upto_region 2 with fail
  rw [HW3.out]
  clear k53 k9 k10 z10
  go_region_held3 (fun w' => w'.cell? ⟨n4, 0, none⟩ = some (.pointer (some ⟨f.p, 0, none⟩)) ∧ w'.cell? ⟨n5, 0, none⟩ = some (.int .i64 P) ∧ w'.cell? ⟨n5, 1, none⟩ = some (.int .i64 B) ∧ w'.cell? ⟨n5, 2, none⟩ = some (.int .i64 I) ∧ w'.cell? ⟨n5, 3, none⟩ = some (.int .i64 L) ∧ w'.cell? ⟨n5, 4, none⟩ = some (.int .i64 D) ∧ w'.cell? ⟨n6, 0, none⟩ = some (.int .i64 0) ∧ w'.cell? ⟨n10, 0, none⟩ = some (.int .i64 ll) ∧ w'.cell? ⟨n7, 0, none⟩ = some (.slice A l.length c))
    (first | exact S9.out _ (fun k hk _ => b0.block k (Nat.lt_of_lt_of_le hk W3S.out)) | exact S9.out _ (fun k hk _ => kG.block k (Nat.lt_of_lt_of_le hk W3S.out)) | exact S9.out _ eL)
    (first
      | (go_at_call 53; (with_reducible refine (KGH.out _).mono ?_); rintro e' wG hG; obtain ⟨rfl, bG⟩ := hG.below; clear hG; have kG : Below w3.heap.size w3 wG := b0.trans (bG.mono b0.size))
      | (go_at_call 12; (with_reducible refine (KLH.out _ kG).mono ?_); rintro e' wL ⟨er, rfl, gL, eL'⟩; have eL : ∀ k, k < W.heap.size → k ∉ f.blocks → wL.heap[k]? = w3.heap[k]? := fun k hk hn => (eL' k hk hn).trans (kG.block k (Nat.lt_of_lt_of_le hk W3S.out))))
  all_goals
    have GL := Lib.hid gL; have EL := Lib.hid eL
    clear gL eL eL' kG KGH KLH
    go_wp2
    go_ret
    refine ⟨er, rfl, ?_⟩
    by_cases h0 : er = 0
    · subst h0
      exact .inl ⟨rfl, HJ.out _ GL.out (fun k hk => by rcases hk with rfl | rfl; exact EL.out _ L9H.out.1 L9H.out.2.2.1; exact EL.out _ L9H.out.2.1 L9H.out.2.2.2)⟩
    · exact .inr ⟨h0, HQ.out _ _ h0 GL.out⟩
end
end Go.Proofs.YtnjikgcigobcdaaGreat

namespace Go.Proofs.YtnjikgcigobcdaaGreat
open Wd Pm Go.Maps Go.RowKit Go.Sort
set_option linter.unusedVariables false
set_option linter.unusedSectionVars false

theorem small_app1 (a : Int) (l : List Int) : ∀ o ∈ layA a l, Small1 o := layA_small a l
section
variable {W wr : World} {f : Fp} {σ : St} {P B I L D : Int} {n4 n5 n6 n7 n9 n10 : Nat} {A : Option Addr} {c : Nat} {l image log : List Int} (hb : AppB W f σ P B I L D n4 n5 n6 n7 n9 n10 A c l) (hk : Bank σ I L image log)
include hb hk
set_option maxRecDepth 100000 in
set_option maxHeartbeats 4000000 in
theorem app4_dev (hfit : (l.length : Int) ≤ L - log.length) (hi : AppI W f σ n9 n10 (layA (34 + I + log.length) l) (L - log.length) log.length wr) : Calls Tryz.prog 83 #[.pointer (some ⟨n4, 0, none⟩), .pointer (some ⟨n5, 0, none⟩), .pointer (some ⟨n6, 0, none⟩), .pointer (some ⟨n10, 0, none⟩), .pointer (some ⟨n7, 0, none⟩)] wr (Ends (AppQ W f σ n9 n10 I L log.length l 0) (AppQ W f σ n9 n10 I L log.length l)) := by
  obtain ⟨s4, s5, s6, s7, s9, s10, sS⟩ := AppB.far hb
  have hi0 := hk.i0; have hl0 := hk.l0; have hll := hk.ll; have hB := hb.B0; have hlen := hb.len; have hev := hb.ev
  have ht := hi.g.turn
  have D4 := hb.c4.turn' s4 ht
  have D5 := hb.c5.turn' s5 ht
  have D6 := hb.c6.turn' s6 ht
  have D7 := hb.c7.turn' s7 ht
  have D10 := hi.c10
  have KG : ∀ w, Calls Tryz.prog 78 #[.agg #[.int .i64 P, .int .i64 B, .int .i64 I, .int .i64 L, .int .i64 D], .int .i64 0] w (Grows (.int .i64 32) w) := fun w => by
    have := gBankAt P B I L D 0 hB.1 hB.2 w
    simpa [bankP] using this
  have hll2 := layA_len (34 + I + log.length) l
  have KL := fun (wk : World) (b : Nat) (bk : Below wr.heap.size wr wk) (hc : Cells wk b 31 #[.int .u64 ((log.length : Int) + l.length)]) (hnew : wr.heap.size ≤ b) =>
    lay_goS sS hi.g bk (layA_small _ _) 32 (some ⟨b, 0, none⟩) 1 [(log.length : Int) + l.length] (by simp only [List.length_singleton]; omega) (by omega) (by omega) (by simp) (fun v hv => by rw [List.mem_singleton.1 hv]; exact u64_of (by omega) (by omega))
      ⟨Row.of_cells hc hc.lt, fun bb o m e _ => by cases e; exact .inr hnew⟩
  have hQ : ∀ er w', GoS W (AppS f n9 n10) f σ (layA (34 + I + log.length) l ++ layA 32 [(log.length : Int) + l.length]) er w' → AppQ W f σ n9 n10 I L log.length l er w' := fun er w' h => by
    unfold AppQ
    rw [if_neg (by omega)]
    exact h
  have L10 : n10 < W.heap.size := (let ⟨_, h⟩ := hb.c10; h.lt)
  obtain ⟨ll, hLL⟩ : ∃ ll, log.length = ll := ⟨_, rfl⟩
  obtain ⟨n, hn⟩ : ∃ n, l.length = n := ⟨_, rfl⟩
  simp only [hLL, hn] at hll KL hQ D10 hlen D7 ⊢
  have q1 : IntKind.i64.wrap ((ll : Int) + (n : Int)) = (ll : Int) + n := wrapI (by omega) (by omega)
  have q2 : IntKind.u64.wrap ((ll : Int) + (n : Int)) = (ll : Int) + n := by rw [IntKind.wrap_u64]; omega
  have s9' : ∀ w' : World, (∀ k, k < W.heap.size → k ∉ f.blocks → w'.heap[k]? = wr.heap[k]?) → w'.cell? ⟨n4, 0, none⟩ = some (.pointer (some ⟨f.p, 0, none⟩)) ∧ w'.cell? ⟨n5, 0, none⟩ = some (.int .i64 P) ∧ w'.cell? ⟨n5, 1, none⟩ = some (.int .i64 B) ∧ w'.cell? ⟨n5, 2, none⟩ = some (.int .i64 I) ∧ w'.cell? ⟨n5, 3, none⟩ = some (.int .i64 L) ∧ w'.cell? ⟨n5, 4, none⟩ = some (.int .i64 D) ∧ w'.cell? ⟨n6, 0, none⟩ = some (.int .i64 0) ∧ w'.cell? ⟨n10, 0, none⟩ = some (.int .i64 ll) ∧ w'.cell? ⟨n7, 0, none⟩ = some (.slice A n c) := fun w' hw => by
    have d4 : Cells w' n4 _ _ := (hw n4 hb.c4.lt (fun h => s4 (sS _ h))).trans D4
    have d5 : Cells w' n5 _ _ := (hw n5 hb.c5.lt (fun h => s5 (sS _ h))).trans D5
    have d6 : Cells w' n6 _ _ := (hw n6 hb.c6.lt (fun h => s6 (sS _ h))).trans D6
    have d7 : Cells w' n7 _ _ := (hw n7 hb.c7.lt (fun h => s7 (sS _ h))).trans D7
    have d10 : Cells w' n10 _ _ := (hw n10 L10 s10).trans D10
    exact ⟨d4.cell 0, d5.cell 0, d5.cell 1, d5.cell 2, d5.cell 3, d5.cell 4, d6.cell 0, d10.cell 0, d7.cell 0⟩
  have S9 := Lib.hid s9'; have KGH := Lib.hid KG; have KLH := Lib.hid KL; have HQ := Lib.hid hQ
  have W3S := Lib.hid ht.size
  clear hb hk hi s4 s5 s6 s7 s9 s10 sS hi0 hl0 hll hB hlen hev ht D4 D5 D6 D7 D10 KG KL hQ L10 s9' hLL hn hll2 hfit
  have b0 : Below wr.heap.size wr wr.drew := below_drewN (Below.refl _ _) 1
  have b1 : Below wr.heap.size wr (wr.drew.alloc (.cells #[.int .u64 ((ll : Int) + n)] 31)) := b0.alloc (Nat.le_refl _) _
  have C1 := Lib.hid (Cells.new wr.drew 31 #[.int .u64 ((ll : Int) + n)])
  go_enter Tryz.func83, Tryz.ntmps83
  go_upto_region 1 with fail
  go_region_held3 (fun w' => w'.cell? ⟨n4, 0, none⟩ = some (.pointer (some ⟨f.p, 0, none⟩)) ∧ w'.cell? ⟨n5, 0, none⟩ = some (.int .i64 P) ∧ w'.cell? ⟨n5, 1, none⟩ = some (.int .i64 B) ∧ w'.cell? ⟨n5, 2, none⟩ = some (.int .i64 I) ∧ w'.cell? ⟨n5, 3, none⟩ = some (.int .i64 L) ∧ w'.cell? ⟨n5, 4, none⟩ = some (.int .i64 D) ∧ w'.cell? ⟨n6, 0, none⟩ = some (.int .i64 0) ∧ w'.cell? ⟨n10, 0, none⟩ = some (.int .i64 ll) ∧ w'.cell? ⟨n7, 0, none⟩ = some (.slice A n c))
    (first | exact S9.out _ (fun k hk _ => b0.block k (Nat.lt_of_lt_of_le hk W3S.out)) | exact S9.out _ (fun k hk _ => b1.block k (Nat.lt_of_lt_of_le hk W3S.out)) | exact S9.out _ (fun k hk _ => kG.block k (Nat.lt_of_lt_of_le hk W3S.out)) | exact S9.out _ (fun k hk _ => (kG.alloc kG.size _).block k (Nat.lt_of_lt_of_le hk W3S.out)) | exact S9.out _ eL)
    (first
      | (go_at_call 78; (with_reducible refine (KGH.out _).mono ?_); rintro e' wG hG; obtain ⟨rfl, bG⟩ := hG.below; clear hG; have kG : Below wr.heap.size wr wG := (by first | exact b0.trans (bG.mono b0.size) | exact b1.trans (bG.mono b1.size)))
      | (go_at_call 12; (first
          | refine (KLH.out _ _ kG (C1.out.below' bG) (Nat.le_refl _)).mono ?_
          | refine (KLH.out _ _ (kG.alloc kG.size _) (Cells.new wG _ _) kG.size).mono ?_)
         rintro e' wL ⟨er, rfl, gL, eL'⟩
         have eL : ∀ k, k < W.heap.size → k ∉ f.blocks → wL.heap[k]? = wr.heap[k]? := fun k hk hn => (eL' k hk hn).trans (by first | exact kG.block k (Nat.lt_of_lt_of_le hk W3S.out) | exact (kG.alloc kG.size _).block k (Nat.lt_of_lt_of_le hk W3S.out))))
  all_goals
    have GL := Lib.hid gL
    clear gL eL eL' kG KGH KLH
    go_wp2
    go_ret
    refine ⟨er, rfl, ?_⟩
    by_cases h0 : er = 0
    · subst h0
      exact .inl ⟨rfl, HQ.out _ _ GL.out⟩
    · exact .inr ⟨h0, HQ.out _ _ GL.out⟩
end
end Go.Proofs.YtnjikgcigobcdaaGreat

namespace Go.Proofs.YtnjikgcigobcdaaGreat
open Wd Pm Go.Maps Go.RowKit Go.Sort
set_option linter.unusedVariables false
set_option linter.unusedSectionVars false

def appRow (n4 n5 n6 n7 n9 n10 : Nat) : Array Value := #[.func (.func 79) #[] #[.pointer (some ⟨n4, 0, none⟩), .pointer (some ⟨n5, 0, none⟩), .pointer (some ⟨n6, 0, none⟩), .pointer (some ⟨n9, 0, none⟩)], .func (.func 81) #[] #[.pointer (some ⟨n7, 0, none⟩), .pointer (some ⟨n9, 0, none⟩)], .func (.func 82) #[] #[.pointer (some ⟨n5, 0, none⟩), .pointer (some ⟨n9, 0, none⟩), .pointer (some ⟨n10, 0, none⟩), .pointer (some ⟨n4, 0, none⟩), .pointer (some ⟨n6, 0, none⟩), .pointer (some ⟨n7, 0, none⟩)], .func (.func 83) #[] #[.pointer (some ⟨n4, 0, none⟩), .pointer (some ⟨n5, 0, none⟩), .pointer (some ⟨n6, 0, none⟩), .pointer (some ⟨n10, 0, none⟩), .pointer (some ⟨n7, 0, none⟩)]]
def AppF (j : Nat) : FuncId := if j = 0 then 79 else if j = 1 then 81 else if j = 2 then 82 else 83
def AppC (n4 n5 n6 n7 n9 n10 : Nat) (j : Nat) : Array Value := if j = 0 then #[.pointer (some ⟨n4, 0, none⟩), .pointer (some ⟨n5, 0, none⟩), .pointer (some ⟨n6, 0, none⟩), .pointer (some ⟨n9, 0, none⟩)] else if j = 1 then #[.pointer (some ⟨n7, 0, none⟩), .pointer (some ⟨n9, 0, none⟩)] else if j = 2 then #[.pointer (some ⟨n5, 0, none⟩), .pointer (some ⟨n9, 0, none⟩), .pointer (some ⟨n10, 0, none⟩), .pointer (some ⟨n4, 0, none⟩), .pointer (some ⟨n6, 0, none⟩), .pointer (some ⟨n7, 0, none⟩)] else #[.pointer (some ⟨n4, 0, none⟩), .pointer (some ⟨n5, 0, none⟩), .pointer (some ⟨n6, 0, none⟩), .pointer (some ⟨n10, 0, none⟩), .pointer (some ⟨n7, 0, none⟩)]
theorem app_turn {W : World} {f : Fp} {σ : St} {P B I L D : Int} {n4 n5 n6 n7 n9 n10 : Nat} {A : Option Addr} {c : Nat} {l image log : List Int} (hb : AppB W f σ P B I L D n4 n5 n6 n7 n9 n10 A c l) (hk : Bank σ I L image log)
    (h9 : Cells W n9 3 #[.int .i64 0]) (h10 : Cells W n10 3 #[.int .i64 0]) (R : Nat) (hR : Cells W R 60 (appRow n4 n5 n6 n7 n9 n10)) :
    Calls Tryz.prog 35 #[.slice (some ⟨R, 0, none⟩) 4 4] W fun e w' => ∃ er, e = .returned (.int .i64 er) ∧ AppQ W f σ n9 n10 I L log.length l er w' := by
  have hrow := Row.of_cells (B := W.heap.size) hR hR.lt
  have hne : ∀ b o m, (some ⟨R, 0, none⟩ : Option Addr) = some ⟨b, o, m⟩ → b ∉ AppS f n9 n10 := fun b o m e hm => by
    cases e
    simp only [AppS, List.mem_cons] at hm
    rcases hm with h | h | h
    · exact hR.ne h9 (by decide) h
    · exact hR.ne h10 (by decide) h
    · exact dev_out hb.d hR (by decide) (by decide) h
  have key := inTurn_any 4 (by omega) AppF (fun _ => #[]) (AppC n4 n5 n6 n7 n9 n10) (some ⟨R, 0, none⟩) 4
    (fun j wr => if j = 0 then AppI W f σ n9 n10 [] 0 0 wr else if j = 1 then AppI W f σ n9 n10 [] (L - log.length) 0 wr else if j = 2 then (l.length ≤ L - log.length ∧ AppI W f σ n9 n10 [] (L - log.length) 0 wr) else if j = 3 then (l.length ≤ L - log.length ∧ AppI W f σ n9 n10 (layA (34 + I + log.length) l) (L - log.length) log.length wr) else AppQ W f σ n9 n10 I L log.length l 0 wr ∧ Turn W wr (AppS f n9 n10)) (AppQ W f σ n9 n10 I L log.length l) W
    (by rw [if_pos rfl]; exact ⟨GoS.start hb.d, h9, h10⟩)
    (fun j wr hj => by
      have ht : Turn W wr (AppS f n9 n10) := by
        split at hj
        · exact hj.g.turn
        · split at hj
          · exact hj.g.turn
          · split at hj
            · exact hj.2.g.turn
            · split at hj
              · exact hj.2.g.turn
              · exact hj.2
      exact row_turn hrow ht hne)
    (fun j hj => by
      unfold AppF
      split
      · exact fun args w => by simp [go_sem]
      · split
        · exact fun args w => by simp [go_sem]
        · split
          · exact fun args w => by simp [go_sem]
          · exact fun args w => by simp [go_sem])
    (fun j wr hj hA => by
      match j, hj with
      | 0, _ => exact app1_dev hb hk hA
      | 1, _ => exact app2_dev hb hk hA
      | 2, _ =>
        refine (app3_dev hb hk hA.1 hA.2).mono ?_
        rintro e w2 ⟨er, rfl, ⟨rfl, h⟩ | h⟩
        · exact ⟨0, rfl, .inl ⟨rfl, hA.1, h⟩⟩
        · exact ⟨er, rfl, .inr h⟩
      | 3, _ =>
        refine (app4_dev hb hk hA.1 hA.2).mono ?_
        rintro e w2 ⟨er, rfl, ⟨rfl, h⟩ | h⟩
        · refine ⟨0, rfl, .inl ⟨rfl, h, ?_⟩⟩
          unfold AppQ at h
          rw [if_neg (by have := hA.1; omega)] at h
          exact h.turn
        · exact ⟨er, rfl, .inr h⟩)
  refine key.mono ?_
  rintro e w2 ⟨er, rfl, ⟨rfl, h⟩ | ⟨_, h⟩⟩
  · exact ⟨0, rfl, h.1⟩
  · exact ⟨er, rfl, h⟩
/-- what an append makes of a device, and what it answers -/
def appR (σ : St) (I L : Int) (t : Nat) (l : List Int) : St × Int := if L - t < l.length then (σ, 28) else runS (appA I t l) σ
set_option maxRecDepth 100000 in
set_option maxHeartbeats 2000000 in
theorem append_dev {w : World} {f : Fp} {σ : St} {P B I L D : Int} {image log : List Int} (h : Dev w f σ) (hk : Bank σ I L image log) (hB : 0 ≤ B ∧ B ≤ 200000) (A : Option Addr) (c : Nat) (l : List Int) (hr : RowO w f A l) (hu : ∀ v ∈ l, U64 v) (hlen : l.length ≤ 1000000) (hev : σ.ev + (4 * l.length + 1000) < 4611686018427387904) :
    Calls Tryz.prog 44 #[f.ptr, .agg #[.int .i64 P, .int .i64 B, .int .i64 I, .int .i64 L, .int .i64 D], .int .i64 0, .slice A l.length c] w fun e w' => e = .returned (.int .i64 (appR σ I L log.length l).2) ∧ Goes w f (appR σ I L log.length l).1 w' := by
  have hmf : ∀ (fn : Fn) (first cap : Array Value) (w : World), (Instr.makeFunc fn first cap).run Tryz.prog w = .ok (.func fn first cap) w := fun _ _ _ _ => rfl
  have H := Lib.hid h; have HK := Lib.hid hk; have HR := Lib.hid hr; have HU := Lib.hid hu; have HEV := Lib.hid hev; have HLEN := Lib.hid hlen
  obtain ⟨n, hn⟩ : ∃ n, l.length = n := ⟨_, rfl⟩
  rw [hn]
  have HN := Lib.hid hn
  clear h hk hr hu hev hlen hn
  unfold Fp.ptr
  go_enter Tryz.func44, Tryz.ntmps44
  go_upto_region 2 with fail
  have c4 := (((((Cells.new w 27 #[.pointer (some ⟨f.p, 0, none⟩)]).alloc (.cells #[.int .i64 P, .int .i64 B, .int .i64 I, .int .i64 L, .int .i64 D] 49)).alloc (.cells #[.int .i64 0] 3)).alloc (.cells #[.slice A n c] 23)).alloc (.cells #[.int .i64 0] 3)).alloc (.cells #[.int .i64 0] 3)
  have c5 := ((((Cells.new (w.alloc (.cells #[.pointer (some ⟨f.p, 0, none⟩)] 27)) 49 #[.int .i64 P, .int .i64 B, .int .i64 I, .int .i64 L, .int .i64 D]).alloc (.cells #[.int .i64 0] 3)).alloc (.cells #[.slice A n c] 23)).alloc (.cells #[.int .i64 0] 3)).alloc (.cells #[.int .i64 0] 3)
  have c6 := (((Cells.new ((w.alloc (.cells #[.pointer (some ⟨f.p, 0, none⟩)] 27)).alloc (.cells #[.int .i64 P, .int .i64 B, .int .i64 I, .int .i64 L, .int .i64 D] 49)) 3 #[.int .i64 0]).alloc (.cells #[.slice A n c] 23)).alloc (.cells #[.int .i64 0] 3)).alloc (.cells #[.int .i64 0] 3)
  have c7 := ((Cells.new (((w.alloc (.cells #[.pointer (some ⟨f.p, 0, none⟩)] 27)).alloc (.cells #[.int .i64 P, .int .i64 B, .int .i64 I, .int .i64 L, .int .i64 D] 49)).alloc (.cells #[.int .i64 0] 3)) 23 #[.slice A n c]).alloc (.cells #[.int .i64 0] 3)).alloc (.cells #[.int .i64 0] 3)
  have c9 := (Cells.new ((((w.alloc (.cells #[.pointer (some ⟨f.p, 0, none⟩)] 27)).alloc (.cells #[.int .i64 P, .int .i64 B, .int .i64 I, .int .i64 L, .int .i64 D] 49)).alloc (.cells #[.int .i64 0] 3)).alloc (.cells #[.slice A n c] 23)) 3 #[.int .i64 0]).alloc (.cells #[.int .i64 0] 3)
  have c10 := Cells.new (((((w.alloc (.cells #[.pointer (some ⟨f.p, 0, none⟩)] 27)).alloc (.cells #[.int .i64 P, .int .i64 B, .int .i64 I, .int .i64 L, .int .i64 D] 49)).alloc (.cells #[.int .i64 0] 3)).alloc (.cells #[.slice A n c] 23)).alloc (.cells #[.int .i64 0] 3)) 3 #[.int .i64 0]
  simp only [World.size_alloc] at c5 c6 c7 c9 c10
  have b4 : Below w.heap.size w ((((((w.alloc (.cells #[.pointer (some ⟨f.p, 0, none⟩)] 27)).alloc (.cells #[.int .i64 P, .int .i64 B, .int .i64 I, .int .i64 L, .int .i64 D] 49)).alloc (.cells #[.int .i64 0] 3)).alloc (.cells #[.slice A n c] 23)).alloc (.cells #[.int .i64 0] 3)).alloc (.cells #[.int .i64 0] 3)) := ((((((Below.refl _ _).alloc (Nat.le_refl _) _).alloc (by simp) _).alloc (by simp; omega) _).alloc (by simp; omega) _).alloc (by simp; omega) _).alloc (by simp; omega) _
  obtain ⟨W, hW⟩ : ∃ W, ((((((w.alloc (.cells #[.pointer (some ⟨f.p, 0, none⟩)] 27)).alloc (.cells #[.int .i64 P, .int .i64 B, .int .i64 I, .int .i64 L, .int .i64 D] 49)).alloc (.cells #[.int .i64 0] 3)).alloc (.cells #[.slice A n c] 23)).alloc (.cells #[.int .i64 0] 3)).alloc (.cells #[.int .i64 0] 3)) = W := ⟨_, rfl⟩
  rw [hW] at c4 c5 c6 c7 c9 c10 b4 ⊢
  have C4 := Lib.hid c4; have C5 := Lib.hid c5; have C6 := Lib.hid c6; have C7 := Lib.hid c7; have C9 := Lib.hid c9; have C10 := Lib.hid c10; have B4 := Lib.hid b4
  clear c4 c5 c6 c7 c9 c10 b4 hW
  obtain ⟨n4, e4⟩ : ∃ n, w.heap.size = n := ⟨_, rfl⟩
  rw [e4] at C4 C5 C6 C7 C9 C10 B4 ⊢
  obtain ⟨arr, harr⟩ : ∃ arr : Array Value, arr = appRow n4 (n4 + 1) (n4 + 1 + 1) (n4 + 1 + 1 + 1) (n4 + 1 + 1 + 1 + 1) (n4 + 1 + 1 + 1 + 1 + 1) := ⟨_, rfl⟩
  have hW1 : Below n4 w (W.alloc (.cells arr 60)) := B4.out.alloc (by have := B4.out.size; omega) _
  have hW1' : Below w.heap.size w (W.alloc (.cells arr 60)) := e4 ▸ hW1
  have hlt : ∀ b o m, A = some ⟨b, o, m⟩ → 0 < l.length → b < n4 := fun b o m e hp => by
    obtain ⟨b', o', e', hb, _⟩ := HR.out.1.2 hp
    rw [e] at e'
    cases e'
    omega
  have KT := app_turn (W := W.alloc (.cells arr 60)) (n4 := n4) (n5 := n4 + 1) (n6 := n4 + 1 + 1) (n7 := n4 + 1 + 1 + 1) (n9 := n4 + 1 + 1 + 1 + 1) (n10 := n4 + 1 + 1 + 1 + 1 + 1) (P := P) (D := D) (A := A) (c := c) (l := l)
    ⟨H.out.below hW1', C4.out.alloc _, C5.out.alloc _, C6.out.alloc _, HN.out.symm ▸ C7.out.alloc _, ⟨_, C9.out.alloc _⟩, ⟨_, C10.out.alloc _⟩, by omega, by omega, by omega, hB, (Row.below HR.out.1 hW1').more hW1'.size, fun b o m e hp hm => by
      have h1 := hlt b o m e hp
      have h2 := HR.out.2 b o m e hp
      simp only [List.mem_cons] at hm
      rcases hm with h | h | h
      · omega
      · omega
      · exact h2 h, HU.out, HLEN.out, HEV.out⟩ HK.out (C9.out.alloc _) (C10.out.alloc _) W.heap.size (harr ▸ Cells.new W _ arr)
  unfold appRow at harr
  have hS : ∀ k ∈ AppS f (n4 + 1 + 1 + 1 + 1) (n4 + 1 + 1 + 1 + 1 + 1), k < w.heap.size → k ∈ f.blocks := fun k hk hlt => by
    simp only [AppS, List.mem_cons] at hk
    rcases hk with h | h | h
    · omega
    · omega
    · exact h
  rw [harr] at KT hW1'
  have KTH := Lib.hid KT; have HS := Lib.hid hS; have HW1 := Lib.hid hW1'
  clear KT harr hW1 hW1' hlt hS
  go_wp2_with fail
  refine (KTH.out).mono ?_
  rintro e w5 ⟨er, rfl, hq⟩
  have HQ := Lib.hid hq
  clear hq KTH
  go_wp2
  go_ret
  have hq := HQ.out
  unfold AppQ at hq
  unfold appR
  by_cases hf : L - (log.length : Int) < l.length
  · rw [if_pos hf] at hq ⊢
    obtain ⟨rfl, hg⟩ := hq
    exact ⟨rfl, (hg.goes HW1.out HS.out).2⟩
  · rw [if_neg hf] at hq ⊢
    obtain ⟨e1, e2⟩ := hq.goes HW1.out HS.out
    exact ⟨by rw [e1]; rfl, e2⟩
end Go.Proofs.YtnjikgcigobcdaaGreat
