import Derived.Test.YtnjikgcigobcdaaBkRea
namespace Go.Proofs.Ytnjikgcigobcdaa
open Wd Pm Go.Maps Go.RowKit Go.Sort
set_option linter.unusedVariables false
set_option linter.unusedSectionVars false

/-! a device under way, beside other things that turn -/
def GoS (W : World) (S : List Nat) (f : Fp) (σ : St) (os : List Act) (er : Int) (w' : World) : Prop :=
  ∃ σ' f', runS os σ = (σ', er) ∧ Dev w' f' σ' ∧ f'.p = f.p ∧ (∀ k ∈ f'.blocks, k ∈ f.blocks ∨ W.heap.size ≤ k) ∧ Turn W w' S
theorem GoS.start {W : World} {S : List Nat} {f : Fp} {σ : St} (h : Dev W f σ) : GoS W S f σ [] 0 W := ⟨σ, f, rfl, h, rfl, fun k hk => .inl hk, Turn.refl _ _⟩
theorem GoS.pre {W w' : World} {S : List Nat} {f : Fp} {σ : St} {os : List Act} {er : Int} (h : GoS W S f σ os er w') (he : er ≠ 0) (rest : List Act) : GoS W S f σ (os ++ rest) er w' := by
  obtain ⟨σ', f', hr, h2⟩ := h
  exact ⟨σ', f', by rw [runS_pre (by rw [hr]; exact he), hr], h2⟩
theorem GoS.turn {W w' : World} {S : List Nat} {f : Fp} {σ : St} {os : List Act} {er : Int} (h : GoS W S f σ os er w') : Turn W w' S := by
  obtain ⟨_, _, _, _, _, _, t⟩ := h
  exact t
theorem GoS.below {W w1 w2 : World} {S : List Nat} {f : Fp} {σ : St} {os : List Act} {er : Int} (h : GoS W S f σ os er w1) (b : Below w1.heap.size w1 w2) : GoS W S f σ os er w2 := by
  obtain ⟨σ', f', hr, d, hp, hb, t⟩ := h
  exact ⟨σ', f', hr, d.below b, hp, hb, t.trans (S' := S) (Turn.ofBelow b) (fun x hx => .inl hx)⟩
theorem GoS.set {W w1 : World} {S : List Nat} {f : Fp} {σ : St} {os : List Act} {er : Int} {g : Nat} {cs : Array Value} {T : TypeId} (h : GoS W S f σ os er w1) (hc : Cells w1 g T cs) (h1 : T ≠ 73) (h2 : T ≠ 49) (hS : g ∈ S) (i : Nat) (u : Value) : GoS W S f σ os er (w1.setCell ⟨g, i, none⟩ u) := by
  obtain ⟨σ', f', hr, d, hp, hb, t⟩ := h
  exact ⟨σ', f', hr, d.far (p := ⟨g, i, none⟩) (dev_out d hc h1 h2) u, hp, hb, t.trans (S' := S) (Turn.set _ (p := ⟨g, i, none⟩) hS u) (fun x hx => .inl hx)⟩
theorem GoS.goes {W w' : World} {S : List Nat} {f : Fp} {σ : St} {os : List Act} {er : Int} (h : GoS W S f σ os er w') {w : World} (b : Below w.heap.size w W) (hS : ∀ k ∈ S, k < w.heap.size → k ∈ f.blocks) : (runS os σ).2 = er ∧ Goes w f (runS os σ).1 w' := by
  obtain ⟨σ', f', hr, d, hp, hb, t⟩ := h
  rw [hr]
  refine ⟨rfl, f', d, hp, fun k hk => ?_, ⟨t.os.trans b.os, t.tape.trans b.tape, t.output.trans b.output, Nat.le_trans b.size t.size, fun k hk hn => ?_⟩⟩
  · rcases hb k hk with h | h
    · exact .inl h
    · exact .inr (Nat.le_trans b.size h)
  · exact (t.block k (Nat.lt_of_lt_of_le hk b.size) (fun hm => hn (hS k hm hk))).trans (b.block k hk)
def RowIn (W wr wk : World) (f : Fp) (A : Option Addr) (l : List Int) : Prop := Row wk wk.heap.size A l.length (l.map VU64) ∧ ∀ b o m, A = some ⟨b, o, m⟩ → 0 < l.length → (b < W.heap.size ∧ b ∉ f.blocks) ∨ wr.heap.size ≤ b
theorem lay_goS {W wr wk : World} {S : List Nat} {f : Fp} {σ : St} {os : List Act} (hS : ∀ k ∈ f.blocks, k ∈ S) (h : GoS W S f σ os 0 wr) (b : Below wr.heap.size wr wk) (hsm : ∀ o ∈ os, Small1 o) (at_ : Int) (A : Option Addr) (c : Nat) (l : List Int)
    (hev : σ.ev + (os.length + 2 * l.length + 3) < 4611686018427387904) (h0 : 0 ≤ at_) (h1 : at_ ≤ 900000000) (hn : l.length ≤ 10000000) (hu : ∀ v ∈ l, U64 v) (hr : RowIn W wr wk f A l) :
    Calls Try.prog 28 #[.pointer (some ⟨f.p, 0, none⟩), .int .i64 at_, .slice A l.length c] wk fun e w' => ∃ er, e = .returned (.int .i64 er) ∧ GoS W S f σ (os ++ layA at_ l) er w' ∧ ∀ k, k < W.heap.size → k ∉ f.blocks → w'.heap[k]? = wk.heap[k]? := by
  obtain ⟨σ1, f1, hr1, d1, hp, hb, t⟩ := h
  have he := runS_ev os σ hsm
  rw [hr1] at he
  have ht := t.size
  have hlt := d1.lt
  have key := lay_dev (d1.below b) at_ A c l (by simp only at he; omega) h0 h1 hn hu ⟨hr.1, fun bb o m e hp0 hm => by
    rcases hr.2 bb o m e hp0 with ⟨h1, h2⟩ | h1
    · rcases hb bb hm with h | h
      · exact h2 h
      · omega
    · simp [Fp.blocks] at hm; omega⟩
  have hp2 : f1.ptr = .pointer (some ⟨f.p, 0, none⟩) := by unfold Fp.ptr; rw [hp]
  rw [hp2] at key
  refine key.mono ?_
  rintro e w2 ⟨rfl, f2, d2, e2, n2, t2⟩
  have bk : Turn W wk S := t.trans (S' := S) (Turn.ofBelow b) (fun x hx => .inl hx)
  refine ⟨_, rfl, ⟨(runS (layA at_ l) σ1).1, f2, ?_, d2, e2.trans hp, fun k hk => ?_, bk.trans t2 (fun x hx => ?_)⟩, fun k hk hn => ?_⟩
  · rw [runS_append, hr1, if_pos rfl]
  · rcases n2 k hk with h | h
    · exact hb k h
    · exact .inr (Nat.le_trans bk.size h)
  · rcases hb x hx with h | h
    · exact .inl (hS x h)
    · exact .inr h
  · refine t2.block k (Nat.lt_of_lt_of_le hk bk.size) (fun hm => ?_)
    rcases hb k hm with h | h
    · exact hn h
    · omega
set_option maxRecDepth 100000 in
theorem fits_is (many room : Int) (w : World) : Calls Try.prog 26 #[.int .i64 many, .int .i64 room] w fun e w' => e = .returned (.int .i64 (if room < many then 28 else 0)) ∧ w = w' := by
  by_cases h : room < many
  · have q : decide (many > room) = true := by simpa using h
    rw [if_pos h]
    go_enter Try.func26, Try.ntmps26
    go_wp2
    go_ret
    exact ⟨rfl, rfl⟩
  · have q : decide (many > room) = false := by simpa using h
    rw [if_neg h]
    go_enter Try.func26, Try.ntmps26
    go_wp2
    go_ret
    exact ⟨rfl, rfl⟩
end Go.Proofs.Ytnjikgcigobcdaa
