import Derived.Test.YtnjikgcigobcdaaGreatMD
import Derived.Test.YtnjikgcigobcdaaGreatPmRn
import Derived.Test.YtnjikgcigobcdaaGreatPmArm
import Derived.Test.YtnjikgcigobcdaaGreatPmRd
namespace Go.Proofs.YtnjikgcigobcdaaGreat
open Wd Pm Go.Maps Go.RowKit
set_option linter.unusedVariables false

/-! a word stays as something that was stored to it, or as it was -/
structure Seen (σ : St) (i : Int) (seen : List Int) : Prop where
  zero : (0 : Int) ∈ seen
  st : σ.st i ∈ seen
  hd : ∀ c, σ.hd i = some c → c ∈ seen
  sn : ∀ c, σ.sn i = some c → c ∈ seen
theorem Seen.more {σ : St} {i : Int} {seen : List Int} (h : Seen σ i seen) (xs : List Int) : Seen σ i (seen ++ xs) :=
  ⟨List.mem_append_left _ h.zero, List.mem_append_left _ h.st, fun c hc => List.mem_append_left _ (h.hd c hc), fun c hc => List.mem_append_left _ (h.sn c hc)⟩
theorem Seen.stays {σ : St} {i : Int} {seen : List Int} (h : Seen σ i seen) : σ.stays i ∈ seen := by
  unfold St.stays
  split
  · exact h.st
  · exact h.zero
theorem seen_fresh (n : Nat) (i : Int) : Seen (.fresh n) i [0] := ⟨by simp, by simp [St.fresh], (fun c h => by cases h), (fun c h => by cases h)⟩
theorem seen_hold {σ : St} {i : Int} {seen : List Int} (h : Seen σ i seen) (x v : Int) (hv : x = i → v ∈ seen) : Seen (σ.hold x v) i seen := by
  refine ⟨h.zero, h.st, fun c hc => ?_, h.sn⟩
  unfold St.hold at hc
  simp only at hc
  split at hc
  · unfold del at hc
    split at hc
    · cases hc
    · exact h.hd c hc
  · unfold put at hc
    split at hc
    · rename_i e; cases hc; exact hv e.symm
    · exact h.hd c hc
theorem seen_send {σ : St} {i : Int} {seen : List Int} (h : Seen σ i seen) (line : Int) : Seen (σ.send line) i seen := by
  refine ⟨h.zero, h.st, h.hd, fun c hc => ?_⟩
  have hc : sendL σ (dirtyL σ.hd (line * 8) 8) i = some c := hc
  unfold sendL at hc
  split at hc
  · exact h.hd c hc
  · exact h.sn c hc
theorem seen_persist {σ : St} {i : Int} {seen : List Int} (h : Seen σ i seen) : Seen σ.persist i seen := by
  refine ⟨h.zero, ?_, fun c hc => ?_, fun c hc => by cases hc⟩
  · show perSt σ (fun _ => false) i ∈ seen
    unfold perSt
    simp only [Bool.false_eq_true, if_false]
    cases hs : σ.sn i with
    | none => exact h.st
    | some c => exact h.sn c hs
  · have hc : perHd σ (fun _ => false) i = some c := hc
    unfold perHd at hc
    split at hc
    · cases hc
    · exact h.hd c hc
theorem seen_ev {σ : St} {i : Int} {seen : List Int} (h : Seen σ i seen) (ks : List Int) : evSt σ ks i ∈ seen := by
  unfold evSt
  split
  · cases hh : σ.hd i with
    | none => exact h.zero
    | some c => exact h.hd c hh
  · exact h.st
theorem seen_drop {σ : St} {i : Int} {seen : List Int} (h : Seen σ i seen) (ks : List Int) : Seen (σ.drop ks) i seen := by
  refine ⟨h.zero, seen_ev h ks, fun c hc => ?_, fun c hc => ?_⟩
  · have hc : delL σ.hd ks i = some c := hc
    unfold delL at hc
    split at hc
    · cases hc
    · exact h.hd c hc
  · have hc : delL σ.sn ks i = some c := hc
    unfold delL at hc
    split at hc
    · cases hc
    · exact h.sn c hc
theorem seen_crash {σ : St} {i : Int} {seen : List Int} (h : Seen σ i seen) (l : List Int) (keep : List Bool) : Seen (σ.crash l keep) i seen :=
  ⟨h.zero, seen_ev h _, (fun c hc => by cases hc), (fun c hc => by cases hc)⟩

/-- a device under way: its words' numbers, what was seen of word i, how many deeds there were -/
structure Calm (σ : St) (nn : Nat) (i : Int) (seen : List Int) (m : Nat) : Prop where
  n : σ.n = nn
  ar : σ.ar = 0
  dead : σ.dead = false
  ev : σ.ev ≤ m
  seen : Seen σ i seen
theorem Calm.evs {σ : St} {nn : Nat} {i : Int} {seen : List Int} {m : Nat} (h : Calm σ nn i seen m) (hm : m ≤ 1000) : σ.ev < 4611686018427387904 := by have := h.ev; omega
theorem Calm.next {σ : St} {nn : Nat} {i : Int} {seen : List Int} {m : Nat} (h : Calm σ nn i seen m) : Calm σ nn i seen (m + 1) := ⟨h.n, h.ar, h.dead, by have := h.ev; omega, h.seen⟩
/-- a call that may be refused, of a device whose power doesn't fail -/
theorem calm_tried {σ : St} {nn : Nat} {i : Int} {seen seen' : List Int} {m : Nat} (h : Calm σ nn i seen m) {b : Bool} {go : St → St} (p : Plain go) (hs : b = true → Seen (go σ) i seen') (hs' : b = false → seen' = seen) :
    Calm (σ.tried b go).1 nn i seen' (m + 1) ∧ (σ.tried b go).2 = if b = true then 0 else 90 := by
  have e1 : σ.drained = σ := by unfold St.drained; rw [h.ar, if_pos rfl, ← h.ar]
  unfold St.tried
  rw [h.dead]
  cases b with
  | true =>
    rw [if_pos ref0, h.ar, if_neg (by decide), e1, if_pos rfl]
    exact ⟨⟨(p.n _).trans h.n, (p.ar _).trans h.ar, (p.dead _).trans h.dead, by show (go σ).ev + 1 ≤ _; rw [p.ev]; have := h.ev; omega, ⟨(hs rfl).zero, (hs rfl).st, (hs rfl).hd, (hs rfl).sn⟩⟩, rfl⟩
  | false =>
    have e2 : refErr false false = 90 := by unfold refErr; rfl
    rw [e2, if_neg (by decide), hs' rfl]
    exact ⟨h.next, rfl⟩

theorem calm_evict {σ : St} {nn : Nat} {i : Int} {seen : List Int} {m : Nat} (h : Calm σ nn i seen m) (line : Int) : Calm (σ.evict line).1 nn i seen (m + 1) := by
  unfold St.evict
  split
  · exact ⟨h.n, h.ar, h.dead, h.next.ev, seen_drop h.seen _⟩
  · exact h.next
theorem calm_crash {σ : St} {nn : Nat} {i : Int} {seen : List Int} {m : Nat} (h : Calm σ nn i seen m) (l : List Int) (keep : List Bool) : Calm (σ.crash l keep) nn i seen (m + 1) := ⟨h.n, rfl, rfl, h.next.ev, seen_crash h.seen l keep⟩
/-- the law's device and row of what was seen -/
def OnlySt (w : World) (p : Nat) (nn : Nat) (i : Int) (m : Nat) (extra : List Int) (sv : Value) (wr : World) : Prop :=
  ∃ (seen : List Int) (f : Fp) (σ : St), f.p = p ∧ Dev wr f σ ∧ Fresh w f ∧ Below w.heap.size w wr ∧ wr.ownsRow w.heap.size 31 1 sv seen.length (seen.map (Value.int .u64)) ∧ (∀ q, sv.ownBlock = some q → q ∉ f.blocks) ∧ seen.length ≤ m ∧ (∀ c ∈ seen, U64 c) ∧ Calm σ nn i (seen ++ extra) m
theorem own_not {w : World} {f : Fp} {base n : Nat} {e : TypeId} {v : Value} {xs : List Value} (h : w.ownsRow base e 1 v n xs) (hq : ∀ q, v.ownBlock = some q → q ∉ f.blocks) {w' : World} {f' : Fp} (hn : ∀ k ∈ f'.blocks, k ∈ f.blocks ∨ w.heap.size ≤ k) : ∀ q, v.ownBlock = some q → q ∉ f'.blocks := by
  intro q e hm
  rcases hn q hm with h1 | h1
  · exact hq q e h1
  · rcases h.2 with ⟨rfl, _⟩ | ⟨g, cap, cur, rfl, hb, hh, _⟩
    · cases e
    · have : g = q := by simpa [Value.ownBlock] using e
      have := lt_of_block hh
      omega
/-- the device goes on -/
theorem OnlySt.goes {w w1 w2 : World} {p nn m m' : Nat} {i : Int} {extra' : List Int} {sv : Value} {f : Fp} {σ' : St} {seen : List Int} (hp : f.p = p) (fr : Fresh w f) (b : Below w.heap.size w w1) (own : w1.ownsRow w.heap.size 31 1 sv seen.length (seen.map (Value.int .u64)))
    (hq : ∀ q, sv.ownBlock = some q → q ∉ f.blocks) (hl : seen.length ≤ m) (hu : ∀ c ∈ seen, U64 c) (hm : m ≤ m') (g : Goes w1 f σ' w2) (c : Calm σ' nn i (seen ++ extra') m') : OnlySt w p nn i m' extra' sv w2 := by
  obtain ⟨f', d, e, n, t⟩ := g
  refine ⟨seen, f', σ', e.trans hp, d, fun k hk => ?_, b.trans (t.below (.inr b.size) fr), own_turn own t hq, own_not own hq (w' := w2) n, by omega, hu, c⟩
  rcases n k hk with h1 | h1
  · exact fr k h1
  · exact Nat.le_trans b.size h1
theorem OnlySt.below {w w1 w2 : World} {p nn m : Nat} {i : Int} {extra : List Int} {sv : Value} (h : OnlySt w p nn i m extra sv w1) (b : Below w1.heap.size w1 w2) : OnlySt w p nn i m extra sv w2 := by
  obtain ⟨seen, f, σ, h1, h2, h3, h4, h5, h6, h7⟩ := h
  exact ⟨seen, f, σ, h1, h2.below b, h3, h4.trans (b.mono h4.size), own_turn h5 (Turn.ofBelow b) (S := []) (fun _ _ => by simp), h6, h7⟩
theorem OnlySt.alloc {w w1 : World} {p nn m : Nat} {i : Int} {extra : List Int} {sv : Value} (h : OnlySt w p nn i m extra sv w1) (o : Obj) : OnlySt w p nn i m extra sv (w1.alloc o) := h.below ((Below.refl _ _).alloc (Nat.le_refl _) _)

/-- the store of the law -/
theorem only_store {w wr : World} {p nn m : Nat} {i : Int} {sv : Value} (h : OnlySt w p nn i m [] sv wr) (hm : m ≤ 1000) (x v : Int) (hv : U64 v) (er : Int) (her : (if hasW nn x = true then 0 else 90) = er) :
    Calls Tryz.prog 31 #[.pointer (some ⟨p, 0, none⟩), .int .i64 x, .int .u64 v] wr (Gives (.int .i64 er) (fun _ w' => OnlySt w p nn i (m + 1) (if hasW nn x = true ∧ x = i then [v] else []) sv w' ∧ ∀ g cs, Cells wr g 34 cs → Cells w' g 34 cs) wr) := by
  obtain ⟨seen, f, σ, rfl, d, fr, b, own, hq, hl, hu, c⟩ := h
  rw [List.append_nil] at c
  have cs := calm_tried (seen' := seen ++ (if hasW nn x = true ∧ x = i then [v] else [])) (b := hasW σ.n x) c (plain_hold x v) (fun hb => by
      by_cases hxi : x = i
      · rw [if_pos ⟨by rw [← c.n]; exact hb, hxi⟩]
        exact seen_hold (c.seen.more [v]) x v (fun _ => by simp)
      · rw [if_neg (fun h => hxi h.2), List.append_nil]
        exact seen_hold c.seen x v (fun h => absurd h hxi)) (fun hb => by
      rw [if_neg (fun h => by rw [c.n] at hb; rw [hb] at h; cases h.1), List.append_nil])
  have hs := store_dev d (c.evs hm) x v hv
  rw [cs.2] at hs
  refine hs.mono ?_
  rintro e w' ⟨rfl, g⟩
  exact ⟨by rw [← her, c.n], OnlySt.goes rfl fr b own hq hl hu (by omega) g cs.1, fun g' cs' hc => by obtain ⟨_, _, _, _, t⟩ := g; exact hc.turn d (by decide) (by decide) t⟩
theorem only_stays {w wr : World} {p nn m : Nat} {i : Int} {extra : List Int} {sv : Value} (h : OnlySt w p nn i m extra sv wr) : ∃ s, (∀ w', wr = w' → Calls Tryz.prog 18 #[.pointer (some ⟨p, 0, none⟩), .int .i64 i] w' fun e w'' => e = .returned (.int .u64 s) ∧ w' = w'') ∧ ∃ seen : List Int, wr.ownsRow w.heap.size 31 1 sv seen.length (seen.map (Value.int .u64)) ∧ seen.length ≤ m ∧ s ∈ seen ++ extra := by
  obtain ⟨seen, f, σ, rfl, d, fr, b, own, hq, hl, hu, c⟩ := h
  exact ⟨σ.stays i, fun w' e => by subst e; exact stays_dev d i, seen, own, hl, c.seen.stays⟩

/-- the project's device does σ' -/
def StepD (f : Fp) (σ σ' : St) : Steps := fun a b => Dev a f σ ∧ Goes a f σ' b
theorem keeps_stepD (f : Fp) (σ σ' : St) : KeepsDeed (StepD f σ σ') := fun a b g cs h hc => by
  obtain ⟨d, f', _, _, _, t⟩ := h
  exact hc.turn d (by decide) (by decide) t
/-- the document's one does something -/
def StepX {α : Type} (q : Nat) : α → Steps := fun _ a b => (∃ cs, Cells a q 42 cs) ∧ Turn a b [q]
theorem keeps_stepX {α : Type} (q : Nat) (v : α) : KeepsDeed (StepX q v) := fun a b g cs h hc => by
  obtain ⟨⟨cs', h1⟩, t⟩ := h
  exact hc.turn' (by simpa using hc.ne h1 (by decide)) t
/-- the law's do, at its end -/
def OnlyDid (w wr : World) (p nn : Nat) (i : Int) (m : Nat) (sv : Value) (e : Ending) (w' : World) : Prop := (∃ b, e = .returned (.bool b)) ∧ OnlySt w p nn i m [] sv w' ∧ ∀ g cs, Cells wr g 34 cs → Cells w' g 34 cs
theorem only_end {w wr w1 w2 w3 : World} {p nn m : Nat} {i : Int} {sv : Value} {seen : List Int} {f : Fp} {σ σ' : St} {q : Nat} (hp : f.p = p) (fr : Fresh w f) (b : Below w.heap.size w wr) (own : wr.ownsRow w.heap.size 31 1 sv seen.length (seen.map (Value.int .u64)))
    (hq : ∀ q, sv.ownBlock = some q → q ∉ f.blocks) (hl : seen.length ≤ m) (hu : ∀ c ∈ seen, U64 c) (b1 : Below wr.heap.size wr w1) (r1 : StepD f σ σ' w1 w2) {α : Type} {v : α} (r2 : StepX q v w2 w3) (hBq : w.heap.size ≤ q) (c : Calm σ' nn i seen (m + 1)) : OnlySt w p nn i (m + 1) [] sv w3 := by
  have b' := b.trans (b1.mono b.size)
  have s : OnlySt w p nn i (m + 1) [] sv w2 := OnlySt.goes hp fr b' (own_turn own (Turn.ofBelow b1) (S := []) (fun _ _ => by simp)) hq hl hu (by omega) r1.2 (by rw [List.append_nil]; exact c)
  obtain ⟨⟨cs, hc⟩, t⟩ := r2
  obtain ⟨seen', f', σ2, h1, h2, h3, h4, h5, h6, h7⟩ := s
  have hnq : q ∉ f'.blocks := h2.other hc (by decide) (by decide)
  refine ⟨seen', f', σ2, h1, h2.stays t (by simpa using hnq), h3, h4.trans (t.below (.inr h4.size) (by simpa using hBq)), own_keep h5 fun g cs' _ hg => ?_, h6, h7⟩
  exact t.block g hg.lt (by simpa using hg.ne hc (by decide))

theorem only_flush {w wr : World} {p nn m q : Nat} {mm : Int} {i : Int} {sv : Value} (h : OnlySt w p nn i m [] sv wr) (hm : m ≤ 1000) (hr : Cells wr q 42 (rcells mm)) (hmm : 0 ≤ mm ∧ mm ≤ 33554432) (hBq : w.heap.size ≤ q) (x v : Int) (keep : Value) :
    Calls Tryz.prog 9 #[.pointer (some ⟨p, 0, none⟩), .pointer (some ⟨q, 0, none⟩), .agg #[.int .i64 1, .int .i64 x, .int .u64 v, keep]] wr (OnlyDid w wr p nn i (m + 1) sv) := by
  obtain ⟨seen, f, σ, rfl, d, fr, b, own, hq, hl, hu, c⟩ := h
  rw [List.append_nil] at c
  have hX2 : ∀ {w1 w2 : World}, StepD f σ ((σ.tried (hasL σ.n x) (·.send x)).1) w1 w2 ∧ Below wr.heap.size wr w1 → Dev w1 f σ ∧ Cells w2 q 42 (rcells mm) := fun h => by
    obtain ⟨⟨d1, f', _, _, _, t⟩, b1⟩ := h
    exact ⟨d1, (hr.below' b1).turn d1 (by decide) (by decide) t⟩
  refine (do_flush x v f.p q keep (R1 := StepD f σ ((σ.tried (hasL σ.n x) (·.send x)).1)) (R2 := StepX q) (er := (σ.tried (hasL σ.n x) (·.send x)).2) (keeps_stepD _ _ _) (keeps_stepX q) (fun w1 b1 => ?_) (fun w1 w2 b1 r1 => ?_)).mono ?_
  · refine ((flush_dev (d.below b1) (c.evs hm) x)).mono ?_
    rintro e w' ⟨rfl, g⟩
    exact ⟨rfl, d.below b1, g⟩
  · have r : StepD f σ ((σ.tried (hasL σ.n x) (·.send x)).1) w1 w2 ∧ Below wr.heap.size wr w1 := ⟨r1, b1⟩
    refine (rflush_any (hX2 r).2 hmm x).mono ?_
    rintro e w' ⟨⟨v2, rfl⟩, t⟩
    exact ⟨_, rfl, ⟨⟨_, (hX2 r).2⟩, t⟩⟩
  · rintro e w' ⟨v2, w1, w2, rfl, b1, r1, r2⟩
    exact ⟨⟨_, rfl⟩, only_end rfl fr b own hq hl hu b1 r1 r2 hBq (calm_tried c (plain_send x) (fun _ => seen_send c.seen x) (fun _ => rfl)).1, fun g cs hc => keeps_stepX q v2 _ _ _ _ r2 (keeps_stepD _ _ _ _ _ _ _ r1 (hc.below' b1))⟩
theorem only_evict {w wr : World} {p nn m q : Nat} {mm : Int} {i : Int} {sv : Value} (h : OnlySt w p nn i m [] sv wr) (hm : m ≤ 1000) (hr : Cells wr q 42 (rcells mm)) (hmm : 0 ≤ mm ∧ mm ≤ 33554432) (hBq : w.heap.size ≤ q) (x v : Int) (keep : Value) :
    Calls Tryz.prog 9 #[.pointer (some ⟨p, 0, none⟩), .pointer (some ⟨q, 0, none⟩), .agg #[.int .i64 3, .int .i64 x, .int .u64 v, keep]] wr (OnlyDid w wr p nn i (m + 1) sv) := by
  obtain ⟨seen, f, σ, rfl, d, fr, b, own, hq, hl, hu, c⟩ := h
  rw [List.append_nil] at c
  have hX2 : ∀ {w1 w2 : World}, StepD f σ ((σ.evict x).1) w1 w2 ∧ Below wr.heap.size wr w1 → Dev w1 f σ ∧ Cells w2 q 42 (rcells mm) := fun h => by
    obtain ⟨⟨d1, f', _, _, _, t⟩, b1⟩ := h
    exact ⟨d1, (hr.below' b1).turn d1 (by decide) (by decide) t⟩
  refine (do_evict x v f.p q keep (R1 := StepD f σ ((σ.evict x).1)) (R2 := StepX q) (er := (σ.evict x).2) (keeps_stepD _ _ _) (keeps_stepX q) (fun w1 b1 => ?_) (fun w1 w2 b1 r1 => ?_)).mono ?_
  · refine ((evict_dev (d.below b1) x)).mono ?_
    rintro e w' ⟨rfl, g⟩
    exact ⟨rfl, d.below b1, g⟩
  · have r : StepD f σ ((σ.evict x).1) w1 w2 ∧ Below wr.heap.size wr w1 := ⟨r1, b1⟩
    refine (revict_any (hX2 r).2 x).mono ?_
    rintro e w' ⟨he, t⟩
    exact ⟨false, he, ⟨⟨_, (hX2 r).2⟩, t⟩⟩
  · rintro e w' ⟨v2, w1, w2, rfl, b1, r1, r2⟩
    exact ⟨⟨_, rfl⟩, only_end rfl fr b own hq hl hu b1 r1 r2 hBq (calm_evict c x), fun g cs hc => keeps_stepX q v2 _ _ _ _ r2 (keeps_stepD _ _ _ _ _ _ _ r1 (hc.below' b1))⟩

theorem only_fence {w wr : World} {p nn m q : Nat} {mm : Int} {i : Int} {sv : Value} (h : OnlySt w p nn i m [] sv wr) (hm : m ≤ 1000) (hr : Cells wr q 42 (rcells mm)) (hBq : w.heap.size ≤ q) (x v : Int) (keep : Value) :
    Calls Tryz.prog 9 #[.pointer (some ⟨p, 0, none⟩), .pointer (some ⟨q, 0, none⟩), .agg #[.int .i64 2, .int .i64 x, .int .u64 v, keep]] wr (OnlyDid w wr p nn i (m + 1) sv) := by
  obtain ⟨seen, f, σ, rfl, d, fr, b, own, hq, hl, hu, c⟩ := h
  rw [List.append_nil] at c
  refine (do_fence x v f.p q keep (R1 := StepD f σ (σ.tried true St.persist).1) (R2 := StepX q) (er := (σ.tried true St.persist).2) (fun w1 b1 => ?_) (fun w1 w2 b1 r1 => ?_)).mono ?_
  · refine (fence_dev (d.below b1) (c.evs hm)).mono ?_
    rintro e w' ⟨rfl, g⟩
    exact ⟨rfl, d.below b1, g⟩
  · have hc : Cells w2 q 42 (rcells mm) := by
      obtain ⟨d1, f', _, _, _, t⟩ := r1
      exact (hr.below' b1).turn d1 (by decide) (by decide) t
    refine (rfence_any hc).mono ?_
    rintro e w' ⟨⟨v2, rfl⟩, t⟩
    exact ⟨_, rfl, ⟨⟨_, hc⟩, t⟩⟩
  · rintro e w' ⟨v2, w1, w2, rfl, b1, r1, r2⟩
    exact ⟨⟨_, rfl⟩, only_end rfl fr b own hq hl hu b1 r1 r2 hBq (calm_tried c plain_persist (fun _ => seen_persist c.seen) (fun _ => rfl)).1, fun g cs hc => keeps_stepX q v2 _ _ _ _ r2 (keeps_stepD _ _ _ _ _ _ _ r1 (hc.below' b1))⟩
def StepC (f : Fp) (σ : St) (keep : List Bool) : Steps := fun a b => Dev a f σ ∧ ∃ l, Goes a f (σ.crash l keep) b
theorem only_crash {w wr : World} {p nn m q : Nat} {mm : Int} {i : Int} {sv : Value} (h : OnlySt w p nn i m [] sv wr) (hr : Cells wr q 42 (rcells mm)) (hBq : w.heap.size ≤ q) (x v : Int) (A : Option Addr) (cp : Nat) (keep : List Bool) (hrow : Row wr w.heap.size A keep.length (keep.map Value.bool)) (hkm : keep.length ≤ maxLen) :
    Calls Tryz.prog 9 #[.pointer (some ⟨p, 0, none⟩), .pointer (some ⟨q, 0, none⟩), .agg #[.int .i64 5, .int .i64 x, .int .u64 v, .slice A keep.length cp]] wr (OnlyDid w wr p nn i (m + 1) sv) := by
  obtain ⟨seen, f, σ, rfl, d, fr, b, own, hq, hl, hu, c⟩ := h
  rw [List.append_nil] at c
  refine (do_crash x v f.p q A keep.length cp (R1 := StepC f σ keep) (R2 := StepX q ()) (fun a b g cs h hc => by obtain ⟨d, l, f', _, _, _, t⟩ := h; exact hc.turn d (by decide) (by decide) t) rfl (fun w1 b1 => ?_) (fun w1 w2 b1 r1 => ?_)).mono ?_
  · refine (crash_dev (d.below b1) w.heap.size fr (Nat.le_trans b.size b1.size) A cp keep (hrow.below (b1.mono b.size)) hkm).mono ?_
    rintro e w' ⟨rfl, l, _, g⟩
    exact ⟨rfl, d.below b1, l, g⟩
  · have hc : Cells w2 q 42 (rcells mm) := by
      obtain ⟨d1, l, f', _, _, _, t⟩ := r1
      exact (hr.below' b1).turn d1 (by decide) (by decide) t
    refine (rcrash_any hc _).mono ?_
    rintro e w' ⟨rfl, t⟩
    exact ⟨rfl, ⟨⟨_, hc⟩, t⟩⟩
  · rintro e w' ⟨w1, w2, rfl, b1, ⟨d1, l, g1⟩, r2⟩
    exact ⟨⟨_, rfl⟩, only_end rfl fr b own hq hl hu b1 (⟨d1, g1⟩ : StepD f σ (σ.crash l keep) w1 w2) r2 hBq (calm_crash c l keep), fun g cs hc => keeps_stepX q () _ _ _ _ r2 (keeps_stepD f σ (σ.crash l keep) _ _ _ _ ⟨d1, g1⟩ (hc.below' b1))⟩

/-- what the law does to a deed that is no store -/
theorem only_do {w wr : World} {p nn m q : Nat} {mm : Int} {i : Int} {sv : Value} (h : OnlySt w p nn i m [] sv wr) (hm : m ≤ 1000) (hr : Cells wr q 42 (rcells mm)) (hmm : 0 ≤ mm ∧ mm ≤ 33554432) (hBq : w.heap.size ≤ q) (d : Deed) (ok : d.Ok wr w.heap.size) (hk : 0 < d.kind ∧ d.kind ≤ 5 ∧ d.kind ≠ 4) :
    Calls Tryz.prog 9 #[.pointer (some ⟨p, 0, none⟩), .pointer (some ⟨q, 0, none⟩), .agg #[.int .i64 d.kind, .int .i64 d.i, .int .u64 d.v, .slice d.A d.keep.length d.cp]] wr (OnlyDid w wr p nn i (m + 1) sv) := by
  have hc : d.kind = 1 ∨ d.kind = 2 ∨ d.kind = 3 ∨ d.kind = 5 := by omega
  rcases hc with e | e | e | e <;> rw [e]
  · exact only_flush h hm hr hmm hBq _ _ _
  · exact only_fence h hm hr hBq _ _ _
  · exact only_evict h hm hr hmm hBq _ _ _
  · exact only_crash h hr hBq _ _ _ _ _ ok.row ok.le
theorem new_keep (n : Int) {W : World} {B g : Nat} {cs : Array Value} (hB : B ≤ W.heap.size) (hc : Cells W g 34 cs) : Calls Tryz.prog 8 #[.int .i64 n] W fun e w' => ∃ q, e = .returned (.pointer (some ⟨q, 0, none⟩)) ∧ B ≤ q ∧ Below W.heap.size W w' ∧ Cells w' q 42 (rcells (clampN n)) ∧ Cells w' g 34 cs := by
  refine (rnew_any n W).mono ?_
  rintro e w' ⟨rfl, rfl⟩
  exact ⟨_, rfl, hB, (Below.refl _ _).alloc (Nat.le_refl _) _, Cells.new _ _ _, hc.alloc _⟩
theorem OnlySt.up {w wr : World} {p nn m m' : Nat} {i : Int} {extra : List Int} {sv : Value} (h : OnlySt w p nn i m extra sv wr) (hm : m ≤ m') : OnlySt w p nn i m' extra sv wr := by
  obtain ⟨seen, f, σ, h1, h2, h3, h4, h5, h6, h7, h8, h9⟩ := h
  exact ⟨seen, f, σ, h1, h2, h3, h4, h5, h6, by omega, h8, ⟨h9.n, h9.ar, h9.dead, by have := h9.ev; omega, h9.seen⟩⟩
end Go.Proofs.YtnjikgcigobcdaaGreat
