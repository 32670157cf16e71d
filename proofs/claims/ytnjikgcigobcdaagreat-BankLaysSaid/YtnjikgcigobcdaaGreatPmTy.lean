import Derived.Test.YtnjikgcigobcdaaGreatPmRo
import Derived.Test.YtnjikgcigobcdaaGreatPmOn
import Derived.Test.YtnjikgcigobcdaaGreatPmArmL
namespace Go.Proofs.YtnjikgcigobcdaaGreat
open Wd Pm Go.Maps Go.RowKit
set_option linter.unusedVariables false

/-! a word that stays as v, and that nobody has stored to since -/
structure Held (σ : St) (i v : Int) : Prop where
  st : σ.st i = v
  hd : σ.hd i = none
  sn : σ.sn i = none
theorem held_hold {σ : St} {i v : Int} (h : Held σ i v) (x c : Int) (hx : x ≠ i) : Held (σ.hold x c) i v := by
  refine ⟨h.st, ?_, h.sn⟩
  show (if σ.sn x = none ∧ c = σ.st x then del σ.hd x else put σ.hd x c) i = none
  split
  · unfold del; rw [if_neg (Ne.symm hx)]; exact h.hd
  · unfold put; rw [if_neg (Ne.symm hx)]; exact h.hd
theorem held_send {σ : St} {i v : Int} (h : Held σ i v) (line : Int) : Held (σ.send line) i v := by
  refine ⟨h.st, h.hd, ?_⟩
  show sendL σ _ i = none
  unfold sendL
  split
  · exact h.hd
  · exact h.sn
theorem held_persist {σ : St} {i v : Int} (h : Held σ i v) : Held σ.persist i v := by
  refine ⟨?_, ?_, rfl⟩
  · show perSt σ (fun _ => false) i = v
    unfold perSt
    rw [if_neg (fun e => Bool.noConfusion e), h.sn]
    exact h.st
  · show perHd σ (fun _ => false) i = none
    unfold perHd
    split
    · rfl
    · exact h.hd
theorem held_ev {σ : St} {i v : Int} (h : Held σ i v) {ks : List Int} (hk : i ∉ ks) : evSt σ ks i = v := by
  unfold evSt
  rw [if_neg hk]
  exact h.st
theorem held_drop {σ : St} {i v : Int} (h : Held σ i v) {ks : List Int} (hk : i ∉ ks) : Held (σ.drop ks) i v := by
  refine ⟨held_ev h hk, ?_, ?_⟩
  · show delL σ.hd ks i = none
    unfold delL; rw [if_neg hk]; exact h.hd
  · show delL σ.sn ks i = none
    unfold delL; rw [if_neg hk]; exact h.sn
theorem held_none {σ : St} {i v : Int} (h : Held σ i v) (lo : Int) (m : Nat) : i ∉ dirtyL σ.hd lo m := by
  rw [mem_dirtyL, h.hd]
  simp

/-- a device under way -/
structure SCalm (σ : St) (o : Option (Int × Int)) (m : Nat) : Prop where
  n : σ.n = 512
  ar : σ.ar = 0
  dead : σ.dead = false
  ev : σ.ev ≤ m
  held : ∀ i v, o = some (i, v) → Held σ i v
theorem SCalm.up {σ : St} {o : Option (Int × Int)} {m m' : Nat} (h : SCalm σ o m) (hm : m ≤ m') : SCalm σ o m' := ⟨h.n, h.ar, h.dead, by have := h.ev; omega, h.held⟩
theorem scalm_tried {σ : St} {o o' : Option (Int × Int)} {m : Nat} (h : SCalm σ o m) {b : Bool} {go : St → St} (p : Plain go) (hs : b = true → ∀ i v, o' = some (i, v) → Held (go σ) i v) (hs' : b = false → o' = o) :
    SCalm (σ.tried b go).1 o' (m + 1) ∧ (σ.tried b go).2 = if b = true then 0 else 90 := by
  have e1 : σ.drained = σ := by unfold St.drained; rw [h.ar, if_pos rfl, ← h.ar]
  unfold St.tried
  rw [h.dead]
  cases b with
  | true =>
    rw [if_pos ref0, h.ar, if_neg (by decide), e1, if_pos rfl]
    exact ⟨⟨(p.n _).trans h.n, (p.ar _).trans h.ar, (p.dead _).trans h.dead, by show (go σ).ev + 1 ≤ _; rw [p.ev]; have := h.ev; omega, fun i v e => ⟨(hs rfl i v e).st, (hs rfl i v e).hd, (hs rfl i v e).sn⟩⟩, rfl⟩
  | false =>
    have e2 : refErr false false = 90 := by unfold refErr; rfl
    rw [e2, if_neg (by decide), hs' rfl]
    exact ⟨h.up (by omega), rfl⟩
theorem scalm_evict {σ : St} {o : Option (Int × Int)} {m : Nat} (h : SCalm σ o m) (line : Int) : SCalm (σ.evict line).1 o (m + 1) := by
  unfold St.evict
  split
  · exact ⟨h.n, h.ar, h.dead, by show σ.ev ≤ _; have := h.ev; omega, fun i v e => held_drop (h.held i v e) (held_none (h.held i v e) _ _)⟩
  · exact h.up (by omega)

/-- both devices under way -/
def SSt (w : World) (p q : Nat) (o : Option (Int × Int)) (m : Nat) (wr : World) : Prop :=
  ∃ (f : Fp) (σ : St) (ρ : RSt), f.p = p ∧ Dev wr f σ ∧ Fresh w f ∧ Below w.heap.size w wr ∧ SCalm σ o m ∧ RDev wr w.heap.size q ρ ∧ RCalm ρ 512 m
theorem SSt.below {w w1 w2 : World} {p q m : Nat} {o : Option (Int × Int)} (h : SSt w p q o m w1) (b : Below w1.heap.size w1 w2) : SSt w p q o m w2 := by
  obtain ⟨f, σ, ρ, h1, h2, h3, h4, h5, h6, h7⟩ := h
  exact ⟨f, σ, ρ, h1, h2.below b, h3, h4.trans (b.mono h4.size), h5, h6.below b, h7⟩
theorem SSt.alloc {w w1 : World} {p q m : Nat} {o : Option (Int × Int)} (h : SSt w p q o m w1) (ob : Obj) : SSt w p q o m (w1.alloc ob) := h.below ((Below.refl _ _).alloc (Nat.le_refl _) _)
theorem SSt.up {w w1 : World} {p q m m' : Nat} {o : Option (Int × Int)} (h : SSt w p q o m w1) (hm : m ≤ m') : SSt w p q o m' w1 := by
  obtain ⟨f, σ, ρ, h1, h2, h3, h4, h5, h6, h7⟩ := h
  exact ⟨f, σ, ρ, h1, h2, h3, h4, h5.up hm, h6, h7.up hm⟩
theorem SSt.is_below {w wr : World} {p q m : Nat} {o : Option (Int × Int)} (h : SSt w p q o m wr) : Below w.heap.size w wr := by
  obtain ⟨f, σ, ρ, h1, h2, h3, h4, _⟩ := h
  exact h4
theorem RTurn.is_below {a b : World} {B : Nat} (h : RTurn a b B) (hB : B ≤ a.heap.size) : Below B a b := ⟨h.os, h.tape, h.output, h.size, fun k hk => h.low k (by omega) hk⟩

/-- the document's device does something -/
def StepR {α : Type} (q B m : Nat) : α → Steps := fun _ a b => RMoves a B q 512 m b
theorem keeps_stepR {α : Type} (q B m : Nat) (v : α) : KeepsDeed (StepR q B m v) := fun a b g cs h hc => by
  obtain ⟨ρ', _, _, t⟩ := h
  exact t.cells hc (by decide) (by decide)
def StayDid (w wr : World) (p q : Nat) (o : Option (Int × Int)) (m : Nat) (e : Ending) (w' : World) : Prop := (∃ b, e = .returned (.bool b)) ∧ SSt w p q o m w' ∧ ∀ g cs, Cells wr g 34 cs → Cells w' g 34 cs
theorem stay_end {w wr w1 w2 w3 : World} {p q m : Nat} {o : Option (Int × Int)} {f : Fp} {σ σ' : St} (hp : f.p = p) (fr : Fresh w f) (b : Below w.heap.size w wr) (b1 : Below wr.heap.size wr w1) (r1 : StepD f σ σ' w1 w2) {α : Type} {v : α} (r2 : StepR q w.heap.size (m + 1) v w2 w3) (c : SCalm σ' o (m + 1)) : SSt w p q o (m + 1) w3 := by
  have b' := b.trans (b1.mono b.size)
  obtain ⟨d1, f', d2, e, n, t⟩ := r1
  obtain ⟨ρ', cr, rd, rt⟩ := r2
  have b2 := b'.trans (t.below (.inr b'.size) fr)
  refine ⟨f', σ', ρ', e.trans hp, d2.rturn rt, fun k hk => ?_, b2.trans (rt.is_below b2.size), c, rd, cr⟩
  rcases n k hk with h1 | h1
  · exact fr k h1
  · exact Nat.le_trans b'.size h1

theorem stay_flush {w wr : World} {p q m : Nat} {o : Option (Int × Int)} (h : SSt w p q o m wr) (hm : m ≤ 1000) (x v : Int) (keep : Value) :
    Calls Tryz.prog 9 #[.pointer (some ⟨p, 0, none⟩), .pointer (some ⟨q, 0, none⟩), .agg #[.int .i64 1, .int .i64 x, .int .u64 v, keep]] wr (StayDid w wr p q o (m + 1)) := by
  obtain ⟨f, σ, ρ, rfl, d, fr, b, c, rd, rc⟩ := h
  have hX2 : ∀ {w1 w2 : World}, StepD f σ ((σ.tried (hasL σ.n x) (·.send x)).1) w1 w2 ∧ Below wr.heap.size wr w1 → RDev w2 w.heap.size q ρ := fun h => by
    obtain ⟨⟨d1, f', _, _, _, t⟩, b1⟩ := h
    exact (rd.below b1).turn d1 t
  refine (do_flush x v f.p q keep (R1 := StepD f σ ((σ.tried (hasL σ.n x) (·.send x)).1)) (R2 := StepR q w.heap.size (m + 1)) (er := (σ.tried (hasL σ.n x) (·.send x)).2) (keeps_stepD _ _ _) (keeps_stepR q _ _) (fun w1 b1 => ?_) (fun w1 w2 b1 r1 => ?_)).mono ?_
  · refine ((flush_dev (d.below b1) (by have := c.ev; omega) x)).mono ?_
    rintro e w' ⟨rfl, g⟩
    exact ⟨rfl, d.below b1, g⟩
  · have r : StepD f σ ((σ.tried (hasL σ.n x) (·.send x)).1) w1 w2 ∧ Below wr.heap.size wr w1 := ⟨r1, b1⟩
    refine (rflush_calm (hX2 r) rc (by omega) x).mono ?_
    rintro e w' ⟨v2, rfl, g⟩
    exact ⟨v2, rfl, g⟩
  · rintro e w' ⟨v2, w1, w2, rfl, b1, r1, r2⟩
    exact ⟨⟨_, rfl⟩, stay_end rfl fr b b1 r1 r2 (scalm_tried c (plain_send x) (fun _ i v e => held_send (c.held i v e) x) (fun _ => rfl)).1, fun g cs hc => keeps_stepR q _ _ v2 _ _ _ _ r2 (keeps_stepD _ _ _ _ _ _ _ r1 (hc.below' b1))⟩
theorem stay_evict {w wr : World} {p q m : Nat} {o : Option (Int × Int)} (h : SSt w p q o m wr) (hm : m ≤ 1000) (x v : Int) (keep : Value) :
    Calls Tryz.prog 9 #[.pointer (some ⟨p, 0, none⟩), .pointer (some ⟨q, 0, none⟩), .agg #[.int .i64 3, .int .i64 x, .int .u64 v, keep]] wr (StayDid w wr p q o (m + 1)) := by
  obtain ⟨f, σ, ρ, rfl, d, fr, b, c, rd, rc⟩ := h
  have hX2 : ∀ {w1 w2 : World}, StepD f σ ((σ.evict x).1) w1 w2 ∧ Below wr.heap.size wr w1 → RDev w2 w.heap.size q ρ := fun h => by
    obtain ⟨⟨d1, f', _, _, _, t⟩, b1⟩ := h
    exact (rd.below b1).turn d1 t
  refine (do_evict x v f.p q keep (R1 := StepD f σ ((σ.evict x).1)) (R2 := StepR q w.heap.size (m + 1)) (er := (σ.evict x).2) (keeps_stepD _ _ _) (keeps_stepR q _ _) (fun w1 b1 => ?_) (fun w1 w2 b1 r1 => ?_)).mono ?_
  · refine ((evict_dev (d.below b1) x)).mono ?_
    rintro e w' ⟨rfl, g⟩
    exact ⟨rfl, d.below b1, g⟩
  · have r : StepD f σ ((σ.evict x).1) w1 w2 ∧ Below wr.heap.size wr w1 := ⟨r1, b1⟩
    refine (revict_calm (hX2 r) rc x).mono ?_
    rintro e w' ⟨v2, rfl, g⟩
    exact ⟨v2, rfl, g⟩
  · rintro e w' ⟨v2, w1, w2, rfl, b1, r1, r2⟩
    exact ⟨⟨_, rfl⟩, stay_end rfl fr b b1 r1 r2 (scalm_evict c x), fun g cs hc => keeps_stepR q _ _ v2 _ _ _ _ r2 (keeps_stepD _ _ _ _ _ _ _ r1 (hc.below' b1))⟩
theorem stay_fence {w wr : World} {p q m : Nat} {o : Option (Int × Int)} (h : SSt w p q o m wr) (hm : m ≤ 1000) (x v : Int) (keep : Value) :
    Calls Tryz.prog 9 #[.pointer (some ⟨p, 0, none⟩), .pointer (some ⟨q, 0, none⟩), .agg #[.int .i64 2, .int .i64 x, .int .u64 v, keep]] wr (StayDid w wr p q o (m + 1)) := by
  obtain ⟨f, σ, ρ, rfl, d, fr, b, c, rd, rc⟩ := h
  refine (do_fence x v f.p q keep (R1 := StepD f σ (σ.tried true St.persist).1) (R2 := StepR q w.heap.size (m + 1)) (er := (σ.tried true St.persist).2) (fun w1 b1 => ?_) (fun w1 w2 b1 r1 => ?_)).mono ?_
  · refine (fence_dev (d.below b1) (by have := c.ev; omega)).mono ?_
    rintro e w' ⟨rfl, g⟩
    exact ⟨rfl, d.below b1, g⟩
  · have hr : RDev w2 w.heap.size q ρ := by
      obtain ⟨d1, f', _, _, _, t⟩ := r1
      exact (rd.below b1).turn d1 t
    refine (rfence_calm hr rc (by omega)).mono ?_
    rintro e w' ⟨v2, rfl, g⟩
    exact ⟨v2, rfl, g⟩
  · rintro e w' ⟨v2, w1, w2, rfl, b1, r1, r2⟩
    exact ⟨⟨_, rfl⟩, stay_end rfl fr b b1 r1 r2 (scalm_tried c plain_persist (fun _ i v e => held_persist (c.held i v e)) (fun _ => rfl)).1, fun g cs hc => keeps_stepR q _ _ v2 _ _ _ _ r2 (keeps_stepD _ _ _ _ _ _ _ r1 (hc.below' b1))⟩
theorem stay_store {w wr : World} {p q m : Nat} {o : Option (Int × Int)} (h : SSt w p q o m wr) (hm : m ≤ 1000) (kd x v : Int) (hv : U64 v) (keep : Value) (hk : kd ≤ 0) (ho : ∀ i c, o = some (i, c) → x ≠ i) :
    Calls Tryz.prog 9 #[.pointer (some ⟨p, 0, none⟩), .pointer (some ⟨q, 0, none⟩), .agg #[.int .i64 kd, .int .i64 x, .int .u64 v, keep]] wr (StayDid w wr p q o (m + 1)) := by
  obtain ⟨f, σ, ρ, rfl, d, fr, b, c, rd, rc⟩ := h
  refine (do_store kd x v f.p q keep (R1 := StepD f σ (σ.tried (hasW σ.n x) (·.hold x v)).1) (R2 := StepR q w.heap.size (m + 1)) (er := (σ.tried (hasW σ.n x) (·.hold x v)).2) (keeps_stepD _ _ _) (keeps_stepR q _ _) (by omega) (by omega) (by omega) (by omega) (by omega) (fun w1 b1 => ?_) (fun w1 w2 b1 r1 => ?_)).mono ?_
  · refine (store_dev (d.below b1) (by have := c.ev; omega) x v hv).mono ?_
    rintro e w' ⟨rfl, g⟩
    exact ⟨rfl, d.below b1, g⟩
  · have hr : RDev w2 w.heap.size q ρ := by
      obtain ⟨d1, f', _, _, _, t⟩ := r1
      exact (rd.below b1).turn d1 t
    refine (rstore_calm hr rc (by omega) x v hv).mono ?_
    rintro e w' ⟨v2, rfl, g⟩
    exact ⟨v2, rfl, g⟩
  · rintro e w' ⟨v2, w1, w2, rfl, b1, r1, r2⟩
    exact ⟨⟨_, rfl⟩, stay_end rfl fr b b1 r1 r2 (scalm_tried c (plain_hold x v) (fun _ i v e => held_hold (c.held i v e) x _ (ho i v e)) (fun _ => rfl)).1, fun g cs hc => keeps_stepR q _ _ v2 _ _ _ _ r2 (keeps_stepD _ _ _ _ _ _ _ r1 (hc.below' b1))⟩
/-- what the law does to a deed -/
theorem stay_do {w wr : World} {p q m : Nat} {o : Option (Int × Int)} (h : SSt w p q o m wr) (hm : m ≤ 1000) (d : Deed) (hv : U64 d.v) (hk : d.kind < 4) (ho : d.kind ≤ 0 → ∀ i c, o = some (i, c) → d.i ≠ i) :
    Calls Tryz.prog 9 #[.pointer (some ⟨p, 0, none⟩), .pointer (some ⟨q, 0, none⟩), .agg #[.int .i64 d.kind, .int .i64 d.i, .int .u64 d.v, .slice d.A d.keep.length d.cp]] wr (StayDid w wr p q o (m + 1)) := by
  by_cases h0 : d.kind ≤ 0
  · exact stay_store h hm _ _ _ hv _ h0 (ho h0)
  · have hc : d.kind = 1 ∨ d.kind = 2 ∨ d.kind = 3 := by omega
    rcases hc with e | e | e <;> rw [e]
    · exact stay_flush h hm _ _ _
    · exact stay_fence h hm _ _ _
    · exact stay_evict h hm _ _ _
end Go.Proofs.YtnjikgcigobcdaaGreat
