import Derived.Test.YtnjikgcigobcdaaGreatPmDk
namespace Go.Proofs.YtnjikgcigobcdaaGreat
open Wd Pm Go.Maps Go.RowKit
set_option linter.unusedVariables false

/-! both devices, through a deed -/
def DSt (w : World) (p q m : Nat) (wr : World) : Prop :=
  ∃ (f : Fp) (σ : St) (ρ : RSt), f.p = p ∧ Dev wr f σ ∧ Fresh w f ∧ Below w.heap.size w wr ∧ Same σ ρ ∧ σ.ev ≤ m ∧ ρ.l.length ≤ m ∧ RDev wr w.heap.size q ρ
theorem DSt.is_below {w wr : World} {p q m : Nat} (h : DSt w p q m wr) : Below w.heap.size w wr := by
  obtain ⟨f, σ, ρ, h1, h2, h3, h4, _⟩ := h
  exact h4
theorem DSt.below {w w1 w2 : World} {p q m : Nat} (h : DSt w p q m w1) (b : Below w1.heap.size w1 w2) : DSt w p q m w2 := by
  obtain ⟨f, σ, ρ, h1, h2, h3, h4, h5, h6, h7, h8⟩ := h
  exact ⟨f, σ, ρ, h1, h2.below b, h3, h4.trans (b.mono h4.size), h5, h6, h7, h8.below b⟩
theorem DSt.alloc {w w1 : World} {p q m : Nat} (h : DSt w p q m w1) (ob : Obj) : DSt w p q m (w1.alloc ob) := h.below ((Below.refl _ _).alloc (Nat.le_refl _) _)
def DDid (w wr : World) (p q m : Nat) (e : Ending) (w' : World) : Prop := e = .returned (.bool true) ∧ DSt w p q m w' ∧ ∀ g cs, Cells wr g 34 cs → Cells w' g 34 cs
/-- the document's device answers v and is so -/
def StepT {α : Type} (q B : Nat) (a0 : α) (ρ' : RSt) : α → Steps := fun v a b => v = a0 ∧ RGoes a B q ρ' b
theorem keeps_stepT {α : Type} (q B : Nat) (a0 : α) (ρ' : RSt) (v : α) : KeepsDeed (StepT q B a0 ρ' v) := fun a b g cs h hc => h.2.2.cells hc (by decide) (by decide)
theorem d_end {w wr w1 w2 w3 : World} {p q m : Nat} {f : Fp} {σ σ' : St} {ρ' : RSt} (hp : f.p = p) (fr : Fresh w f) (b : Below w.heap.size w wr) (b1 : Below wr.heap.size wr w1) (r1 : StepD f σ σ' w1 w2) (r2 : RGoes w2 w.heap.size q ρ' w3) (s : Same σ' ρ') (hev : σ'.ev ≤ m) (hl : ρ'.l.length ≤ m) : DSt w p q m w3 := by
  have b' := b.trans (b1.mono b.size)
  obtain ⟨d1, f', d2, e, n, t⟩ := r1
  obtain ⟨rd, rt⟩ := r2
  have b2 := b'.trans (t.below (.inr b'.size) fr)
  refine ⟨f', σ', ρ', e.trans hp, d2.rturn rt, fun k hk => ?_, b2.trans (rt.is_below b2.size), s, hev, hl, rd⟩
  rcases n k hk with h1 | h1
  · exact fr k h1
  · exact Nat.le_trans b'.size h1
theorem ev_tried {σ : St} {b : Bool} {go : St → St} (p : Plain go) : (σ.tried b go).1.ev ≤ σ.ev + 1 := by
  unfold St.tried
  split
  · split
    · show σ.ev ≤ _; omega
    · show (go σ.drained).ev + 1 ≤ _
      rw [p.ev]
      exact Int.le_refl _
  · show σ.ev ≤ _; omega
theorem len_tried {ρ : RSt} {b : Bool} {go : RSt → RSt} {m : Nat} (hl : ρ.l.length ≤ m) (hg : ∀ ρ : RSt, ρ.l.length ≤ m → (go ρ).l.length ≤ m + 1) : (ρ.tried b go).1.l.length ≤ m + 1 := by
  unfold RSt.tried
  have he : ρ.evn.1.l = ρ.l := by unfold RSt.evn; split <;> rfl
  split
  · split
    · show ρ.l.length ≤ _; omega
    · exact hg _ (by rw [he]; exact hl)
  · show ρ.l.length ≤ _; omega

theorem d_flush {w wr : World} {p q m : Nat} (h : DSt w p q m wr) (hm : m ≤ 1000) (x v : Int) (keep : Value) :
    Calls Tryz.prog 9 #[.pointer (some ⟨p, 0, none⟩), .pointer (some ⟨q, 0, none⟩), .agg #[.int .i64 1, .int .i64 x, .int .u64 v, keep]] wr (DDid w wr p q (m + 1)) := by
  obtain ⟨f, σ, ρ, rfl, d, fr, b, s, hev, hl, rd⟩ := h
  have sm := same_flush s x
  have hX2 : ∀ {w1 w2 : World}, StepD f σ ((σ.tried (hasL σ.n x) (·.send x)).1) w1 w2 ∧ Below wr.heap.size wr w1 → RDev w2 w.heap.size q ρ := fun h => by
    obtain ⟨⟨d1, f', _, _, _, t⟩, b1⟩ := h
    exact (rd.below b1).turn d1 t
  refine (do_flush x v f.p q keep (R1 := StepD f σ ((σ.tried (hasL σ.n x) (·.send x)).1)) (R2 := StepT q w.heap.size (ρ.tried (inB x ((ρ.n + 7) / 8)) (RSt.flush x)).2 (ρ.tried (inB x ((ρ.n + 7) / 8)) (RSt.flush x)).1) (er := (σ.tried (hasL σ.n x) (·.send x)).2) (keeps_stepD _ _ _) (keeps_stepT q _ _ _) (fun w1 b1 => ?_) (fun w1 w2 b1 r1 => ?_)).mono ?_
  · refine ((flush_dev (d.below b1) (by omega) x)).mono ?_
    rintro e w' ⟨rfl, g⟩
    exact ⟨rfl, d.below b1, g⟩
  · have r : StepD f σ ((σ.tried (hasL σ.n x) (·.send x)).1) w1 w2 ∧ Below wr.heap.size wr w1 := ⟨r1, b1⟩
    refine (rflush_gen (hX2 r) (by have := s.ev; omega) x).mono ?_
    rintro e w' ⟨rfl, g⟩
    exact ⟨_, rfl, rfl, g⟩
  · rintro e w' ⟨v2, w1, w2, rfl, b1, r1, r2⟩
    obtain ⟨rfl, r3⟩ := r2
    refine ⟨by rw [sm.1]; simp, d_end rfl fr b b1 r1 r3 sm.2 (by have := ev_tried (σ := σ) (b := hasL σ.n x) (plain_send x); omega) (len_tried hl (fun ρ h => by show (ρ.l.map _).length ≤ _; rw [List.length_map]; omega)), fun g cs hc => r3.2.cells (keeps_stepD _ _ _ _ _ _ _ r1 (hc.below' b1)) (by decide) (by decide)⟩
theorem d_evict {w wr : World} {p q m : Nat} (h : DSt w p q m wr) (hm : m ≤ 1000) (x v : Int) (keep : Value) :
    Calls Tryz.prog 9 #[.pointer (some ⟨p, 0, none⟩), .pointer (some ⟨q, 0, none⟩), .agg #[.int .i64 3, .int .i64 x, .int .u64 v, keep]] wr (DDid w wr p q (m + 1)) := by
  obtain ⟨f, σ, ρ, rfl, d, fr, b, s, hev, hl, rd⟩ := h
  have sm := same_evict s (fun r hr => (rd.2.1.ok r hr).at_) x
  have hX2 : ∀ {w1 w2 : World}, StepD f σ ((σ.evict x).1) w1 w2 ∧ Below wr.heap.size wr w1 → RDev w2 w.heap.size q ρ := fun h => by
    obtain ⟨⟨d1, f', _, _, _, t⟩, b1⟩ := h
    exact (rd.below b1).turn d1 t
  refine (do_evict x v f.p q keep (R1 := StepD f σ ((σ.evict x).1)) (R2 := StepT q w.heap.size (ρ.l.any (RW.hit ρ.dead x)) (ρ.evict x)) (er := (σ.evict x).2) (keeps_stepD _ _ _) (keeps_stepT q _ _ _) (fun w1 b1 => ?_) (fun w1 w2 b1 r1 => ?_)).mono ?_
  · refine ((evict_dev (d.below b1) x)).mono ?_
    rintro e w' ⟨rfl, g⟩
    exact ⟨rfl, d.below b1, g⟩
  · have r : StepD f σ ((σ.evict x).1) w1 w2 ∧ Below wr.heap.size wr w1 := ⟨r1, b1⟩
    refine (revict_dev (hX2 r) x).mono ?_
    rintro e w' ⟨rfl, g⟩
    exact ⟨_, rfl, rfl, g⟩
  · rintro e w' ⟨v2, w1, w2, rfl, b1, r1, r2⟩
    obtain ⟨rfl, r3⟩ := r2
    refine ⟨by rw [sm.1]; simp, d_end rfl fr b b1 r1 r3 sm.2 (by unfold St.evict; split <;> (show σ.ev ≤ _; omega)) (by show (ρ.l.map _).length ≤ _; rw [List.length_map]; omega), fun g cs hc => r3.2.cells (keeps_stepD _ _ _ _ _ _ _ r1 (hc.below' b1)) (by decide) (by decide)⟩
theorem d_fence {w wr : World} {p q m : Nat} (h : DSt w p q m wr) (hm : m ≤ 1000) (x v : Int) (keep : Value) :
    Calls Tryz.prog 9 #[.pointer (some ⟨p, 0, none⟩), .pointer (some ⟨q, 0, none⟩), .agg #[.int .i64 2, .int .i64 x, .int .u64 v, keep]] wr (DDid w wr p q (m + 1)) := by
  obtain ⟨f, σ, ρ, rfl, d, fr, b, s, hev, hl, rd⟩ := h
  have sm := same_fence s
  refine (do_fence x v f.p q keep (R1 := StepD f σ (σ.tried true St.persist).1) (R2 := StepT q w.heap.size (ρ.tried true RSt.fence).2 (ρ.tried true RSt.fence).1) (er := (σ.tried true St.persist).2) (fun w1 b1 => ?_) (fun w1 w2 b1 r1 => ?_)).mono ?_
  · refine (fence_dev (d.below b1) (by omega)).mono ?_
    rintro e w' ⟨rfl, g⟩
    exact ⟨rfl, d.below b1, g⟩
  · have hr : RDev w2 w.heap.size q ρ := by
      obtain ⟨d1, f', _, _, _, t⟩ := r1
      exact (rd.below b1).turn d1 t
    refine (rfence_gen hr (by have := s.ev; omega)).mono ?_
    rintro e w' ⟨rfl, g⟩
    exact ⟨_, rfl, rfl, g⟩
  · rintro e w' ⟨v2, w1, w2, rfl, b1, r1, r2⟩
    obtain ⟨rfl, r3⟩ := r2
    refine ⟨by rw [sm.1]; simp, d_end rfl fr b b1 r1 r3 sm.2 (by have := ev_tried (σ := σ) (b := true) plain_persist; omega) (len_tried hl (fun ρ h => by show (ρ.l.map _).length ≤ _; rw [List.length_map]; omega)), fun g cs hc => r3.2.cells (keeps_stepD _ _ _ _ _ _ _ r1 (hc.below' b1)) (by decide) (by decide)⟩
theorem d_store {w wr : World} {p q m : Nat} (h : DSt w p q m wr) (hm : m ≤ 1000) (kd x v : Int) (hv : U64 v) (keep : Value) (n1 : kd ≠ 1) (n2 : kd ≠ 2) (n3 : kd ≠ 3) (n4 : kd ≠ 4) (n5 : kd ≠ 5) :
    Calls Tryz.prog 9 #[.pointer (some ⟨p, 0, none⟩), .pointer (some ⟨q, 0, none⟩), .agg #[.int .i64 kd, .int .i64 x, .int .u64 v, keep]] wr (DDid w wr p q (m + 1)) := by
  obtain ⟨f, σ, ρ, rfl, d, fr, b, s, hev, hl, rd⟩ := h
  have sm := same_store s x v
  refine (do_store kd x v f.p q keep (R1 := StepD f σ (σ.tried (hasW σ.n x) (·.hold x v)).1) (R2 := StepT q w.heap.size (ρ.tried (inB x ρ.n) (RSt.store x v)).2 (ρ.tried (inB x ρ.n) (RSt.store x v)).1) (er := (σ.tried (hasW σ.n x) (·.hold x v)).2) (keeps_stepD _ _ _) (keeps_stepT q _ _ _) n1 n2 n3 n4 n5 (fun w1 b1 => ?_) (fun w1 w2 b1 r1 => ?_)).mono ?_
  · refine (store_dev (d.below b1) (by omega) x v hv).mono ?_
    rintro e w' ⟨rfl, g⟩
    exact ⟨rfl, d.below b1, g⟩
  · have hr : RDev w2 w.heap.size q ρ := by
      obtain ⟨d1, f', _, _, _, t⟩ := r1
      exact (rd.below b1).turn d1 t
    refine (rstore_gen hr (by have := s.ev; omega) (by omega) x v hv).mono ?_
    rintro e w' ⟨rfl, g⟩
    exact ⟨_, rfl, rfl, g⟩
  · rintro e w' ⟨v2, w1, w2, rfl, b1, r1, r2⟩
    obtain ⟨rfl, r3⟩ := r2
    refine ⟨by rw [sm.1]; simp, d_end rfl fr b b1 r1 r3 sm.2 (by have := ev_tried (σ := σ) (b := hasW σ.n x) (plain_hold x v); omega) (len_tried hl (fun ρ h => by show (storeL x v ρ.l).length ≤ _; have := storeL_len x v ρ.l; omega)), fun g cs hc => r3.2.cells (keeps_stepD _ _ _ _ _ _ _ r1 (hc.below' b1)) (by decide) (by decide)⟩
end Go.Proofs.YtnjikgcigobcdaaGreat
