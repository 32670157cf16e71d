import Derived.Test.YtnjikgcigobcdaaGreatPmDm
namespace Go.Proofs.YtnjikgcigobcdaaGreat
open Wd Pm Go.Maps Go.RowKit
set_option linter.unusedVariables false


theorem i64_le {n : Int} (h : (Lit.int .i64 n).wf = true) : n ≤ 9223372036854775807 := by
  simp [Lit.wf, IntKind.min, IntKind.max, IntKind.signed, IntKind.bits] at h
  omega

def StepK (f : Fp) (σ : St) (keep : List Bool) : Steps := fun a b => Dev a f σ ∧ ∃ l, KeysOf σ.hd l ∧ Goes a f (σ.crash l keep) b

theorem d_crash {w wr : World} {p q m : Nat} (h : DSt w p q m wr) (x v : Int) (A : Option Addr) (cp : Nat) (keep : List Bool) (hrow : Row wr w.heap.size A keep.length (keep.map Value.bool)) (hkm : keep.length ≤ maxLen) :
    Calls Tryz.prog 9 #[.pointer (some ⟨p, 0, none⟩), .pointer (some ⟨q, 0, none⟩), .agg #[.int .i64 5, .int .i64 x, .int .u64 v, .slice A keep.length cp]] wr (DDid w wr p q (m + 1)) := by
  obtain ⟨f, σ, ρ, rfl, d, fr, b, s, hev, hl, rd⟩ := h
  refine (do_crash x v f.p q A keep.length cp (R1 := StepK f σ keep) (R2 := fun a b => RGoes a w.heap.size q (ρ.crash keep) b) (fun a b g cs h hc => by obtain ⟨d, l, _, f', _, _, _, t⟩ := h; exact hc.turn d (by decide) (by decide) t) rfl (fun w1 b1 => ?_) (fun w1 w2 b1 r1 => ?_)).mono ?_
  · refine (crash_dev (d.below b1) w.heap.size fr (Nat.le_trans b.size b1.size) A cp keep (hrow.below (b1.mono b.size)) hkm).mono ?_
    rintro e w' ⟨rfl, l, hk, g⟩
    exact ⟨rfl, d.below b1, l, hk, g⟩
  · obtain ⟨d1, l, hk, f', _, _, _, t⟩ := r1
    have hr : RDev w2 w.heap.size q ρ := (rd.below b1).turn d1 t
    have b' := b.trans (b1.mono b.size)
    have b2 := t.below (.inr b'.size) fr
    refine (rcrash_dev hr (Nat.le_trans b'.size b2.size) A cp keep ((hrow.below (b1.mono b.size)).below b2) hkm).mono ?_
    rintro e w' ⟨rfl, g⟩
    exact ⟨rfl, g⟩
  · rintro e w' ⟨w1, w2, rfl, b1, ⟨d1, l, hk, g1⟩, r2⟩
    exact ⟨rfl, d_end rfl fr b b1 (⟨d1, g1⟩ : StepD f σ (σ.crash l keep) w1 w2) r2 (same_crash s keep hk) (by show σ.ev ≤ _; omega) (by show (crashR ρ.l keep).length ≤ _; rw [crashR_len]; omega), fun g cs hc => r2.2.cells (keeps_stepD f σ (σ.crash l keep) _ _ _ _ ⟨d1, g1⟩ (hc.below' b1)) (by decide) (by decide)⟩

theorem d_arm {w wr : World} {p q m : Nat} (h : DSt w p q m wr) (x v : Int) (hx : x ≤ 9223372036854775807) (A : Option Addr) (n cp : Nat) :
    Calls Tryz.prog 9 #[.pointer (some ⟨p, 0, none⟩), .pointer (some ⟨q, 0, none⟩), .agg #[.int .i64 4, .int .i64 x, .int .u64 v, .slice A n cp]] wr (DDid w wr p q (m + 1)) := by
  obtain ⟨f, σ, ρ, rfl, d, fr, b, s, hev, hl, rd⟩ := h
  refine (do_arm x v f.p q A n cp (R1 := StepD f σ { σ with ar := max x 0 }) (R2 := fun a b => RGoes a w.heap.size q { ρ with ar := max x 0 } b) (keeps_stepD _ _ _) rfl (fun w1 b1 => ?_) (fun w1 w2 b1 r1 => ?_)).mono ?_
  · refine (arm_dev (d.below b1) x hx).mono ?_
    rintro e w' ⟨rfl, g⟩
    exact ⟨rfl, d.below b1, g⟩
  · have hr : RDev w2 w.heap.size q ρ := by
      obtain ⟨d1, f', _, _, _, t⟩ := r1
      exact (rd.below b1).turn d1 t
    refine (rarm_dev hr x hx).mono ?_
    rintro e w' ⟨rfl, g⟩
    exact ⟨rfl, g⟩
  · rintro e w' ⟨w1, w2, rfl, b1, r1, r2⟩
    exact ⟨rfl, d_end rfl fr b b1 r1 r2 (same_arm s x) (by show σ.ev ≤ _; omega) (by show ρ.l.length ≤ _; omega), fun g cs hc => r2.2.cells (keeps_stepD _ _ _ _ _ _ _ r1 (hc.below' b1)) (by decide) (by decide)⟩

/-- what the law does to a deed -/
theorem d_do {w wr : World} {p q m : Nat} (h : DSt w p q m wr) (hm : m ≤ 1000) (d : Deed) (ok : d.Ok wr w.heap.size) :
    Calls Tryz.prog 9 #[.pointer (some ⟨p, 0, none⟩), .pointer (some ⟨q, 0, none⟩), .agg #[.int .i64 d.kind, .int .i64 d.i, .int .u64 d.v, .slice d.A d.keep.length d.cp]] wr (DDid w wr p q (m + 1)) := by
  by_cases n1 : d.kind = 1
  · rw [n1]; exact d_flush h hm _ _ _
  by_cases n2 : d.kind = 2
  · rw [n2]; exact d_fence h hm _ _ _
  by_cases n3 : d.kind = 3
  · rw [n3]; exact d_evict h hm _ _ _
  by_cases n4 : d.kind = 4
  · rw [n4]; exact d_arm h _ _ (i64_le ok.i) _ _ _
  by_cases n5 : d.kind = 5
  · rw [n5]; exact d_crash h _ _ _ _ _ ok.row ok.le
  exact d_store h hm _ _ _ ok.v _ n1 n2 n3 n4 n5