import Derived.Test.YtnjikgcigobcdaaGreatPmRo
namespace Go.Proofs.YtnjikgcigobcdaaGreat
open Wd Pm Go.Maps Go.RowKit
set_option linter.unusedVariables false

/-! the document's Store, Flush, Fence, whatever is asked and whatever happened -/
theorem refE_dead (b : Bool) : refErr true b = 5 := by unfold refErr; rfl
theorem refE_out : refErr false false = 90 := by unfold refErr; rfl
theorem refE_ok : refErr false true = 0 := by unfold refErr; rfl
theorem rtried_dead {ρ : RSt} (h : ρ.dead = true) (b : Bool) (go : RSt → RSt) : ρ.tried b go = (ρ, 5) := by unfold RSt.tried; rw [h, refE_dead, if_neg (by decide)]
theorem rtried_out {ρ : RSt} (h : ρ.dead = false) (go : RSt → RSt) : ρ.tried false go = (ρ, 90) := by unfold RSt.tried; rw [h, refE_out, if_neg (by decide)]
theorem rtried_fails {ρ : RSt} (h : ρ.dead = false) (ha : ρ.ar = 1) (go : RSt → RSt) : ρ.tried true go = (ρ.evn.1, 5) := by
  unfold RSt.tried RSt.evn
  rw [h, refE_ok, if_pos rfl, if_pos ha, if_pos ha]
theorem rtried_goes {ρ : RSt} (h : ρ.dead = false) (ha : ρ.ar ≠ 1) (go : RSt → RSt) : ρ.tried true go = (go ρ.evn.1, 0) := by
  unfold RSt.tried
  rw [h, refE_ok, if_pos rfl, if_neg ha]

set_option maxRecDepth 100000 in
theorem rstore_fails {w : World} {B q : Nat} {ρ : RSt} (h : RDev w B q ρ) (hev : ρ.ev < 4611686018427387904) (i v : Int) (hi : 0 ≤ i ∧ i < ρ.n) (hd : ρ.dead = false) (ha : ρ.ar = 1) :
    Calls Tryz.prog 32 #[.pointer (some ⟨q, 0, none⟩), .int .i64 i, .int .u64 v] w fun e w' => e = .returned (.int .i64 5) ∧ RGoes w B q ρ.evn.1 w' := by
  obtain ⟨v0, rr, _⟩ := h.reads
  have c3 := rr.c3
  have c0 := rr.c0
  rw [hd] at c3
  have gn := h.2.1.n
  have q0 : decide (i < 0) = false := by simp; try omega
  have q1 : decide (i ≥ ρ.n) = false := by simp; try omega
  have hev2 : ρ.evn.2 = true := by unfold RSt.evn; rw [if_pos ha]
  have H2 := Lib.hid hev2
  clear rr hd ha hev2
  go_enter Tryz.func32, Tryz.ntmps32
  go_wp2_with (first
    | fail
    | fail)
  refine (revent_dev h hev).mono ?_
  rintro e w1 ⟨rfl, h1, t1⟩
  simp only [H2.out]
  go_wp2
  go_ret
  exact ⟨rfl, h1, t1⟩
set_option maxRecDepth 100000 in
theorem rstore_dead {w : World} {B q : Nat} {ρ : RSt} (h : RDev w B q ρ) (i v : Int) (hd : ρ.dead = true) :
    Calls Tryz.prog 32 #[.pointer (some ⟨q, 0, none⟩), .int .i64 i, .int .u64 v] w fun e w' => e = .returned (.int .i64 5) ∧ w = w' := by
  obtain ⟨v0, rr, _⟩ := h.reads
  have c3 := rr.c3
  rw [hd] at c3
  clear rr hd
  go_enter Tryz.func32, Tryz.ntmps32
  go_wp2
  go_ret
  exact ⟨rfl, rfl⟩
set_option maxRecDepth 100000 in
theorem rflush_fails {w : World} {B q : Nat} {ρ : RSt} (h : RDev w B q ρ) (hev : ρ.ev < 4611686018427387904) (i v : Int) (hi : 0 ≤ i ∧ i < (ρ.n + 7) / 8) (hd : ρ.dead = false) (ha : ρ.ar = 1) :
    Calls Tryz.prog 24 #[.pointer (some ⟨q, 0, none⟩), .int .i64 i] w fun e w' => e = .returned (.int .i64 5) ∧ RGoes w B q ρ.evn.1 w' := by
  obtain ⟨v0, rr, _⟩ := h.reads
  have c3 := rr.c3
  have c0 := rr.c0
  rw [hd] at c3
  have gn := h.2.1.n
  have q0 : decide (i < 0) = false := by simp; try omega
  have q1 : decide (i ≥ (ρ.n + 7) / 8) = false := by simp; try omega
  have hev2 : ρ.evn.2 = true := by unfold RSt.evn; rw [if_pos ha]
  have H2 := Lib.hid hev2
  clear rr hd ha hev2
  go_enter Tryz.func24, Tryz.ntmps24
  go_wp2_with (first
    | (go_at_call 59; refine (rlines_dev h).mono ?_; rintro e w' ⟨rfl, rfl⟩)
    | fail)
  refine (revent_dev h hev).mono ?_
  rintro e w1 ⟨rfl, h1, t1⟩
  simp only [H2.out]
  go_wp2
  go_ret
  exact ⟨rfl, h1, t1⟩
set_option maxRecDepth 100000 in
theorem rflush_dead {w : World} {B q : Nat} {ρ : RSt} (h : RDev w B q ρ) (i v : Int) (hd : ρ.dead = true) :
    Calls Tryz.prog 24 #[.pointer (some ⟨q, 0, none⟩), .int .i64 i] w fun e w' => e = .returned (.int .i64 5) ∧ w = w' := by
  obtain ⟨v0, rr, _⟩ := h.reads
  have c3 := rr.c3
  rw [hd] at c3
  clear rr hd
  go_enter Tryz.func24, Tryz.ntmps24
  go_wp2
  go_ret
  exact ⟨rfl, rfl⟩
set_option maxRecDepth 100000 in
theorem rfence_fails {w : World} {B q : Nat} {ρ : RSt} (h : RDev w B q ρ) (hev : ρ.ev < 4611686018427387904) (i v : Int)  (hd : ρ.dead = false) (ha : ρ.ar = 1) :
    Calls Tryz.prog 26 #[.pointer (some ⟨q, 0, none⟩)] w fun e w' => e = .returned (.int .i64 5) ∧ RGoes w B q ρ.evn.1 w' := by
  obtain ⟨v0, rr, _⟩ := h.reads
  have c3 := rr.c3
  have c0 := rr.c0
  rw [hd] at c3
  have gn := h.2.1.n
  have q0 : True := by simp; try omega
  have q1 : True := by simp; try omega
  have hev2 : ρ.evn.2 = true := by unfold RSt.evn; rw [if_pos ha]
  have H2 := Lib.hid hev2
  clear rr hd ha hev2
  go_enter Tryz.func26, Tryz.ntmps26
  go_wp2_with (first
    | fail
    | fail)
  refine (revent_dev h hev).mono ?_
  rintro e w1 ⟨rfl, h1, t1⟩
  simp only [H2.out]
  go_wp2
  go_ret
  exact ⟨rfl, h1, t1⟩
set_option maxRecDepth 100000 in
theorem rfence_dead {w : World} {B q : Nat} {ρ : RSt} (h : RDev w B q ρ) (i v : Int) (hd : ρ.dead = true) :
    Calls Tryz.prog 26 #[.pointer (some ⟨q, 0, none⟩)] w fun e w' => e = .returned (.int .i64 5) ∧ w = w' := by
  obtain ⟨v0, rr, _⟩ := h.reads
  have c3 := rr.c3
  rw [hd] at c3
  clear rr hd
  go_enter Tryz.func26, Tryz.ntmps26
  go_wp2
  go_ret
  exact ⟨rfl, rfl⟩
/-- it returns a number and goes on -/
def RGave (w : World) (B q : Nat) (t : RSt × Int) (e : Ending) (w' : World) : Prop := e = .returned (.int .i64 t.2) ∧ RGoes w B q t.1 w'
section
variable {w : World} {B q : Nat} {ρ : RSt} (h : RDev w B q ρ) (hev : ρ.ev < 4611686018427387904)
include h hev
theorem rstore_gen (hfew : ρ.l.length < 1000000) (i v : Int) (hv : U64 v) : Calls Tryz.prog 32 #[.pointer (some ⟨q, 0, none⟩), .int .i64 i, .int .u64 v] w (RGave w B q (ρ.tried (inB i ρ.n) (RSt.store i v))) := by
  cases hd : ρ.dead with
  | true =>
    rw [rtried_dead hd]
    refine (rstore_dead h i v hd).mono ?_
    rintro e w' ⟨rfl, rfl⟩
    exact ⟨rfl, h, RTurn.refl _ _⟩
  | false =>
    cases hb : inB i ρ.n with
    | false =>
      rw [rtried_out hd]
      refine (rstore_no h i v (inB_no.1 hb) hd).mono ?_
      rintro e w' ⟨rfl, rfl⟩
      exact ⟨rfl, h, RTurn.refl _ _⟩
    | true =>
      by_cases ha : ρ.ar = 1
      · rw [rtried_fails hd ha]
        refine (rstore_fails h hev i v (inB_iff.1 hb) hd ha).mono ?_
        rintro e w' ⟨rfl, g⟩
        exact ⟨rfl, g⟩
      · rw [rtried_goes hd ha]
        refine (rstore_ok h hev hfew i v hv (inB_iff.1 hb) hd ha).mono ?_
        rintro e w' ⟨rfl, g⟩
        exact ⟨rfl, g⟩
theorem rflush_gen (i : Int) : Calls Tryz.prog 24 #[.pointer (some ⟨q, 0, none⟩), .int .i64 i] w (RGave w B q (ρ.tried (inB i ((ρ.n + 7) / 8)) (RSt.flush i))) := by
  cases hd : ρ.dead with
  | true =>
    rw [rtried_dead hd]
    refine (rflush_dead h i 0 hd).mono ?_
    rintro e w' ⟨rfl, rfl⟩
    exact ⟨rfl, h, RTurn.refl _ _⟩
  | false =>
    cases hb : inB i ((ρ.n + 7) / 8) with
    | false =>
      rw [rtried_out hd]
      refine (rflush_no h i 0 (inB_no.1 hb) hd).mono ?_
      rintro e w' ⟨rfl, rfl⟩
      exact ⟨rfl, h, RTurn.refl _ _⟩
    | true =>
      by_cases ha : ρ.ar = 1
      · rw [rtried_fails hd ha]
        refine (rflush_fails h hev i 0 (inB_iff.1 hb) hd ha).mono ?_
        rintro e w' ⟨rfl, g⟩
        exact ⟨rfl, g⟩
      · rw [rtried_goes hd ha]
        refine (rflush_ok h hev i (inB_iff.1 hb) hd ha).mono ?_
        rintro e w' ⟨rfl, g⟩
        exact ⟨rfl, g⟩
theorem rfence_gen : Calls Tryz.prog 26 #[.pointer (some ⟨q, 0, none⟩)] w (RGave w B q (ρ.tried true RSt.fence)) := by
  cases hd : ρ.dead with
  | true =>
    rw [rtried_dead hd]
    refine (rfence_dead h 0 0 hd).mono ?_
    rintro e w' ⟨rfl, rfl⟩
    exact ⟨rfl, h, RTurn.refl _ _⟩
  | false =>
    by_cases ha : ρ.ar = 1
    · rw [rtried_fails hd ha]
      refine (rfence_fails h hev 0 0 hd ha).mono ?_
      rintro e w' ⟨rfl, g⟩
      exact ⟨rfl, g⟩
    · rw [rtried_goes hd ha]
      refine (rfence_ok h hev hd ha).mono ?_
      rintro e w' ⟨rfl, g⟩
      exact ⟨rfl, g⟩
end
end Go.Proofs.YtnjikgcigobcdaaGreat
