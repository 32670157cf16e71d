import Derived.Test.YtnjikgcigobcdaaGreatBlLay
import Derived.Test.YtnjikgcigobcdaaGreatBkAwa
import Derived.Deep.DeepCutAuto
namespace Go.Proofs.YtnjikgcigobcdaaGreat
open Wd Pm Go.Maps Go.RowKit Go.Sort
set_option linter.unusedVariables false

theorem dead_dv {w : World} {f : Fp} {σ : St} (h : Dev w f σ) : Calls Tryz.prog 14 #[f.ptr] w fun e w' => e = .returned (.bool σ.dead) ∧ w = w' := by
  have c5 := h.reads.c5
  unfold Fp.ptr
  go_enter Tryz.func14, Tryz.ntmps14
  go_wp2_with (go_at_call 33; refine (made_dev h).mono ?_; rintro e w' ⟨rfl, rfl⟩)
  go_ret
  exact ⟨rfl, rfl⟩
theorem deeds_at {w w1 : World} {A : Option Addr} {l : List Deed} (h : Deeds w w.heap.size A l) (b1 : Below w.heap.size w w1) : Deeds w1 w1.heap.size A l := by
  have h1 := h.below b1
  exact ⟨fun hp => by obtain ⟨b, off, e, hB, hx⟩ := h1.at_ hp; exact ⟨b, off, e, Nat.lt_of_lt_of_le hB b1.size, hx⟩, fun d hd => by have := h1.ok d hd; exact ⟨this.kind, this.i, this.v, this.row.more b1.size, this.le⟩⟩
def deedC (d : Deed) : Array Value := #[.int .i64 d.kind, .int .i64 d.i, .int .u64 d.v, .slice d.A d.keep.length d.cp]
def LysRel (w : World) (p q : Nat) (N : Nat) (idx : Value) (wr : World) : Prop := ∃ j : Nat, j ≤ N ∧ idx = .int .i64 j ∧ DSt w p q j wr
/-- both devices, as two states -/
def J (w : World) (p q : Nat) (σ : St) (ρ : RSt) (wr : World) : Prop := ∃ f, f.p = p ∧ Dev wr f σ ∧ Fresh w f ∧ Below w.heap.size w wr ∧ RDev wr w.heap.size q ρ
theorem J.below {w : World} {p q : Nat} {σ : St} {ρ : RSt} {wr w' : World} (h : J w p q σ ρ wr) (b : Below wr.heap.size wr w') : J w p q σ ρ w' := by
  obtain ⟨f, e, d, fr, bb, rd⟩ := h
  exact ⟨f, e, d.below b, fr, bb.trans (b.mono bb.size), rd.below b⟩
theorem J.b {w : World} {p q : Nat} {σ : St} {ρ : RSt} {wr : World} (h : J w p q σ ρ wr) : Below w.heap.size w wr := by
  obtain ⟨_, _, _, _, b, _⟩ := h; exact b
theorem j_goes {w : World} {q : Nat} {f : Fp} {σ σ' : St} {ρ : RSt} {wr w' : World} (d : Dev wr f σ) (fr : Fresh w f) (b : Below w.heap.size w wr) (rd : RDev wr w.heap.size q ρ) (g : Goes wr f σ' w') : J w f.p q σ' ρ w' := by
  obtain ⟨f2, d2, e2, n2, t2⟩ := g
  refine ⟨f2, e2, d2, fun k hk => ?_, b.trans (t2.below (.inr b.size) fr), rd.turn d t2⟩
  rcases n2 k hk with h | h
  · exact fr k h
  · exact Nat.le_trans b.size h
theorem j_rgoes {w : World} {q : Nat} {f : Fp} {σ : St} {ρ ρ' : RSt} {wr w' : World} (d : Dev wr f σ) (fr : Fresh w f) (b : Below w.heap.size w wr) (g : RGoes wr w.heap.size q ρ' w') : J w f.p q σ ρ' w' := by
  obtain ⟨rd, t⟩ := g
  refine ⟨f, rfl, d.rturn t, fr, b.trans ⟨t.os, t.tape, t.output, t.size, fun k hk => t.low k (by have := b.size; omega) hk⟩, rd⟩
section
variable {w : World} {p q : Nat} {σ0 : St} {ρ0 : RSt} (A : Option Addr) (c : Nat) (ws : List Int) (r : RowB w A ws) (u : ∀ v ∈ ws, U64 v) (m : ws.length ≤ 200) (at_ : Int) (h0 : 0 ≤ at_) (h1 : at_ ≤ 5000)
include r u m h0 h1
theorem j_lay (hev : σ0.ev ≤ 1000) {ρ : RSt} {wr : World} (h : J w p q σ0 ρ wr) : Calls Tryz.prog 12 #[.pointer (some ⟨p, 0, none⟩), .int .i64 at_, .slice A ws.length c] wr fun e w' => e = .returned (.int .i64 (runS (layA at_ ws) σ0).2) ∧ J w p q (runS (layA at_ ws) σ0).1 ρ w' := by
  obtain ⟨f, rfl, d, fr, b, rd⟩ := h
  refine (lay_dev d at_ A c ws (by omega) h0 (by omega) (by omega) u (r.o b fr)).mono ?_
  rintro e w' ⟨rfl, g⟩
  exact ⟨rfl, j_goes d fr b rd g⟩
theorem j_rlay (hev : ρ0.ev ≤ 1000) (hl : ρ0.l.length ≤ 1000) {σ : St} {wr : World} (h : J w p q σ ρ0 wr) : Calls Tryz.prog 13 #[.pointer (some ⟨q, 0, none⟩), .int .i64 at_, .slice A ws.length c] wr fun e w' => e = .returned (.int .i64 (runR (layR at_ ws) ρ0).2) ∧ J w p q σ (runR (layR at_ ws) ρ0).1 w' := by
  obtain ⟨f, rfl, d, fr, b, rd⟩ := h
  refine (rlay_dev rd b.size at_ A c ws (by omega) (by omega) h0 (by omega) u (Row.below r b)).mono ?_
  rintro e w' ⟨rfl, g⟩
  exact ⟨rfl, j_rgoes (ρ := ρ0) d fr b g⟩
end
theorem j_dead {w : World} {p q : Nat} {σ : St} {ρ : RSt} {wr : World} (h : J w p q σ ρ wr) : Calls Tryz.prog 14 #[.pointer (some ⟨p, 0, none⟩)] wr fun e w' => e = .returned (.bool σ.dead) ∧ wr = w' := by
  obtain ⟨f, rfl, d, fr, b, rd⟩ := h
  exact dead_dv d
theorem j_cell {w : World} {p q : Nat} {σ : St} {ρ : RSt} {wr : World} (h : J w p q σ ρ wr) (s : Same σ ρ) : wr.cell? ⟨q, 3, none⟩ = some (.bool σ.dead) := by
  obtain ⟨f, rfl, d, fr, b, rd⟩ := h
  obtain ⟨v, hv⟩ := rd.v
  rw [← s.dead]
  exact hv.reads.c3
theorem j_dirty {w : World} {p q : Nat} {σ : St} {ρ : RSt} {wr : World} (h : J w p q σ ρ wr) (s : Same σ ρ) : Calls Tryz.prog 16 #[.pointer (some ⟨p, 0, none⟩)] wr fun e w' => ∃ A c, e = .returned (.slice A (dirtyR ρ.l).length c) ∧ IRowT w' A (dirtyR ρ.l) ∧ Below wr.heap.size wr w' := by
  obtain ⟨f, rfl, d, fr, b, rd⟩ := h
  refine (t_dirty d s (Below.refl _ _)).mono ?_
  rintro e w' ⟨A, c, he, hr, b1, _⟩
  exact ⟨A, c, he, hr, b1⟩
theorem j_rdirty {w : World} {p q : Nat} {σ : St} {ρ : RSt} {wr : World} (h : J w p q σ ρ wr) : Calls Tryz.prog 17 #[.pointer (some ⟨q, 0, none⟩)] wr fun e w' => ∃ A c, e = .returned (.slice A (dirtyR ρ.l).length c) ∧ IRowT w' A (dirtyR ρ.l) ∧ Below wr.heap.size wr w' := by
  obtain ⟨f, rfl, d, fr, b, rd⟩ := h
  refine (t_rdirty rd (Below.refl _ _)).mono ?_
  rintro e w' ⟨A, c, he, hr, b1, _⟩
  exact ⟨A, c, he, hr, b1⟩
theorem j_stays {w : World} {p q : Nat} {σ : St} {ρ : RSt} {wr : World} (h : J w p q σ ρ wr) (i : Int) : Calls Tryz.prog 18 #[.pointer (some ⟨p, 0, none⟩), .int .i64 i] wr fun e w' => e = .returned (.int .u64 (σ.stays i)) ∧ wr = w' := by
  obtain ⟨f, rfl, d, fr, b, rd⟩ := h
  exact t_stays d (Below.refl _ _) i
theorem j_rstays {w : World} {p q : Nat} {σ : St} {ρ : RSt} {wr : World} (h : J w p q σ ρ wr) (s : Same σ ρ) (i : Int) : Calls Tryz.prog 19 #[.pointer (some ⟨q, 0, none⟩), .int .i64 i] wr fun e w' => e = .returned (.int .u64 (σ.stays i)) ∧ Below wr.heap.size wr w' := by
  obtain ⟨f, rfl, d, fr, b, rd⟩ := h
  rw [same_stays s (fun r hr => (rd.2.1.ok r hr).at_) i]
  refine (t_rstays rd (Below.refl _ _) i).mono ?_
  rintro e w' ⟨he, b1, _⟩
  exact ⟨he, b1⟩
theorem j_arm {w : World} {p q : Nat} {σ : St} {ρ : RSt} {wr : World} (h : J w p q σ ρ wr) (n : Int) (hn : n ≤ 9223372036854775807) : Calls Tryz.prog 10 #[.pointer (some ⟨p, 0, none⟩), .int .i64 n] wr fun e w' => e = .returned (.tuple #[]) ∧ J w p q { σ with ar := max n 0 } ρ w' := by
  obtain ⟨f, rfl, d, fr, b, rd⟩ := h
  refine (arm_dev d n hn).mono ?_
  rintro e w' ⟨he, g⟩
  exact ⟨he, j_goes d fr b rd g⟩
theorem j_rarm {w : World} {p q : Nat} {σ : St} {ρ : RSt} {wr : World} (h : J w p q σ ρ wr) (n : Int) (hn : n ≤ 9223372036854775807) : Calls Tryz.prog 11 #[.pointer (some ⟨q, 0, none⟩), .int .i64 n] wr fun e w' => e = .returned (.tuple #[]) ∧ J w p q σ { ρ with ar := max n 0 } w' := by
  obtain ⟨f, rfl, d, fr, b, rd⟩ := h
  refine (rarm_dev rd n hn).mono ?_
  rintro e w' ⟨he, g⟩
  exact ⟨he, j_rgoes (ρ := ρ) d fr b g⟩
end Go.Proofs.YtnjikgcigobcdaaGreat
