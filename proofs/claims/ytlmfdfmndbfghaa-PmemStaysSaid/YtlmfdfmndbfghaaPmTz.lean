import Derived.Test.YtlmfdfmndbfghaaPmTy
namespace Go.Proofs.Ytlmfdfmndbfghaa
open Wd Pm Go.Maps Go.RowKit
set_option linter.unusedVariables false

/-! between: stored, flushed, fenced -/
def SP (w : World) (p q m : Nat) (P : St → Prop) (wr : World) : Prop :=
  ∃ (f : Fp) (σ : St) (ρ : RSt), f.p = p ∧ Dev wr f σ ∧ Fresh w f ∧ Below w.heap.size w wr ∧ SCalm σ none m ∧ P σ ∧ RDev wr w.heap.size q ρ ∧ RCalm ρ 512 m
theorem tried_eq {σ : St} {m : Nat} (h : SCalm σ none m) (go : St → St) : σ.tried true go = ((go σ).counted, 0) := by
  have e1 : σ.drained = σ := by unfold St.drained; rw [h.ar, if_pos rfl, ← h.ar]
  unfold St.tried
  rw [h.dead, if_pos ref0, h.ar, if_neg (by decide), e1]
theorem sp_goes {w w1 w2 : World} {p q m : Nat} {P : St → Prop} {f : Fp} {σ' : St} {ρ : RSt} (hp : f.p = p) (d : ∃ σ, Dev w1 f σ) (fr : Fresh w f) (b : Below w.heap.size w w1) (g : Goes w1 f σ' w2) (c : SCalm σ' none (m + 1)) (hP : P σ') (rd : RDev w1 w.heap.size q ρ) (rc : RCalm ρ 512 m) : SP w p q (m + 1) P w2 := by
  obtain ⟨σ, d⟩ := d
  obtain ⟨f', d2, e, n, t⟩ := g
  refine ⟨f', σ', ρ, e.trans hp, d2, fun k hk => ?_, b.trans (t.below (.inr b.size) fr), c, hP, rd.turn d t, rc.up (by omega)⟩
  rcases n k hk with h1 | h1
  · exact fr k h1
  · exact Nat.le_trans b.size h1
def Sto (i v : Int) (σ : St) : Prop := σ.hd i = some v ∨ (σ.hd i = none ∧ σ.sn i = none ∧ σ.st i = v)
def Flu (i v : Int) (σ : St) : Prop := (σ.hd i = some v ∧ σ.sn i = some v) ∨ (σ.hd i = none ∧ σ.sn i = none ∧ σ.st i = v)
theorem sto_hold (σ : St) (i v : Int) : Sto i v (σ.hold i v) := by
  unfold Sto
  by_cases h : σ.sn i = none ∧ v = σ.st i
  · right
    refine ⟨?_, h.1, h.2.symm⟩
    show (if σ.sn i = none ∧ v = σ.st i then del σ.hd i else put σ.hd i v) i = none
    rw [if_pos h]; unfold del; rw [if_pos rfl]
  · left
    show (if σ.sn i = none ∧ v = σ.st i then del σ.hd i else put σ.hd i v) i = some v
    rw [if_neg h]; unfold put; rw [if_pos rfl]
theorem flu_send {σ : St} {i v : Int} (h : Sto i v σ) : Flu i v (σ.send (i / 8)) := by
  rcases h with h | ⟨h1, h2, h3⟩
  · left
    refine ⟨h, ?_⟩
    show sendL σ (dirtyL σ.hd (i / 8 * 8) 8) i = some v
    unfold sendL
    rw [if_pos (mem_dirtyL.2 ⟨by omega, by omega, by rw [h]; rfl⟩), h]
  · right
    refine ⟨h1, ?_, h3⟩
    show sendL σ (dirtyL σ.hd (i / 8 * 8) 8) i = none
    unfold sendL
    split
    · exact h1
    · exact h2
theorem held_fence {σ : St} {i v : Int} (h : Flu i v σ) : Held σ.persist i v := by
  rcases h with ⟨h1, h2⟩ | ⟨h1, h2, h3⟩
  · refine ⟨?_, ?_, rfl⟩
    · show perSt σ (fun _ => false) i = v
      unfold perSt
      rw [if_neg (fun e => Bool.noConfusion e), h2]
      rfl
    · show perHd σ (fun _ => false) i = none
      unfold perHd
      rw [if_pos ⟨rfl, by rw [h2]; rfl, by rw [h1, h2]⟩]
  · exact held_persist ⟨h3, h1, h2⟩
section
variable {w wr : World} {p q m : Nat} {i v : Int} (hm : m ≤ 1000) (hi : 0 ≤ i ∧ i < 512)
include hm hi
theorem mid_store (h : SSt w p q none m wr) (hv : U64 v) : Calls Try.prog 12 #[.pointer (some ⟨p, 0, none⟩), .int .i64 i, .int .u64 v] wr fun e w' => e = .returned (.int .i64 0) ∧ SP w p q (m + 1) (Sto i v) w' := by
  obtain ⟨f, σ, ρ, rfl, d, fr, b, c, rd, rc⟩ := h
  have hs := store_dev d (by have := c.ev; omega) i v hv
  have hw : hasW σ.n i = true := by rw [c.n]; exact hasW_iff.2 ⟨hi.1, by omega⟩
  have c' := (scalm_tried (o' := none) (b := true) c (plain_hold i v) (fun _ _ _ e => by cases e) (fun _ => rfl)).1
  rw [hw] at hs
  rw [tried_eq c] at hs c'
  refine hs.mono ?_
  rintro e w' ⟨rfl, g⟩
  exact ⟨rfl, sp_goes rfl ⟨σ, d⟩ fr b g c' (sto_hold σ i v) rd rc⟩
theorem mid_flush (h : SP w p q m (Sto i v) wr) : Calls Try.prog 25 #[.pointer (some ⟨p, 0, none⟩), .int .i64 (i / 8)] wr fun e w' => e = .returned (.int .i64 0) ∧ SP w p q (m + 1) (Flu i v) w' := by
  obtain ⟨f, σ, ρ, rfl, d, fr, b, c, hP, rd, rc⟩ := h
  have hs := flush_dev d (by have := c.ev; omega) (i / 8)
  have hw : hasL σ.n (i / 8) = true := by rw [c.n]; exact hasL_iff.2 ⟨by omega, by omega⟩
  have c' := (scalm_tried (o' := none) (b := true) c (plain_send (i / 8)) (fun _ _ _ e => by cases e) (fun _ => rfl)).1
  rw [hw] at hs
  rw [tried_eq c] at hs c'
  refine hs.mono ?_
  rintro e w' ⟨rfl, g⟩
  exact ⟨rfl, sp_goes rfl ⟨σ, d⟩ fr b g c' (flu_send hP) rd rc⟩
omit hi in
theorem mid_fence (h : SP w p q m (Flu i v) wr) : Calls Try.prog 26 #[.pointer (some ⟨p, 0, none⟩)] wr fun e w' => e = .returned (.int .i64 0) ∧ SSt w p q (some (i, v)) (m + 1) w' := by
  obtain ⟨f, σ, ρ, rfl, d, fr, b, c, hP, rd, rc⟩ := h
  have hs := fence_dev d (by have := c.ev; omega)
  have c' := (scalm_tried (o' := none) (b := true) c plain_persist (fun _ _ _ e => by cases e) (fun _ => rfl)).1
  rw [tried_eq c] at hs c'
  refine hs.mono ?_
  rintro e w' ⟨rfl, g⟩
  obtain ⟨f', σ', ρ', h1, h2, h3, h4, h5, h6, h7, h8⟩ := sp_goes (P := fun σ' => Held σ' i v) rfl ⟨σ, d⟩ fr b g c' (by have := held_fence hP; exact ⟨this.st, this.hd, this.sn⟩) rd rc
  exact ⟨rfl, f', σ', ρ', h1, h2, h3, h4, ⟨h5.n, h5.ar, h5.dead, h5.ev, fun a b e => by injection e with e; injection e with e1 e2; subst e1 e2; exact h6⟩, h7, h8⟩
end

/-! the end -/
structure Ended (w : World) (p : Nat) (i v : Int) (f : Fp) (σ : St) (wr : World) : Prop where
  p : f.p = p
  dev : Dev wr f σ
  below : Below w.heap.size w wr
  n : σ.n = 512
  st : σ.st i = v
  hd : σ.hd = fun _ => none
  dead : σ.dead = false
theorem end_crash {w wr : World} {p q m : Nat} {i v : Int} (h : SSt w p q (some (i, v)) m wr) (A : Option Addr) (cp : Nat) (keep : List Bool) (hrow : Row wr w.heap.size A keep.length (keep.map Value.bool)) (hkm : keep.length ≤ maxLen) :
    Calls Try.prog 13 #[.pointer (some ⟨p, 0, none⟩), .slice A keep.length cp] wr fun e w' => e = .returned (.tuple #[]) ∧ ∃ f σ, Ended w p i v f σ w' := by
  obtain ⟨f, σ, ρ, rfl, d, fr, b, c, rd, rc⟩ := h
  refine (crash_dev d w.heap.size fr b.size A cp keep hrow hkm).mono ?_
  rintro e w' ⟨rfl, l, hl, g⟩
  obtain ⟨f', d2, e, n, t⟩ := g
  have hh := c.held i v rfl
  refine ⟨rfl, f', _, ⟨e, d2, b.trans (t.below (.inr b.size) fr), c.n, ?_, rfl, rfl⟩⟩
  refine held_ev hh fun hk => ?_
  have := (hl.mem i).1 (mem_kept hk)
  rw [hh.hd] at this
  cases this
section
variable {w wr : World} {p : Nat} {i v : Int} {f : Fp} {σ : St} (h : Ended w p i v f σ wr) (hi : 0 ≤ i ∧ i < 512)
include h hi
theorem end_has : hasW σ.n i = true := by rw [h.n]; exact hasW_iff.2 ⟨hi.1, by omega⟩
theorem end_load : Calls Try.prog 15 #[.pointer (some ⟨p, 0, none⟩), .int .i64 i] wr fun e w' => e = .returned (.tuple #[.int .u64 v, .int .i64 0]) ∧ wr = w' := by
  have hl := load_dev h.dev i
  have e1 : σ.loadVal i = v := by unfold St.loadVal; rw [h.dead, end_has h hi, if_pos ref0, h.hd]; exact h.st
  rw [e1, h.dead, end_has h hi, ref0] at hl
  have hp : f.ptr = .pointer (some ⟨p, 0, none⟩) := by unfold Fp.ptr; rw [h.p]
  rw [hp] at hl
  exact hl
theorem end_stays : Calls Try.prog 17 #[.pointer (some ⟨p, 0, none⟩), .int .i64 i] wr fun e w' => e = .returned (.int .u64 v) ∧ wr = w' := by
  have hl := stays_dev h.dev i
  have e1 : σ.stays i = v := by unfold St.stays; rw [end_has h hi, if_pos rfl]; exact h.st
  rw [e1] at hl
  have hp : f.ptr = .pointer (some ⟨p, 0, none⟩) := by unfold Fp.ptr; rw [h.p]
  rw [hp] at hl
  exact hl
omit hi in
theorem end_dirty : Calls Try.prog 20 #[.pointer (some ⟨p, 0, none⟩)] wr fun e w' => (∃ A c, e = .returned (.slice A 0 c)) ∧ Below w.heap.size w w' := by
  have hl := dirty_dev h.dev
  have hp : f.ptr = .pointer (some ⟨p, 0, none⟩) := by unfold Fp.ptr; rw [h.p]
  rw [hp] at hl
  refine hl.mono ?_
  rintro e w' ⟨l, hk, x, rfl, hown, hb⟩
  obtain ⟨A, c, rfl, -⟩ := Row.of_own hown
  have e0 : l = [] := List.eq_nil_iff_forall_not_mem.2 fun y hy => by
    have := (hk.mem y).1 hy
    rw [h.hd] at this
    cases this
  subst e0
  exact ⟨⟨A, c, rfl⟩, h.below.trans (hb.mono h.below.size)⟩
end
end Go.Proofs.Ytlmfdfmndbfghaa
