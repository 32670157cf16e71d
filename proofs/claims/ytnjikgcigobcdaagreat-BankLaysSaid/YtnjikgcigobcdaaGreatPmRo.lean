import Derived.Test.YtnjikgcigobcdaaGreatPmRs
import Derived.Test.YtnjikgcigobcdaaGreatPmRv
namespace Go.Proofs.YtnjikgcigobcdaaGreat
open Wd Pm Go.Maps Go.RowKit
set_option linter.unusedVariables false

/-! the document's device, whatever is asked of it while power doesn't fail -/
structure RCalm (ρ : RSt) (n : Int) (m : Nat) : Prop where
  n : ρ.n = n
  ar : ρ.ar = 0
  dead : ρ.dead = false
  ev : ρ.ev ≤ m
  len : ρ.l.length ≤ m
theorem RCalm.up {ρ : RSt} {n : Int} {m m' : Nat} (h : RCalm ρ n m) (hm : m ≤ m') : RCalm ρ n m' := ⟨h.n, h.ar, h.dead, by have := h.ev; omega, by have := h.len; omega⟩
theorem RCalm.evn {ρ : RSt} {n : Int} {m : Nat} (h : RCalm ρ n m) : ρ.evn.1 = { ρ with ev := ρ.ev + 1 } := by
  have := h.ar
  unfold RSt.evn
  rw [if_neg (by omega), if_neg (by omega)]
def RMoves (w : World) (B q : Nat) (n : Int) (m : Nat) (w' : World) : Prop := ∃ ρ', RCalm ρ' n m ∧ RGoes w B q ρ' w'

set_option maxRecDepth 100000 in
theorem rstore_no {w : World} {B q : Nat} {ρ : RSt} (h : RDev w B q ρ) (i v : Int) (hi : ¬ (0 ≤ i ∧ i < ρ.n)) (hd : ρ.dead = false) :
    Calls Tryz.prog 32 #[.pointer (some ⟨q, 0, none⟩), .int .i64 i, .int .u64 v] w fun e w' => e = .returned (.int .i64 90) ∧ w = w' := by
  obtain ⟨v0, rr, _⟩ := h.reads
  have c3 := rr.c3
  have c0 := rr.c0
  rw [hd] at c3
  have gn := h.2.1.n
  clear rr
  by_cases h0 : i < 0
  · have q0 : decide (i < 0) = true := by simpa using h0
    clear hi h0 gn hd
    go_enter Tryz.func32, Tryz.ntmps32
    go_wp2
    go_ret
    exact ⟨rfl, rfl⟩
  · have q0 : decide (i < 0) = false := by simpa using h0
    have q1 : decide (i ≥ ρ.n) = true := by simp; omega
    clear hi h0 hd
    go_enter Tryz.func32, Tryz.ntmps32
    go_wp2_with (first
      | fail
      | fail)
    go_ret
    exact ⟨rfl, rfl⟩
set_option maxRecDepth 100000 in
theorem rflush_no {w : World} {B q : Nat} {ρ : RSt} (h : RDev w B q ρ) (i v : Int) (hi : ¬ (0 ≤ i ∧ i < (ρ.n + 7) / 8)) (hd : ρ.dead = false) :
    Calls Tryz.prog 24 #[.pointer (some ⟨q, 0, none⟩), .int .i64 i] w fun e w' => e = .returned (.int .i64 90) ∧ w = w' := by
  obtain ⟨v0, rr, _⟩ := h.reads
  have c3 := rr.c3
  have c0 := rr.c0
  rw [hd] at c3
  have gn := h.2.1.n
  clear rr
  by_cases h0 : i < 0
  · have q0 : decide (i < 0) = true := by simpa using h0
    clear hi h0 gn hd
    go_enter Tryz.func24, Tryz.ntmps24
    go_wp2
    go_ret
    exact ⟨rfl, rfl⟩
  · have q0 : decide (i < 0) = false := by simpa using h0
    have q1 : decide (i ≥ (ρ.n + 7) / 8) = true := by simp; omega
    clear hi h0 hd
    go_enter Tryz.func24, Tryz.ntmps24
    go_wp2_with (first
      | (go_at_call 59; refine (rlines_dev h).mono ?_; rintro e w' ⟨rfl, rfl⟩)
      | fail)
    go_ret
    exact ⟨rfl, rfl⟩

def RAns {α : Type} (f : α → Value) (w : World) (B q : Nat) (n : Int) (m : Nat) (e : Ending) (w' : World) : Prop := ∃ v, e = .returned (f v) ∧ RMoves w B q n m w'
abbrev vint (x : Int) : Value := .int .i64 x
section
variable {w : World} {B q m : Nat} {n : Int} {ρ : RSt} (h : RDev w B q ρ) (c : RCalm ρ n m) (hm : m ≤ 900000)
include h c hm
theorem rstore_calm (i v : Int) (hv : U64 v) : Calls Tryz.prog 32 #[.pointer (some ⟨q, 0, none⟩), .int .i64 i, .int .u64 v] w (RAns vint w B q n (m + 1)) := by
  have hev := c.ev
  have hlen := c.len
  by_cases hi : 0 ≤ i ∧ i < ρ.n
  · refine (rstore_ok h (by omega) (by omega) i v hv hi c.dead (by have := c.ar; omega)).mono ?_
    rintro e w' ⟨rfl, g⟩
    refine ⟨0, rfl, _, ?_, g⟩
    rw [c.evn]
    exact ⟨c.n, c.ar, c.dead, by show ρ.ev + 1 ≤ ((m + 1 : Nat) : Int); omega, by show (storeL i v ρ.l).length ≤ _; have := storeL_len i v ρ.l; omega⟩
  · refine (rstore_no h i v hi c.dead).mono ?_
    rintro e w' ⟨rfl, rfl⟩
    exact ⟨90, rfl, ρ, c.up (by omega), h, RTurn.refl _ _⟩
theorem rflush_calm (i : Int) : Calls Tryz.prog 24 #[.pointer (some ⟨q, 0, none⟩), .int .i64 i] w (RAns vint w B q n (m + 1)) := by
  have hev := c.ev
  have hlen := c.len
  by_cases hi : 0 ≤ i ∧ i < (ρ.n + 7) / 8
  · refine (rflush_ok h (by omega) i hi c.dead (by have := c.ar; omega)).mono ?_
    rintro e w' ⟨rfl, g⟩
    refine ⟨0, rfl, _, ?_, g⟩
    rw [c.evn]
    exact ⟨c.n, c.ar, c.dead, by show ρ.ev + 1 ≤ ((m + 1 : Nat) : Int); omega, by show (ρ.l.map _).length ≤ _; rw [List.length_map]; omega⟩
  · refine (rflush_no h i 0 hi c.dead).mono ?_
    rintro e w' ⟨rfl, rfl⟩
    exact ⟨90, rfl, ρ, c.up (by omega), h, RTurn.refl _ _⟩
theorem rfence_calm : Calls Tryz.prog 26 #[.pointer (some ⟨q, 0, none⟩)] w (RAns vint w B q n (m + 1)) := by
  have hev := c.ev
  have hlen := c.len
  refine (rfence_ok h (by omega) c.dead (by have := c.ar; omega)).mono ?_
  rintro e w' ⟨rfl, g⟩
  refine ⟨0, rfl, _, ?_, g⟩
  rw [c.evn]
  exact ⟨c.n, c.ar, c.dead, by show ρ.ev + 1 ≤ ((m + 1 : Nat) : Int); omega, by show (ρ.l.map _).length ≤ _; rw [List.length_map]; omega⟩
omit hm in
theorem revict_calm (i : Int) : Calls Tryz.prog 28 #[.pointer (some ⟨q, 0, none⟩), .int .i64 i] w (RAns Value.bool w B q n (m + 1)) := by
  have hev := c.ev
  have hlen := c.len
  refine (revict_dev h i).mono ?_
  rintro e w' ⟨rfl, g⟩
  refine ⟨_, rfl, ρ.evict i, ⟨c.n, c.ar, c.dead, ?_, ?_⟩, g⟩
  · show ρ.ev ≤ _; omega
  · show (ρ.l.map _).length ≤ _; rw [List.length_map]; omega
end
end Go.Proofs.YtnjikgcigobcdaaGreat
