import Derived.Test.YtcimmfhbffofjaaRcDt
import Derived.Test.YtcimmfhbffofjaaRcRk
namespace Go.Proofs.Ytcimmfhbffofjaa
open Wd U Go.ChangeShapes Go.WideShapes Go.RowKit Go.Sort
set_option linter.unusedVariables false

/-! the words that a row's first one claims -/
def fst1 : List Nat → List Nat
  | [] => []
  | x :: t => if x ≤ (x :: t).length then (x :: t).take x else []
theorem fst1_cons (x : Nat) (t : List Nat) : fst1 (x :: t) = if x ≤ (x :: t).length then (x :: t).take x else [] := rfl
theorem row_take {w : World} {B n k : Nat} {A : Option Addr} {xs : List Nat} (h : Row w B A n (xs.map wd)) (hk : k ≤ n) : Row w B A k ((xs.take k).map wd) := by
  have hl : xs.length = n := by have := h.1; rw [List.length_map] at this; exact this
  refine ⟨by rw [List.length_map, List.length_take]; omega, fun h0 => ?_⟩
  obtain ⟨b, off, e, hb, hc⟩ := h.2 (by omega)
  refine ⟨b, off, e, hb, fun j hj => ?_⟩
  have hj' : j < k := by rw [List.length_map, List.length_take] at hj; omega
  rw [hc j (by rw [List.length_map]; omega)]
  simp
def FirstR (l : List Nat) (B : Nat) (W : World) (e : Ending) (w : World) : Prop := w = W ∧ ∃ (A : Option Addr) (c : Nat), e = .returned (.slice A (fst1 l).length c) ∧ Row W B A (fst1 l).length ((fst1 l).map wd) ∧ (fst1 l).length ≤ c
set_option maxRecDepth 100000 in
theorem rFirst (l : List Nat) (L : Nat) (hL : l.length = L) (hl : Small l) (hle : L ≤ 1000) (A : Option Addr) (c B : Nat) (hc : L ≤ c) (w : World) (hr : Row w B A L (l.map wd)) : Calls Try.prog 29 #[.slice A L c] w (FirstR l B w) := by
  cases l with
  | nil =>
    obtain rfl : 0 = L := hL
    go_enter Try.func29, Try.ntmps29
    go_wp2
    go_ret
    exact ⟨rfl, none, 0, rfl, Row.nil, Nat.le_refl _⟩
  | cons x t =>
    have h0 : 0 < L := by rw [← hL]; simp
    have q0 : ((L : Int) == 0) = false := by rw [beq_eq_false_iff_ne]; omega
    obtain ⟨b, off, y, rfl, hb, hx, cx⟩ := hr.get h0
    cases hx
    rw [Nat.add_zero] at cx
    have cx2 : w.cell? ⟨b, off, none⟩ = some (.int .u64 (x : Int)) := cx
    have hxs := hl x (by simp)
    have hu : IntKind.u64.wrap (L : Int) = (L : Int) := by rw [IntKind.wrap_u64]; omega
    have HR := Lib.hid hr; have HL := Lib.hid hL
    clear cx hr hL hl
    by_cases hx : x ≤ L
    · have q1 : decide ((x : Int) > (L : Int)) = false := decide_eq_false (by omega)
      have q2 : decide (L < x) = false := decide_eq_false (by omega)
      go_enter Try.func29, Try.ntmps29
      go_wp2
      all_goals
        go_ret
        have hf : fst1 (x :: t) = (x :: t).take x := by rw [fst1_cons, if_pos (by rw [HL.out]; exact hx)]
        have hfl : ((x :: t).take x).length = x := by rw [List.length_take, HL.out]; omega
        refine ⟨rfl, some ⟨b, off, none⟩, c, by rw [hf, hfl]; rfl, by rw [hf, hfl]; exact row_take HR.out hx, by rw [hf, hfl]; omega⟩
    · have q1 : decide ((x : Int) > (L : Int)) = true := decide_eq_true (by omega)
      have q2 : decide (L < x) = true := decide_eq_true (by omega)
      have HX := Lib.hid hx
      clear hx
      go_enter Try.func29, Try.ntmps29
      go_wp2
      go_ret
      have hf : fst1 (x :: t) = [] := by rw [fst1_cons, if_neg (by rw [HL.out]; exact HX.out)]
      unfold FirstR
      rw [hf]
      exact ⟨rfl, none, 0, rfl, Row.nil, Nat.le_refl _⟩
theorem fst1_small {l : List Nat} (h : Small l) : Small (fst1 l) := by
  cases l with
  | nil => exact h
  | cons x t =>
    rw [fst1_cons]
    split
    · exact h.take _
    · intro y hy; cases hy
theorem fst1_prefix (l : List Nat) : ∃ t, l = fst1 l ++ t := by
  cases l with
  | nil => exact ⟨[], rfl⟩
  | cons x t =>
    rw [fst1_cons]
    split
    · exact ⟨_, (List.take_append_drop x (x :: t)).symm⟩
    · exact ⟨x :: t, rfl⟩
theorem fst1_rec {e : Eff} {r : Int} {l t : List Nat} (h : l = recW e r ++ t) : fst1 l = recW e r := by
  have hf := recW_form e r t
  have hl := recW_len e r
  have : l = manyR e :: (l.tail) := by rw [h, hf]; rfl
  rw [this, fst1_cons, ← this]
  have hle : manyR e ≤ l.length := by rw [h, List.length_append, hl]; omega
  rw [if_pos hle, h, ← hl, List.take_left]
end Go.Proofs.Ytcimmfhbffofjaa
