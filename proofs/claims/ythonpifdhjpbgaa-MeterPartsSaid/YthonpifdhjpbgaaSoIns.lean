import Derived.Test.YthonpifdhjpbgaaSoSwap
import Derived.Deep.QuietTactic
import Derived.BigQuiet
namespace So

/-- rising up to i, but for what stands at j, which is no greater than what stands behind it -/
def Ins (rk : Nat → Int) (a i j : Nat) (ys : List Nat) : Prop :=
  (∀ p q x y, a ≤ p → p < q → q ≤ i → p ≠ j → q ≠ j → ys[p]? = some x → ys[q]? = some y → rk x ≤ rk y) ∧
  (∀ q x y, j < q → q ≤ i → ys[j]? = some x → ys[q]? = some y → rk x ≤ rk y)

theorem Ins.start {rk : Nat → Int} {a i : Nat} {ys : List Nat} (h : Srt rk a i ys) : Ins rk a i i ys :=
  ⟨fun p q x y h1 h2 h3 _ h5 hx hy => h p q x y h1 (by omega) (by omega) hx hy, fun q x y h1 h2 => by omega⟩
theorem Ins.step {rk : Nat → Int} {a i j x y : Nat} {ys : List Nat} (h : Ins rk a i j ys) (hj : a < j) (hji : j ≤ i) (hx : ys[j]? = some x) (hy : ys[j - 1]? = some y) (hlt : rk x < rk y) : Ins rk a i (j - 1) ((ys.set j y).set (j - 1) x) := by
  obtain ⟨lx, _⟩ := List.getElem?_eq_some_iff.1 hx
  have e1 : ((ys.set j y).set (j - 1) x)[j]? = some y := by rw [List.getElem?_set_ne (by omega), List.getElem?_set_self lx]
  have e2 : ((ys.set j y).set (j - 1) x)[j - 1]? = some x := by rw [List.getElem?_set_self (by rw [List.length_set]; omega)]
  have e3 : ∀ k, k ≠ j → k ≠ j - 1 → ((ys.set j y).set (j - 1) x)[k]? = ys[k]? := fun k h1 h2 => by rw [List.getElem?_set_ne (by omega), List.getElem?_set_ne (by omega)]
  refine ⟨fun p q u v h1 h2 h3 h4 h5 hu hv => ?_, fun q u v h1 h2 hu hv => ?_⟩
  · by_cases c1 : p = j
    · subst c1
      rw [e1] at hu
      cases hu
      rw [e3 q (by omega) h5] at hv
      exact h.1 (p - 1) q _ _ (by omega) (by omega) h3 (by omega) (by omega) hy hv
    · by_cases c2 : q = j
      · subst c2
        rw [e1] at hv
        cases hv
        rw [e3 p c1 h4] at hu
        exact h.1 p (q - 1) _ _ h1 (by omega) (by omega) c1 (by omega) hu hy
      · rw [e3 p c1 h4] at hu
        rw [e3 q c2 h5] at hv
        exact h.1 p q u v h1 h2 h3 c1 c2 hu hv
  · rw [e2] at hu
    cases hu
    by_cases c : q = j
    · subst c
      rw [e1] at hv
      cases hv
      omega
    · rw [e3 q c (by omega)] at hv
      exact h.2 q _ _ (by omega) h2 hx hv
theorem Ins.done {rk : Nat → Int} {a i j : Nat} {ys : List Nat} (h : Ins rk a i j ys) (hij : j ≤ i) (hd : j = a ∨ ∃ x y, ys[j]? = some x ∧ ys[j - 1]? = some y ∧ rk y ≤ rk x) : Srt rk a (i + 1) ys := by
  intro p q x y h1 h2 h3 hx hy
  by_cases c0 : p = q
  · subst c0
    rw [hx] at hy; cases hy; exact Int.le_refl _
  · by_cases c1 : p = j
    · subst c1
      exact h.2 q x y (by omega) (by omega) hx hy
    · by_cases c2 : q = j
      · subst c2
        rcases hd with hd | ⟨u, v, hu, hv, huv⟩
        · omega
        · rw [hu] at hy
          cases hy
          by_cases c3 : p = q - 1
          · subst c3
            rw [hv] at hx
            cases hx
            exact huv
          · have := h.1 p (q - 1) x v h1 (by omega) (by omega) c1 (by omega) hx hv
            omega
      · exact h.1 p q x y h1 (by omega) (by omega) c1 c2 hx hy
end So
namespace Go.Proofs.Ythonpifdhjpbgaa
open Wd So Go.ChangeShapes Go.WideShapes Go.RowKit
set_option linter.unusedVariables false

def cmpV (x y : Nat) : Int := if lsB x y then -1 else if lsB y x then 1 else 0
theorem cmpV_lt (x y : Nat) : decide (cmpV x y < 0) = lsB x y := by
  unfold cmpV
  cases lsB x y
  · cases lsB y x <;> rfl
  · rfl

theorem compare_any (x y : Nat) (hx : x < 18446744073709551616) (hy : y < 18446744073709551616) (w : World) : Calls Try.prog 28 #[.float .f64 x, .float .f64 y] w fun e w' => e = .returned (.int .i64 (cmpV x y)) ∧ w = w' := by
  unfold cmpV
  cases h1 : lsB x y
  · cases h2 : lsB y x
    · go_enter Try.func28, Try.ntmps28
      go_wp2_with fail
      refine (less_any _ _ hx hy _).mono ?_
      rintro e w' ⟨rfl, rfl⟩
      go_wp2_with fail
      refine (less_any _ _ hy hx _).mono ?_
      rintro e w' ⟨rfl, rfl⟩
      go_wp2
      go_ret
      exact ⟨rfl, rfl⟩
    · go_enter Try.func28, Try.ntmps28
      go_wp2_with fail
      refine (less_any _ _ hx hy _).mono ?_
      rintro e w' ⟨rfl, rfl⟩
      go_wp2_with fail
      refine (less_any _ _ hy hx _).mono ?_
      rintro e w' ⟨rfl, rfl⟩
      go_wp2
      go_ret
      exact ⟨rfl, rfl⟩
  · go_enter Try.func28, Try.ntmps28
    go_wp2_with fail
    refine (less_any _ _ hx hy _).mono ?_
    rintro e w' ⟨rfl, rfl⟩
    go_wp2
    go_ret
    exact ⟨rfl, rfl⟩

def Words (xs : List Nat) : Prop := ∀ x ∈ xs, x < 18446744073709551616
theorem Words.at {xs : List Nat} (h : Words xs) {j x : Nat} (hx : xs[j]? = some x) : x < 18446744073709551616 := h x (List.mem_of_getElem? hx)
theorem Words.perm {xs ys : List Nat} (h : Words xs) (p : ys.Perm xs) : Words ys := fun x hx => h x (p.mem_iff.1 hx)

def OutRel (a b g : Nat) (xs : List Nat) (W : World) (iv : Value) (w : World) : Prop :=
  ∃ (i : Nat) (ys : List Nat), a + 1 ≤ i ∧ (i ≤ b ∨ i = a + 1) ∧ iv = .int .i64 i ∧ Shuf a b xs ys ∧ Srt rk a i ys ∧ FRow w g ys ∧ W.grownBy w (some g)
def InRel (a b g i : Nat) (xs : List Nat) (W : World) (jv : Value) (w : World) : Prop :=
  ∃ (j : Nat) (ys : List Nat), a ≤ j ∧ j ≤ i ∧ jv = .int .i64 j ∧ Shuf a b xs ys ∧ Ins rk a i j ys ∧ FRow w g ys ∧ W.grownBy w (some g)
def Sorted (a b g : Nat) (xs : List Nat) (W : World) (en : Ending) (w : World) : Prop :=
  en = .returned (.tuple #[]) ∧ ∃ ys, Shuf a b xs ys ∧ Srt rk a b ys ∧ FRow w g ys ∧ W.grownBy w (some g)

set_option maxHeartbeats 1000000 in
theorem insertion_any (a b g c : Nat) (xs : List Nat) (w : World) (hab : a ≤ b) (hb : b ≤ xs.length) (hlen : xs.length ≤ 1000) (hwd : Words xs) (hr : FRow w g xs) :
    Calls Try.prog 35 #[.slice (some ⟨g, 0, none⟩) xs.length c, .int .i64 a, .int .i64 b, .func (.func 28) #[] #[]] w (Sorted a b g xs w) := by
  have HR := Lib.hid hr; have HW := Lib.hid hwd; clear hr hwd
  go_enter Try.func35, Try.ntmps35
  go_wp2
  go_loopw [8] (fun i wr => OutRel a b g xs w i wr) (fun i _ => b - (intOf i).toNat)
  case atStart => exact ⟨a + 1, xs, Nat.le_refl _, .inr rfl, num_eq (by omega), Shuf.refl _ _ _, Srt.empty (Nat.le_refl _), HR.out, World.grownBy.refl w _⟩
  case round =>
    obtain ⟨i, ys, hi1, hi2, rfl, hsh, hso, hr, hg⟩ := hrel
    by_cases hlt : i < b
    · obtain ⟨wo, rfl⟩ : ∃ wo : World, wo = wr := ⟨_, rfl⟩
      have hins := Ins.start hso
      have HINS := Lib.hid hins
      clear hins hso
      go_wp2
      go_loopw [9] (fun j wr => InRel a b g i xs w j wr) (fun j _ => (intOf j).toNat)
      case atStart => exact ⟨i, ys, by omega, Nat.le_refl _, rfl, hsh, HINS.out, hr, hg⟩
      case round =>
        obtain ⟨j, zs, hj1, hj2, rfl, hsh2, hin, hr2, hg2⟩ := hrel
        have hzl := hsh2.len
        by_cases hja : a < j
        · obtain ⟨x, hx⟩ : ∃ x, zs[j]? = some x := ⟨_, List.getElem?_eq_getElem (by omega)⟩
          obtain ⟨y, hy⟩ : ∃ y, zs[j - 1]? = some y := ⟨_, List.getElem?_eq_getElem (by omega)⟩
          have hwx := (HW.out.perm hsh2.perm).at hx
          have hwy := (HW.out.perm hsh2.perm).at hy
          have cx := hr2.cell hx
          have cy := hr2.cell hy
          have fx := Cells.free hr2 j
          have fy := Cells.free hr2 (j - 1)
          have hdec := cmpV_lt x y
          have HX := Lib.hid hx; have HY := Lib.hid hy; have HZ := Lib.hid hzl
          clear hx hy hzl
          have j0 : decide ((a : Int) < (j : Int)) = true := decide_eq_true (by omega)
          have j00 : decide (a < j) = true := decide_eq_true hja
          have j1 : IntKind.i64.wrap ((j : Int) - 1) = (j : Int) - 1 := IntWalk.i64_in _ (by omega)
          have j2 : ((j : Int) - 1).toNat = j - 1 := by omega
          have j3 : (0 : Int) ≤ (j : Int) - 1 := by omega
          have j4 : (j : Int) - 1 < (xs.length : Int) := by omega
          have j5 : (j : Int) < (xs.length : Int) := by omega
          have j6 : (0 : Int) ≤ (j : Int) := by omega
          cases hc : lsB x y
          · rw [hc] at hdec
            have HC := Lib.hid hc; clear hc
            go_wp2
            go_quiet ((go_at_call 28; exact quiet_eq (compare_any x y hwx hwy _)))
            clear j1 j2
            go_wp2
            go_roundw
            case rel =>
              have hle : rk y ≤ rk x := by have := HC.out; unfold lsB at this; have := of_decide_eq_false this; omega
              exact ⟨i + 1, zs, by omega, .inl (by omega), by go_num, hsh2, Ins.done hin hj2 (.inr ⟨x, y, HX.out, HY.out, hle⟩), hr2.drewN _, grown_drewN hg2 _⟩
            case measure => simp [intOf]; omega
          · rw [hc] at hdec
            have HC := Lib.hid hc; clear hc
            go_wp2
            go_quiet ((go_at_call 28; exact quiet_eq (compare_any x y hwx hwy _)))
            have hl : rk x < rk y := by have := HC.out; unfold lsB at this; exact of_decide_eq_true this
            have hst := Ins.step hin hja hj2 HX.out HY.out hl
            have hsh3 := hsh2.trans (shuf_swap HX.out HY.out (a := a) (b := b) (by omega) (by omega) (by omega) (by omega))
            have HST := Lib.hid hst; have HS3 := Lib.hid hsh3; have HL := Lib.hid hl
            clear hst hsh3 hl
            have n1 : j ≠ j - 1 := by omega
            have n2 : j - 1 ≠ j := by omega
            go_wp2
            go_big_region
            all_goals
              clear j1 j2
              go_wp2
              go_roundw
              case rel => exact ⟨j - 1, _, by omega, by omega, num_eq (by omega), HS3.out, HST.out, ((hr2.set j y).set (j - 1) x).drewN _, grown_drewN (grown_set (grown_set hg2 _ _) _ _) _⟩
              case measure => simp [intOf]; omega
        · obtain rfl : j = a := by omega
          have j0 : decide ((j : Int) < (j : Int)) = false := by simp
          go_wp2
          go_quiet (fail)
          go_wp2
          go_roundw
          case rel => exact ⟨i + 1, zs, by omega, .inl (by omega), by go_num, hsh2, Ins.done hin hj2 (.inl rfl), hr2.drewN _, grown_drewN hg2 _⟩
          case measure => simp [intOf]; omega
    · go_wp2
      go_end0
      exact ⟨rfl, ys, hsh, hso.mono (Nat.le_refl _) (by omega), hr, hg⟩
end Go.Proofs.Ythonpifdhjpbgaa
