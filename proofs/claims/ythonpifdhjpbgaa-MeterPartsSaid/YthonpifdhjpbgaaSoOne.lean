import Derived.Test.YthonpifdhjpbgaaSoIns
import Derived.Test.YthonpifdhjpbgaaSoRotate
namespace So

/-- what stood at a stands at k now, what stood between has gone one place down -/
structure MovR (a k b : Nat) (xs ys : List Nat) : Prop where
  shuf : Shuf a b xs ys
  lo : ∀ t, a ≤ t → t < k → ys[t]? = xs[t + 1]?
  mid : ys[k]? = xs[a]?
  hi : ∀ t, k < t → ys[t]? = xs[t]?
theorem MovR.start (a b : Nat) (xs : List Nat) : MovR a a b xs xs := ⟨Shuf.refl _ _ _, fun t h1 h2 => by omega, rfl, fun _ _ => rfl⟩
theorem MovR.step {a k b x y : Nat} {xs ys : List Nat} (h : MovR a k b xs ys) (hk : a ≤ k) (hb : k + 1 < b) (hx : ys[k]? = some x) (hy : ys[k + 1]? = some y) : MovR a (k + 1) b xs ((ys.set k y).set (k + 1) x) := by
  obtain ⟨lx, _⟩ := List.getElem?_eq_some_iff.1 hx
  obtain ⟨ly, _⟩ := List.getElem?_eq_some_iff.1 hy
  refine ⟨h.shuf.trans (shuf_swap hx hy (by omega) (by omega) (by omega) hb), fun t h1 h2 => ?_, ?_, fun t h1 => ?_⟩
  · by_cases c : t = k
    · subst c
      rw [List.getElem?_set_ne (by omega), List.getElem?_set_self lx, ← hy, h.hi (t + 1) (by omega)]
    · rw [List.getElem?_set_ne (by omega), List.getElem?_set_ne (by omega)]
      exact h.lo t h1 (by omega)
  · rw [List.getElem?_set_self (by rw [List.length_set]; exact ly), ← hx, h.mid]
  · rw [List.getElem?_set_ne (by omega), List.getElem?_set_ne (by omega)]
    exact h.hi t (by omega)
theorem MovR.done {rk : Nat → Int} {a i b p : Nat} {xs ys : List Nat} (h : MovR a (i - 1) b xs ys) (hi : a + 1 ≤ i) (hib : i ≤ b) (hs : Srt rk (a + 1) b xs) (hp : xs[a]? = some p)
    (h1 : ∀ t x, a + 1 ≤ t → t < i → xs[t]? = some x → rk x < rk p) (h2 : ∀ t x, i ≤ t → t < b → xs[t]? = some x → rk p ≤ rk x) : Srt rk a b ys := by
  intro u v x y q1 q2 q3 hx hy
  by_cases c0 : u = v
  · subst c0; rw [hx] at hy; cases hy; exact Int.le_refl _
  · by_cases c1 : v < i - 1
    · rw [h.lo u q1 (by omega)] at hx
      rw [h.lo v (by omega) c1] at hy
      exact hs (u + 1) (v + 1) x y (by omega) (by omega) (by omega) hx hy
    · by_cases c2 : v = i - 1
      · subst c2
        rw [h.lo u q1 (by omega)] at hx
        rw [h.mid, hp] at hy
        cases hy
        have := h1 (u + 1) x (by omega) (by omega) hx
        omega
      · rw [h.hi v (by omega)] at hy
        by_cases c3 : u < i - 1
        · rw [h.lo u q1 c3] at hx
          exact hs (u + 1) v x y (by omega) (by omega) q3 hx hy
        · by_cases c4 : u = i - 1
          · subst c4
            rw [h.mid, hp] at hx
            cases hx
            exact h2 v y (by omega) q3 hy
          · rw [h.hi u (by omega)] at hx
            exact hs u v x y (by omega) q2 q3 hx hy

/-- what stood at m stands at k now, what stood between has gone one place up -/
structure MovL (a m k b : Nat) (xs ys : List Nat) : Prop where
  shuf : Shuf a b xs ys
  lo : ∀ t, t < k → ys[t]? = xs[t]?
  mid : ys[k]? = xs[m]?
  hi : ∀ t, k < t → t ≤ m → ys[t]? = xs[t - 1]?
theorem MovL.start (a m b : Nat) (xs : List Nat) : MovL a m m b xs xs := ⟨Shuf.refl _ _ _, fun _ _ => rfl, rfl, fun t h1 h2 => by omega⟩
theorem MovL.step {a m k b x y : Nat} {xs ys : List Nat} (h : MovL a m k b xs ys) (hk : a < k) (hkm : k ≤ m) (hb : m < b) (hx : ys[k]? = some x) (hy : ys[k - 1]? = some y) : MovL a m (k - 1) b xs ((ys.set k y).set (k - 1) x) := by
  obtain ⟨lx, _⟩ := List.getElem?_eq_some_iff.1 hx
  obtain ⟨ly, _⟩ := List.getElem?_eq_some_iff.1 hy
  refine ⟨h.shuf.trans (shuf_swap hx hy (by omega) (by omega) (by omega) (by omega)), fun t h1 => ?_, ?_, fun t h1 h2 => ?_⟩
  · rw [List.getElem?_set_ne (by omega), List.getElem?_set_ne (by omega)]
    exact h.lo t (by omega)
  · rw [List.getElem?_set_self (by rw [List.length_set]; exact ly), ← hx, h.mid]
  · by_cases c : t = k
    · subst c
      rw [List.getElem?_set_ne (by omega), List.getElem?_set_self lx, ← hy, h.lo (t - 1) (by omega)]
    · rw [List.getElem?_set_ne (by omega), List.getElem?_set_ne (by omega)]
      exact h.hi t (by omega) h2
theorem MovL.done {rk : Nat → Int} {a m i p : Nat} {xs ys : List Nat} (h : MovL a m i (m + 1) xs ys) (ha : a ≤ i) (hi : i ≤ m) (hs : Srt rk a m xs) (hp : xs[m]? = some p)
    (h1 : ∀ t x, a ≤ t → t < i → xs[t]? = some x → rk x ≤ rk p) (h2 : ∀ t x, i ≤ t → t < m → xs[t]? = some x → rk p < rk x) : Srt rk a (m + 1) ys := by
  intro u v x y q1 q2 q3 hx hy
  by_cases c0 : u = v
  · subst c0; rw [hx] at hy; cases hy; exact Int.le_refl _
  · by_cases c1 : v < i
    · rw [h.lo u (by omega)] at hx
      rw [h.lo v c1] at hy
      exact hs u v x y q1 q2 (by omega) hx hy
    · by_cases c2 : v = i
      · subst c2
        rw [h.lo u (by omega)] at hx
        rw [h.mid, hp] at hy
        cases hy
        exact h1 u x q1 (by omega) hx
      · rw [h.hi v (by omega) (by omega)] at hy
        by_cases c3 : u < i
        · rw [h.lo u c3] at hx
          exact hs u (v - 1) x y q1 (by omega) (by omega) hx hy
        · by_cases c4 : u = i
          · subst c4
            rw [h.mid, hp] at hx
            cases hx
            have := h2 (v - 1) y (by omega) (by omega) hy
            omega
          · rw [h.hi u (by omega) (by omega)] at hx
            exact hs (u - 1) (v - 1) x y (by omega) (by omega) (by omega) hx hy
end So
namespace Go.Proofs.Ythonpifdhjpbgaa
open Wd So Go.ChangeShapes Go.WideShapes Go.RowKit
set_option linter.unusedVariables false

theorem drawn2 (w : World) (n m : Nat) : (w.drewN n).drewN m = w.drewN (n + m) := by rw [World.drewN_drewN]

def FindR (a m b p : Nat) (xs : List Nat) (W : World) (iv jv : Value) (w : World) : Prop :=
  ∃ i j n : Nat, m ≤ i ∧ i ≤ j ∧ j ≤ b ∧ iv = .int .i64 i ∧ jv = .int .i64 j ∧ (∀ t x, m ≤ t → t < i → xs[t]? = some x → rk x < rk p) ∧ (∀ t x, j ≤ t → t < b → xs[t]? = some x → rk p ≤ rk x) ∧ w = W.drewN n
def MoveR (a i b g : Nat) (xs : List Nat) (W : World) (kv : Value) (w : World) : Prop :=
  ∃ (k : Nat) (ys : List Nat), a ≤ k ∧ k ≤ i - 1 ∧ kv = .int .i64 k ∧ MovR a k b xs ys ∧ FRow w g ys ∧ W.grownBy w (some g)

set_option maxRecDepth 100000 in
set_option maxHeartbeats 2000000 in
theorem mergeOne_any (a b g c : Nat) (xs : List Nat) (w : World) (hab : a + 1 < b) (hb : b ≤ xs.length) (hlen : xs.length ≤ 1000) (hwd : Words xs) (hs : Srt rk (a + 1) b xs) (hr : FRow w g xs) :
    Calls Try.prog 36 #[.slice (some ⟨g, 0, none⟩) xs.length c, .int .i64 a, .int .i64 ((a + 1 : Nat) : Int), .int .i64 b, .func (.func 28) #[] #[]] w (Sorted a b g xs w) := by
  obtain ⟨p, hp⟩ : ∃ p, xs[a]? = some p := ⟨_, List.getElem?_eq_getElem (by omega)⟩
  have hwp := hwd.at hp
  have hcp := hr.cell hp
  have HR := Lib.hid hr; have HW := Lib.hid hwd; have HS := Lib.hid hs; have HP := Lib.hid hp
  clear hr hwd hs hp
  generalize hm : a + 1 = m
  have hone : (((m : Nat) : Int) - (a : Int) == 1) = true := by rw [← hm]; simp; omega
  have m1 : m ≤ a + 1 := by omega
  have m2 : a + 1 ≤ m := by omega
  have HM := Lib.hid hm; clear hm
  go_enter Try.func36, Try.ntmps36
  go_wp2
  go_loopw [10, 11] (fun i j wr => FindR a m b p xs w i j wr) (fun i j _ => (intOf j).toNat - (intOf i).toNat)
  case atStart => exact ⟨m, b, 0, Nat.le_refl _, by omega, Nat.le_refl _, rfl, rfl, fun t x h1 h2 => by omega, fun t x h1 h2 => by omega, rfl⟩
  case round =>
    obtain ⟨i, j, n, hi, hij, hj, rfl, rfl, hlo, hhi, rfl⟩ := hrel
    have HLO := Lib.hid hlo; have HHI := Lib.hid hhi
    clear hlo hhi
    by_cases hlt : i < j
    · obtain ⟨h, hh1, hh2⟩ : ∃ h : Nat, h = (i + j) / 2 ∧ ((i : Int) + (j : Int)) / 2 = (h : Int) := ⟨(i + j) / 2, rfl, by omega⟩
      have b1 : i ≤ h := by omega
      have b2 : h < j := by omega
      obtain ⟨x, hx⟩ : ∃ x, xs[h]? = some x := ⟨_, List.getElem?_eq_getElem (by omega)⟩
      have hwx := HW.out.at hx
      have cx := HR.out.cell hx
      have hdec := cmpV_lt x p
      have HX := Lib.hid hx
      have HH := Lib.hid hh1
      clear hx hh1
      have j3 : (0 : Int) ≤ (h : Int) := by omega
      have j5 : (h : Int) < (xs.length : Int) := by omega
      have j6 : (0 : Int) ≤ (a : Int) := by omega
      have j7 : (a : Int) < (xs.length : Int) := by omega
      cases hc : lsB x p
      · rw [hc] at hdec
        have hle : rk p ≤ rk x := by unfold lsB at hc; have := of_decide_eq_false hc; omega
        have HLE := Lib.hid hle
        clear hc hle
        go_wp2
        go_quiet ((go_at_call 28; exact quiet_eq2 (compare_any x p hwx hwp _)))
        go_wp2
        go_roundw
        case rel =>
          refine ⟨i, h, _, hi, b1, by omega, rfl, rfl, HLO.out, fun t y h1 h2 hy => ?_, by first | exact drawn2 _ _ _ | rfl⟩
          have := HS.out h t x y (by omega) h1 h2 HX.out hy
          have := HLE.out
          omega
        case measure => simp [intOf]; omega
      · rw [hc] at hdec
        have hle : rk x < rk p := by unfold lsB at hc; exact of_decide_eq_true hc
        have HLE := Lib.hid hle
        clear hc hle
        go_wp2
        go_quiet ((go_at_call 28; exact quiet_eq2 (compare_any x p hwx hwp _)))
        go_wp2
        go_roundw
        case rel =>
          refine ⟨h + 1, j, _, by omega, by omega, hj, by go_num, rfl, fun t y h1 h2 hy => ?_, HHI.out, by first | exact drawn2 _ _ _ | rfl⟩
          have := HS.out t h y x (by omega) (by omega) (by omega) hy HX.out
          have := HLE.out
          omega
        case measure => simp [intOf]; omega
    · obtain rfl : i = j := by omega
      have hmi : m ≤ i := hi
      go_wp2
      go_loopw [13] (fun k wr => MoveR a i b g xs w k wr) (fun k _ => i - (intOf k).toNat)
      case atStart => exact ⟨a, xs, Nat.le_refl _, by omega, rfl, MovR.start a b xs, HR.out.drewN n, grown_drewN (World.grownBy.refl w _) n⟩
      case round =>
        obtain ⟨k, ys, hk1, hk2, rfl, hmv, hr2, hg2⟩ := hrel
        have hyl := hmv.shuf.len
        by_cases hki : k < i - 1
        · obtain ⟨x, hx⟩ : ∃ x, ys[k]? = some x := ⟨_, List.getElem?_eq_getElem (by omega)⟩
          obtain ⟨y, hy⟩ : ∃ y, ys[k + 1]? = some y := ⟨_, List.getElem?_eq_getElem (by omega)⟩
          have cx := hr2.cell hx
          have cy := hr2.cell hy
          have fx := Cells.free hr2 k
          have fy := Cells.free hr2 (k + 1)
          have hst := hmv.step hk1 (by omega) hx hy
          have HST := Lib.hid hst; have HYL := Lib.hid hyl
          clear hst hx hy hyl
          have n1 : k ≠ k + 1 := by omega
          have n2 : k + 1 ≠ k := by omega
          have i1 : (0 : Int) ≤ (k : Int) + 1 := by omega
          have i2 : (k : Int) + 1 < (xs.length : Int) := by omega
          have i3 : (k : Int) < (xs.length : Int) := by omega
          have i4 : (0 : Int) ≤ (k : Int) := by omega
          have t1 : decide ((k : Int) < (i : Int) - 1) = true := decide_eq_true (by omega)
          go_wp2
          have j1 : IntKind.i64.wrap ((k : Int) + 1) = (k : Int) + 1 := IntWalk.i64_in _ (by omega)
          have j2 : ((k : Int) + 1).toNat = k + 1 := by omega
          go_big_region
          all_goals
            clear j1 j2
            go_wp2
            go_roundw
            case rel => exact ⟨k + 1, _, by omega, by omega, by go_num, HST.out, ((hr2.set k y).set (k + 1) x).drew, grown_drew (grown_set (grown_set hg2 _ _) _ _)⟩
            case measure => simp [intOf]; omega
        · obtain rfl : k = i - 1 := by omega
          have t1 : decide (((i - 1 : Nat) : Int) < (i : Int) - 1) = false := decide_eq_false (by omega)
          have HYL := Lib.hid hyl
          clear hyl
          have hso : Srt rk a b ys := by
            have hh := HM.out
            refine hmv.done (by omega) hj HS.out HP.out (fun t x h1 h2 hx => HLO.out t x (by omega) h2 hx) HHI.out
          have HSO := Lib.hid hso; clear hso
          go_wp2
          go_end0
          exact ⟨rfl, ys, hmv.shuf, HSO.out, hr2, hg2⟩
end Go.Proofs.Ythonpifdhjpbgaa
