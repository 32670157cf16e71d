import Derived.Test.YthonpifdhjpbgaaSoOne
namespace Go.Proofs.Ythonpifdhjpbgaa
open Wd So Go.ChangeShapes Go.WideShapes Go.RowKit
set_option linter.unusedVariables false

def FindL (a m p : Nat) (xs : List Nat) (W : World) (iv jv : Value) (w : World) : Prop :=
  ∃ i j n : Nat, a ≤ i ∧ i ≤ j ∧ j ≤ m ∧ iv = .int .i64 i ∧ jv = .int .i64 j ∧ (∀ t x, a ≤ t → t < i → xs[t]? = some x → rk x ≤ rk p) ∧ (∀ t x, j ≤ t → t < m → xs[t]? = some x → rk p < rk x) ∧ w = W.drewN n
def MoveL (a m i b g : Nat) (xs : List Nat) (W : World) (kv : Value) (w : World) : Prop :=
  ∃ (k : Nat) (ys : List Nat), i ≤ k ∧ k ≤ m ∧ kv = .int .i64 k ∧ MovL a m k b xs ys ∧ FRow w g ys ∧ W.grownBy w (some g)

set_option maxRecDepth 100000 in
set_option maxHeartbeats 2000000 in
theorem mergeLast_any (a m g c : Nat) (xs : List Nat) (w : World) (ham : a + 1 < m) (hb : m + 1 ≤ xs.length) (hlen : xs.length ≤ 1000) (hwd : Words xs) (hs : Srt rk a m xs) (hr : FRow w g xs) :
    Calls Try.prog 36 #[.slice (some ⟨g, 0, none⟩) xs.length c, .int .i64 a, .int .i64 m, .int .i64 ((m + 1 : Nat) : Int), .func (.func 28) #[] #[]] w (Sorted a (m + 1) g xs w) := by
  obtain ⟨p, hp⟩ : ∃ p, xs[m]? = some p := ⟨_, List.getElem?_eq_getElem (by omega)⟩
  have hwp := hwd.at hp
  have hcp := hr.cell hp
  have HR := Lib.hid hr; have HW := Lib.hid hwd; have HS := Lib.hid hs; have HP := Lib.hid hp
  clear hr hwd hs hp
  generalize hm : m + 1 = b
  have hone : ((b : Int) - (m : Int) == 1) = true := by rw [← hm]; simp; omega
  have htwo : ((m : Int) - (a : Int) == 1) = false := by simp; omega
  have m1 : b ≤ m + 1 := by omega
  have m2 : m + 1 ≤ b := by omega
  have HM := Lib.hid hm; clear hm
  go_enter Try.func36, Try.ntmps36
  go_wp2
  go_loopw [14, 15] (fun i j wr => FindL a m p xs w i j wr) (fun i j _ => (intOf j).toNat - (intOf i).toNat)
  case atStart => exact ⟨a, m, 0, Nat.le_refl _, by omega, Nat.le_refl _, rfl, rfl, fun t x h1 h2 => by omega, fun t x h1 h2 => by omega, rfl⟩
  case round =>
    obtain ⟨i, j, n, hi, hij, hj, rfl, rfl, hlo, hhi, rfl⟩ := hrel
    have HLO := Lib.hid hlo; have HHI := Lib.hid hhi
    clear hlo hhi
    by_cases hlt : i < j
    · obtain ⟨h, hh1, hh2⟩ : ∃ h : Nat, h = (i + j) / 2 ∧ ((i : Int) + (j : Int)) / 2 = (h : Int) := ⟨(i + j) / 2, rfl, by omega⟩
      have b1 : i ≤ h := by omega
      have b2 : h < j := by omega
      obtain ⟨x, hx⟩ : ∃ x, xs[h]? = some x := ⟨_, List.getElem?_eq_getElem (by omega)⟩
      have hwx := HW.out.at hx
      have cx := HR.out.cell hx
      have hdec := cmpV_lt p x
      have HX := Lib.hid hx
      have HH := Lib.hid hh1
      clear hx hh1
      have j3 : (0 : Int) ≤ (h : Int) := by omega
      have j5 : (h : Int) < (xs.length : Int) := by omega
      have j6 : (0 : Int) ≤ (m : Int) := by omega
      have j7 : (m : Int) < (xs.length : Int) := by omega
      cases hc : lsB p x
      · rw [hc] at hdec
        have hle : rk x ≤ rk p := by unfold lsB at hc; have := of_decide_eq_false hc; omega
        have HLE := Lib.hid hle
        clear hc hle
        go_wp2
        go_quiet ((go_at_call 28; exact quiet_eq2 (compare_any p x hwp hwx _)))
        go_wp2
        go_roundw
        case rel =>
          refine ⟨h + 1, j, _, by omega, by omega, hj, by go_num, rfl, fun t y h1 h2 hy => ?_, HHI.out, by first | exact drawn2 _ _ _ | rfl⟩
          have := HS.out t h y x h1 (by omega) (by omega) hy HX.out
          have := HLE.out
          omega
        case measure => simp [intOf]; omega
      · rw [hc] at hdec
        have hle : rk p < rk x := by unfold lsB at hc; exact of_decide_eq_true hc
        have HLE := Lib.hid hle
        clear hc hle
        go_wp2
        go_quiet ((go_at_call 28; exact quiet_eq2 (compare_any p x hwp hwx _)))
        go_wp2
        go_roundw
        case rel =>
          refine ⟨i, h, _, hi, b1, by omega, rfl, rfl, HLO.out, fun t y h1 h2 hy => ?_, by first | exact drawn2 _ _ _ | rfl⟩
          have := HS.out h t x y (by omega) h1 h2 HX.out hy
          have := HLE.out
          omega
        case measure => simp [intOf]; omega
    · obtain rfl : i = j := by omega
      go_wp2
      go_loopw [17] (fun k wr => MoveL a m i b g xs w k wr) (fun k _ => (intOf k).toNat)
      case atStart => exact ⟨m, xs, by omega, Nat.le_refl _, rfl, MovL.start a m b xs, HR.out.drewN n, grown_drewN (World.grownBy.refl w _) n⟩
      case round =>
        obtain ⟨k, ys, hk1, hk2, rfl, hmv, hr2, hg2⟩ := hrel
        have hyl := hmv.shuf.len
        by_cases hki : i < k
        · obtain ⟨x, hx⟩ : ∃ x, ys[k]? = some x := ⟨_, List.getElem?_eq_getElem (by omega)⟩
          obtain ⟨y, hy⟩ : ∃ y, ys[k - 1]? = some y := ⟨_, List.getElem?_eq_getElem (by omega)⟩
          have cx := hr2.cell hx
          have cy := hr2.cell hy
          have fx := Cells.free hr2 k
          have fy := Cells.free hr2 (k - 1)
          have hst := hmv.step (by omega) hk2 (by omega) hx hy
          have HST := Lib.hid hst; have HYL := Lib.hid hyl
          clear hst hx hy hyl
          have n1 : k ≠ k - 1 := by omega
          have n2 : k - 1 ≠ k := by omega
          have i1 : (0 : Int) ≤ (k : Int) - 1 := by omega
          have i2 : (k : Int) - 1 < (xs.length : Int) := by omega
          have i3 : (k : Int) < (xs.length : Int) := by omega
          have i4 : (0 : Int) ≤ (k : Int) := by omega
          go_wp2
          have j1 : IntKind.i64.wrap ((k : Int) - 1) = (k : Int) - 1 := IntWalk.i64_in _ (by omega)
          have j2 : ((k : Int) - 1).toNat = k - 1 := by omega
          go_big_region
          all_goals
            clear j1 j2
            go_wp2
            go_roundw
            case rel => exact ⟨k - 1, _, by omega, by omega, num_eq (by omega), HST.out, ((hr2.set k y).set (k - 1) x).drew, grown_drew (grown_set (grown_set hg2 _ _) _ _)⟩
            case measure => simp [intOf]; omega
        · obtain rfl : k = i := by omega
          have HYL := Lib.hid hyl
          clear hyl
          have hso : Srt rk a b ys := by
            have hh := HM.out
            have hmv' := hmv
            rw [← hh] at hmv'
            rw [← hh]
            exact hmv'.done hi hk2 HS.out HP.out HLO.out HHI.out
          have HSO := Lib.hid hso; clear hso
          go_wp2
          go_end0
          exact ⟨rfl, ys, hmv.shuf, HSO.out, hr2, hg2⟩
end Go.Proofs.Ythonpifdhjpbgaa
