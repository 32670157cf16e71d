import Derived.Test.YthonpifdhjpbgaaMtMath
import Derived.Test.YthonpifdhjpbgaaSoIns
import Derived.Test.YthonpifdhjpbgaaFlSame
import Derived.Test.YthonpifdhjpbgaaWd
import Derived.Outline
import Derived.BigQuiet
namespace Go.Proofs.Ythonpifdhjpbgaa
open Wd Go.ChangeShapes Go.WideShapes Go.RowKit
set_option linter.unusedVariables false

/-- some float of this value, behind draws -/
def FloatD (o : Option Nat) (w : World) (e : Ending) (w' : World) : Prop := ∃ r n, e = .returned (.float .f64 r) ∧ r < 18446744073709551616 ∧ Fl.cv r = o ∧ w' = w.drewN n

def SumRel (l : List Nat) (W : World) (i s : Value) (w : World) : Prop :=
  ∃ k x n : Nat, k ≤ l.length ∧ i = .int .i64 k ∧ s = .float .f64 x ∧ x < 18446744073709551616 ∧ Fl.cv x = Fl.sumO (l.take k) ∧ w = W.drewN n

set_option maxHeartbeats 400000 in
theorem sum_any (l : List Nat) (A : Option Addr) (c : Nat) (w : World) (hn : l.length ≤ 1000) (hr : Row w w.heap.size A l.length (l.map (Value.float .f64))) :
    Calls Try.prog 13 #[.slice A l.length c] w (FloatD (Fl.sumO l) w) := by
  have HL := Lib.hid hr; clear hr
  go_enter Try.func13, Try.ntmps13
  go_wp2
  go_loopw [8, 3] (fun i s wr => SumRel l w i s wr) (fun i _ _ => l.length - (intOf i).toNat)
  case atStart => exact ⟨0, 0, 0, Nat.zero_le _, rfl, rfl, by omega, by rw [List.take_zero]; exact Fl.cv_zero, rfl⟩
  case round =>
    obtain ⟨k, x, n, hk, rfl, rfl, hx, hc, rfl⟩ := hrel
    have HC := Lib.hid hc; clear hc
    by_cases hlt : k < l.length
    · obtain ⟨b, off, y, rfl, hb, hy, cy⟩ := (HL.out.drewN n).get hlt
      have ht := take_one hy
      obtain ⟨r, m, e1, h1, c1⟩ := arith_dv Try.prog .add _ 26 x y (w.drewN n) (.inr ⟨rfl, rfl⟩)
      have HT := Lib.hid ht; have C1 := Lib.hid c1; clear ht c1 hy
      go_wp2
      go_roundw
      case rel => exact ⟨k + 1, r, n + m, by omega, by go_num, rfl, h1, by rw [C1.out, HT.out, Fl.sumO_snoc, HC.out], rfl⟩
      case measure => simp [intOf]; omega
    · obtain rfl : k = l.length := by omega
      go_wp2
      go_ret
      exact ⟨x, n, rfl, hx, by rw [HC.out, List.take_length], rfl⟩

set_option maxHeartbeats 400000 in
theorem refSum_any (l : List Nat) (A : Option Addr) (c : Nat) (w : World) (hn : l.length ≤ 1000) (hr : Row w w.heap.size A l.length (l.map (Value.float .f64))) :
    Calls Try.prog 14 #[.slice A l.length c] w (FloatD (Fl.sumO l) w) := by
  have HL := Lib.hid hr; clear hr
  go_enter Try.func14, Try.ntmps14
  go_wp2
  go_loopw [8, 3] (fun i s wr => SumRel l w i s wr) (fun i _ _ => l.length - (intOf i).toNat)
  case atStart => exact ⟨0, 0, 0, Nat.zero_le _, rfl, rfl, by omega, by rw [List.take_zero]; exact Fl.cv_zero, rfl⟩
  case round =>
    obtain ⟨k, x, n, hk, rfl, rfl, hx, hc, rfl⟩ := hrel
    have HC := Lib.hid hc; clear hc
    by_cases hlt : k < l.length
    · obtain ⟨b, off, y, rfl, hb, hy, cy⟩ := (HL.out.drewN n).get hlt
      have ht := take_one hy
      obtain ⟨r, m, e1, h1, c1⟩ := arith_dv Try.prog .add _ 26 x y (w.drewN n) (.inr ⟨rfl, rfl⟩)
      have HT := Lib.hid ht; have C1 := Lib.hid c1; clear ht c1 hy
      go_wp2
      go_roundw
      case rel => exact ⟨k + 1, r, n + m, by omega, by go_num, rfl, h1, by rw [C1.out, HT.out, Fl.sumO_snoc, HC.out], rfl⟩
      case measure => simp [intOf]; omega
    · obtain rfl : k = l.length := by omega
      go_wp2
      go_ret
      exact ⟨x, n, rfl, hx, by rw [HC.out, List.take_length], rfl⟩

/-- how many are below -/
def rankN (l : List Nat) (x : Nat) : Nat := (l.filter (fun y => lsB y x)).length
theorem rankN_snoc (l : List Nat) (x y : Nat) : rankN (l ++ [y]) x = rankN l x + if lsB y x then 1 else 0 := by
  unfold rankN
  rw [List.filter_append, List.length_append]
  congr 1
  cases h : lsB y x <;> simp [h]
theorem rankN_le (l : List Nat) (x : Nat) : rankN l x ≤ l.length := List.length_filter_le _ _
def RankRel (l : List Nat) (x : Nat) (W : World) (i s : Value) (w : World) : Prop := ∃ k c : Nat, k ≤ l.length ∧ i = .int .i64 k ∧ s = .int .i64 c ∧ c = rankN (l.take k) x ∧ w = W

set_option maxHeartbeats 400000 in
theorem rank_any (l : List Nat) (x : Nat) (A : Option Addr) (c : Nat) (w : World) (hn : l.length ≤ 1000) (hx : x < 18446744073709551616) (hw : Words l) (hr : Row w w.heap.size A l.length (l.map (Value.float .f64))) :
    Calls Try.prog 21 #[.slice A l.length c, .float .f64 x] w fun e w' => e = .returned (.int .i64 (rankN l x)) ∧ w = w' := by
  have HL := Lib.hid hr; have HW := Lib.hid hw; clear hr hw
  go_enter Try.func21, Try.ntmps21
  go_wp2
  go_loopw [10, 5] (fun i s wr => RankRel l x w i s wr) (fun i _ _ => l.length - (intOf i).toNat)
  case atStart => exact ⟨0, 0, Nat.zero_le _, rfl, rfl, rfl, rfl⟩
  case round =>
    obtain ⟨k, d, hk, rfl, rfl, hd, rfl⟩ := hrel
    have hdl : d ≤ 1000 := by have := rankN_le (l.take k) x; rw [List.length_take] at this; omega
    have HD := Lib.hid hd; clear hd
    by_cases hlt : k < l.length
    · obtain ⟨b, off, y, rfl, hb, hy, cy⟩ := HL.out.get hlt
      have ht := take_one hy
      have hwy := HW.out.at hy
      have hs := rankN_snoc (l.take k) x y
      rw [← ht] at hs
      clear ht hy
      cases hl : lsB y x
      · rw [hl] at hs
        have HS := Lib.hid hs; clear hs
        go_wp2_with (go_at_call 22; refine (less_any y x hwy hx _).mono ?_; rintro e w' ⟨rfl, rfl⟩)
        go_roundw
        case rel => exact ⟨k + 1, d, by omega, by go_num, rfl, by rw [HS.out, HD.out]; rfl, rfl⟩
        case measure => simp [intOf]; omega
      · rw [hl] at hs
        have HS := Lib.hid hs; clear hs
        go_wp2_with (go_at_call 22; refine (less_any y x hwy hx _).mono ?_; rintro e w' ⟨rfl, rfl⟩)
        go_roundw
        case rel => exact ⟨k + 1, d + 1, by omega, by go_num, by go_num, by rw [HS.out, HD.out]; rfl, rfl⟩
        case measure => simp [intOf]; omega
    · obtain rfl : k = l.length := by omega
      have h := HD.out
      rw [List.take_length] at h
      have H := Lib.hid h; clear h
      go_wp2
      go_ret
      exact ⟨by rw [← H.out]; rfl, rfl⟩

theorem few3 (A : Option Addr) (n c : Nat) (b : Bool) (h : decide ((n : Int) ≤ 40) = b) (w : World) : Calls Try.prog 7 #[.slice A n c] w fun e w' => e = .returned (.bool b) ∧ w = w' := by
  subst h
  go_enter Try.func7, Try.ntmps7
  go_wp2
  go_ret
  exact ⟨rfl, rfl⟩
end Go.Proofs.Ythonpifdhjpbgaa
