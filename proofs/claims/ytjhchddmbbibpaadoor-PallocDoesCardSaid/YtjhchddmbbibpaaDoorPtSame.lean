import Derived.Test.YtjhchddmbbibpaaDoorPtHas
import Derived.BigQuiet
namespace Go.Proofs.YtjhchddmbbibpaaDoor
open Wd Pa Go.ChangeShapes Go.WideShapes Go.RowKit Go.Sort
set_option linter.unusedVariables false
def TrueD (w : World) (e : Ending) (w' : World) : Prop := ∃ n, e = .returned (.bool true) ∧ w' = w.drewN n
def CountRel (n : Nat) (W : World) (i : Value) (w : World) : Prop := ∃ k d : Nat, k ≤ n ∧ i = .int .i64 k ∧ w = W.drewN d
set_option maxHeartbeats 400000 in
/-- one list and the same -/
theorem same_is (cs : List Nat) (n : Nat) (hL : cs.length = n) (hn : n ≤ 1048576) (A C : Option Addr) (c d B : Nat) (w : World) (hx : Row w B A n (cs.map iv)) (hy : Row w B C n (cs.map iv)) :
    Calls Tryd.prog 17 #[.slice A n c, .slice C n d] w (TrueD w) := by
  have HX := Lib.hid hx; have HY := Lib.hid hy; have HL := Lib.hid hL
  clear hx hy hL
  go_enter Tryd.func17, Tryd.ntmps17
  go_wp2
  go_loopw [13] (fun i wr => CountRel n w i wr) (fun i _ => n - (intOf i).toNat)
  case atStart => exact ⟨0, 0, Nat.zero_le _, rfl, rfl⟩
  case round =>
    obtain ⟨k, q, hk, rfl, rfl⟩ := hrel
    by_cases hlt : k < n
    · obtain ⟨b1, o1, x, rfl, _, gx, cx⟩ := HX.out.get hlt
      obtain ⟨b2, o2, y, rfl, _, gy, cy⟩ := HY.out.get hlt
      obtain rfl : x = y := by rw [gx] at gy; exact Option.some.inj gy
      clear gx gy
      unfold iv at cx cy
      go_wp2
      go_quiet (fail)
      go_wp2
      go_roundw
      case rel => exact ⟨k + 1, q + nq, by omega, by go_num, rfl⟩
      case measure => simp [intOf]; omega
    · obtain rfl : k = n := by omega
      go_wp2
      go_ret
      exact ⟨q, rfl, rfl⟩
end Go.Proofs.YtjhchddmbbibpaaDoor
