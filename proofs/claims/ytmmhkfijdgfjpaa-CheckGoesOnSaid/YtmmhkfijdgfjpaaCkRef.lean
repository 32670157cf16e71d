import Derived.Test.YtmmhkfijdgfjpaaU64
import Derived.Laws.Bits64
import Derived.IntWalk
namespace Go.Proofs.Ytmmhkfijdgfjpaa
open Wd U Go.ChangeShapes Go.WideShapes Go.RowKit Go.Sort
set_option linter.unusedVariables false

theorem more_num (s w : Nat) : Value.int .u64 (((s ^^^ w : Nat) : Int) * 1099511628211 % 18446744073709551616) = .int .u64 ((more s w : Nat) : Int) := by
  have e : (more s w : Nat) = (s ^^^ w) * 1099511628211 % 18446744073709551616 := by unfold more; rfl
  rw [e]
  congr 1
theorem more_wrap (s w : Nat) : IntKind.u64.wrap (((s ^^^ w : Nat) : Int) * 1099511628211) = ((more s w : Nat) : Int) := by
  have e : (more s w : Nat) = (s ^^^ w) * 1099511628211 % 18446744073709551616 := by unfold more; rfl
  rw [IntKind.wrap_u64, e, Int.natCast_emod, Int.natCast_mul]
  congr 1
def SumRel' (l : List Nat) (W : World) (i s : Value) (w : World) : Prop := ∃ k : Nat, k ≤ l.length ∧ i = .int .i64 k ∧ s = .int .u64 ((sum (l.take k) : Nat) : Int) ∧ w = W

set_option maxHeartbeats 400000 in
theorem refSum64_any (l : List Nat) (n : Nat) (hL : l.length = n) (hl : Small l) (A : Option Addr) (c B : Nat) (w : World) (hn : n ≤ 1000) (hr : Row w B A n (l.map wd)) :
    Calls Try.prog 8 #[.slice A n c] w fun e w' => e = .returned (.int .u64 ((sum l : Nat) : Int)) ∧ w = w' := by
  subst hL
  have HR := Lib.hid hr; have HL := Lib.hid hl
  clear hr hl
  go_enter Try.func8, Try.ntmps8
  go_wp2
  go_loopw [8, 3] (fun i s wr => SumRel' l w i s wr) (fun i _ _ => l.length - (intOf i).toNat)
  case atStart => exact ⟨0, Nat.zero_le _, rfl, by rw [List.take_zero, ← sum_nil]; exact start_val, rfl⟩
  case round =>
    obtain ⟨k, hk, rfl, hs, rfl⟩ := hrel
    obtain ⟨s, hs1⟩ : ∃ s, s = sum (l.take k) := ⟨_, rfl⟩
    rw [← hs1] at hs
    have hs2 : s < 18446744073709551616 := by rw [hs1]; exact sum_lt _
    have HS := Lib.hid hs1
    subst hs
    clear hs1
    by_cases hlt : k < l.length
    · obtain ⟨b, off, y, rfl, hb, hy, cy⟩ := HR.out.get hlt
      have hwy := HL.out.at hy
      have ht := take_one hy
      have hx := bits_xor_u64_nat s y hs2 hwy
      have HT := Lib.hid ht
      have HM := Lib.hid (more_num s y)
      unfold wd at cy
      clear ht hy hs2 hwy
      go_wp2
      go_roundw
      case rel => exact ⟨k + 1, by omega, by go_num, by rw [HT.out, sum_snoc, ← HS.out]; exact HM.out, rfl⟩
      case measure => simp [intOf]; omega
    · obtain rfl : k = l.length := by omega
      have hss := HS.out
      rw [List.take_length] at hss
      have HSS := Lib.hid hss
      clear hss
      go_wp2
      go_ret
      exact ⟨by rw [← HSS.out]; rfl, rfl⟩

def EqRel (n : Nat) (W : World) (i : Value) (w : World) : Prop := ∃ k d : Nat, k ≤ n ∧ i = .int .i64 k ∧ w = W.drewN d

set_option maxHeartbeats 400000 in
theorem sameWords_eq (ws : List Nat) (n : Nat) (hL : ws.length = n) (hn : n ≤ 1000) (A C : Option Addr) (c d B : Nat) (w : World) (hx : Row w B A n (ws.map wd)) (hy : Row w B C n (ws.map wd)) :
    Calls Try.prog 12 #[.slice A n c, .slice C n d] w (Grows (.bool true) w) := by
  have HX := Lib.hid hx; have HY := Lib.hid hy; have HL := Lib.hid hL
  clear hx hy hL
  go_enter Try.func12, Try.ntmps12
  go_wp2
  go_loopw [13] (fun i wr => EqRel n w i wr) (fun i _ => n - (intOf i).toNat)
  case atStart => exact ⟨0, 0, Nat.zero_le _, rfl, rfl⟩
  case round =>
    obtain ⟨k, q, hk, rfl, rfl⟩ := hrel
    by_cases hlt : k < n
    · obtain ⟨b1, o1, x, rfl, _, gx, cx⟩ := HX.out.get hlt
      obtain ⟨b2, o2, y, rfl, _, gy, cy⟩ := HY.out.get hlt
      obtain rfl : x = y := by rw [gx] at gy; exact Option.some.inj gy
      clear gx gy
      unfold wd at cx cy
      go_wp2
      go_quiet (fail)
      go_wp2
      go_roundw
      case rel => exact ⟨k + 1, q + nq, by omega, by go_num, rfl⟩
      case measure => simp [intOf]; omega
    · obtain rfl : k = n := by omega
      go_wp2
      go_ret
      exact ⟨rfl, grow_drewN (grow_none w) q⟩
end Go.Proofs.Ytmmhkfijdgfjpaa
