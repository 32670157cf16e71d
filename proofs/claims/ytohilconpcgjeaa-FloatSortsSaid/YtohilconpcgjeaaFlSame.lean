import Derived.Test.YtohilconpcgjeaaFlRef
import Derived.Test.YtohilconpcgjeaaWd
import Derived.Outline
namespace Go.Proofs.Ytohilconpcgjeaa
open Wd Go.ChangeShapes Go.WideShapes Go.RowKit
set_option linter.unusedVariables false

theorem refSame_is (x y : Nat) (b : Bool) (h : sameB x y = b) (w : World) : Calls Try.prog 15 #[.float .f64 x, .float .f64 y] w fun e w' => e = .returned (.bool b) ∧ w = w' := by
  subst h; exact refSame_any x y w

def Alike (xs ys : List Nat) (w : World) (e : Ending) (w' : World) : Prop := ∃ b n, e = .returned (.bool b) ∧ (b = true ↔ xs.map rk = ys.map rk) ∧ w' = w.drewN n

def AlikeRel (xs ys : List Nat) (w : World) (i : Value) (wr : World) : Prop := ∃ k n, k ≤ xs.length ∧ i = .int .i64 (k : Nat) ∧ (xs.map rk).take k = (ys.map rk).take k ∧ wr = w.drewN n

theorem take_one {α : Type} {l : List α} {k : Nat} {x : α} (h : l[k]? = some x) : l.take (k + 1) = l.take k ++ [x] := by
  rw [List.take_add_one, h]; rfl

set_option maxHeartbeats 400000 in
theorem sameFloats_any (xs ys : List Nat) (A C : Option Addr) (c d : Nat) (w : World) (B : Nat) (hm : xs.length ≤ 9223372036854775806) (hx : Row w B A xs.length (xs.map (Value.float .f64))) (hy : Row w B C ys.length (ys.map (Value.float .f64))) :
    Calls Try.prog 13 #[.slice A xs.length c, .slice C ys.length d] w (Alike xs ys w) := by
  have HX := Lib.hid hx; clear hx
  have HY := Lib.hid hy; clear hy
  by_cases hl : xs.length = ys.length
  · have HL := Lib.hid hl
    have hb : ((xs.length : Int) != (ys.length : Int)) = false := by simp [hl]
    clear hl
    go_enter Try.func13, Try.ntmps13
    go_wp2
    go_loopw [13] (fun i wr => AlikeRel xs ys w i wr) (fun i _ => xs.length - (intOf i).toNat)
    case atStart => exact ⟨0, 0, Nat.zero_le _, rfl, rfl, rfl⟩
    case round =>
      obtain ⟨k, n, hk, rfl, ht, hd⟩ := hrel
      have HT := Lib.hid ht; clear ht
      have HD := Lib.hid hd; clear hd
      by_cases hlt : k < xs.length
      · have hlt2 : k < ys.length := by have := HL.out; omega
        have i1 : (k : Int) < (xs.length : Int) := by omega
        have i2 : (k : Int) < (ys.length : Int) := by omega
        have i0 : (0 : Int) ≤ (k : Int) := by omega
        obtain ⟨b1, o1, x, rfl, _, gx, cx⟩ := (HX.out.drewN n).get hlt
        obtain ⟨b2, o2, y, rfl, _, gy, cy⟩ := (HY.out.drewN n).get hlt2
        rw [← HD.out] at cx cy
        have GX := Lib.hid gx; clear gx
        have GY := Lib.hid gy; clear gy
        cases hs : sameB x y
        · have HS := Lib.hid hs
          go_wp2
          go_quiet ((go_at_call 15; exact quiet_eq (refSame_is _ _ _ hs _)))
          go_wp2
          go_ret
          refine ⟨false, n + nq, rfl, ⟨(fun h => by cases h), fun h => ?_⟩, by rw [HD.out, World.drewN_drewN]⟩
          have h1 : (xs.map rk)[k]? = (ys.map rk)[k]? := by rw [h]
          rw [List.getElem?_map, List.getElem?_map, GX.out, GY.out] at h1
          have h2 := HS.out
          unfold sameB at h2
          exact absurd (Option.some.inj h1) (of_decide_eq_false h2)
        · have HS := Lib.hid hs
          go_wp2
          go_quiet ((go_at_call 15; exact quiet_eq (refSame_is _ _ _ hs _)))
          go_wp2
          go_roundw
          case rel =>
            refine ⟨k + 1, n + nq, by omega, by go_num, ?_, by rw [HD.out, World.drewN_drewN]⟩
            have h2 := HS.out
            unfold sameB at h2
            have h1 : (xs.map rk)[k]? = some (rk x) := by rw [List.getElem?_map, GX.out]; rfl
            have h3 : (ys.map rk)[k]? = some (rk x) := by rw [List.getElem?_map, GY.out, of_decide_eq_true h2]; rfl
            rw [take_one h1, take_one h3, HT.out]
          case measure => simp [intOf]; omega
      · go_wp2
        go_ret
        obtain rfl : k = xs.length := by omega
        have h := HT.out
        rw [List.take_of_length_le (by simp), List.take_of_length_le (by simp; have := HL.out; omega)] at h
        exact ⟨true, n, rfl, ⟨fun _ => h, fun _ => rfl⟩, HD.out⟩
  · have hb : ((xs.length : Int) != (ys.length : Int)) = true := by simp; omega
    have HL := Lib.hid hl; clear hl
    go_enter Try.func13, Try.ntmps13
    go_wp2
    go_ret
    exact ⟨false, 0, rfl, ⟨(fun h => by cases h), fun h => absurd (by have := congrArg List.length h; simpa using this) HL.out⟩, rfl⟩

theorem sameFloats_len (xs ys : List Nat) (n m : Nat) (hn : xs.length = n) (hm' : ys.length = m) (A C : Option Addr) (c d : Nat) (w : World) (B : Nat) (hm : xs.length ≤ 9223372036854775806) (hx : Row w B A xs.length (xs.map (Value.float .f64))) (hy : Row w B C ys.length (ys.map (Value.float .f64))) :
    Calls Try.prog 13 #[.slice A n c, .slice C m d] w (Alike xs ys w) := by
  subst hn hm'
  exact sameFloats_any xs ys A C c d w B hm hx hy
end Go.Proofs.Ytohilconpcgjeaa
