import Derived.Test.YtjopeephohdmlaaPkRef
import Derived.Test.YtjopeephohdmlaaCkRef
namespace Go.Proofs.Ytjopeephohdmlaa
open Wd U Go.ChangeShapes Go.WideShapes Go.RowKit Go.Sort
set_option linter.unusedVariables false

def AlikeW (xs ys : List Nat) (W : World) (i : Value) (w : World) : Prop := ∃ k d : Nat, k ≤ xs.length ∧ i = .int .i64 k ∧ xs.take k = ys.take k ∧ w = W.drewN d

set_option maxHeartbeats 400000 in
theorem sameWords_any (xs ys : List Nat) (n m : Nat) (hn : xs.length = n) (hm : ys.length = m) (hle : n ≤ 1000) (A C : Option Addr) (c d B : Nat) (w : World) (hx : Row w B A n (xs.map wd)) (hy : Row w B C m (ys.map wd)) :
    Calls Try.prog 9 #[.slice A n c, .slice C m d] w (Grows (.bool (decide (xs = ys))) w) := by
  subst hn hm
  have HX := Lib.hid hx; have HY := Lib.hid hy
  clear hx hy
  by_cases hl : xs.length = ys.length
  · have HL := Lib.hid hl
    have hb : ((xs.length : Int) != (ys.length : Int)) = false := by simp [hl]
    clear hl
    go_enter Try.func9, Try.ntmps9
    go_wp2
    go_loopw [13] (fun i wr => AlikeW xs ys w i wr) (fun i _ => xs.length - (intOf i).toNat)
    case atStart => exact ⟨0, 0, Nat.zero_le _, rfl, rfl, rfl⟩
    case round =>
      obtain ⟨k, q, hk, rfl, ht, rfl⟩ := hrel
      have HT := Lib.hid ht; clear ht
      by_cases hlt : k < xs.length
      · have hlt2 : k < ys.length := by have := HL.out; omega
        have i1 : (k : Int) < (xs.length : Int) := by omega
        have i2 : (k : Int) < (ys.length : Int) := by omega
        have i0 : (0 : Int) ≤ (k : Int) := by omega
        obtain ⟨b1, o1, x, rfl, _, gx, cx⟩ := HX.out.get hlt
        obtain ⟨b2, o2, y, rfl, _, gy, cy⟩ := HY.out.get hlt2
        have HGX := Lib.hid gx; have HGY := Lib.hid gy
        clear gx gy
        unfold wd at cx cy
        by_cases hxy : x = y
        · subst hxy
          go_wp2
          go_quiet (fail)
          go_wp2
          go_roundw
          case rel => exact ⟨k + 1, q + nq, by omega, by go_num, by rw [take_one HGX.out, take_one HGY.out, HT.out], rfl⟩
          case measure => simp [intOf]; omega
        · have hne : ((x : Int) != (y : Int)) = true := by rw [bne_iff_ne]; omega
          have hdec : decide (xs = ys) = false := by
            apply decide_eq_false
            intro h
            have h1 := HGX.out
            rw [h, HGY.out] at h1
            exact hxy (Option.some.inj h1).symm
          have HDEC := Lib.hid hdec
          clear hxy hdec
          go_wp2
          go_quiet (fail)
          go_wp2
          go_ret
          exact ⟨by rw [HDEC.out]; rfl, grow_drewN (grow_drewN (grow_none w) _) _⟩
      · obtain rfl : k = xs.length := by omega
        have hdec : decide (xs = ys) = true := by
          apply decide_eq_true
          have h := HT.out
          rw [List.take_length, List.take_of_length_le (by have := HL.out; omega)] at h
          exact h
        have HDEC := Lib.hid hdec
        clear hdec
        go_wp2
        go_ret
        exact ⟨by rw [HDEC.out]; rfl, grow_drewN (grow_none w) _⟩
  · have hb : ((xs.length : Int) != (ys.length : Int)) = true := by rw [bne_iff_ne]; omega
    have hdec : decide (xs = ys) = false := decide_eq_false (fun h => hl (by rw [h]))
    have HDEC := Lib.hid hdec
    clear hl hdec
    go_enter Try.func9, Try.ntmps9
    go_wp2
    go_ret
    exact ⟨by rw [HDEC.out]; rfl, grow_none w⟩

/-- bytes in a block -/
def BRow (w : World) (g : Nat) (bs : List Nat) : Prop := Cells w g 5 (bs.map bt).toArray
theorem BRow.set {w : World} {g : Nat} {bs : List Nat} (h : BRow w g bs) (j c : Nat) : BRow (w.setCell ⟨g, j, none⟩ (.int .u8 (c : Int))) g (bs.set j c) := by
  have := Cells.set h j (.int .u8 (c : Int))
  unfold BRow
  rw [List.map_set, ← List.setIfInBounds_toArray]
  exact this
theorem BRow.row {w : World} {g n B : Nat} {bs : List Nat} (h : BRow w g bs) (hn : bs.length = n) (hg : g < B) : Row w B (some ⟨g, 0, none⟩) n (bs.map bt) := by
  have := Row.of_cells (B := B) h hg
  rw [show (List.map bt bs).toArray.size = n by rw [List.size_toArray, List.length_map]; exact hn] at this
  exact this

def Unpacked (l : List Nat) (n : Int) (b : Bool) (W : World) (e : Ending) (w : World) : Prop :=
  ∃ (A : Option Addr) (c k : Nat), e = .returned (.tuple #[.slice A k c, .bool b]) ∧ k = (if b then n.toNat else 0) ∧ (b = true → Row w w.heap.size A n.toNat ((bytesOf l n.toNat).map bt)) ∧ Below W.heap.size W w
def noU (W : World) (e : Ending) (w : World) : Prop := e = .returned (.tuple #[.slice none 0 0, .bool false]) ∧ w = W

theorem refUnpack_bad (L : Nat) (hL : L ≤ 1000) (A : Option Addr) (c : Nat) (n : Int) (w : World) (h : n < 0 ∨ 0 ≤ n ∧ 0 < L ∧ n ≤ 8 * ((L : Int) - 1) ∨ 0 ≤ n ∧ 0 < L ∧ 8 * ((L : Int) - 1) < n ∧ 8 * (L : Int) < n ∨ L = 0 ∧ 0 < n) :
    Calls Try.prog 8 #[.slice A L c, .int .i64 n] w (noU w) := by
  rcases h with h | ⟨h1, h2, h3⟩ | ⟨h1, h2, h3, h4⟩ | ⟨rfl, h1⟩
  · go_enter Try.func8, Try.ntmps8
    go_wp2
    go_ret2
    exact ⟨rfl, rfl⟩
  · have hp : decide ((0 : Int) < (L : Int)) = true := decide_eq_true (by omega)
    go_enter Try.func8, Try.ntmps8
    go_wp2
    go_ret2
    exact ⟨rfl, rfl⟩
  · have hp : decide ((0 : Int) < (L : Int)) = true := decide_eq_true (by omega)
    go_enter Try.func8, Try.ntmps8
    go_wp2
    go_ret2
    exact ⟨rfl, rfl⟩
  · go_enter Try.func8, Try.ntmps8
    go_wp2
    go_ret2
    exact ⟨rfl, rfl⟩
end Go.Proofs.Ytjopeephohdmlaa
