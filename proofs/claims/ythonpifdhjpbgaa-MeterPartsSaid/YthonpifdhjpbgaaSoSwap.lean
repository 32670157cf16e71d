import Derived.Test.YthonpifdhjpbgaaSoRot
import Derived.Test.YthonpifdhjpbgaaFlWalks
import Derived.Test.YthonpifdhjpbgaaWd
import Derived.BigRegion
import Derived.IntWalk
import Derived.Outline
namespace Go.Proofs.Ythonpifdhjpbgaa
open Wd So Go.ChangeShapes Go.WideShapes Go.RowKit
set_option linter.unusedVariables false

/-- the row that is sorted: block g -/
def FRow (w : World) (g : Nat) (xs : List Nat) : Prop := Cells w g 26 (xs.map (Value.float .f64)).toArray

theorem num_eq {a b : Int} (h : a = b) : Value.int .i64 a = .int .i64 b := by rw [h]
theorem FRow.cell {w : World} {g : Nat} {xs : List Nat} (h : FRow w g xs) {j x : Nat} (hx : xs[j]? = some x) : w.cell? ⟨g, j, none⟩ = some (.float .f64 x) := by
  rw [Cells.cell h j]; simp [hx]
theorem FRow.set {w : World} {g : Nat} {xs : List Nat} (h : FRow w g xs) (j x : Nat) : FRow (w.setCell ⟨g, j, none⟩ (.float .f64 x)) g (xs.set j x) := by
  have := Cells.set h j (.float .f64 x)
  rw [List.setIfInBounds_toArray, ← List.map_set] at this
  exact this
theorem FRow.drewN {w : World} {g : Nat} {xs : List Nat} (h : FRow w g xs) (n : Nat) : FRow (w.drewN n) g xs := h
theorem FRow.drew {w : World} {g : Nat} {xs : List Nat} (h : FRow w g xs) : FRow w.drew g xs := h

def SwapRel (a b n g : Nat) (xs : List Nat) (W : World) (i : Value) (w : World) : Prop :=
  ∃ (k : Nat) (ys : List Nat), k ≤ n ∧ i = .int .i64 k ∧ Swd a b k xs ys ∧ FRow w g ys ∧ W.grownBy w (some g)

def Swapped (a b n g : Nat) (xs : List Nat) (W : World) (e : Ending) (w : World) : Prop :=
  e = .returned (.tuple #[]) ∧ ∃ ys, Swd a b n xs ys ∧ FRow w g ys ∧ W.grownBy w (some g)

set_option maxHeartbeats 1000000 in
theorem swapRange_any (a b n g c : Nat) (xs : List Nat) (cmp : Value) (w : World) (hab : a + n ≤ b) (hbn : b + n ≤ xs.length) (hlen : xs.length ≤ 1000) (hr : FRow w g xs) :
    Calls Try.prog 39 #[.slice (some ⟨g, 0, none⟩) xs.length c, .int .i64 a, .int .i64 b, .int .i64 n, cmp] w (Swapped a b n g xs w) := by
  have HR := Lib.hid hr; clear hr
  go_enter Try.func39, Try.ntmps39
  go_wp2
  go_loopw [10] (fun i wr => SwapRel a b n g xs w i wr) (fun i _ => n - (intOf i).toNat)
  case atStart => exact ⟨0, xs, Nat.zero_le _, rfl, Swd.none a b xs, HR.out, World.grownBy.refl w _⟩
  case round =>
    obtain ⟨k, ys, hk, rfl, hs, hr, hg⟩ := hrel
    have hlen2 : ys.length = xs.length := hs.perm.length_eq
    by_cases hlt : k < n
    · obtain ⟨x, hx⟩ : ∃ x, ys[a + k]? = some x := ⟨_, List.getElem?_eq_getElem (by omega)⟩
      obtain ⟨y, hy⟩ : ∃ y, ys[b + k]? = some y := ⟨_, List.getElem?_eq_getElem (by omega)⟩
      have cx := hr.cell hx
      have cy := hr.cell hy
      have fx := Cells.free hr (a + k)
      have fy := Cells.free hr (b + k)
      have hst := hs.step hlt hab hx hy
      have HST := Lib.hid hst
      have HLEN := Lib.hid hlen2
      clear hst hx hy hlen2
      have n1 : a + k ≠ b + k := by omega
      have n2 : b + k ≠ a + k := by omega
      have i1 : (0 : Int) ≤ (a : Int) + (k : Int) := by omega
      have i2 : (0 : Int) ≤ (b : Int) + (k : Int) := by omega
      have i3 : (a : Int) + (k : Int) < (xs.length : Int) := by omega
      have i4 : (b : Int) + (k : Int) < (xs.length : Int) := by omega
      go_wp2
      have j1 : IntKind.i64.wrap ((a : Int) + (k : Int)) = (a : Int) + (k : Int) := IntWalk.i64_in _ (by omega)
      have j2 : IntKind.i64.wrap ((b : Int) + (k : Int)) = (b : Int) + (k : Int) := IntWalk.i64_in _ (by omega)
      have j3 : ((a : Int) + (k : Int)).toNat = a + k := by omega
      have j4 : ((b : Int) + (k : Int)).toNat = b + k := by omega
      go_big_region
      all_goals
        clear j1 j2 j3 j4
        go_wp2
        go_roundw
        case rel => exact ⟨k + 1, _, by omega, by go_num, HST.out, ((hr.set (a + k) y).set (b + k) x).drew, grown_drew (grown_set (grown_set hg _ _) _ _)⟩
        case measure => simp [intOf]; omega
    · obtain rfl : k = n := by omega
      go_wp2
      go_end0
      exact ⟨rfl, ys, hs, hr, hg⟩
end Go.Proofs.Ythonpifdhjpbgaa
