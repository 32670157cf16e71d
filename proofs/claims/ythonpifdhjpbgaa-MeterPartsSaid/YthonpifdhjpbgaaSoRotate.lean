import Derived.Test.YthonpifdhjpbgaaSoSwap
namespace Go.Proofs.Ythonpifdhjpbgaa
open Wd So Go.ChangeShapes Go.WideShapes Go.RowKit
set_option linter.unusedVariables false

def RotRel (s m e g : Nat) (xs : List Nat) (W : World) (iv jv : Value) (w : World) : Prop :=
  ∃ (i j : Nat) (ys : List Nat), 0 < i ∧ 0 < j ∧ i ≤ m - s ∧ j ≤ e - m ∧ iv = .int .i64 i ∧ jv = .int .i64 j ∧ So.Way m i j (goal s m e xs) xs ys ∧ FRow w g ys ∧ W.grownBy w (some g)

def Rotated (s m e g : Nat) (xs : List Nat) (W : World) (en : Ending) (w : World) : Prop :=
  en = .returned (.tuple #[]) ∧ ∃ ys, Rot s m e xs ys ∧ FRow w g ys ∧ W.grownBy w (some g)

theorem swap_len (a b n g c L : Nat) (av bv nv : Int) (xs : List Nat) (cmp : Value) (w : World) (hL : xs.length = L) (ha : av = (a : Int)) (hb : bv = (b : Int)) (hn : nv = (n : Int)) (hab : a + n ≤ b) (hbn : b + n ≤ L) (hlen : L ≤ 1000) (hr : FRow w g xs) :
    Calls Try.prog 39 #[.slice (some ⟨g, 0, none⟩) L c, .int .i64 av, .int .i64 bv, .int .i64 nv, cmp] w (Swapped a b n g xs w) := by
  subst hL ha hb hn
  exact swapRange_any a b n g c xs cmp w hab hbn hlen hr

set_option maxHeartbeats 1000000 in
theorem rotate_any (s m e g c : Nat) (xs : List Nat) (cmp : Value) (w : World) (hsm : s < m) (hme : m < e) (he : e ≤ xs.length) (hlen : xs.length ≤ 1000) (hr : FRow w g xs) :
    Calls Try.prog 38 #[.slice (some ⟨g, 0, none⟩) xs.length c, .int .i64 s, .int .i64 m, .int .i64 e, cmp] w (Rotated s m e g xs w) := by
  have HR := Lib.hid hr; clear hr
  go_enter Try.func38, Try.ntmps38
  go_wp2
  go_loopw [10, 11] (fun i j wr => RotRel s m e g xs w i j wr) (fun i j _ => (intOf i).toNat + (intOf j).toNat)
  case atStart => exact ⟨m - s, e - m, xs, by omega, by omega, Nat.le_refl _, Nat.le_refl _, num_eq (by omega), num_eq (by omega), So.Way.start xs (by omega) (by omega), HR.out, World.grownBy.refl w _⟩
  case round =>
    obtain ⟨i, j, ys, hi, hj, him, hjm, rfl, rfl, hw, hr, hg⟩ := hrel
    have hlen2 := hw.perm.length_eq
    have HLEN := Lib.hid hlen2
    clear hlen2
    by_cases heq : i = j
    · subst heq
      have hne : ((i : Int) != (i : Int)) = false := by simp
      go_wp2_with fail
      refine (swap_len (m - i) m i g c xs.length _ _ _ ys cmp _ HLEN.out (by omega) rfl rfl (by omega) (by omega) hlen hr).mono ?_
      rintro en w2 ⟨rfl, zs, hs, hr2, hg2⟩
      obtain ⟨d1, d2⟩ := hw.done (by omega) hs
      have hrot := rot_of (by omega) (by omega) d1 d2
      have HROT := Lib.hid hrot
      clear hrot d1 d2
      go_wp2
      go_end0
      exact ⟨rfl, zs, HROT.out, hr2, grown_trans hg hg2⟩
    · have hne : ((i : Int) != (j : Int)) = true := by simp; omega
      by_cases hlt : j < i
      · have HNE := Lib.hid heq; clear heq
        go_wp2_with fail
        refine (swap_len (m - i) m j g c xs.length _ _ _ ys cmp _ HLEN.out (by omega) rfl rfl (by omega) (by omega) hlen hr).mono ?_
        rintro en w2 ⟨rfl, zs, hs, hr2, hg2⟩
        have hw2 := hw.more (by omega) hlt hs
        have HW := Lib.hid hw2; clear hw2
        go_wp2
        go_roundw
        case rel => exact ⟨i - j, j, zs, by omega, hj, by omega, hjm, num_eq (by omega), rfl, HW.out, hr2, grown_trans hg hg2⟩
        case measure => simp [intOf]; omega
      · have HNE := Lib.hid heq
        have hlt2 : i < j := by omega
        clear heq
        go_wp2_with fail
        refine (swap_len (m - i) (m + j - i) i g c xs.length _ _ _ ys cmp _ HLEN.out (by omega) (by omega) rfl (by omega) (by omega) hlen hr).mono ?_
        rintro en w2 ⟨rfl, zs, hs, hr2, hg2⟩
        have hw2 := hw.less (by omega) hlt2 hs
        have HW := Lib.hid hw2; clear hw2
        go_wp2
        go_roundw
        case rel => exact ⟨i, j - i, zs, hi, by omega, him, by omega, rfl, num_eq (by omega), HW.out, hr2, grown_trans hg hg2⟩
        case measure => simp [intOf]; omega
end Go.Proofs.Ythonpifdhjpbgaa
