import Derived.Test.YthonpifdhjpbgaaMtWalks
import Derived.ScopeJumps
import Derived.WalkMore
namespace Go.Proofs.Ythonpifdhjpbgaa
open Wd So Go.ChangeShapes Go.WideShapes Go.RowKit
set_option linter.unusedVariables false

/-- what is known of the box of x -/
structure BoxAt (ys : List Nat) (x lo hi : Nat) : Prop where
  le : lo ≤ hi
  top : hi ≤ ys.length
  low : ∀ j e, j < lo → ys[j]? = some e → rk e ≤ rk x
  high : ∀ j e, hi ≤ j → ys[j]? = some e → rk x < rk e
theorem BoxAt.start (ys : List Nat) (x n : Nat) (h : ys.length = n) : BoxAt ys x 0 n :=
  ⟨Nat.zero_le _, by omega, fun j e hj => by omega, fun j e hj he => by have := (List.getElem?_eq_some_iff.1 he).1; omega⟩
theorem BoxAt.done {ys : List Nat} {x i : Nat} (h : BoxAt ys x i i) : bx (ys.map rk) (rk x) = i := by
  refine bx_of (by rw [List.length_map]; exact h.top) (fun j e hj he => ?_) (fun e he => ?_)
  · rw [List.getElem?_map] at he
    obtain ⟨z, hz, rfl⟩ := Option.map_eq_some_iff.1 he
    exact h.low j z hj hz
  · rw [List.getElem?_map] at he
    obtain ⟨z, hz, rfl⟩ := Option.map_eq_some_iff.1 he
    exact h.high i z (Nat.le_refl _) hz
theorem BoxAt.left {ys : List Nat} {x lo hi n m y : Nat} (h : BoxAt ys x lo hi) (hs : Srt rk 0 n ys) (hn : ys.length = n) (h1 : lo ≤ m) (hy : ys[m]? = some y) (hl : lsB x y = true) : BoxAt ys x lo m := by
  unfold lsB at hl
  have := of_decide_eq_true hl
  have hm := (List.getElem?_eq_some_iff.1 hy).1
  refine ⟨h1, by omega, h.low, fun j e hj he => ?_⟩
  have := hs m j y e (Nat.zero_le _) hj (by have := (List.getElem?_eq_some_iff.1 he).1; omega) hy he
  omega
theorem BoxAt.right {ys : List Nat} {x lo hi n m y : Nat} (h : BoxAt ys x lo hi) (hs : Srt rk 0 n ys) (hn : ys.length = n) (h1 : m < hi) (hy : ys[m]? = some y) (hl : lsB x y = false) : BoxAt ys x (m + 1) hi := by
  unfold lsB at hl
  have := of_decide_eq_false hl
  have hm := (List.getElem?_eq_some_iff.1 hy).1
  refine ⟨by omega, h.top, fun j e hj he => ?_, h.high⟩
  have := hs j m e y (Nat.zero_le _) (by omega) (by omega) he hy
  omega

def BoxJ (ys : List Nat) (x n c : Nat) (A : Option Addr) (W : World) (a : Act) (w : World) : Prop :=
  w = W ∧ ∃ (lo hi : Nat) (u7 u8 u9 u10 u11 u12 u13 u14 u15 u16 u17 u18 u19 u20 u21 u22 u23 u24 u25 u26 u27 u28 : Value), a = { tmps := #[.slice A n c, .float .f64 x, undef, undef, .int .i64 0, .int .i64 lo, .int .i64 hi, u7, u8, u9, u10, u11, u12, u13, u14, u15, u16, u17, u18, u19, u20, u21, u22, u23, u24, u25, u26, u27, u28], defers := [] } ∧ BoxAt ys x lo hi

set_option maxHeartbeats 1000000 in
theorem box_any (ys : List Nat) (x : Nat) (A : Option Addr) (n c B : Nat) (w : World) (hL : ys.length = n) (hn : n ≤ 1000) (hs : Srt rk 0 n ys) (hw : Words ys) (hx : x < 18446744073709551616) (hr : Row w B A n (ys.map (Value.float .f64))) :
    Calls Try.prog 25 #[.slice A n c, .float .f64 x] w fun e w' => e = .returned (.int .i64 (bx (ys.map rk) (rk x))) ∧ w = w' := by
  have HL := Lib.hid hL; have HS := Lib.hid hs; have HW := Lib.hid hw; have HR := Lib.hid hr
  clear hL hs hw hr
  go_enter Try.func25, Try.ntmps25
  go_wp2
  refine wp_scope_jumps 0 (BoxJ ys x n c A w) (fun a' _ => (intOf (a'.tmps.getD 6 undef)).toNat - (intOf (a'.tmps.getD 5 undef)).toNat) rfl ?_ ?_
  · go_wp2
    go_step3
    have HB := Lib.hid (BoxAt.start ys x n HL.out)
    by_cases heq : n = 0
    · subst heq
      go_wp2
      simp only [Exit.jump]
      go_ret
      exact ⟨by rw [HB.out.done]; rfl, rfl⟩
    · have hne : ((0 : Int) == (n : Int)) = false := by rw [beq_eq_false_iff_ne]; omega
      obtain ⟨d, hd1, hd2⟩ : ∃ d : Nat, (n : Int) / 2 = (d : Int) ∧ d < n := ⟨n / 2, by omega, by omega⟩
      obtain ⟨b, off, y, rfl, _, hy, cy⟩ := HR.out.get (k := d) (by omega)
      have hwy := HW.out.at hy
      have HY := Lib.hid hy
      clear hy
      cases hl : lsB x y
      · have HLS := Lib.hid hl
        go_wp2_with (go_at_call 22; refine (less_any x y hx hwy _).mono ?_; rintro e w' ⟨rfl, rfl⟩)
        go_step3
        exact ⟨rfl, rfl, d + 1, n, _, _, _, _, _, _, _, _, _, _, _, _, _, _, _, _, _, _, _, _, _, _, rfl, HB.out.right HS.out HL.out hd2 HY.out HLS.out⟩
      · have HLS := Lib.hid hl
        go_wp2_with (go_at_call 22; refine (less_any x y hx hwy _).mono ?_; rintro e w' ⟨rfl, rfl⟩)
        go_step3
        exact ⟨rfl, rfl, 0, d, _, _, _, _, _, _, _, _, _, _, _, _, _, _, _, _, _, _, _, _, _, _, rfl, HB.out.left HS.out HL.out (Nat.zero_le _) HY.out HLS.out⟩
  · rintro a' w' ⟨rfl, lo, hi, u7, u8, u9, u10, u11, u12, u13, u14, u15, u16, u17, u18, u19, u20, u21, u22, u23, u24, u25, u26, u27, u28, rfl, hb⟩
    have HB := Lib.hid hb
    have hle := hb.le
    have hht : hi ≤ n := by have := hb.top; have := HL.out; omega
    clear hb
    by_cases heq : lo = hi
    · subst heq
      go_wp2
      simp only [Exit.jump]
      go_ret
      exact ⟨by rw [HB.out.done]; rfl, rfl⟩
    · have hne : ((lo : Int) == (hi : Int)) = false := by rw [beq_eq_false_iff_ne]; omega
      obtain ⟨d, hd1, hd2⟩ : ∃ d : Nat, ((hi : Int) - (lo : Int)) / 2 = (d : Int) ∧ lo + d < hi := ⟨(hi - lo) / 2, by omega, by omega⟩
      obtain ⟨b, off, y, rfl, _, hy, cy⟩ := HR.out.get (k := lo + d) (by omega)
      have hwy := HW.out.at hy
      have HY := Lib.hid hy
      clear hy
      cases hl : lsB x y
      · have HLS := Lib.hid hl
        go_wp2_with (go_at_call 22; refine (less_any x y hx hwy _).mono ?_; rintro e w' ⟨rfl, rfl⟩)
        go_step3
        refine ⟨rfl, ⟨rfl, lo + d + 1, hi, _, _, _, _, _, _, _, _, _, _, _, _, _, _, _, _, _, _, _, _, _, _, rfl, HB.out.right HS.out HL.out hd2 HY.out HLS.out⟩, ?_⟩
        simp [intOf]; omega
      · have HLS := Lib.hid hl
        go_wp2_with (go_at_call 22; refine (less_any x y hx hwy _).mono ?_; rintro e w' ⟨rfl, rfl⟩)
        go_step3
        refine ⟨rfl, ⟨rfl, lo, lo + d, _, _, _, _, _, _, _, _, _, _, _, _, _, _, _, _, _, _, _, _, _, _, rfl, HB.out.left HS.out HL.out (Nat.le_add_right _ _) HY.out HLS.out⟩, ?_⟩
        simp [intOf]; omega
end Go.Proofs.Ythonpifdhjpbgaa
