import Derived.Test.YtnoojhkkojijpaaDoorEfLst
import Derived.Test.YtnoojhkkojijpaaDoorEfPgs
import Derived.Test.YtnoojhkkojijpaaDoorEfWrd
import Derived.Test.YtnoojhkkojijpaaDoorEfBrx
/-
  The project's contracts of layer 9, all together; the laws' awake.
-/
namespace Go.Proofs.YtnoojhkkojijpaaDoor
open Wd U Go.RowKit Go.ChangeShapes Go.WideShapes Go.Sort
set_option linter.unusedVariables false

def dropE (n : Int) : Eff := ⟨8, n, 0, 0, 0, 0, ⟨#[]⟩, ⟨#[]⟩, none, 0, []⟩
theorem dropE_ok (n : Int) (h : i64R n) (w : World) (B : Nat) : (dropE n).Ok w B :=
  ⟨by show i64R 8; unfold i64R; omega, h, i64R_0, i64R_0, i64R_0, i64R_0, Nat.zero_le _, Nat.zero_le _, (fun x hx => by cases hx), Row.nil, Nat.zero_le _, Nat.zero_le _⟩
theorem dropE_few (n : Int) : (dropE n).few := ⟨Nat.zero_le _, Nat.zero_le _, Nat.zero_le _⟩
theorem drop0 : errB (dropE 0).check 92 = 92 := by rw [check_is]; simp [Eff.mayP, dropE, ndB, errB]
theorem drop2 : errB (dropE 2).check 92 = 0 := by rw [check_is]; simp [Eff.mayP, Eff.just, sameB, dropE, ndB, errB]
theorem word1 : wordS 1 = ⟨#[109, 97, 107, 101]⟩ := rfl
set_option maxRecDepth 100000 in
theorem effAwake_true {w : World} (hT : Tabs w) : Calls Tryd.prog 6 #[] w (TrueB w) := by
  have HT := Lib.hid hT
  clear hT
  have K0 := Lib.hid (fun w : World => eCheck (dropE 0) w (dropE_ok 0 i64R_0 w _) (dropE_few 0))
  have K2 := Lib.hid (fun w : World => eCheck (dropE 2) w (dropE_ok 2 (by unfold i64R; omega) w _) (dropE_few 2))
  rw [drop0] at K0
  rw [drop2] at K2
  unfold dropE Eff.val at K0 K2
  dsimp only [List.length_nil] at K0 K2
  go_enter Tryd.func6, Tryd.ntmps6
  go_wp2_with fail
  refine (K0.out _).mono ?_
  rintro e' w1 h1
  obtain ⟨rfl, b1⟩ := h1.below
  have HB1 := Lib.hid b1
  clear h1 b1
  go_wp2_with fail
  refine (K2.out _).mono ?_
  rintro e' w2 h2
  obtain ⟨rfl, b2⟩ := h2.below
  have HB2 := Lib.hid (HB1.out.trans (b2.mono HB1.out.size))
  clear h2 b2
  go_wp2_with fail
  refine (eWord 1 (HT.out.below HB2.out)).mono ?_
  rintro e' w3 h3
  obtain ⟨rfl, b3⟩ := h3.below
  rw [word1]
  have HB3 := Lib.hid (HB2.out.trans (b3.mono HB2.out.size))
  clear h3 b3
  have q : ((⟨#[109, 97, 107, 101]⟩ : ByteArray).toList == (⟨#[109, 97, 107, 101]⟩ : ByteArray).toList) = true := beq_self_eq_true _
  go_wp2
  go_ret
  exact ⟨rfl, HB3.out⟩
end Go.Proofs.YtnoojhkkojijpaaDoor
