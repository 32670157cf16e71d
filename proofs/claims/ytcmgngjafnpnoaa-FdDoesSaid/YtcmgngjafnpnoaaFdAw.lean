import Derived.Test.YtcmgngjafnpnoaaFdFace
import Derived.Test.YtcmgngjafnpnoaaTrue
/-! The example of fd. -/
namespace Go.Proofs.Ytcmgngjafnpnoaa
open Wd Go.RowKit Go.ChangeShapes Go.WideShapes Go.Sort
set_option linter.unusedVariables false
set_option maxRecDepth 100000
def awT1 : List Opn := openT noneT ⟨5, 0, 0⟩
def awT2 : List Opn := openT awT1 ⟨6, 0, 0⟩
def awT3 : List Opn := closeT awT2 0
def awT4 : List Opn := openT awT3 ⟨7, 0, 0⟩
theorem GoodT.open_ {T : List Opn} (h : GoodT T) (o : Opn) : GoodT (openT T o) := by
  unfold openT
  split
  · rename_i hb
    unfold openB at hb
    rw [Bool.and_eq_true] at hb
    exact h.set _ (.inr (of_decide_eq_true hb.2))
  · exact h
theorem GoodT.close {T : List Opn} (h : GoodT T) (fd : Int) : GoodT (closeT T fd) := by
  unfold closeT
  split
  · exact h.set _ (.inl rfl)
  · exact h
theorem GoodT.set_ {T : List Opn} (h : GoodT T) (fd : Int) (o : Opn) : GoodT (setT T fd o) := by
  unfold setT
  split
  · rename_i hb
    unfold setB at hb
    rw [Bool.and_eq_true] at hb
    exact h.set _ (.inr (of_decide_eq_true hb.2))
  · exact h
set_option maxHeartbeats 2000000 in
theorem fdAwake (F : FdFace) (w : World) : Calls Try.prog 6 #[] w (TrueB w) := by
  have g1 := GoodT.none.open_ ⟨5, 0, 0⟩
  have g2 := g1.open_ ⟨6, 0, 0⟩
  have g3 := g2.close 0
  have g4 := g3.open_ ⟨7, 0, 0⟩
  have KN := Lib.hid (F.new w)
  have K1 := Lib.hid (fun wx g (h : F.st wx g noneT) => F.open_ h GoodT.none ⟨5, 0, 0⟩)
  have K2 := Lib.hid (fun wx g (h : F.st wx g (openT noneT ⟨5, 0, 0⟩)) => F.open_ h g1 ⟨6, 0, 0⟩)
  have K3 := Lib.hid (fun wx g (h : F.st wx g (openT (openT noneT ⟨5, 0, 0⟩) ⟨6, 0, 0⟩)) => F.close h g2 0 (by unfold i64R; decide))
  have K4 := Lib.hid (fun wx g (h : F.st wx g (closeT (openT (openT noneT ⟨5, 0, 0⟩) ⟨6, 0, 0⟩) 0)) => F.open_ h g3 ⟨7, 0, 0⟩)
  have K5 := Lib.hid (fun wx g (h : F.st wx g (openT (closeT (openT (openT noneT ⟨5, 0, 0⟩) ⟨6, 0, 0⟩) 0) ⟨7, 0, 0⟩)) => F.len h g4)
  have e2 : openV (openT noneT ⟨5, 0, 0⟩) ⟨6, 0, 0⟩ = 1 ∧ openB (openT noneT ⟨5, 0, 0⟩) ⟨6, 0, 0⟩ = true := by decide
  have e4 : openV (closeT (openT (openT noneT ⟨5, 0, 0⟩) ⟨6, 0, 0⟩) 0) ⟨7, 0, 0⟩ = 0 ∧ openB (closeT (openT (openT noneT ⟨5, 0, 0⟩) ⟨6, 0, 0⟩) 0) ⟨7, 0, 0⟩ = true := by decide
  have e5 : (allT (openT (closeT (openT (openT noneT ⟨5, 0, 0⟩) ⟨6, 0, 0⟩) 0) ⟨7, 0, 0⟩)).length = 2 := by decide
  have e1' : openV noneT ⟨5, 0, 0⟩ = 0 ∧ openB noneT ⟨5, 0, 0⟩ = true := by decide
  rw [e1'.1, e1'.2] at K1
  rw [e2.1, e2.2] at K2
  rw [e4.1, e4.2] at K4
  rw [e5] at K5
  clear e2 e4 e5 e1' g1 g2 g3 g4
  unfold Opn.val RetIB fptr at *
  dsimp only at *
  go_enter Try.func6, Try.ntmps6
  go_wp2_with fail
  refine (KN.out).mono ?_
  rintro e w1 ⟨g, rfl, h1, hb1, hg⟩
  have HB1 := Lib.hid hb1; have H1 := Lib.hid (K1.out _ _ h1)
  clear hb1 h1 KN K1
  go_wp2_with fail
  refine (H1.out).mono ?_
  rintro e w2 ⟨rfl, h2, s2⟩
  have S2 := Lib.hid s2; have H2 := Lib.hid (K2.out _ _ h2)
  clear h2 s2 K2 H1
  go_wp2_with fail
  refine (H2.out).mono ?_
  rintro e w3 ⟨rfl, h3, s3⟩
  have S3 := Lib.hid (S2.out.trans s3); have H3 := Lib.hid (K3.out _ _ h3)
  clear h3 s3 K3 H2
  go_wp2_with fail
  refine (H3.out).mono ?_
  rintro e w4 ⟨rfl, h4, s4⟩
  have S4 := Lib.hid (S3.out.trans s4); have H4 := Lib.hid (K4.out _ _ h4)
  clear h4 s4 K4 H3
  unfold RetOB
  go_wp2_with fail
  refine (H4.out).mono ?_
  rintro e w5 ⟨rfl, h5, s5⟩
  have S5 := Lib.hid (S4.out.trans s5); have H5 := Lib.hid (K5.out _ _ h5)
  clear h5 s5 K5 H4
  go_wp2_with fail
  refine (H5.out).mono ?_
  rintro e w6 ⟨rfl, hb6⟩
  have B6 := Lib.hid ((HB1.out.trans (Sd.below (Below.refl _ w1) HB1.out.size S5.out hg)).trans (hb6.mono (Nat.le_trans HB1.out.size S5.out.size)))
  clear hb6 H5
  go_wp2
  go_ret
  exact ⟨rfl, B6.out⟩
end Go.Proofs.Ytcmgngjafnpnoaa
