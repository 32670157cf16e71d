import Derived.Test.YtcimmfhbffofjaaRcAl
import Derived.Test.YtcimmfhbffofjaaRcEq
import Derived.Test.YtcimmfhbffofjaaTrue
namespace Go.Proofs.Ytcimmfhbffofjaa
open Wd U Go.ChangeShapes Go.WideShapes Go.RowKit Go.Sort
set_option linter.unusedVariables false
set_option linter.unusedSimpArgs false

/-! a drop there and back -/
def dE2 : Eff := ⟨8, 2, 0, 0, 0, 0, ⟨#[]⟩, ⟨#[]⟩, none, 0, []⟩
theorem dE2_rec : recB dE2 0 = true := by unfold recB; rw [check_is]; simp [Eff.mayP, Eff.just, sameB, dE2, ndB]
theorem dE2_len : (recW dE2 0).length = 11 := by rw [recW_len]; rfl
theorem dE2_few : dE2.few := ⟨Nat.zero_le _, Nat.zero_le _, Nat.zero_le _⟩
theorem dE2_ok (w : World) (B : Nat) : dE2.Ok w B := ⟨(by show i64R 8; unfold i64R; omega), (by show i64R 2; unfold i64R; omega), i64R_0, i64R_0, i64R_0, i64R_0, Nat.zero_le _, Nat.zero_le _, (fun x hx => by cases hx), Row.nil, Nat.zero_le _, Nat.zero_le _⟩
theorem dE2_back {l : List Nat} {W w : World} {e : Ending} (hl : l = recW dE2 0) (h : OfR l W e w) : ∃ x : Eff, x.ino = 2 ∧ e = .returned (.tuple #[x.val, .int .i64 0, .int .i64 11, .int .i64 0]) ∧ Below W.heap.size W w := by
  obtain ⟨x, r, t, h1, h2, h3, _, _, h6, h7⟩ := ofr_yes h ⟨dE2, 0, [], dE2_rec, by unfold zer; rw [if_neg (by decide)]; rfl, by rw [List.append_nil]; exact hl⟩
  have h4 : recW dE2 0 ++ [] = recW x r ++ t := by rw [List.append_nil, ← hl]; exact h3
  obtain ⟨e1, e2, e3⟩ := rec_inj dE2_rec h1 h4
  have e4 : x.ino = (core x).ino := rfl
  have e5 : manyR x = 11 := by
    have := congrArg List.length h4
    rw [← e3, List.length_append, List.length_append, dE2_len, recW_len] at this
    simpa using this.symm
  refine ⟨x, by rw [e4, ← e1]; rfl, ?_, h7⟩
  rw [h6, ← e2, e5]
  rfl
set_option maxRecDepth 100000 in
set_option maxHeartbeats 2000000 in
theorem recAwake_true (w : World) : Calls Try.prog 6 #[] w (TrueB w) := by
  have KP := Lib.hid (fun w => rPut dE2 0 w (dE2_ok _ _) dE2_few)
  have hpl : putL dE2 0 = recW dE2 0 := by unfold putL; rw [dE2_rec]; rfl
  have HPL := Lib.hid hpl
  clear hpl
  go_enter Try.func6, Try.ntmps6
  go_wp2_with (first
    | (go_at_call 8; refine (KP.out _).mono ?_; rintro e' w1 ⟨b1, A1, k1, rfl, r1, l1⟩; rw [HPL.out, dE2_len] at r1 l1; rw [HPL.out, dE2_len, dE2_rec, show errB true 92 = 0 from rfl]; have R1 := Lib.hid r1; have B1 := Lib.hid b1; have L1 := Lib.hid l1; clear b1 r1 l1)
    | (go_at_call 10; refine (rOf (recW dE2 0) 11 dE2_len (rec_small dE2_rec) (by omega) A1 k1 _ L1.out _ (Nat.le_refl _) R1.out).mono ?_; rintro e' w2 h2; obtain ⟨x, x1, rfl, b2⟩ := dE2_back rfl h2; have HX := Lib.hid x1; have B2 := Lib.hid (B1.out.trans (b2.mono B1.out.size)); clear h2 x1 b2; unfold Eff.val; rw [HX.out]))
  go_ret
  exact ⟨rfl, B2.out.alloc B2.out.size _⟩
end Go.Proofs.Ytcimmfhbffofjaa
