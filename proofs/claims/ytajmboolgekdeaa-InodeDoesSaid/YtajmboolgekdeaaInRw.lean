import Derived.Test.YtajmboolgekdeaaInRt
namespace Go.Proofs.Ytajmboolgekdeaa
open Wd Ino Go.RowKit Go.ChangeShapes Go.WideShapes Go.Sort
set_option linter.unusedVariables false
set_option maxRecDepth 100000

set_option maxHeartbeats 4000000 in
theorem iRight (ino kind links size up : Int) (A B : Option Addr) (np c nn d : Nat) (hs : i64R size) (w : World) : Calls Try.prog 15 #[nv ino kind links size up (.slice A np c) (.slice B nn d)] w (Grows (.bool (rightB ino kind links size up np nn)) w) := by
  have hc := Cells.new w 25 (ncells ino kind links size up (.slice A np c) (.slice B nn d))
  have HG := Lib.hid (grow_one w (.cells (ncells ino kind links size up (.slice A np c) (.slice B nn d)) 25))
  obtain ⟨c0, c1, c2, c3, c4, c5, c6⟩ := cells7 hc
  have KF := Lib.hid (fun w => iRightFile ino kind links size up A B np c nn d hs w)
  have KD := Lib.hid (fun w => iRightDir ino kind links size up A np c (.slice B nn d) w)
  obtain ⟨R1, hR1⟩ : ∃ b, fileB size up np nn = b := ⟨_, rfl⟩
  obtain ⟨R2, hR2⟩ : ∃ b, dirB ino links size up np = b := ⟨_, rfl⟩
  obtain ⟨b1, hb1⟩ : ∃ b, inB ino 1 1048576 = b := ⟨_, rfl⟩
  obtain ⟨b2, hb2⟩ : ∃ b, inB links 0 16 = b := ⟨_, rfl⟩
  have KI := Lib.hid (fun w => iWithin_is ino 1 1048576 w)
  have KL := Lib.hid (fun w => iWithin_is links 0 16 w)
  unfold nv at KF KD ⊢
  unfold rightB
  rw [hR1] at KF ⊢
  rw [hR2] at KD ⊢
  rw [hb1] at KI ⊢
  rw [hb2] at KL ⊢
  unfold ncells at c0 c1 c2 c3 c4 c5 c6 HG
  clear hc hR1 hR2 hb1 hb2 hs
  cases b1
  · rw [if_neg (by simp)]
    go_enter Try.func15, Try.ntmps15
    go_wp2_with (go_at_call 23; refine (KI.out _).mono ?_; rintro e w1 ⟨rfl, rfl⟩)
    go_ret
    exact ⟨rfl, HG.out⟩
  · cases b2
    · rw [if_neg (by simp)]
      go_enter Try.func15, Try.ntmps15
      go_wp2_with fail
      refine (KI.out _).mono ?_
      rintro e w1 ⟨rfl, rfl⟩
      go_wp2_with fail
      refine (KL.out _).mono ?_
      rintro e w1 ⟨rfl, rfl⟩
      go_wp2
      go_ret
      exact ⟨rfl, HG.out⟩
    · rw [if_pos (by simp)]
      by_cases h1 : kind = 1
      · have q1 : (kind == 1) = true := by simpa using h1
        rw [if_pos h1]
        clear h1
        go_enter Try.func15, Try.ntmps15
        go_wp2_with fail
        refine (KI.out _).mono ?_
        rintro e w1 ⟨rfl, rfl⟩
        go_wp2_with fail
        refine (KL.out _).mono ?_
        rintro e w1 ⟨rfl, rfl⟩
        go_wp2_with fail
        refine (KF.out _).mono ?_
        rintro e w1 ⟨rfl, hg⟩
        go_wp2
        go_ret
        exact ⟨rfl, grow_trans HG.out hg⟩
      · have q1 : (kind == 1) = false := by simpa using h1
        rw [if_neg h1]
        by_cases h2 : kind = 2
        · have q2 : (kind == 2) = true := by simpa using h2
          rw [if_pos h2]
          clear h1 h2
          go_enter Try.func15, Try.ntmps15
          go_wp2_with fail
          refine (KI.out _).mono ?_
          rintro e w1 ⟨rfl, rfl⟩
          go_wp2_with fail
          refine (KL.out _).mono ?_
          rintro e w1 ⟨rfl, rfl⟩
          go_wp2_with fail
          refine (KD.out _).mono ?_
          rintro e w1 ⟨rfl, hg⟩
          go_wp2
          go_ret
          exact ⟨rfl, grow_trans HG.out hg⟩
        · have q2 : (kind == 2) = false := by simpa using h2
          rw [if_neg h2]
          clear h1 h2
          go_enter Try.func15, Try.ntmps15
          go_wp2_with fail
          refine (KI.out _).mono ?_
          rintro e w1 ⟨rfl, rfl⟩
          go_wp2_with fail
          refine (KL.out _).mono ?_
          rintro e w1 ⟨rfl, rfl⟩
          go_wp2
          go_ret
          exact ⟨rfl, HG.out⟩
end Go.Proofs.Ytajmboolgekdeaa
