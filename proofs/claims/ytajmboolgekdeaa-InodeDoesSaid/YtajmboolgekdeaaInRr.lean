import Derived.Test.YtajmboolgekdeaaInRw
namespace Go.Proofs.Ytajmboolgekdeaa
open Wd Ino Go.RowKit Go.ChangeShapes Go.WideShapes Go.Sort
set_option linter.unusedVariables false
set_option maxRecDepth 100000

set_option maxHeartbeats 8000000 in
theorem rRight (ino kind links size up : Int) (A B : Option Addr) (np c nn d : Nat) (hs : i64R size) (w : World) : Calls Try.prog 16 #[nv ino kind links size up (.slice A np c) (.slice B nn d)] w (Grows (.bool (rightB ino kind links size up np nn)) w) := by
  have hc := Cells.new w 25 (ncells ino kind links size up (.slice A np c) (.slice B nn d))
  have HG := Lib.hid (grow_one w (.cells (ncells ino kind links size up (.slice A np c) (.slice B nn d)) 25))
  obtain ⟨c0, c1, c2, c3, c4, c5, c6⟩ := cells7 hc
  have hl := hc.lt
  have g3 := cell_grown (a := ⟨w.heap.size, 3, none⟩) hl c3
  have g4 := cell_grown (a := ⟨w.heap.size, 4, none⟩) hl c4
  have g5 := cell_grown (a := ⟨w.heap.size, 5, none⟩) hl c5
  have g6 := cell_grown (a := ⟨w.heap.size, 6, none⟩) hl c6
  have KN := Lib.hid (fun w => rNeed size hs w)
  have KI := Lib.hid (fun w => rNumber_is ino w)
  have KU := Lib.hid (fun w => rNumber_is up w)
  have hfol : Try.prog.follows .mixedOrders = true := by kernel_rfl
  obtain ⟨b1, hb1⟩ : ∃ b, inB ino 1 1048576 = b := ⟨_, rfl⟩
  obtain ⟨m, hm⟩ : ∃ m, needP size = m := ⟨_, rfl⟩
  unfold nv
  unfold rightB fileB dirB upB
  rw [hm] at KN ⊢
  rw [hb1] at KI ⊢
  unfold ncells at c0 c1 c2 c3 c4 c5 c6 g3 g4 g5 g6 HG hl
  clear hc hm hb1 hs hl
  cases b1
  · rw [if_neg (by simp)]
    clear g3 g4 g5 g6 hfol
    go_enter Try.func16, Try.ntmps16
    go_wp2_with fail
    refine (KI.out _).mono ?_
    rintro e w1 ⟨rfl, rfl⟩
    go_wp2
    go_ret
    exact ⟨rfl, HG.out⟩
  · rw [Bool.true_and]
    by_cases l0 : links < 0
    · have l1 : inB links 0 16 = false := by unfold inB; rw [decide_eq_false (by omega), Bool.false_and]
      have l2 : decide (links < 0) = true := decide_eq_true l0
      rw [l1, if_neg (by simp)]
      clear g3 g4 g5 g6 hfol l0 l1
      go_enter Try.func16, Try.ntmps16
      go_wp2_with fail
      refine (KI.out _).mono ?_
      rintro e w1 ⟨rfl, rfl⟩
      go_wp2
      go_ret
      exact ⟨rfl, HG.out⟩
    · have l2 : decide (links < 0) = false := decide_eq_false l0
      by_cases l3 : 16 < links
      · have l1 : inB links 0 16 = false := by unfold inB; rw [decide_eq_false (show ¬ links ≤ 16 by omega), Bool.and_false]
        have l4 : decide (16 < links) = true := decide_eq_true l3
        rw [l1, if_neg (by simp)]
        clear g3 g4 g5 g6 hfol l0 l1 l3
        go_enter Try.func16, Try.ntmps16
        go_wp2_with fail
        refine (KI.out _).mono ?_
        rintro e w1 ⟨rfl, rfl⟩
        go_wp2
        go_ret
        exact ⟨rfl, HG.out⟩
      · have l4 : decide (16 < links) = false := decide_eq_false l3
        have l1 : inB links 0 16 = true := by unfold inB; rw [decide_eq_true (show 0 ≤ links by omega), decide_eq_true (show links ≤ 16 by omega)]; rfl
        rw [l1, if_pos rfl]
        clear l0 l1 l3
        by_cases h1 : kind = 1
        · have k1 : (kind == 1) = true := by simpa using h1
          rw [if_pos h1]
          unfold inB
          clear h1
          cases q1 : (up == 0)
          · rw [Bool.false_and, Bool.false_and, Bool.false_and]
            go_enter Try.func16, Try.ntmps16
            go_wp2_with fail
            refine (KI.out _).mono ?_
            rintro e w1 ⟨rfl, rfl⟩
            go_wp2_with fail
            refine wp_region_quiet_grown hfol (by kernel_rfl) ?_
            repeat (go_big_quiet_step (first
              | (go_at_call 19; (with_reducible exact Grows.in KN.out _ _ _))))
            refine wpQuiet_nil ?_
            intro _ hw'
            obtain ⟨⟨nr, osr⟩, hw''⟩ := hw'
            subst hw''
            clear g3 g4 g5 g6 c0 c1 c2 c3 c4 c5 c6
            go_wp2
            go_ret
            exact ⟨rfl, grow_trans HG.out ⟨nr, osr, rfl⟩⟩
          · cases q2 : ((nn : Int) == 0)
            · rw [Bool.true_and, Bool.false_and, Bool.false_and]
              go_enter Try.func16, Try.ntmps16
              go_wp2_with fail
              refine (KI.out _).mono ?_
              rintro e w1 ⟨rfl, rfl⟩
              go_wp2_with fail
              refine wp_region_quiet_grown hfol (by kernel_rfl) ?_
              repeat (go_big_quiet_step (first
                | (go_at_call 19; (with_reducible exact Grows.in KN.out _ _ _))))
              refine wpQuiet_nil ?_
              intro _ hw'
              obtain ⟨⟨nr, osr⟩, hw''⟩ := hw'
              subst hw''
              clear g3 g4 g5 g6 c0 c1 c2 c3 c4 c5 c6
              go_wp2
              go_ret
              exact ⟨rfl, grow_trans HG.out ⟨nr, osr, rfl⟩⟩
            · cases q3 : decide (0 ≤ size)
              · rw [Bool.true_and, Bool.true_and, Bool.false_and, Bool.false_and]
                go_enter Try.func16, Try.ntmps16
                go_wp2_with fail
                refine (KI.out _).mono ?_
                rintro e w1 ⟨rfl, rfl⟩
                go_wp2_with fail
                refine wp_region_quiet_grown hfol (by kernel_rfl) ?_
                repeat (go_big_quiet_step (first
                  | (go_at_call 19; (with_reducible exact Grows.in KN.out _ _ _))))
                refine wpQuiet_nil ?_
                intro _ hw'
                obtain ⟨⟨nr, osr⟩, hw''⟩ := hw'
                subst hw''
                clear g3 g4 g5 g6 c0 c1 c2 c3 c4 c5 c6
                go_wp2
                go_ret
                exact ⟨rfl, grow_trans HG.out ⟨nr, osr, rfl⟩⟩
              · cases q4 : decide (size ≤ 16384)
                · rw [Bool.true_and, Bool.true_and, Bool.true_and, Bool.false_and]
                  go_enter Try.func16, Try.ntmps16
                  go_wp2_with fail
                  refine (KI.out _).mono ?_
                  rintro e w1 ⟨rfl, rfl⟩
                  go_wp2_with fail
                  refine wp_region_quiet_grown hfol (by kernel_rfl) ?_
                  repeat (go_big_quiet_step (first
                    | (go_at_call 19; (with_reducible exact Grows.in KN.out _ _ _))))
                  refine wpQuiet_nil ?_
                  intro _ hw'
                  obtain ⟨⟨nr, osr⟩, hw''⟩ := hw'
                  subst hw''
                  clear g3 g4 g5 g6 c0 c1 c2 c3 c4 c5 c6
                  go_wp2
                  go_ret
                  exact ⟨rfl, grow_trans HG.out ⟨nr, osr, rfl⟩⟩
                · rw [Bool.true_and, Bool.true_and, Bool.true_and]
                  cases q5 : ((np : Int) == m)
                  · skip
                    go_enter Try.func16, Try.ntmps16
                    go_wp2_with fail
                    refine (KI.out _).mono ?_
                    rintro e w1 ⟨rfl, rfl⟩
                    go_wp2_with fail
                    refine wp_region_quiet_grown hfol (by kernel_rfl) ?_
                    repeat (go_big_quiet_step (first
                      | (go_at_call 19; (with_reducible exact Grows.in KN.out _ _ _))))
                    refine wpQuiet_nil ?_
                    intro _ hw'
                    obtain ⟨⟨nr, osr⟩, hw''⟩ := hw'
                    subst hw''
                    clear g3 g4 g5 g6 c0 c1 c2 c3 c4 c5 c6
                    go_wp2
                    go_ret
                    exact ⟨rfl, grow_trans HG.out ⟨nr, osr, rfl⟩⟩
                  · skip
                    go_enter Try.func16, Try.ntmps16
                    go_wp2_with fail
                    refine (KI.out _).mono ?_
                    rintro e w1 ⟨rfl, rfl⟩
                    go_wp2_with fail
                    refine wp_region_quiet_grown hfol (by kernel_rfl) ?_
                    repeat (go_big_quiet_step (first
                      | (go_at_call 19; (with_reducible exact Grows.in KN.out _ _ _))))
                    refine wpQuiet_nil ?_
                    intro _ hw'
                    obtain ⟨⟨nr, osr⟩, hw''⟩ := hw'
                    subst hw''
                    clear g3 g4 g5 g6 c0 c1 c2 c3 c4 c5 c6
                    go_wp2
                    go_ret
                    exact ⟨rfl, grow_trans HG.out ⟨nr, osr, rfl⟩⟩
        · have k1 : (kind == 1) = false := by simpa using h1
          rw [if_neg h1]
          clear g3 g4 g5 g6 hfol
          by_cases h2 : kind = 2
          · have k2 : (kind == 2) = true := by simpa using h2
            rw [if_pos h2]
            clear h1 h2
            cases q1 : (size == 0)
            · rw [Bool.false_and, Bool.false_and, Bool.false_and]
              go_enter Try.func16, Try.ntmps16
              go_wp2_with fail
              refine (KI.out _).mono ?_
              rintro e w1 ⟨rfl, rfl⟩
              go_wp2
              go_ret
              exact ⟨rfl, HG.out⟩
            · cases q2 : ((np : Int) == 0)
              · rw [Bool.true_and, Bool.false_and, Bool.false_and]
                go_enter Try.func16, Try.ntmps16
                go_wp2_with fail
                refine (KI.out _).mono ?_
                rintro e w1 ⟨rfl, rfl⟩
                go_wp2
                go_ret
                exact ⟨rfl, HG.out⟩
              · cases q3 : (links == 1)
                · rw [Bool.and_false, Bool.false_and]
                  go_enter Try.func16, Try.ntmps16
                  go_wp2_with fail
                  refine (KI.out _).mono ?_
                  rintro e w1 ⟨rfl, rfl⟩
                  go_wp2
                  go_ret
                  exact ⟨rfl, HG.out⟩
                · rw [Bool.true_and, Bool.true_and, Bool.true_and]
                  by_cases h3 : ino = 1
                  · have q4 : (ino != 1) = false := by simp [h3]
                    rw [if_pos h3]
                    clear h3
                    by_cases h4 : up = 1
                    · have q5 : (up == 1) = true := by simpa using h4
                      have q6 : inB up 1 1048576 = true := by rw [h4]; rfl
                      rw [q6] at KU
                      rw [q5]
                      clear h4 q6
                      go_enter Try.func16, Try.ntmps16
                      go_wp2_with fail
                      refine (KI.out _).mono ?_
                      rintro e w1 ⟨rfl, rfl⟩
                      go_wp2_with fail
                      refine (KU.out _).mono ?_
                      rintro e w1 ⟨rfl, rfl⟩
                      go_wp2
                      go_ret
                      exact ⟨rfl, HG.out⟩
                    · have q5 : (up == 1) = false := by simpa using h4
                      rw [q5]
                      cases q6 : inB up 1 1048576
                      · rw [q6] at KU
                        clear h4 q6
                        go_enter Try.func16, Try.ntmps16
                        go_wp2_with fail
                        refine (KI.out _).mono ?_
                        rintro e w1 ⟨rfl, rfl⟩
                        go_wp2_with fail
                        refine (KU.out _).mono ?_
                        rintro e w1 ⟨rfl, rfl⟩
                        go_wp2
                        go_ret
                        exact ⟨rfl, HG.out⟩
                      · rw [q6] at KU
                        clear h4 q6
                        go_enter Try.func16, Try.ntmps16
                        go_wp2_with fail
                        refine (KI.out _).mono ?_
                        rintro e w1 ⟨rfl, rfl⟩
                        go_wp2_with fail
                        refine (KU.out _).mono ?_
                        rintro e w1 ⟨rfl, rfl⟩
                        go_wp2
                        go_ret
                        exact ⟨rfl, HG.out⟩
                  · have q4 : (ino != 1) = true := by simp [h3]
                    rw [if_neg h3]
                    clear h3
                    cases q6 : inB up 1 1048576
                    · rw [q6] at KU
                      clear q6
                      go_enter Try.func16, Try.ntmps16
                      go_wp2_with fail
                      refine (KI.out _).mono ?_
                      rintro e w1 ⟨rfl, rfl⟩
                      go_wp2_with fail
                      refine (KU.out _).mono ?_
                      rintro e w1 ⟨rfl, rfl⟩
                      go_wp2
                      go_ret
                      exact ⟨rfl, HG.out⟩
                    · rw [q6] at KU
                      clear q6
                      go_enter Try.func16, Try.ntmps16
                      go_wp2_with fail
                      refine (KI.out _).mono ?_
                      rintro e w1 ⟨rfl, rfl⟩
                      go_wp2_with fail
                      refine (KU.out _).mono ?_
                      rintro e w1 ⟨rfl, rfl⟩
                      go_wp2
                      go_ret
                      exact ⟨rfl, HG.out⟩
          · have k2 : (kind == 2) = false := by simpa using h2
            rw [if_neg h2]
            clear h1 h2
            go_enter Try.func16, Try.ntmps16
            go_wp2_with fail
            refine (KI.out _).mono ?_
            rintro e w1 ⟨rfl, rfl⟩
            go_wp2
            go_ret
            exact ⟨rfl, HG.out⟩
end Go.Proofs.Ytajmboolgekdeaa
