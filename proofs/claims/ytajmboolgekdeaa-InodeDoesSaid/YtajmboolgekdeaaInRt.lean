import Derived.Test.YtajmboolgekdeaaInSml
namespace Go.Proofs.Ytajmboolgekdeaa
open Wd Ino Go.RowKit Go.ChangeShapes Go.WideShapes Go.Sort
set_option linter.unusedVariables false
set_option maxRecDepth 100000

set_option maxHeartbeats 4000000 in
theorem iRightFile (ino kind links size up : Int) (A B : Option Addr) (np c nn d : Nat) (hs : i64R size) (w : World) : Calls Try.prog 29 #[nv ino kind links size up (.slice A np c) (.slice B nn d)] w (Grows (.bool (fileB size up np nn)) w) := by
  have hc := Cells.new w 25 (ncells ino kind links size up (.slice A np c) (.slice B nn d))
  have HG := Lib.hid (grow_one w (.cells (ncells ino kind links size up (.slice A np c) (.slice B nn d)) 25))
  obtain ⟨c0, c1, c2, c3, c4, c5, c6⟩ := cells7 hc
  have hl := hc.lt
  have g3 := cell_grown (a := ⟨w.heap.size, 3, none⟩) hl c3
  have g4 := cell_grown (a := ⟨w.heap.size, 4, none⟩) hl c4
  have g5 := cell_grown (a := ⟨w.heap.size, 5, none⟩) hl c5
  have g6 := cell_grown (a := ⟨w.heap.size, 6, none⟩) hl c6
  have KW := Lib.hid (fun w => iWithin size 0 16384 w)
  have KN := Lib.hid (fun w => iNeed size hs w)
  have hfol : Try.prog.follows .mixedOrders = true := by kernel_rfl
  unfold nv
  unfold fileB
  unfold ncells at c3 c4 c5 c6 g3 g4 g5 g6 HG hl
  obtain ⟨m, hm⟩ : ∃ m, needP size = m := ⟨_, rfl⟩
  obtain ⟨b, hb⟩ : ∃ b, inB size 0 16384 = b := ⟨_, rfl⟩
  rw [hm] at KN ⊢
  rw [hb] at KW ⊢
  clear hc c0 c1 c2 hl hm hb hs
  cases q1 : (up == 0)
  · rw [Bool.false_and, Bool.false_and, Bool.false_and]
    go_enter Try.func29, Try.ntmps29
    go_wp2_with fail
    refine wp_region_quiet_grown hfol (by kernel_rfl) ?_
    repeat (go_big_quiet_step (first
      | (go_at_call 23; (with_reducible exact Grows.in KW.out _ _ _))
      | (go_at_call 18; (with_reducible exact Grows.in KN.out _ _ _))))
    refine wpQuiet_nil ?_
    intro _ hw'
    obtain ⟨⟨nr, osr⟩, hw''⟩ := hw'
    subst hw''
    clear g3 g4 g5 g6 c3 c4 c5 c6
    go_wp2
    go_ret
    exact ⟨rfl, grow_trans HG.out ⟨nr, osr, rfl⟩⟩
  · cases q2 : ((nn : Int) == 0)
    · rw [Bool.true_and, Bool.false_and, Bool.false_and]
      go_enter Try.func29, Try.ntmps29
      go_wp2_with fail
      refine wp_region_quiet_grown hfol (by kernel_rfl) ?_
      repeat (go_big_quiet_step (first
        | (go_at_call 23; (with_reducible exact Grows.in KW.out _ _ _))
        | (go_at_call 18; (with_reducible exact Grows.in KN.out _ _ _))))
      refine wpQuiet_nil ?_
      intro _ hw'
      obtain ⟨⟨nr, osr⟩, hw''⟩ := hw'
      subst hw''
      clear g3 g4 g5 g6 c3 c4 c5 c6
      go_wp2
      go_ret
      exact ⟨rfl, grow_trans HG.out ⟨nr, osr, rfl⟩⟩
    · cases b
      · rw [Bool.and_false, Bool.false_and]
        go_enter Try.func29, Try.ntmps29
        go_wp2_with fail
        refine wp_region_quiet_grown hfol (by kernel_rfl) ?_
        repeat (go_big_quiet_step (first
          | (go_at_call 23; (with_reducible exact Grows.in KW.out _ _ _))
          | (go_at_call 18; (with_reducible exact Grows.in KN.out _ _ _))))
        refine wpQuiet_nil ?_
        intro _ hw'
        obtain ⟨⟨nr, osr⟩, hw''⟩ := hw'
        subst hw''
        clear g3 g4 g5 g6 c3 c4 c5 c6
        go_wp2
        go_ret
        exact ⟨rfl, grow_trans HG.out ⟨nr, osr, rfl⟩⟩
      · rw [Bool.true_and, Bool.true_and, Bool.true_and]
        cases q4 : ((np : Int) == m)
        · skip
          go_enter Try.func29, Try.ntmps29
          go_wp2_with fail
          refine wp_region_quiet_grown hfol (by kernel_rfl) ?_
          repeat (go_big_quiet_step (first
            | (go_at_call 23; (with_reducible exact Grows.in KW.out _ _ _))
            | (go_at_call 18; (with_reducible exact Grows.in KN.out _ _ _))))
          refine wpQuiet_nil ?_
          intro _ hw'
          obtain ⟨⟨nr, osr⟩, hw''⟩ := hw'
          subst hw''
          clear g3 g4 g5 g6 c3 c4 c5 c6
          go_wp2
          go_ret
          exact ⟨rfl, grow_trans HG.out ⟨nr, osr, rfl⟩⟩
        · skip
          go_enter Try.func29, Try.ntmps29
          go_wp2_with fail
          refine wp_region_quiet_grown hfol (by kernel_rfl) ?_
          repeat (go_big_quiet_step (first
            | (go_at_call 23; (with_reducible exact Grows.in KW.out _ _ _))
            | (go_at_call 18; (with_reducible exact Grows.in KN.out _ _ _))))
          refine wpQuiet_nil ?_
          intro _ hw'
          obtain ⟨⟨nr, osr⟩, hw''⟩ := hw'
          subst hw''
          clear g3 g4 g5 g6 c3 c4 c5 c6
          go_wp2
          go_ret
          exact ⟨rfl, grow_trans HG.out ⟨nr, osr, rfl⟩⟩
end Go.Proofs.Ytajmboolgekdeaa
