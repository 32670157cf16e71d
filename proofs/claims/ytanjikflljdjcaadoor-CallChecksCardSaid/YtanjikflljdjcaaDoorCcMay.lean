import Derived.Test.YtanjikflljdjcaaDoorCcSml
import Derived.Test.YtanjikflljdjcaaDoorCcWrd
/-
  The project's may and Check; the document's Check.
-/
namespace Go.Proofs.YtanjikflljdjcaaDoor
open Wd U Go.RowKit Go.ChangeShapes Go.WideShapes Go.Sort
set_option linter.unusedVariables false
set_option maxRecDepth 100000
set_option linter.unusedSimpArgs false

def Cal.mayB (c : Cal) : Bool :=
  if c.kind = 1 then wnB c.flags 31
  else if c.kind = 3 then wnB c.n 1024
  else if c.kind = 5 then wnB c.n 1024 && decide (0 ≤ c.off)
  else if c.kind = 4 then wnB c.data.length 1024
  else if c.kind = 6 then decide (0 ≤ c.off) && wnB c.data.length 1024
  else if c.kind = 7 then decide (0 ≤ c.off)
  else if c.kind = 15 then decide (0 ≤ c.n)
  else !(wordS c.kind).toList.isEmpty
def Cal.err (c : Cal) : Int := if c.mayB = true then 0 else 22

set_option maxHeartbeats 2000000 in
theorem cMay (c : Cal) (w : World) (hT : Tabs w) : Calls Tryd.prog 18 #[c.val] w (Grows (.bool c.mayB) w) := by
  obtain ⟨kind, fd, flags, n, off, path, other, A, cp, data⟩ := c
  have c0 : ∀ w1, Below (w.alloc (.cells (calCells ⟨kind, fd, flags, n, off, path, other, A, cp, data⟩) 24)).heap.size (w.alloc (.cells (calCells ⟨kind, fd, flags, n, off, path, other, A, cp, data⟩) 24)) w1 → _ := fun w1 b1 => ccells ((Cells.new w 24 (calCells ⟨kind, fd, flags, n, off, path, other, A, cp, data⟩)).below' b1)
  unfold calCells at c0
  dsimp only at c0
  have HC := Lib.hid c0
  have HT := Lib.hid (hT.below ((Below.refl w.heap.size w).alloc (Nat.le_refl _) (.cells #[.int .i64 kind, .int .i64 fd, .int .i64 flags, .int .i64 n, .int .i64 off, .string path, .string other, .slice A data.length cp] 24)))
  have G0 := Lib.hid (grow_one w (.cells #[.int .i64 kind, .int .i64 fd, .int .i64 flags, .int .i64 n, .int .i64 off, .string path, .string other, .slice A data.length cp] 24))
  clear c0 hT
  unfold Cal.val
  dsimp only
  by_cases h1 : kind = 1
  · have q : (kind == 1) = true := by simpa using h1
    have e : Cal.mayB ⟨kind, fd, flags, n, off, path, other, A, cp, data⟩ = wnB flags 31 := by unfold Cal.mayB; simp [h1]
    rw [e]
    clear e h1
    go_enter Tryd.func18, Tryd.ntmps18
    go_wp2_with fail
    refine (cWithin flags 31 _).mono ?_
    rintro e' w1 h1
    obtain ⟨rfl, b1⟩ := h1.below
    have G := Lib.hid (grow_trans G0.out h1.2)
    clear h1
    obtain ⟨c0, c1, c2, c3, c4, c5, c6, c7⟩ := HC.out w1 b1
    clear b1
    go_wp2
    go_ret
    exact ⟨rfl, G.out⟩
  · have q1_ : (kind == 1) = false := by simpa using h1
    by_cases h3 : kind = 3
    · have q : (kind == 3) = true := by simpa using h3
      have e : Cal.mayB ⟨kind, fd, flags, n, off, path, other, A, cp, data⟩ = wnB n 1024 := by unfold Cal.mayB; simp [h1, h3]
      rw [e]
      clear e h1 h3
      go_enter Tryd.func18, Tryd.ntmps18
      go_wp2_with fail
      refine (cWithin n 1024 _).mono ?_
      rintro e' w1 h1
      obtain ⟨rfl, b1⟩ := h1.below
      have G := Lib.hid (grow_trans G0.out h1.2)
      clear h1
      obtain ⟨c0, c1, c2, c3, c4, c5, c6, c7⟩ := HC.out w1 b1
      clear b1
      go_wp2
      go_ret
      exact ⟨rfl, G.out⟩
    · have q3_ : (kind == 3) = false := by simpa using h3
      by_cases h5 : kind = 5
      · have q : (kind == 5) = true := by simpa using h5
        have e : Cal.mayB ⟨kind, fd, flags, n, off, path, other, A, cp, data⟩ = (wnB n 1024 && decide (0 ≤ off)) := by unfold Cal.mayB; simp [h1, h3, h5]
        rw [e]
        clear e h1 h3 h5
        have z : decide (off ≥ 0) = decide (0 ≤ off) := rfl
        cases q1 : decide (0 ≤ off) <;> rw [q1] at z <;> cases q2 : wnB n 1024 <;>
        · have Q := Lib.hid q2
          clear q2
          go_enter Tryd.func18, Tryd.ntmps18
          go_wp2_with fail
          refine (cWithin n 1024 _).mono ?_
          rw [Q.out]
          rintro e' w1 h1
          obtain ⟨rfl, b1⟩ := h1.below
          have G := Lib.hid (grow_trans G0.out h1.2)
          clear h1
          obtain ⟨c0, c1, c2, c3, c4, c5, c6, c7⟩ := HC.out w1 b1
          clear b1
          go_wp2
          go_ret
          exact ⟨rfl, G.out⟩
      · have q5_ : (kind == 5) = false := by simpa using h5
        by_cases h4 : kind = 4
        · have q : (kind == 4) = true := by simpa using h4
          have e : Cal.mayB ⟨kind, fd, flags, n, off, path, other, A, cp, data⟩ = wnB data.length 1024 := by unfold Cal.mayB; simp [h1, h3, h5, h4]
          rw [e]
          clear e h1 h3 h5 h4
          go_enter Tryd.func18, Tryd.ntmps18
          go_wp2_with fail
          refine (cWithin data.length 1024 _).mono ?_
          rintro e' w1 h1
          obtain ⟨rfl, b1⟩ := h1.below
          have G := Lib.hid (grow_trans G0.out h1.2)
          clear h1
          obtain ⟨c0, c1, c2, c3, c4, c5, c6, c7⟩ := HC.out w1 b1
          clear b1
          go_wp2
          go_ret
          exact ⟨rfl, G.out⟩
        · have q4_ : (kind == 4) = false := by simpa using h4
          by_cases h6 : kind = 6
          · have q : (kind == 6) = true := by simpa using h6
            have e : Cal.mayB ⟨kind, fd, flags, n, off, path, other, A, cp, data⟩ = (decide (0 ≤ off) && wnB data.length 1024) := by unfold Cal.mayB; simp [h1, h3, h5, h4, h6]
            rw [e]
            clear e h1 h3 h5 h4 h6
            have z : decide (off ≥ 0) = decide (0 ≤ off) := rfl
            cases q1 : decide (0 ≤ off)
            · rw [q1] at z
              go_enter Tryd.func18, Tryd.ntmps18
              go_wp2
              go_ret
              exact ⟨rfl, G0.out⟩
            · rw [q1] at z
              go_enter Tryd.func18, Tryd.ntmps18
              go_wp2_with fail
              refine (cWithin data.length 1024 _).mono ?_
              rintro e' w1 h1
              obtain ⟨rfl, b1⟩ := h1.below
              have G := Lib.hid (grow_trans G0.out h1.2)
              clear h1
              obtain ⟨c0, c1, c2, c3, c4, c5, c6, c7⟩ := HC.out w1 b1
              clear b1
              go_wp2
              go_ret
              exact ⟨rfl, G.out⟩
          · have q6_ : (kind == 6) = false := by simpa using h6
            by_cases h7 : kind = 7
            · have q : (kind == 7) = true := by simpa using h7
              have e : Cal.mayB ⟨kind, fd, flags, n, off, path, other, A, cp, data⟩ = decide (0 ≤ off) := by unfold Cal.mayB; simp [h1, h3, h5, h4, h6, h7]
              rw [e]
              clear e h1 h3 h5 h4 h6 h7
              have z : decide (off ≥ 0) = decide (0 ≤ off) := rfl
              cases q1 : decide (0 ≤ off) <;> rw [q1] at z <;>
              · go_enter Tryd.func18, Tryd.ntmps18
                go_wp2
                go_ret
                exact ⟨rfl, G0.out⟩
            · have q7_ : (kind == 7) = false := by simpa using h7
              by_cases h15 : kind = 15
              · have q : (kind == 15) = true := by simpa using h15
                have e : Cal.mayB ⟨kind, fd, flags, n, off, path, other, A, cp, data⟩ = decide (0 ≤ n) := by unfold Cal.mayB; simp [h1, h3, h5, h4, h6, h7, h15]
                rw [e]
                clear e h1 h3 h5 h4 h6 h7 h15
                have z : decide (n ≥ 0) = decide (0 ≤ n) := rfl
                cases q1 : decide (0 ≤ n) <;> rw [q1] at z <;>
                · go_enter Tryd.func18, Tryd.ntmps18
                  go_wp2
                  go_ret
                  exact ⟨rfl, G0.out⟩
              · have q15_ : (kind == 15) = false := by simpa using h15
                have e : Cal.mayB ⟨kind, fd, flags, n, off, path, other, A, cp, data⟩ = (!(wordS kind).toList.isEmpty) := by unfold Cal.mayB; simp [h1, h3, h5, h4, h6, h7, h15]
                rw [e]
                clear e h1 h3 h5 h4 h6 h7 h15
                obtain ⟨s, hs⟩ : ∃ s, wordS kind = s := ⟨_, rfl⟩
                have q : ((s.toList == ([] : List UInt8)) = s.toList.isEmpty) := by cases s.toList <;> rfl
                rw [hs]
                have HS := Lib.hid hs
                clear hs
                cases q2 : s.toList.isEmpty <;> rw [q2] at q <;>
                · go_enter Tryd.func18, Tryd.ntmps18
                  go_wp2_with fail
                  refine (cWord kind HT.out).mono ?_
                  rw [HS.out]
                  rintro e' w1 h1
                  obtain ⟨rfl, b1⟩ := h1.below
                  have G := Lib.hid (grow_trans G0.out h1.2)
                  clear h1
                  go_wp2
                  go_ret
                  exact ⟨rfl, G.out⟩


theorem cCheck (c : Cal) (w : World) (hT : Tabs w) : Calls Tryd.prog 7 #[c.val] w (Grows (.int .i64 c.err) w) := by
  have HC := Lib.hid (Cells.new w 24 (calCells c))
  have HT := Lib.hid (hT.below ((Below.refl w.heap.size w).alloc (Nat.le_refl _) (.cells (calCells c) 24)))
  have G0 := Lib.hid (grow_one w (.cells (calCells c) 24))
  have K := Lib.hid (fun w hT => cMay c w hT)
  unfold Cal.err
  obtain ⟨B, hB⟩ : ∃ B, c.mayB = B := ⟨_, rfl⟩
  rw [hB] at K ⊢
  clear hB hT
  obtain ⟨c0, c1, c2, c3, c4, c5, c6, c7⟩ := ccells HC.out
  unfold Cal.val at K ⊢
  unfold calCells at HC HT G0 c0 c1 c2 c3 c4 c5 c6 c7
  cases B <;>
  · go_enter Tryd.func7, Tryd.ntmps7
    go_wp2_with fail
    refine (K.out _ HT.out).mono ?_
    rintro e' w1 h1
    obtain ⟨rfl, b1⟩ := h1.below
    have G := Lib.hid (grow_trans G0.out h1.2)
    clear h1
    go_wp2
    go_ret
    exact ⟨rfl, G.out⟩
end Go.Proofs.YtanjikflljdjcaaDoor
