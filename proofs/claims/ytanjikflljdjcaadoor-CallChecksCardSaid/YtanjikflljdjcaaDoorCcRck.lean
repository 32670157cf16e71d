import Derived.Test.YtanjikflljdjcaaDoorCcMay
/-
  The document's Check.
-/
namespace Go.Proofs.YtanjikflljdjcaaDoor
open Wd U Go.RowKit Go.ChangeShapes Go.WideShapes Go.Sort
set_option linter.unusedVariables false
set_option linter.unusedSimpArgs false
set_option maxRecDepth 100000
theorem wordS_some {k : Int} (h : 1 ≤ k ∧ k ≤ 17) : (wordS k).toList.isEmpty = false := by
  rw [wordS_empty, decide_eq_false (by omega), decide_eq_false (by omega)]; rfl

set_option maxHeartbeats 2000000 in
theorem rCheck (c : Cal) (w : World) : Calls Tryd.prog 8 #[c.val] w (Grows (.int .i64 c.err) w) := by
  obtain ⟨kind, fd, flags, n, off, path, other, A, cp, data⟩ := c
  have c0 : ∀ w1, Below (w.alloc (.cells (calCells ⟨kind, fd, flags, n, off, path, other, A, cp, data⟩) 24)).heap.size (w.alloc (.cells (calCells ⟨kind, fd, flags, n, off, path, other, A, cp, data⟩) 24)) w1 → _ := fun w1 b1 => ccells ((Cells.new w 24 (calCells ⟨kind, fd, flags, n, off, path, other, A, cp, data⟩)).below' b1)
  unfold calCells at c0
  dsimp only at c0
  have HC := Lib.hid c0
  have G0 := Lib.hid (grow_one w (.cells #[.int .i64 kind, .int .i64 fd, .int .i64 flags, .int .i64 n, .int .i64 off, .string path, .string other, .slice A data.length cp] 24))
  clear c0
  obtain ⟨s, hs⟩ : ∃ s, wordS kind = s := ⟨_, rfl⟩
  have q : ((s.toList == ([] : List UInt8)) = s.toList.isEmpty) := by cases s.toList <;> rfl
  have HS := Lib.hid hs
  clear hs
  by_cases h1 : kind = 1
  · have q1_ : (kind == 1) = true := by simpa using h1
    have q3_ : (kind == 3) = false := by rw [h1]; rfl
    have q5_ : (kind == 5) = false := by rw [h1]; rfl
    have q4_ : (kind == 4) = false := by rw [h1]; rfl
    have q6_ : (kind == 6) = false := by rw [h1]; rfl
    have q7_ : (kind == 7) = false := by rw [h1]; rfl
    have q15_ : (kind == 15) = false := by rw [h1]; rfl
    have qe : s.toList.isEmpty = false := by rw [← HS.out]; exact wordS_some (by omega)
    rw [qe] at q
    have HK := Lib.hid qe
    clear qe
    by_cases a0 : flags < 0
    · have z0 : decide (flags < 0) = true := decide_eq_true a0
      have y0 : ¬ 0 ≤ flags := by omega
      have e : Cal.err ⟨kind, fd, flags, n, off, path, other, A, cp, data⟩ = 22 := by unfold Cal.err Cal.mayB wnB; simp [h1, y0]
      rw [e]
      unfold Cal.val
      dsimp only
      clear e HK h1 a0 y0
      go_enter Tryd.func8, Tryd.ntmps8
      go_wp2_with fail
      refine (rWord kind _).mono ?_
      rw [HS.out]
      rintro e' w1 h1
      obtain ⟨rfl, b1⟩ := h1.below
      have G := Lib.hid (grow_trans G0.out h1.2)
      clear h1
      obtain ⟨c0, c1, c2, c3, c4, c5, c6, c7⟩ := HC.out w1 b1
      clear b1
      go_wp2
      go_ret
      exact ⟨rfl, G.out⟩
    · have z0 : decide (flags < 0) = false := decide_eq_false a0
      have y0 : 0 ≤ flags := by omega
      by_cases a1 : flags > 31
      · have z1 : decide (flags > 31) = true := decide_eq_true a1
        have y1 : ¬ flags ≤ 31 := by omega
        have e : Cal.err ⟨kind, fd, flags, n, off, path, other, A, cp, data⟩ = 22 := by unfold Cal.err Cal.mayB wnB; simp [h1, y0, y1]
        rw [e]
        unfold Cal.val
        dsimp only
        clear e HK h1 a0 a1 y0 y1
        go_enter Tryd.func8, Tryd.ntmps8
        go_wp2_with fail
        refine (rWord kind _).mono ?_
        rw [HS.out]
        rintro e' w1 h1
        obtain ⟨rfl, b1⟩ := h1.below
        have G := Lib.hid (grow_trans G0.out h1.2)
        clear h1
        obtain ⟨c0, c1, c2, c3, c4, c5, c6, c7⟩ := HC.out w1 b1
        clear b1
        go_wp2
        go_ret
        exact ⟨rfl, G.out⟩
      · have z1 : decide (flags > 31) = false := decide_eq_false a1
        have y1 : flags ≤ 31 := by omega
        have e : Cal.err ⟨kind, fd, flags, n, off, path, other, A, cp, data⟩ = 0 := by unfold Cal.err Cal.mayB wnB; simp [h1, y0, y1]
        rw [e]
        unfold Cal.val
        dsimp only
        clear e HK h1 a0 a1 y0 y1
        go_enter Tryd.func8, Tryd.ntmps8
        go_wp2_with fail
        refine (rWord kind _).mono ?_
        rw [HS.out]
        rintro e' w1 h1
        obtain ⟨rfl, b1⟩ := h1.below
        have G := Lib.hid (grow_trans G0.out h1.2)
        clear h1
        obtain ⟨c0, c1, c2, c3, c4, c5, c6, c7⟩ := HC.out w1 b1
        clear b1
        go_wp2
        go_ret
        exact ⟨rfl, G.out⟩
  · have q1_ : (kind == 1) = false := by simpa using h1
    by_cases h3 : kind = 3
    · have q3_ : (kind == 3) = true := by simpa using h3
      have q5_ : (kind == 5) = false := by rw [h3]; rfl
      have q4_ : (kind == 4) = false := by rw [h3]; rfl
      have q6_ : (kind == 6) = false := by rw [h3]; rfl
      have q7_ : (kind == 7) = false := by rw [h3]; rfl
      have q15_ : (kind == 15) = false := by rw [h3]; rfl
      have qe : s.toList.isEmpty = false := by rw [← HS.out]; exact wordS_some (by omega)
      rw [qe] at q
      have HK := Lib.hid qe
      clear qe
      by_cases a0 : n < 0
      · have z0 : decide (n < 0) = true := decide_eq_true a0
        have y0 : ¬ 0 ≤ n := by omega
        have e : Cal.err ⟨kind, fd, flags, n, off, path, other, A, cp, data⟩ = 22 := by unfold Cal.err Cal.mayB wnB; simp [h1, h3, y0]
        rw [e]
        unfold Cal.val
        dsimp only
        clear e HK h1 h3 a0 y0
        go_enter Tryd.func8, Tryd.ntmps8
        go_wp2_with fail
        refine (rWord kind _).mono ?_
        rw [HS.out]
        rintro e' w1 h1
        obtain ⟨rfl, b1⟩ := h1.below
        have G := Lib.hid (grow_trans G0.out h1.2)
        clear h1
        obtain ⟨c0, c1, c2, c3, c4, c5, c6, c7⟩ := HC.out w1 b1
        clear b1
        go_wp2
        go_ret
        exact ⟨rfl, G.out⟩
      · have z0 : decide (n < 0) = false := decide_eq_false a0
        have y0 : 0 ≤ n := by omega
        by_cases a1 : n > 1024
        · have z1 : decide (n > 1024) = true := decide_eq_true a1
          have y1 : ¬ n ≤ 1024 := by omega
          have e : Cal.err ⟨kind, fd, flags, n, off, path, other, A, cp, data⟩ = 22 := by unfold Cal.err Cal.mayB wnB; simp [h1, h3, y0, y1]
          rw [e]
          unfold Cal.val
          dsimp only
          clear e HK h1 h3 a0 a1 y0 y1
          go_enter Tryd.func8, Tryd.ntmps8
          go_wp2_with fail
          refine (rWord kind _).mono ?_
          rw [HS.out]
          rintro e' w1 h1
          obtain ⟨rfl, b1⟩ := h1.below
          have G := Lib.hid (grow_trans G0.out h1.2)
          clear h1
          obtain ⟨c0, c1, c2, c3, c4, c5, c6, c7⟩ := HC.out w1 b1
          clear b1
          go_wp2
          go_ret
          exact ⟨rfl, G.out⟩
        · have z1 : decide (n > 1024) = false := decide_eq_false a1
          have y1 : n ≤ 1024 := by omega
          have e : Cal.err ⟨kind, fd, flags, n, off, path, other, A, cp, data⟩ = 0 := by unfold Cal.err Cal.mayB wnB; simp [h1, h3, y0, y1]
          rw [e]
          unfold Cal.val
          dsimp only
          clear e HK h1 h3 a0 a1 y0 y1
          go_enter Tryd.func8, Tryd.ntmps8
          go_wp2_with fail
          refine (rWord kind _).mono ?_
          rw [HS.out]
          rintro e' w1 h1
          obtain ⟨rfl, b1⟩ := h1.below
          have G := Lib.hid (grow_trans G0.out h1.2)
          clear h1
          obtain ⟨c0, c1, c2, c3, c4, c5, c6, c7⟩ := HC.out w1 b1
          clear b1
          go_wp2
          go_ret
          exact ⟨rfl, G.out⟩
    · have q3_ : (kind == 3) = false := by simpa using h3
      by_cases h5 : kind = 5
      · have q5_ : (kind == 5) = true := by simpa using h5
        have q4_ : (kind == 4) = false := by rw [h5]; rfl
        have q6_ : (kind == 6) = false := by rw [h5]; rfl
        have q7_ : (kind == 7) = false := by rw [h5]; rfl
        have q15_ : (kind == 15) = false := by rw [h5]; rfl
        have qe : s.toList.isEmpty = false := by rw [← HS.out]; exact wordS_some (by omega)
        rw [qe] at q
        have HK := Lib.hid qe
        clear qe
        by_cases a0 : n < 0
        · have z0 : decide (n < 0) = true := decide_eq_true a0
          have y0 : ¬ 0 ≤ n := by omega
          have e : Cal.err ⟨kind, fd, flags, n, off, path, other, A, cp, data⟩ = 22 := by unfold Cal.err Cal.mayB wnB; simp [h1, h3, h5, y0]
          rw [e]
          unfold Cal.val
          dsimp only
          clear e HK h1 h3 h5 a0 y0
          go_enter Tryd.func8, Tryd.ntmps8
          go_wp2_with fail
          refine (rWord kind _).mono ?_
          rw [HS.out]
          rintro e' w1 h1
          obtain ⟨rfl, b1⟩ := h1.below
          have G := Lib.hid (grow_trans G0.out h1.2)
          clear h1
          obtain ⟨c0, c1, c2, c3, c4, c5, c6, c7⟩ := HC.out w1 b1
          clear b1
          go_wp2
          go_ret
          exact ⟨rfl, G.out⟩
        · have z0 : decide (n < 0) = false := decide_eq_false a0
          have y0 : 0 ≤ n := by omega
          by_cases a1 : n > 1024
          · have z1 : decide (n > 1024) = true := decide_eq_true a1
            have y1 : ¬ n ≤ 1024 := by omega
            have e : Cal.err ⟨kind, fd, flags, n, off, path, other, A, cp, data⟩ = 22 := by unfold Cal.err Cal.mayB wnB; simp [h1, h3, h5, y0, y1]
            rw [e]
            unfold Cal.val
            dsimp only
            clear e HK h1 h3 h5 a0 a1 y0 y1
            go_enter Tryd.func8, Tryd.ntmps8
            go_wp2_with fail
            refine (rWord kind _).mono ?_
            rw [HS.out]
            rintro e' w1 h1
            obtain ⟨rfl, b1⟩ := h1.below
            have G := Lib.hid (grow_trans G0.out h1.2)
            clear h1
            obtain ⟨c0, c1, c2, c3, c4, c5, c6, c7⟩ := HC.out w1 b1
            clear b1
            go_wp2
            go_ret
            exact ⟨rfl, G.out⟩
          · have z1 : decide (n > 1024) = false := decide_eq_false a1
            have y1 : n ≤ 1024 := by omega
            by_cases b0 : off < 0
            · have zb : decide (off < 0) = true := decide_eq_true b0
              have yb : ¬ 0 ≤ off := by omega
              have e : Cal.err ⟨kind, fd, flags, n, off, path, other, A, cp, data⟩ = 22 := by unfold Cal.err Cal.mayB wnB; simp [h1, h3, h5, y0, y1, yb]
              rw [e]
              unfold Cal.val
              dsimp only
              clear e HK h1 h3 h5 a0 a1 y0 y1 b0 yb
              go_enter Tryd.func8, Tryd.ntmps8
              go_wp2_with fail
              refine (rWord kind _).mono ?_
              rw [HS.out]
              rintro e' w1 h1
              obtain ⟨rfl, b1⟩ := h1.below
              have G := Lib.hid (grow_trans G0.out h1.2)
              clear h1
              obtain ⟨c0, c1, c2, c3, c4, c5, c6, c7⟩ := HC.out w1 b1
              clear b1
              go_wp2
              go_ret
              exact ⟨rfl, G.out⟩
            · have zb : decide (off < 0) = false := decide_eq_false b0
              have yb : 0 ≤ off := by omega
              have e : Cal.err ⟨kind, fd, flags, n, off, path, other, A, cp, data⟩ = 0 := by unfold Cal.err Cal.mayB wnB; simp [h1, h3, h5, y0, y1, yb]
              rw [e]
              unfold Cal.val
              dsimp only
              clear e HK h1 h3 h5 a0 a1 y0 y1 b0 yb
              go_enter Tryd.func8, Tryd.ntmps8
              go_wp2_with fail
              refine (rWord kind _).mono ?_
              rw [HS.out]
              rintro e' w1 h1
              obtain ⟨rfl, b1⟩ := h1.below
              have G := Lib.hid (grow_trans G0.out h1.2)
              clear h1
              obtain ⟨c0, c1, c2, c3, c4, c5, c6, c7⟩ := HC.out w1 b1
              clear b1
              go_wp2
              go_ret
              exact ⟨rfl, G.out⟩
      · have q5_ : (kind == 5) = false := by simpa using h5
        by_cases h4 : kind = 4
        · have q4_ : (kind == 4) = true := by simpa using h4
          have q6_ : (kind == 6) = false := by rw [h4]; rfl
          have q7_ : (kind == 7) = false := by rw [h4]; rfl
          have q15_ : (kind == 15) = false := by rw [h4]; rfl
          have qe : s.toList.isEmpty = false := by rw [← HS.out]; exact wordS_some (by omega)
          rw [qe] at q
          have HK := Lib.hid qe
          clear qe
          by_cases d0 : 1024 < data.length
          · have z5 : decide ((data.length : Int) > 1024) = true := decide_eq_true (by omega)
            have y5 : ¬ (data.length : Int) ≤ 1024 := by omega
            have y6 : ¬ data.length ≤ 1024 := by omega
            have e : Cal.err ⟨kind, fd, flags, n, off, path, other, A, cp, data⟩ = 22 := by unfold Cal.err Cal.mayB wnB; simp [h1, h3, h5, h4, y5, y6]
            rw [e]
            unfold Cal.val
            dsimp only
            clear e HK h1 h3 h5 h4 y5 y6
            go_enter Tryd.func8, Tryd.ntmps8
            go_wp2_with fail
            refine (rWord kind _).mono ?_
            rw [HS.out]
            rintro e' w1 h1
            obtain ⟨rfl, b1⟩ := h1.below
            have G := Lib.hid (grow_trans G0.out h1.2)
            clear h1
            obtain ⟨c0, c1, c2, c3, c4, c5, c6, c7⟩ := HC.out w1 b1
            clear b1
            go_wp2
            go_ret
            exact ⟨rfl, G.out⟩
          · have z5 : decide ((data.length : Int) > 1024) = false := decide_eq_false (by omega)
            have y5 : (data.length : Int) ≤ 1024 := by omega
            have y6 : data.length ≤ 1024 := by omega
            have e : Cal.err ⟨kind, fd, flags, n, off, path, other, A, cp, data⟩ = 0 := by unfold Cal.err Cal.mayB wnB; simp [h1, h3, h5, h4, y5, y6]
            rw [e]
            unfold Cal.val
            dsimp only
            clear e HK h1 h3 h5 h4 y5
            go_enter Tryd.func8, Tryd.ntmps8
            go_wp2_with fail
            refine (rWord kind _).mono ?_
            rw [HS.out]
            rintro e' w1 h1
            obtain ⟨rfl, b1⟩ := h1.below
            have G := Lib.hid (grow_trans G0.out h1.2)
            clear h1
            obtain ⟨c0, c1, c2, c3, c4, c5, c6, c7⟩ := HC.out w1 b1
            clear b1
            go_wp2
            go_ret
            exact ⟨rfl, G.out⟩
        · have q4_ : (kind == 4) = false := by simpa using h4
          by_cases h6 : kind = 6
          · have q6_ : (kind == 6) = true := by simpa using h6
            have q7_ : (kind == 7) = false := by rw [h6]; rfl
            have q15_ : (kind == 15) = false := by rw [h6]; rfl
            have qe : s.toList.isEmpty = false := by rw [← HS.out]; exact wordS_some (by omega)
            rw [qe] at q
            have HK := Lib.hid qe
            clear qe
            by_cases b0 : off < 0
            · have zb : decide (off < 0) = true := decide_eq_true b0
              have yb : ¬ 0 ≤ off := by omega
              have e : Cal.err ⟨kind, fd, flags, n, off, path, other, A, cp, data⟩ = 22 := by unfold Cal.err Cal.mayB wnB; simp [h1, h3, h5, h4, h6, yb]
              rw [e]
              unfold Cal.val
              dsimp only
              clear e HK h1 h3 h5 h4 h6 b0 yb
              go_enter Tryd.func8, Tryd.ntmps8
              go_wp2_with fail
              refine (rWord kind _).mono ?_
              rw [HS.out]
              rintro e' w1 h1
              obtain ⟨rfl, b1⟩ := h1.below
              have G := Lib.hid (grow_trans G0.out h1.2)
              clear h1
              obtain ⟨c0, c1, c2, c3, c4, c5, c6, c7⟩ := HC.out w1 b1
              clear b1
              go_wp2
              go_ret
              exact ⟨rfl, G.out⟩
            · have zb : decide (off < 0) = false := decide_eq_false b0
              have yb : 0 ≤ off := by omega
              by_cases d0 : 1024 < data.length
              · have z5 : decide ((data.length : Int) > 1024) = true := decide_eq_true (by omega)
                have y5 : ¬ (data.length : Int) ≤ 1024 := by omega
                have y6 : ¬ data.length ≤ 1024 := by omega
                have e : Cal.err ⟨kind, fd, flags, n, off, path, other, A, cp, data⟩ = 22 := by unfold Cal.err Cal.mayB wnB; simp [h1, h3, h5, h4, h6, yb, y5, y6]
                rw [e]
                unfold Cal.val
                dsimp only
                clear e HK h1 h3 h5 h4 h6 b0 yb y5 y6
                go_enter Tryd.func8, Tryd.ntmps8
                go_wp2_with fail
                refine (rWord kind _).mono ?_
                rw [HS.out]
                rintro e' w1 h1
                obtain ⟨rfl, b1⟩ := h1.below
                have G := Lib.hid (grow_trans G0.out h1.2)
                clear h1
                obtain ⟨c0, c1, c2, c3, c4, c5, c6, c7⟩ := HC.out w1 b1
                clear b1
                go_wp2
                go_ret
                exact ⟨rfl, G.out⟩
              · have z5 : decide ((data.length : Int) > 1024) = false := decide_eq_false (by omega)
                have y5 : (data.length : Int) ≤ 1024 := by omega
                have y6 : data.length ≤ 1024 := by omega
                have e : Cal.err ⟨kind, fd, flags, n, off, path, other, A, cp, data⟩ = 0 := by unfold Cal.err Cal.mayB wnB; simp [h1, h3, h5, h4, h6, yb, y5, y6]
                rw [e]
                unfold Cal.val
                dsimp only
                clear e HK h1 h3 h5 h4 h6 b0 yb y5
                go_enter Tryd.func8, Tryd.ntmps8
                go_wp2_with fail
                refine (rWord kind _).mono ?_
                rw [HS.out]
                rintro e' w1 h1
                obtain ⟨rfl, b1⟩ := h1.below
                have G := Lib.hid (grow_trans G0.out h1.2)
                clear h1
                obtain ⟨c0, c1, c2, c3, c4, c5, c6, c7⟩ := HC.out w1 b1
                clear b1
                go_wp2
                go_ret
                exact ⟨rfl, G.out⟩
          · have q6_ : (kind == 6) = false := by simpa using h6
            by_cases h7 : kind = 7
            · have q7_ : (kind == 7) = true := by simpa using h7
              have q15_ : (kind == 15) = false := by rw [h7]; rfl
              have qe : s.toList.isEmpty = false := by rw [← HS.out]; exact wordS_some (by omega)
              rw [qe] at q
              have HK := Lib.hid qe
              clear qe
              by_cases b0 : off < 0
              · have zb : decide (off < 0) = true := decide_eq_true b0
                have yb : ¬ 0 ≤ off := by omega
                have e : Cal.err ⟨kind, fd, flags, n, off, path, other, A, cp, data⟩ = 22 := by unfold Cal.err Cal.mayB wnB; simp [h1, h3, h5, h4, h6, h7, yb]
                rw [e]
                unfold Cal.val
                dsimp only
                clear e HK h1 h3 h5 h4 h6 h7 b0 yb
                go_enter Tryd.func8, Tryd.ntmps8
                go_wp2_with fail
                refine (rWord kind _).mono ?_
                rw [HS.out]
                rintro e' w1 h1
                obtain ⟨rfl, b1⟩ := h1.below
                have G := Lib.hid (grow_trans G0.out h1.2)
                clear h1
                obtain ⟨c0, c1, c2, c3, c4, c5, c6, c7⟩ := HC.out w1 b1
                clear b1
                go_wp2
                go_ret
                exact ⟨rfl, G.out⟩
              · have zb : decide (off < 0) = false := decide_eq_false b0
                have yb : 0 ≤ off := by omega
                have e : Cal.err ⟨kind, fd, flags, n, off, path, other, A, cp, data⟩ = 0 := by unfold Cal.err Cal.mayB wnB; simp [h1, h3, h5, h4, h6, h7, yb]
                rw [e]
                unfold Cal.val
                dsimp only
                clear e HK h1 h3 h5 h4 h6 h7 b0 yb
                go_enter Tryd.func8, Tryd.ntmps8
                go_wp2_with fail
                refine (rWord kind _).mono ?_
                rw [HS.out]
                rintro e' w1 h1
                obtain ⟨rfl, b1⟩ := h1.below
                have G := Lib.hid (grow_trans G0.out h1.2)
                clear h1
                obtain ⟨c0, c1, c2, c3, c4, c5, c6, c7⟩ := HC.out w1 b1
                clear b1
                go_wp2
                go_ret
                exact ⟨rfl, G.out⟩
            · have q7_ : (kind == 7) = false := by simpa using h7
              by_cases h15 : kind = 15
              · have q15_ : (kind == 15) = true := by simpa using h15
                have qe : s.toList.isEmpty = false := by rw [← HS.out]; exact wordS_some (by omega)
                rw [qe] at q
                have HK := Lib.hid qe
                clear qe
                by_cases b0 : n < 0
                · have zb : decide (n < 0) = true := decide_eq_true b0
                  have yb : ¬ 0 ≤ n := by omega
                  have e : Cal.err ⟨kind, fd, flags, n, off, path, other, A, cp, data⟩ = 22 := by unfold Cal.err Cal.mayB wnB; simp [h1, h3, h5, h4, h6, h7, h15, yb]
                  rw [e]
                  unfold Cal.val
                  dsimp only
                  clear e HK h1 h3 h5 h4 h6 h7 h15 b0 yb
                  go_enter Tryd.func8, Tryd.ntmps8
                  go_wp2_with fail
                  refine (rWord kind _).mono ?_
                  rw [HS.out]
                  rintro e' w1 h1
                  obtain ⟨rfl, b1⟩ := h1.below
                  have G := Lib.hid (grow_trans G0.out h1.2)
                  clear h1
                  obtain ⟨c0, c1, c2, c3, c4, c5, c6, c7⟩ := HC.out w1 b1
                  clear b1
                  go_wp2
                  go_ret
                  exact ⟨rfl, G.out⟩
                · have zb : decide (n < 0) = false := decide_eq_false b0
                  have yb : 0 ≤ n := by omega
                  have e : Cal.err ⟨kind, fd, flags, n, off, path, other, A, cp, data⟩ = 0 := by unfold Cal.err Cal.mayB wnB; simp [h1, h3, h5, h4, h6, h7, h15, yb]
                  rw [e]
                  unfold Cal.val
                  dsimp only
                  clear e HK h1 h3 h5 h4 h6 h7 h15 b0 yb
                  go_enter Tryd.func8, Tryd.ntmps8
                  go_wp2_with fail
                  refine (rWord kind _).mono ?_
                  rw [HS.out]
                  rintro e' w1 h1
                  obtain ⟨rfl, b1⟩ := h1.below
                  have G := Lib.hid (grow_trans G0.out h1.2)
                  clear h1
                  obtain ⟨c0, c1, c2, c3, c4, c5, c6, c7⟩ := HC.out w1 b1
                  clear b1
                  go_wp2
                  go_ret
                  exact ⟨rfl, G.out⟩
              · have q15_ : (kind == 15) = false := by simpa using h15
                cases qe : s.toList.isEmpty
                · rw [qe] at q
                  have qw : (wordS kind).toList.isEmpty = false := by rw [HS.out]; exact qe
                  have e : Cal.err ⟨kind, fd, flags, n, off, path, other, A, cp, data⟩ = 0 := by unfold Cal.err Cal.mayB wnB; simp [h1, h3, h5, h4, h6, h7, h15, qw]
                  rw [e]
                  unfold Cal.val
                  dsimp only
                  clear e h1 h3 h5 h4 h6 h7 h15 qw qe
                  go_enter Tryd.func8, Tryd.ntmps8
                  go_wp2_with fail
                  refine (rWord kind _).mono ?_
                  rw [HS.out]
                  rintro e' w1 h1
                  obtain ⟨rfl, b1⟩ := h1.below
                  have G := Lib.hid (grow_trans G0.out h1.2)
                  clear h1
                  obtain ⟨c0, c1, c2, c3, c4, c5, c6, c7⟩ := HC.out w1 b1
                  clear b1
                  go_wp2
                  go_ret
                  exact ⟨rfl, G.out⟩
                · rw [qe] at q
                  have qw : (wordS kind).toList.isEmpty = true := by rw [HS.out]; exact qe
                  have e : Cal.err ⟨kind, fd, flags, n, off, path, other, A, cp, data⟩ = 22 := by unfold Cal.err Cal.mayB wnB; simp [h1, h3, h5, h4, h6, h7, h15, qw]
                  rw [e]
                  unfold Cal.val
                  dsimp only
                  clear e h1 h3 h5 h4 h6 h7 h15 qw qe
                  go_enter Tryd.func8, Tryd.ntmps8
                  go_wp2_with fail
                  refine (rWord kind _).mono ?_
                  rw [HS.out]
                  rintro e' w1 h1
                  obtain ⟨rfl, b1⟩ := h1.below
                  have G := Lib.hid (grow_trans G0.out h1.2)
                  clear h1
                  obtain ⟨c0, c1, c2, c3, c4, c5, c6, c7⟩ := HC.out w1 b1
                  clear b1
                  go_wp2
                  go_ret
                  exact ⟨rfl, G.out⟩

end Go.Proofs.YtanjikflljdjcaaDoor
