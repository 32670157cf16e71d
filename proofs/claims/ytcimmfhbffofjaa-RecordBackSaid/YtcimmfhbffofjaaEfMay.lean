import Derived.Test.YtcimmfhbffofjaaEfJus
/-
  The project's may: whether what an effect's kind has is as it may be.
-/
namespace Go.Proofs.Ytcimmfhbffofjaa
open Wd U Go.RowKit Go.ChangeShapes Go.WideShapes Go.Sort
set_option linter.unusedVariables false
set_option maxRecDepth 100000
set_option linter.unusedSimpArgs false

def Eff.mayP (e : Eff) : Bool :=
  if e.kind = 1 then (ndB e.ino && (ndB e.dir && nmB e.name)) && (decide (e.page = 1) || decide (e.page = 2))
  else if e.kind = 2 ∨ e.kind = 3 ∨ e.kind = 4 then ndB e.ino && (ndB e.dir && nmB e.name)
  else if e.kind = 5 then (ndB e.ino && (ndB e.dir && nmB e.name)) && (ndB e.dst && nmB e.other)
  else if e.kind = 6 then ndB e.ino && (decide (0 ≤ e.size) && decide (e.size ≤ 16384))
  else if e.kind = 7 then (ndB e.ino && rcB e.page e.size) && decide (e.data.length = 256)
  else if e.kind = 8 then ndB e.ino
  else false
theorem cells9 {w : World} {g : Nat} {e : Eff} (h : Cells w g 24 (effCells e)) : w.cell? ⟨g, 0, none⟩ = some (.int .i64 e.kind) ∧ w.cell? ⟨g, 1, none⟩ = some (.int .i64 e.ino) ∧ w.cell? ⟨g, 2, none⟩ = some (.int .i64 e.dir) ∧ w.cell? ⟨g, 3, none⟩ = some (.int .i64 e.dst) ∧ w.cell? ⟨g, 4, none⟩ = some (.int .i64 e.page) ∧
      w.cell? ⟨g, 5, none⟩ = some (.int .i64 e.size) ∧ w.cell? ⟨g, 6, none⟩ = some (.string e.name) ∧ w.cell? ⟨g, 7, none⟩ = some (.string e.other) ∧ w.cell? ⟨g, 8, none⟩ = some (.slice e.A e.data.length e.cp) := (s9 h (Below.refl _ _)).2

set_option maxRecDepth 100000 in
set_option maxHeartbeats 4000000 in
theorem eMay (e : Eff) (w : World) (hn : e.name.size ≤ 1000) (ho : e.other.size ≤ 1000) : Calls Try.prog 34 #[e.val] w (Grows (.bool e.mayP) w) := by
  obtain ⟨kind, ino, dir, dst, page, size, name, other, A, cp, data⟩ := e
  have hc0 := Cells.new w 24 (effCells ⟨kind, ino, dir, dst, page, size, name, other, A, cp, data⟩)
  have HC0 := Lib.hid hc0
  have HG0 := Lib.hid (grow_one w (.cells (effCells ⟨kind, ino, dir, dst, page, size, name, other, A, cp, data⟩) 24))
  obtain ⟨c0, c1, c2, c3, c4, c5, c6, c7, c8⟩ := cells9 hc0
  clear hc0
  unfold Eff.val
  dsimp only at hn ho ⊢
  by_cases h1 : kind = 1
  · have q1 : (kind == 1) = true := by simpa using h1
    have hj : (Eff.mayP ⟨kind, ino, dir, dst, page, size, name, other, A, cp, data⟩) = ((ndB ino && (ndB dir && nmB name)) && (decide (page = 1) || decide (page = 2))) := by unfold Eff.mayP; simp [h1]
    rw [hj]
    clear hj h1
    go_enter Try.func34, Try.ntmps34
    go_wp2_with fail
    refine (eNode ino _).mono ?_
    rintro e' w1 h1
    obtain ⟨rfl, b1⟩ := h1.below
    have hc1 := HC0.out.below' b1
    have HC1 := Lib.hid hc1
    have HG1 := Lib.hid (grow_trans HG0.out h1.2)
    clear h1 b1 c0 c1 c2 c3 c4 c5 c6 c7 c8
    obtain ⟨c0, c1, c2, c3, c4, c5, c6, c7, c8⟩ := cells9 hc1
    clear hc1
    cases hx1 : ndB ino
    · have HX1 := Lib.hid hx1
      clear hx1
      go_wp2
      go_ret
      exact ⟨by rw [HX1.out]; rfl, HG1.out⟩
    · have HX1 := Lib.hid hx1
      clear hx1
      go_wp2_with fail
      refine (ePlace dir name hn _).mono ?_
      rintro e' w2 h2
      obtain ⟨rfl, b2⟩ := h2.below
      have hc2 := HC1.out.below' b2
      have HC2 := Lib.hid hc2
      have HG2 := Lib.hid (grow_trans HG1.out h2.2)
      clear h2 b2 c0 c1 c2 c3 c4 c5 c6 c7 c8
      obtain ⟨c0, c1, c2, c3, c4, c5, c6, c7, c8⟩ := cells9 hc2
      clear hc2
      cases hx2 : ndB dir && nmB name
      · have HX2 := Lib.hid hx2
        clear hx2
        go_wp2
        go_ret
        exact ⟨by rw [HX1.out, HX2.out]; rfl, HG2.out⟩
      · have HX2 := Lib.hid hx2
        clear hx2
        by_cases p1 : page = 1
        · have r1 : (page == 1) = true := by simpa using p1
          have r2 : (decide (page = 1) || decide (page = 2)) = true := by simp [p1]
          have R2 := Lib.hid r2
          clear p1 r2
          go_wp2
          go_ret
          exact ⟨by rw [HX1.out, HX2.out, R2.out]; rfl, HG2.out⟩
        · have r1 : (page == 1) = false := by simpa using p1
          by_cases p2 : page = 2
          · have r3 : (page == 2) = true := by simpa using p2
            have r2 : (decide (page = 1) || decide (page = 2)) = true := by simp [p2]
            have R2 := Lib.hid r2
            clear p1 p2 r2
            go_wp2
            go_ret
            exact ⟨by rw [HX1.out, HX2.out, R2.out]; rfl, HG2.out⟩
          · have r3 : (page == 2) = false := by simpa using p2
            have r2 : (decide (page = 1) || decide (page = 2)) = false := by simp [p1, p2]
            have R2 := Lib.hid r2
            clear p1 p2 r2
            go_wp2
            go_ret
            exact ⟨by rw [HX1.out, HX2.out, R2.out]; rfl, HG2.out⟩
  · have q1 : (kind == 1) = false := by simpa using h1
    by_cases h2 : kind = 2
    · have q2 : (kind == 2) = true := by simpa using h2
      have hj : (Eff.mayP ⟨kind, ino, dir, dst, page, size, name, other, A, cp, data⟩) = (ndB ino && (ndB dir && nmB name)) := by unfold Eff.mayP; simp [h1, h2]
      rw [hj]
      clear hj h1 h2
      go_enter Try.func34, Try.ntmps34
      go_wp2_with fail
      refine (eNode ino _).mono ?_
      rintro e' w1 h1
      obtain ⟨rfl, b1⟩ := h1.below
      have hc1 := HC0.out.below' b1
      have HC1 := Lib.hid hc1
      have HG1 := Lib.hid (grow_trans HG0.out h1.2)
      clear h1 b1 c0 c1 c2 c3 c4 c5 c6 c7 c8
      obtain ⟨c0, c1, c2, c3, c4, c5, c6, c7, c8⟩ := cells9 hc1
      clear hc1
      cases hx1 : ndB ino
      · have HX1 := Lib.hid hx1
        clear hx1
        go_wp2
        go_ret
        exact ⟨by rw [HX1.out]; rfl, HG1.out⟩
      · have HX1 := Lib.hid hx1
        clear hx1
        go_wp2_with fail
        refine (ePlace dir name hn _).mono ?_
        rintro e' w2 h2
        obtain ⟨rfl, b2⟩ := h2.below
        have hc2 := HC1.out.below' b2
        have HC2 := Lib.hid hc2
        have HG2 := Lib.hid (grow_trans HG1.out h2.2)
        clear h2 b2 c0 c1 c2 c3 c4 c5 c6 c7 c8
        obtain ⟨c0, c1, c2, c3, c4, c5, c6, c7, c8⟩ := cells9 hc2
        clear hc2
        go_wp2
        go_ret
        exact ⟨by rw [HX1.out]; rfl, HG2.out⟩
    · have q2 : (kind == 2) = false := by simpa using h2
      by_cases h3 : kind = 3
      · have q3 : (kind == 3) = true := by simpa using h3
        have hj : (Eff.mayP ⟨kind, ino, dir, dst, page, size, name, other, A, cp, data⟩) = (ndB ino && (ndB dir && nmB name)) := by unfold Eff.mayP; simp [h1, h2, h3]
        rw [hj]
        clear hj h1 h2 h3
        go_enter Try.func34, Try.ntmps34
        go_wp2_with fail
        refine (eNode ino _).mono ?_
        rintro e' w1 h1
        obtain ⟨rfl, b1⟩ := h1.below
        have hc1 := HC0.out.below' b1
        have HC1 := Lib.hid hc1
        have HG1 := Lib.hid (grow_trans HG0.out h1.2)
        clear h1 b1 c0 c1 c2 c3 c4 c5 c6 c7 c8
        obtain ⟨c0, c1, c2, c3, c4, c5, c6, c7, c8⟩ := cells9 hc1
        clear hc1
        cases hx1 : ndB ino
        · have HX1 := Lib.hid hx1
          clear hx1
          go_wp2
          go_ret
          exact ⟨by rw [HX1.out]; rfl, HG1.out⟩
        · have HX1 := Lib.hid hx1
          clear hx1
          go_wp2_with fail
          refine (ePlace dir name hn _).mono ?_
          rintro e' w2 h2
          obtain ⟨rfl, b2⟩ := h2.below
          have hc2 := HC1.out.below' b2
          have HC2 := Lib.hid hc2
          have HG2 := Lib.hid (grow_trans HG1.out h2.2)
          clear h2 b2 c0 c1 c2 c3 c4 c5 c6 c7 c8
          obtain ⟨c0, c1, c2, c3, c4, c5, c6, c7, c8⟩ := cells9 hc2
          clear hc2
          go_wp2
          go_ret
          exact ⟨by rw [HX1.out]; rfl, HG2.out⟩
      · have q3 : (kind == 3) = false := by simpa using h3
        by_cases h4 : kind = 4
        · have q4 : (kind == 4) = true := by simpa using h4
          have hj : (Eff.mayP ⟨kind, ino, dir, dst, page, size, name, other, A, cp, data⟩) = (ndB ino && (ndB dir && nmB name)) := by unfold Eff.mayP; simp [h1, h2, h3, h4]
          rw [hj]
          clear hj h1 h2 h3 h4
          go_enter Try.func34, Try.ntmps34
          go_wp2_with fail
          refine (eNode ino _).mono ?_
          rintro e' w1 h1
          obtain ⟨rfl, b1⟩ := h1.below
          have hc1 := HC0.out.below' b1
          have HC1 := Lib.hid hc1
          have HG1 := Lib.hid (grow_trans HG0.out h1.2)
          clear h1 b1 c0 c1 c2 c3 c4 c5 c6 c7 c8
          obtain ⟨c0, c1, c2, c3, c4, c5, c6, c7, c8⟩ := cells9 hc1
          clear hc1
          cases hx1 : ndB ino
          · have HX1 := Lib.hid hx1
            clear hx1
            go_wp2
            go_ret
            exact ⟨by rw [HX1.out]; rfl, HG1.out⟩
          · have HX1 := Lib.hid hx1
            clear hx1
            go_wp2_with fail
            refine (ePlace dir name hn _).mono ?_
            rintro e' w2 h2
            obtain ⟨rfl, b2⟩ := h2.below
            have hc2 := HC1.out.below' b2
            have HC2 := Lib.hid hc2
            have HG2 := Lib.hid (grow_trans HG1.out h2.2)
            clear h2 b2 c0 c1 c2 c3 c4 c5 c6 c7 c8
            obtain ⟨c0, c1, c2, c3, c4, c5, c6, c7, c8⟩ := cells9 hc2
            clear hc2
            go_wp2
            go_ret
            exact ⟨by rw [HX1.out]; rfl, HG2.out⟩
        · have q4 : (kind == 4) = false := by simpa using h4
          by_cases h5 : kind = 5
          · have q5 : (kind == 5) = true := by simpa using h5
            have hj : (Eff.mayP ⟨kind, ino, dir, dst, page, size, name, other, A, cp, data⟩) = ((ndB ino && (ndB dir && nmB name)) && (ndB dst && nmB other)) := by unfold Eff.mayP; simp [h1, h2, h3, h4, h5]
            rw [hj]
            clear hj h1 h2 h3 h4 h5
            go_enter Try.func34, Try.ntmps34
            go_wp2_with fail
            refine (eNode ino _).mono ?_
            rintro e' w1 h1
            obtain ⟨rfl, b1⟩ := h1.below
            have hc1 := HC0.out.below' b1
            have HC1 := Lib.hid hc1
            have HG1 := Lib.hid (grow_trans HG0.out h1.2)
            clear h1 b1 c0 c1 c2 c3 c4 c5 c6 c7 c8
            obtain ⟨c0, c1, c2, c3, c4, c5, c6, c7, c8⟩ := cells9 hc1
            clear hc1
            cases hx1 : ndB ino
            · have HX1 := Lib.hid hx1
              clear hx1
              go_wp2
              go_ret
              exact ⟨by rw [HX1.out]; rfl, HG1.out⟩
            · have HX1 := Lib.hid hx1
              clear hx1
              go_wp2_with fail
              refine (ePlace dir name hn _).mono ?_
              rintro e' w2 h2
              obtain ⟨rfl, b2⟩ := h2.below
              have hc2 := HC1.out.below' b2
              have HC2 := Lib.hid hc2
              have HG2 := Lib.hid (grow_trans HG1.out h2.2)
              clear h2 b2 c0 c1 c2 c3 c4 c5 c6 c7 c8
              obtain ⟨c0, c1, c2, c3, c4, c5, c6, c7, c8⟩ := cells9 hc2
              clear hc2
              cases hx2 : ndB dir && nmB name
              · have HX2 := Lib.hid hx2
                clear hx2
                go_wp2
                go_ret
                exact ⟨by rw [HX1.out, HX2.out]; rfl, HG2.out⟩
              · have HX2 := Lib.hid hx2
                clear hx2
                go_wp2_with fail
                refine (ePlace dst other ho _).mono ?_
                rintro e' w3 h3
                obtain ⟨rfl, b3⟩ := h3.below
                have hc3 := HC2.out.below' b3
                have HC3 := Lib.hid hc3
                have HG3 := Lib.hid (grow_trans HG2.out h3.2)
                clear h3 b3 c0 c1 c2 c3 c4 c5 c6 c7 c8
                obtain ⟨c0, c1, c2, c3, c4, c5, c6, c7, c8⟩ := cells9 hc3
                clear hc3
                go_wp2
                go_ret
                exact ⟨by rw [HX1.out, HX2.out]; rfl, HG3.out⟩
          · have q5 : (kind == 5) = false := by simpa using h5
            by_cases h6 : kind = 6
            · have q6 : (kind == 6) = true := by simpa using h6
              have hj : (Eff.mayP ⟨kind, ino, dir, dst, page, size, name, other, A, cp, data⟩) = (ndB ino && (decide (0 ≤ size) && decide (size ≤ 16384))) := by unfold Eff.mayP; simp [h1, h2, h3, h4, h5, h6]
              rw [hj]
              clear hj h1 h2 h3 h4 h5 h6
              go_enter Try.func34, Try.ntmps34
              go_wp2_with fail
              refine (eNode ino _).mono ?_
              rintro e' w1 h1
              obtain ⟨rfl, b1⟩ := h1.below
              have hc1 := HC0.out.below' b1
              have HC1 := Lib.hid hc1
              have HG1 := Lib.hid (grow_trans HG0.out h1.2)
              clear h1 b1 c0 c1 c2 c3 c4 c5 c6 c7 c8
              obtain ⟨c0, c1, c2, c3, c4, c5, c6, c7, c8⟩ := cells9 hc1
              clear hc1
              cases hx1 : ndB ino
              · have HX1 := Lib.hid hx1
                clear hx1
                go_wp2
                go_ret
                exact ⟨by rw [HX1.out]; rfl, HG1.out⟩
              · have HX1 := Lib.hid hx1
                clear hx1
                go_wp2_with fail
                refine (eWithin size 0 16384 _).mono ?_
                rintro e' w2 h2
                obtain ⟨rfl, b2⟩ := h2.below
                have hc2 := HC1.out.below' b2
                have HC2 := Lib.hid hc2
                have HG2 := Lib.hid (grow_trans HG1.out h2.2)
                clear h2 b2 c0 c1 c2 c3 c4 c5 c6 c7 c8
                obtain ⟨c0, c1, c2, c3, c4, c5, c6, c7, c8⟩ := cells9 hc2
                clear hc2
                go_wp2
                go_ret
                exact ⟨by rw [HX1.out]; rfl, HG2.out⟩
            · have q6 : (kind == 6) = false := by simpa using h6
              by_cases h7 : kind = 7
              · have q7 : (kind == 7) = true := by simpa using h7
                have hj : (Eff.mayP ⟨kind, ino, dir, dst, page, size, name, other, A, cp, data⟩) = ((ndB ino && rcB page size) && decide (data.length = 256)) := by unfold Eff.mayP; simp [h1, h2, h3, h4, h5, h6, h7]
                rw [hj]
                clear hj h1 h2 h3 h4 h5 h6 h7
                go_enter Try.func34, Try.ntmps34
                go_wp2_with fail
                refine (eNode ino _).mono ?_
                rintro e' w1 h1
                obtain ⟨rfl, b1⟩ := h1.below
                have hc1 := HC0.out.below' b1
                have HC1 := Lib.hid hc1
                have HG1 := Lib.hid (grow_trans HG0.out h1.2)
                clear h1 b1 c0 c1 c2 c3 c4 c5 c6 c7 c8
                obtain ⟨c0, c1, c2, c3, c4, c5, c6, c7, c8⟩ := cells9 hc1
                clear hc1
                cases hx1 : ndB ino
                · have HX1 := Lib.hid hx1
                  clear hx1
                  go_wp2
                  go_ret
                  exact ⟨by rw [HX1.out]; rfl, HG1.out⟩
                · have HX1 := Lib.hid hx1
                  clear hx1
                  go_wp2_with fail
                  refine (eReaches page size _).mono ?_
                  rintro e' w2 h2
                  obtain ⟨rfl, b2⟩ := h2.below
                  have hc2 := HC1.out.below' b2
                  have HC2 := Lib.hid hc2
                  have HG2 := Lib.hid (grow_trans HG1.out h2.2)
                  clear h2 b2 c0 c1 c2 c3 c4 c5 c6 c7 c8
                  obtain ⟨c0, c1, c2, c3, c4, c5, c6, c7, c8⟩ := cells9 hc2
                  clear hc2
                  cases hx2 : rcB page size
                  · have HX2 := Lib.hid hx2
                    clear hx2
                    go_wp2
                    go_ret
                    exact ⟨by rw [HX1.out, HX2.out]; rfl, HG2.out⟩
                  · have HX2 := Lib.hid hx2
                    clear hx2
                    by_cases hl : data.length = 256
                    · have r1 : ((data.length : Int) == 256) = true := by simp; omega
                      have r2 : decide (data.length = 256) = true := decide_eq_true hl
                      have R2 := Lib.hid r2
                      clear hl r2
                      go_wp2
                      go_ret
                      exact ⟨by rw [HX1.out, HX2.out, R2.out]; rfl, HG2.out⟩
                    · have r1 : ((data.length : Int) == 256) = false := by simp; omega
                      have r2 : decide (data.length = 256) = false := decide_eq_false hl
                      have R2 := Lib.hid r2
                      clear hl r2
                      go_wp2
                      go_ret
                      exact ⟨by rw [HX1.out, HX2.out, R2.out]; rfl, HG2.out⟩
              · have q7 : (kind == 7) = false := by simpa using h7
                by_cases h8 : kind = 8
                · have q8 : (kind == 8) = true := by simpa using h8
                  have hj : (Eff.mayP ⟨kind, ino, dir, dst, page, size, name, other, A, cp, data⟩) = (ndB ino) := by unfold Eff.mayP; simp [h1, h2, h3, h4, h5, h6, h7, h8]
                  rw [hj]
                  clear hj h1 h2 h3 h4 h5 h6 h7 h8
                  go_enter Try.func34, Try.ntmps34
                  go_wp2_with fail
                  refine (eNode ino _).mono ?_
                  rintro e' w1 h1
                  obtain ⟨rfl, b1⟩ := h1.below
                  have hc1 := HC0.out.below' b1
                  have HC1 := Lib.hid hc1
                  have HG1 := Lib.hid (grow_trans HG0.out h1.2)
                  clear h1 b1 c0 c1 c2 c3 c4 c5 c6 c7 c8
                  obtain ⟨c0, c1, c2, c3, c4, c5, c6, c7, c8⟩ := cells9 hc1
                  clear hc1
                  go_wp2
                  go_ret
                  exact ⟨rfl, HG1.out⟩
                · have q8 : (kind == 8) = false := by simpa using h8
                  have hj : (Eff.mayP ⟨kind, ino, dir, dst, page, size, name, other, A, cp, data⟩) = false := by unfold Eff.mayP; simp [h1, h2, h3, h4, h5, h6, h7, h8]
                  rw [hj]
                  clear hj h1 h2 h3 h4 h5 h6 h7 h8
                  go_enter Try.func34, Try.ntmps34
                  go_wp2
                  go_ret
                  exact ⟨rfl, HG0.out⟩
end Go.Proofs.Ytcimmfhbffofjaa
