import Derived.Test.YtbejbiogabpmfaaGreatG15
import Derived.BigQuiet
import Derived.Deep.RegionWith
import Derived.Deep.RegionHeld3
import Derived.WalkMore
import Derived.Deep.CutRange
import Derived.Deep.DeepCutAuto

/-
  The project's may: whether what an effect's kind has is as it may be.
-/
namespace Go.Proofs.YtbejbiogabpmfaaGreat
open Wd U Go.RowKit Go.ChangeShapes Go.WideShapes Go.Sort
set_option linter.unusedVariables false
set_option maxRecDepth 100000
set_option linter.unusedSimpArgs false

def Eff.mayP (e : Eff) : Bool :=
  if e.kind = 1 then (ndB e.ino && (ndB e.dir && nmB e.name)) && (decide (e.page = 1) || decide (e.page = 2))
  else if e.kind = 2 ∨ e.kind = 3 ∨ e.kind = 4 then ndB e.ino && (ndB e.dir && nmB e.name)
  else if e.kind = 5 then (ndB e.ino && (ndB e.dir && nmB e.name)) && (ndB e.dst && nmB e.other)
  else if e.kind = 6 then ndB e.ino && (decide (0 ≤ e.size) && decide (e.size ≤ 16384))
  else if e.kind = 7 then (ndB e.ino && rcB e.page e.size) && decide (e.data.length = 256)
  else if e.kind = 8 then ndB e.ino
  else false
theorem cells9 {w : World} {g : Nat} {e : Eff} (h : Cells w g 64 (effCells e)) : w.cell? ⟨g, 0, none⟩ = some (.int .i64 e.kind) ∧ w.cell? ⟨g, 1, none⟩ = some (.int .i64 e.ino) ∧ w.cell? ⟨g, 2, none⟩ = some (.int .i64 e.dir) ∧ w.cell? ⟨g, 3, none⟩ = some (.int .i64 e.dst) ∧ w.cell? ⟨g, 4, none⟩ = some (.int .i64 e.page) ∧
      w.cell? ⟨g, 5, none⟩ = some (.int .i64 e.size) ∧ w.cell? ⟨g, 6, none⟩ = some (.string e.name) ∧ w.cell? ⟨g, 7, none⟩ = some (.string e.other) ∧ w.cell? ⟨g, 8, none⟩ = some (.slice e.A e.data.length e.cp) := (s9 h (Below.refl _ _)).2

set_option maxRecDepth 100000 in
set_option maxHeartbeats 4000000 in
theorem eMay (e : Eff) (w : World) (hn : e.name.size ≤ 1000) (ho : e.other.size ≤ 1000) : Calls Tryz.prog 87 #[e.val] w (Grows (.bool e.mayP) w) := by
  obtain ⟨kind, ino, dir, dst, page, size, name, other, A, cp, data⟩ := e
  have hc0 := Cells.new w 64 (effCells ⟨kind, ino, dir, dst, page, size, name, other, A, cp, data⟩)
  have HC0 := Lib.hid hc0
  have HG0 := Lib.hid (grow_one w (.cells (effCells ⟨kind, ino, dir, dst, page, size, name, other, A, cp, data⟩) 64))
  obtain ⟨c0, c1, c2, c3, c4, c5, c6, c7, c8⟩ := cells9 hc0
  clear hc0
  unfold Eff.val
  dsimp only at hn ho ⊢
  by_cases h1 : kind = 1
  · have q1 : (kind == 1) = true := by simpa using h1
    have hj : (Eff.mayP ⟨kind, ino, dir, dst, page, size, name, other, A, cp, data⟩) = ((ndB ino && (ndB dir && nmB name)) && (decide (page = 1) || decide (page = 2))) := by unfold Eff.mayP; simp [h1]
    rw [hj]
    clear hj h1
    go_enter Tryz.func87, Tryz.ntmps87
    go_wp2_with fail
    refine (eNode ino _).mono ?_
    rintro e' w1 h1
    obtain ⟨rfl, b1⟩ := h1.below
    have hc1 := HC0.out.below' b1
    have HC1 := Lib.hid hc1
    have HG1 := Lib.hid (grow_trans HG0.out h1.2)
    clear h1 b1 c0 c1 c2 c3 c4 c5 c6 c7 c8
    obtain ⟨c0, c1, c2, c3, c4, c5, c6, c7, c8⟩ := cells9 hc1
    clear hc1
    cases hx1 : ndB ino
    · have HX1 := Lib.hid hx1
      clear hx1
      go_wp2
      go_ret
      exact ⟨by rw [HX1.out]; rfl, HG1.out⟩
    · have HX1 := Lib.hid hx1
      clear hx1
      go_wp2_with fail
      refine (ePlace dir name hn _).mono ?_
      rintro e' w2 h2
      obtain ⟨rfl, b2⟩ := h2.below
      have hc2 := HC1.out.below' b2
      have HC2 := Lib.hid hc2
      have HG2 := Lib.hid (grow_trans HG1.out h2.2)
      clear h2 b2 c0 c1 c2 c3 c4 c5 c6 c7 c8
      obtain ⟨c0, c1, c2, c3, c4, c5, c6, c7, c8⟩ := cells9 hc2
      clear hc2
      cases hx2 : ndB dir && nmB name
      · have HX2 := Lib.hid hx2
        clear hx2
        go_wp2
        go_ret
        exact ⟨by rw [HX1.out, HX2.out]; rfl, HG2.out⟩
      · have HX2 := Lib.hid hx2
        clear hx2
        by_cases p1 : page = 1
        · have r1 : (page == 1) = true := by simpa using p1
          have r2 : (decide (page = 1) || decide (page = 2)) = true := by simp [p1]
          have R2 := Lib.hid r2
          clear p1 r2
          go_wp2
          go_ret
          exact ⟨by rw [HX1.out, HX2.out, R2.out]; rfl, HG2.out⟩
        · have r1 : (page == 1) = false := by simpa using p1
          by_cases p2 : page = 2
          · have r3 : (page == 2) = true := by simpa using p2
            have r2 : (decide (page = 1) || decide (page = 2)) = true := by simp [p2]
            have R2 := Lib.hid r2
            clear p1 p2 r2
            go_wp2
            go_ret
            exact ⟨by rw [HX1.out, HX2.out, R2.out]; rfl, HG2.out⟩
          · have r3 : (page == 2) = false := by simpa using p2
            have r2 : (decide (page = 1) || decide (page = 2)) = false := by simp [p1, p2]
            have R2 := Lib.hid r2
            clear p1 p2 r2
            go_wp2
            go_ret
            exact ⟨by rw [HX1.out, HX2.out, R2.out]; rfl, HG2.out⟩
  · have q1 : (kind == 1) = false := by simpa using h1
    by_cases h2 : kind = 2
    · have q2 : (kind == 2) = true := by simpa using h2
      have hj : (Eff.mayP ⟨kind, ino, dir, dst, page, size, name, other, A, cp, data⟩) = (ndB ino && (ndB dir && nmB name)) := by unfold Eff.mayP; simp [h1, h2]
      rw [hj]
      clear hj h1 h2
      go_enter Tryz.func87, Tryz.ntmps87
      go_wp2_with fail
      refine (eNode ino _).mono ?_
      rintro e' w1 h1
      obtain ⟨rfl, b1⟩ := h1.below
      have hc1 := HC0.out.below' b1
      have HC1 := Lib.hid hc1
      have HG1 := Lib.hid (grow_trans HG0.out h1.2)
      clear h1 b1 c0 c1 c2 c3 c4 c5 c6 c7 c8
      obtain ⟨c0, c1, c2, c3, c4, c5, c6, c7, c8⟩ := cells9 hc1
      clear hc1
      cases hx1 : ndB ino
      · have HX1 := Lib.hid hx1
        clear hx1
        go_wp2
        go_ret
        exact ⟨by rw [HX1.out]; rfl, HG1.out⟩
      · have HX1 := Lib.hid hx1
        clear hx1
        go_wp2_with fail
        refine (ePlace dir name hn _).mono ?_
        rintro e' w2 h2
        obtain ⟨rfl, b2⟩ := h2.below
        have hc2 := HC1.out.below' b2
        have HC2 := Lib.hid hc2
        have HG2 := Lib.hid (grow_trans HG1.out h2.2)
        clear h2 b2 c0 c1 c2 c3 c4 c5 c6 c7 c8
        obtain ⟨c0, c1, c2, c3, c4, c5, c6, c7, c8⟩ := cells9 hc2
        clear hc2
        go_wp2
        go_ret
        exact ⟨by rw [HX1.out]; rfl, HG2.out⟩
    · have q2 : (kind == 2) = false := by simpa using h2
      by_cases h3 : kind = 3
      · have q3 : (kind == 3) = true := by simpa using h3
        have hj : (Eff.mayP ⟨kind, ino, dir, dst, page, size, name, other, A, cp, data⟩) = (ndB ino && (ndB dir && nmB name)) := by unfold Eff.mayP; simp [h1, h2, h3]
        rw [hj]
        clear hj h1 h2 h3
        go_enter Tryz.func87, Tryz.ntmps87
        go_wp2_with fail
        refine (eNode ino _).mono ?_
        rintro e' w1 h1
        obtain ⟨rfl, b1⟩ := h1.below
        have hc1 := HC0.out.below' b1
        have HC1 := Lib.hid hc1
        have HG1 := Lib.hid (grow_trans HG0.out h1.2)
        clear h1 b1 c0 c1 c2 c3 c4 c5 c6 c7 c8
        obtain ⟨c0, c1, c2, c3, c4, c5, c6, c7, c8⟩ := cells9 hc1
        clear hc1
        cases hx1 : ndB ino
        · have HX1 := Lib.hid hx1
          clear hx1
          go_wp2
          go_ret
          exact ⟨by rw [HX1.out]; rfl, HG1.out⟩
        · have HX1 := Lib.hid hx1
          clear hx1
          go_wp2_with fail
          refine (ePlace dir name hn _).mono ?_
          rintro e' w2 h2
          obtain ⟨rfl, b2⟩ := h2.below
          have hc2 := HC1.out.below' b2
          have HC2 := Lib.hid hc2
          have HG2 := Lib.hid (grow_trans HG1.out h2.2)
          clear h2 b2 c0 c1 c2 c3 c4 c5 c6 c7 c8
          obtain ⟨c0, c1, c2, c3, c4, c5, c6, c7, c8⟩ := cells9 hc2
          clear hc2
          go_wp2
          go_ret
          exact ⟨by rw [HX1.out]; rfl, HG2.out⟩
      · have q3 : (kind == 3) = false := by simpa using h3
        by_cases h4 : kind = 4
        · have q4 : (kind == 4) = true := by simpa using h4
          have hj : (Eff.mayP ⟨kind, ino, dir, dst, page, size, name, other, A, cp, data⟩) = (ndB ino && (ndB dir && nmB name)) := by unfold Eff.mayP; simp [h1, h2, h3, h4]
          rw [hj]
          clear hj h1 h2 h3 h4
          go_enter Tryz.func87, Tryz.ntmps87
          go_wp2_with fail
          refine (eNode ino _).mono ?_
          rintro e' w1 h1
          obtain ⟨rfl, b1⟩ := h1.below
          have hc1 := HC0.out.below' b1
          have HC1 := Lib.hid hc1
          have HG1 := Lib.hid (grow_trans HG0.out h1.2)
          clear h1 b1 c0 c1 c2 c3 c4 c5 c6 c7 c8
          obtain ⟨c0, c1, c2, c3, c4, c5, c6, c7, c8⟩ := cells9 hc1
          clear hc1
          cases hx1 : ndB ino
          · have HX1 := Lib.hid hx1
            clear hx1
            go_wp2
            go_ret
            exact ⟨by rw [HX1.out]; rfl, HG1.out⟩
          · have HX1 := Lib.hid hx1
            clear hx1
            go_wp2_with fail
            refine (ePlace dir name hn _).mono ?_
            rintro e' w2 h2
            obtain ⟨rfl, b2⟩ := h2.below
            have hc2 := HC1.out.below' b2
            have HC2 := Lib.hid hc2
            have HG2 := Lib.hid (grow_trans HG1.out h2.2)
            clear h2 b2 c0 c1 c2 c3 c4 c5 c6 c7 c8
            obtain ⟨c0, c1, c2, c3, c4, c5, c6, c7, c8⟩ := cells9 hc2
            clear hc2
            go_wp2
            go_ret
            exact ⟨by rw [HX1.out]; rfl, HG2.out⟩
        · have q4 : (kind == 4) = false := by simpa using h4
          by_cases h5 : kind = 5
          · have q5 : (kind == 5) = true := by simpa using h5
            have hj : (Eff.mayP ⟨kind, ino, dir, dst, page, size, name, other, A, cp, data⟩) = ((ndB ino && (ndB dir && nmB name)) && (ndB dst && nmB other)) := by unfold Eff.mayP; simp [h1, h2, h3, h4, h5]
            rw [hj]
            clear hj h1 h2 h3 h4 h5
            go_enter Tryz.func87, Tryz.ntmps87
            go_wp2_with fail
            refine (eNode ino _).mono ?_
            rintro e' w1 h1
            obtain ⟨rfl, b1⟩ := h1.below
            have hc1 := HC0.out.below' b1
            have HC1 := Lib.hid hc1
            have HG1 := Lib.hid (grow_trans HG0.out h1.2)
            clear h1 b1 c0 c1 c2 c3 c4 c5 c6 c7 c8
            obtain ⟨c0, c1, c2, c3, c4, c5, c6, c7, c8⟩ := cells9 hc1
            clear hc1
            cases hx1 : ndB ino
            · have HX1 := Lib.hid hx1
              clear hx1
              go_wp2
              go_ret
              exact ⟨by rw [HX1.out]; rfl, HG1.out⟩
            · have HX1 := Lib.hid hx1
              clear hx1
              go_wp2_with fail
              refine (ePlace dir name hn _).mono ?_
              rintro e' w2 h2
              obtain ⟨rfl, b2⟩ := h2.below
              have hc2 := HC1.out.below' b2
              have HC2 := Lib.hid hc2
              have HG2 := Lib.hid (grow_trans HG1.out h2.2)
              clear h2 b2 c0 c1 c2 c3 c4 c5 c6 c7 c8
              obtain ⟨c0, c1, c2, c3, c4, c5, c6, c7, c8⟩ := cells9 hc2
              clear hc2
              cases hx2 : ndB dir && nmB name
              · have HX2 := Lib.hid hx2
                clear hx2
                go_wp2
                go_ret
                exact ⟨by rw [HX1.out, HX2.out]; rfl, HG2.out⟩
              · have HX2 := Lib.hid hx2
                clear hx2
                go_wp2_with fail
                refine (ePlace dst other ho _).mono ?_
                rintro e' w3 h3
                obtain ⟨rfl, b3⟩ := h3.below
                have hc3 := HC2.out.below' b3
                have HC3 := Lib.hid hc3
                have HG3 := Lib.hid (grow_trans HG2.out h3.2)
                clear h3 b3 c0 c1 c2 c3 c4 c5 c6 c7 c8
                obtain ⟨c0, c1, c2, c3, c4, c5, c6, c7, c8⟩ := cells9 hc3
                clear hc3
                go_wp2
                go_ret
                exact ⟨by rw [HX1.out, HX2.out]; rfl, HG3.out⟩
          · have q5 : (kind == 5) = false := by simpa using h5
            by_cases h6 : kind = 6
            · have q6 : (kind == 6) = true := by simpa using h6
              have hj : (Eff.mayP ⟨kind, ino, dir, dst, page, size, name, other, A, cp, data⟩) = (ndB ino && (decide (0 ≤ size) && decide (size ≤ 16384))) := by unfold Eff.mayP; simp [h1, h2, h3, h4, h5, h6]
              rw [hj]
              clear hj h1 h2 h3 h4 h5 h6
              go_enter Tryz.func87, Tryz.ntmps87
              go_wp2_with fail
              refine (eNode ino _).mono ?_
              rintro e' w1 h1
              obtain ⟨rfl, b1⟩ := h1.below
              have hc1 := HC0.out.below' b1
              have HC1 := Lib.hid hc1
              have HG1 := Lib.hid (grow_trans HG0.out h1.2)
              clear h1 b1 c0 c1 c2 c3 c4 c5 c6 c7 c8
              obtain ⟨c0, c1, c2, c3, c4, c5, c6, c7, c8⟩ := cells9 hc1
              clear hc1
              cases hx1 : ndB ino
              · have HX1 := Lib.hid hx1
                clear hx1
                go_wp2
                go_ret
                exact ⟨by rw [HX1.out]; rfl, HG1.out⟩
              · have HX1 := Lib.hid hx1
                clear hx1
                go_wp2_with fail
                refine (eWithin size 0 16384 _).mono ?_
                rintro e' w2 h2
                obtain ⟨rfl, b2⟩ := h2.below
                have hc2 := HC1.out.below' b2
                have HC2 := Lib.hid hc2
                have HG2 := Lib.hid (grow_trans HG1.out h2.2)
                clear h2 b2 c0 c1 c2 c3 c4 c5 c6 c7 c8
                obtain ⟨c0, c1, c2, c3, c4, c5, c6, c7, c8⟩ := cells9 hc2
                clear hc2
                go_wp2
                go_ret
                exact ⟨by rw [HX1.out]; rfl, HG2.out⟩
            · have q6 : (kind == 6) = false := by simpa using h6
              by_cases h7 : kind = 7
              · have q7 : (kind == 7) = true := by simpa using h7
                have hj : (Eff.mayP ⟨kind, ino, dir, dst, page, size, name, other, A, cp, data⟩) = ((ndB ino && rcB page size) && decide (data.length = 256)) := by unfold Eff.mayP; simp [h1, h2, h3, h4, h5, h6, h7]
                rw [hj]
                clear hj h1 h2 h3 h4 h5 h6 h7
                go_enter Tryz.func87, Tryz.ntmps87
                go_wp2_with fail
                refine (eNode ino _).mono ?_
                rintro e' w1 h1
                obtain ⟨rfl, b1⟩ := h1.below
                have hc1 := HC0.out.below' b1
                have HC1 := Lib.hid hc1
                have HG1 := Lib.hid (grow_trans HG0.out h1.2)
                clear h1 b1 c0 c1 c2 c3 c4 c5 c6 c7 c8
                obtain ⟨c0, c1, c2, c3, c4, c5, c6, c7, c8⟩ := cells9 hc1
                clear hc1
                cases hx1 : ndB ino
                · have HX1 := Lib.hid hx1
                  clear hx1
                  go_wp2
                  go_ret
                  exact ⟨by rw [HX1.out]; rfl, HG1.out⟩
                · have HX1 := Lib.hid hx1
                  clear hx1
                  go_wp2_with fail
                  refine (eReaches page size _).mono ?_
                  rintro e' w2 h2
                  obtain ⟨rfl, b2⟩ := h2.below
                  have hc2 := HC1.out.below' b2
                  have HC2 := Lib.hid hc2
                  have HG2 := Lib.hid (grow_trans HG1.out h2.2)
                  clear h2 b2 c0 c1 c2 c3 c4 c5 c6 c7 c8
                  obtain ⟨c0, c1, c2, c3, c4, c5, c6, c7, c8⟩ := cells9 hc2
                  clear hc2
                  cases hx2 : rcB page size
                  · have HX2 := Lib.hid hx2
                    clear hx2
                    go_wp2
                    go_ret
                    exact ⟨by rw [HX1.out, HX2.out]; rfl, HG2.out⟩
                  · have HX2 := Lib.hid hx2
                    clear hx2
                    by_cases hl : data.length = 256
                    · have r1 : ((data.length : Int) == 256) = true := by simp; omega
                      have r2 : decide (data.length = 256) = true := decide_eq_true hl
                      have R2 := Lib.hid r2
                      clear hl r2
                      go_wp2
                      go_ret
                      exact ⟨by rw [HX1.out, HX2.out, R2.out]; rfl, HG2.out⟩
                    · have r1 : ((data.length : Int) == 256) = false := by simp; omega
                      have r2 : decide (data.length = 256) = false := decide_eq_false hl
                      have R2 := Lib.hid r2
                      clear hl r2
                      go_wp2
                      go_ret
                      exact ⟨by rw [HX1.out, HX2.out, R2.out]; rfl, HG2.out⟩
              · have q7 : (kind == 7) = false := by simpa using h7
                by_cases h8 : kind = 8
                · have q8 : (kind == 8) = true := by simpa using h8
                  have hj : (Eff.mayP ⟨kind, ino, dir, dst, page, size, name, other, A, cp, data⟩) = (ndB ino) := by unfold Eff.mayP; simp [h1, h2, h3, h4, h5, h6, h7, h8]
                  rw [hj]
                  clear hj h1 h2 h3 h4 h5 h6 h7 h8
                  go_enter Tryz.func87, Tryz.ntmps87
                  go_wp2_with fail
                  refine (eNode ino _).mono ?_
                  rintro e' w1 h1
                  obtain ⟨rfl, b1⟩ := h1.below
                  have hc1 := HC0.out.below' b1
                  have HC1 := Lib.hid hc1
                  have HG1 := Lib.hid (grow_trans HG0.out h1.2)
                  clear h1 b1 c0 c1 c2 c3 c4 c5 c6 c7 c8
                  obtain ⟨c0, c1, c2, c3, c4, c5, c6, c7, c8⟩ := cells9 hc1
                  clear hc1
                  go_wp2
                  go_ret
                  exact ⟨rfl, HG1.out⟩
                · have q8 : (kind == 8) = false := by simpa using h8
                  have hj : (Eff.mayP ⟨kind, ino, dir, dst, page, size, name, other, A, cp, data⟩) = false := by unfold Eff.mayP; simp [h1, h2, h3, h4, h5, h6, h7, h8]
                  rw [hj]
                  clear hj h1 h2 h3 h4 h5 h6 h7 h8
                  go_enter Tryz.func87, Tryz.ntmps87
                  go_wp2
                  go_ret
                  exact ⟨rfl, HG0.out⟩
end Go.Proofs.YtbejbiogabpmfaaGreat

/-! The project's State: a node is made. -/
namespace Go.Proofs.YtbejbiogabpmfaaGreat
open Wd Ino Sm Go.RowKit Go.ChangeShapes Go.WideShapes Go.Sort
set_option linter.unusedVariables false
set_option maxRecDepth 100000
/-- it tells whether it was done; the state is what it comes to -/
def BGo (o : Option Stt) (S : Stt) (base m g b : Nat) (w : World) (e : Ending) (w' : World) : Prop := e = .returned (.bool o.isSome) ∧ PSt w' base (m + 8) g b (o.getD S) ∧ Trn w w' [g, b]
/-- an effect's numbers and names within bounds -/
structure EfB (e : Eff) : Prop where
  ino : 1 ≤ e.ino ∧ e.ino ≤ 1048576
  kind : i64R e.kind
  dir : i64R e.dir
  dst : i64R e.dst
  page : i64R e.page
  size : i64R e.size
  name : e.name.size ≤ 1000
  other : e.other.size ≤ 1000
theorem EfB.ino' {e : Eff} (h : EfB e) : i64R e.ino := by have := h.ino; unfold i64R; omega
theorem at_app {l : List Nod} {n : Nod} (h : ∀ a ∈ l, a.ino < n.ino) : ∀ i, atS (l ++ [n]) i = if i = n.ino then some n else atS l i := by
  intro i
  rw [atS_app]
  by_cases e : i = n.ino
  · subst e
    rw [atS_none.2 (fun a ha => by have := h a ha; omega)]
    simp
  · rw [if_neg e, if_neg (fun h => e h.symm)]; simp
theorem SmS.app {l : List Nod} (h : SmS l) {n : Nod} (hn : SmN n) : SmS (l ++ [n]) := fun a ha => by
  rcases List.mem_append.1 ha with ha | ha
  · exact h a ha
  · rw [List.mem_singleton.1 ha]; exact hn
theorem SmN.new {i k d : Int} (hi : i64R i) (hk : i64R k) (hd : i64R d) : SmN (newNod i k d) := by
  refine ⟨by simp [newNod], by simp [newNod], by simp [newNod], hi, hk, ?_, ?_, ?_, by simp [newNod], by simp [newNod]⟩
  · show i64R 1; unfold i64R; decide
  · show i64R 0; unfold i64R; decide
  · unfold newNod newUp
    dsimp only
    split
    · exact hd
    · unfold i64R; decide
theorem PSt.setLast {w : World} {base m g b : Nat} {S : Stt} (h : PSt w base m g b S) (L : Int) : PSt (w.setCell ⟨g, 1, none⟩ (.int .i64 L)) base m g b ⟨S.l, L⟩ := by
  have hk : KeepC [108] w (w.setCell ⟨g, 1, none⟩ (.int .i64 L)) := fun q t cs ht hc => by
    have : q ≠ g := fun e => by
      subst e
      exact ht (by
        have : t = 108 := Decidable.byContradiction fun hne => hc.ne h.cells hne rfl
        rw [this]; exact List.mem_singleton.2 rfl)
    exact hc.far this _
  exact ⟨h.lo, h.lob, h.cells.set 1 (.int .i64 L), h.mp.keep hk (by decide) (by decide) (Below.heap_setCell w ⟨g, 1, none⟩ _ b h.ne)⟩
theorem free_at {l : List Nod} {d : Int} {s : ByteArray} (h : freeS l d s = true) : ∃ n, atS l d = some n ∧ n.kind = 2 ∧ hasN s n.names = false := by
  unfold freeS at h
  rw [Bool.and_eq_true] at h
  have hk := of_decide_eq_true h.1
  obtain ⟨n, h1, h2⟩ := at_of_kind (l := l) (i := d) (by rw [hk]; decide)
  refine ⟨n, h1, ?_, ?_⟩
  · unfold kindS at hk; rw [h2] at hk; exact hk
  · have := h.2; unfold namesS at this; rw [h2] at this; simpa using this
theorem below_of_grown_of {a w : World} (h : ∃ q os, w = grow (a.drewN q) os) : Below a.heap.size a w := by
  obtain ⟨q, os, rfl⟩ := h
  exact below_grow' _ _ _
section
variable {w : World} {base m g b : Nat} {S : Stt}
set_option maxHeartbeats 4000000 in
theorem pCreate (h : PSt w base m g b S) (hs : SmS S.l) (hm : m < 999900) (hlast : ∀ n ∈ S.l, n.ino ≤ S.last) (hl2 : i64R S.last) (e : Eff) (eb : EfB e) :
    Calls Tryz.prog 90 #[SPtr g, e.val] w (BGo (makeS S e) S base m g b w) := by
  have hfol : Tryz.prog.follows .mixedOrders = true := by kernel_rfl
  have hg1 := below_of_grown (World.grownBy_alloc w (.cells (effCells e) 64) none)
  have hc1 := Cells.new w 64 (effCells e)
  have h1 := h.below hg1
  have hq := h1.c1
  have KF := Lib.hid (fun n os => Grows.inAt (fun n os => pFree (h1.below (below_grow' _ n os)) hs e.dir eb.dir e.name) n os)
  have H1 := Lib.hid h1; have HG1 := Lib.hid hg1; have HC1 := Lib.hid hc1; have EB := Lib.hid eb; have HS := Lib.hid hs; have HM := Lib.hid hm; have HLL := Lib.hid hlast
  have hlt := hc1.lt
  obtain ⟨_, e1, e2, _, e4, _, e6, _, _⟩ := cells9 hc1
  have x1 := cell_grown (a := ⟨w.heap.size, 1, none⟩) hlt e1
  have x2 := cell_grown (a := ⟨w.heap.size, 2, none⟩) hlt e2
  have x4 := cell_grown (a := ⟨w.heap.size, 4, none⟩) hlt e4
  have x6 := cell_grown (a := ⟨w.heap.size, 6, none⟩) hlt e6
  clear e1 e2 e4 e6
  have y1 := cell_grown (a := ⟨g, 1, none⟩) h1.cells.lt hq
  obtain ⟨F, hF⟩ : ∃ F, freeS S.l e.dir e.name = F := ⟨_, rfl⟩
  have HF := Lib.hid hF
  have ei := eb.ino
  have w9 : wrap64 (e.ino - 1) = e.ino - 1 := by unfold wrap64; omega
  have HMK := Lib.hid (show makeS S e = if (F && decide (e.ino - 1 = S.last)) = true then some ⟨enterS (S.l ++ [newNod e.ino e.page e.dir]) e.dir e.name e.ino, e.ino⟩ else none by unfold makeS; rw [hF])
  rw [hF] at KF
  obtain ⟨kind, ino, dir, dst, page, size, name, other, A, cp, data⟩ := e
  unfold Eff.val
  unfold effCells at *
  dsimp only at *
  clear h hs hm hlast h1 hg1 hc1 eb hF hlt hq
  unfold SPtr at *
  obtain ⟨L, hL⟩ : ∃ L, S.last = L := ⟨_, rfl⟩
  have HL := Lib.hid hL
  rw [hL] at y1 HMK hl2
  clear hL
  have w8 : IntKind.i64.wrap (ino - 1) = ino - 1 := by rw [IntKind.wrap_i64]; unfold wrap64 at w9; omega
  have NO : ∀ (n : Nat) (os : Array Obj), makeS S ⟨kind, ino, dir, dst, page, size, name, other, A, cp, data⟩ = none → BGo (makeS S ⟨kind, ino, dir, dst, page, size, name, other, A, cp, data⟩) S base m g b w (.returned (.bool false)) (grow ((w.alloc (.cells #[.int .i64 kind, .int .i64 ino, .int .i64 dir, .int .i64 dst, .int .i64 page, .int .i64 size, .string name, .string other, .slice A data.length cp] 64)).drewN n) os) := fun n os he => by
    rw [he]
    exact ⟨rfl, (H1.out.below (below_grow' _ n os)).more (by omega), Trn.of (HG1.out.trans ((below_grow' _ n os).mono HG1.out.size))⟩
  cases F with
  | false =>
    go_enter Tryz.func90, Tryz.ntmps90
    go_upto_region 1 with fail
    refine wp_region_quiet_grown hfol (by kernel_rfl) ?_
    repeat (go_big_quiet_step (first | (go_at_call 132; (with_reducible exact KF.out _ _))))
    refine wpQuiet_nil ?_
    intro _ hw'
    obtain ⟨⟨nr, osr⟩, hw''⟩ := hw'
    subst hw''
    go_wp2
    go_ret
    exact NO nr osr (by rw [HMK.out]; rfl)
  | true =>
    by_cases hq : ino - 1 = L
    · have q1 : (ino - 1 != L) = false := by simpa using hq
      have HQ := Lib.hid hq
      clear hq
      go_enter Tryz.func90, Tryz.ntmps90
      go_upto_region 1 with fail
      refine wp_region_quiet_grown hfol (by kernel_rfl) ?_
      repeat (go_big_quiet_step (first | (go_at_call 132; (with_reducible exact KF.out _ _))))
      refine wpQuiet_nil ?_
      intro _ hw'
      obtain ⟨⟨nr, osr⟩, hw''⟩ := hw'
      subst hw''
      have e1 := x1 nr osr
      have e2 := x2 nr osr
      have e4 := x4 nr osr
      have e6 := x6 nr osr
      have H2 := Lib.hid (H1.out.below (below_grow' _ nr osr))
      have T2 := Lib.hid (Trn.of (S := [g, b]) (HG1.out.trans ((below_grow' _ nr osr).mono HG1.out.size)))
      have HC2 := Lib.hid (HC1.out.below' (below_grow' _ nr osr))
      clear x1 x2 x4 x6 y1 NO KF HG1 H1 HC1
      obtain ⟨w2, hw2⟩ : ∃ w2, grow ((w.alloc (.cells #[.int .i64 kind, .int .i64 ino, .int .i64 dir, .int .i64 dst, .int .i64 page, .int .i64 size, .string name, .string other, .slice A data.length cp] 64)).drewN nr) osr = w2 := ⟨_, rfl⟩
      rw [hw2] at e1 e2 e4 e6 H2 T2 HC2 ⊢
      clear hw2
      have c0 := H2.out.c0
      have HM9 : m < 1000000 := by have := HM.out; omega
      have HI9 : i64R ino := EB.out.ino'
      have HA9 := Lib.hid (at_app (n := newNod ino page dir) (fun a ha => by have h5 := HLL.out a ha; have h6 := HQ.out; have h7 := HL.out; show a.ino < ino; omega))
      have KN := Lib.hid (fun w => iNew ino page dir w)
      unfold nv at KN
      go_upto_region 3 with fail
      have b0 : Below w2.heap.size w2 w2.drew := below_drewN (Below.refl _ _) 1
      have s9 : ∀ w' : World, (∀ k, k < w2.heap.size → k ≠ b → w'.heap[k]? = w2.heap[k]?) → w'.cell? ⟨g, 0, none⟩ = some (.map (some b)) ∧ w'.cell? ⟨w.heap.size, 1, none⟩ = some (.int .i64 ino) ∧ w'.cell? ⟨w.heap.size, 2, none⟩ = some (.int .i64 dir) ∧ w'.cell? ⟨w.heap.size, 4, none⟩ = some (.int .i64 page) := fun w' hk => by
        have d1 : Cells w' g _ _ := (hk g H2.out.cells.lt (fun e => H2.out.ne e.symm)).trans H2.out.cells
        have d2 : Cells w' w.heap.size _ _ := (hk _ HC2.out.lt (fun e => by
          obtain ⟨es, cl, h5⟩ := (let ⟨G, hG, _⟩ := H2.out.mp; hG.block)
          have h6 : w2.heap[w.heap.size]? = _ := HC2.out
          rw [e, h5] at h6
          cases h6)).trans HC2.out
        exact ⟨d1.cell 0, d2.cell 1, d2.cell 2, d2.cell 4⟩
      have S9 := Lib.hid s9
      clear s9 c0 e1 e2 e4 e6
      go_region_held3 (fun w' => w'.cell? ⟨g, 0, none⟩ = some (.map (some b)) ∧ w'.cell? ⟨w.heap.size, 1, none⟩ = some (.int .i64 ino) ∧ w'.cell? ⟨w.heap.size, 2, none⟩ = some (.int .i64 dir) ∧ w'.cell? ⟨w.heap.size, 4, none⟩ = some (.int .i64 page))
        (first | exact S9.out _ (fun k hk _ => b0.block k hk) | exact S9.out _ (fun k hk _ => b3.block k hk) | exact S9.out _ (fun k hk hne => (turned_block HU4.out hne).trans (b3.block k hk)))
        (first
        | (go_at_call 59; (with_reducible refine (KN.out _).mono ?_); rintro e' w3 ⟨rfl, hw3⟩
           have b3 := b0.trans (below_of_grown_of hw3)
           obtain ⟨w4, hrun, hP4, hT4⟩ := (H2.out.below b3).store HM9 HI9 (x := ino) (n := ⟨ino, page, 1, 0, newUp page dir, none, 0, [], none, 0, []⟩) (OwnNd.zero _ _) (l' := S.l ++ [newNod ino page dir]) HA9.out
           unfold Nd.val at hrun
           dsimp only [List.length_nil] at hrun
           have HP4 := Lib.hid hP4
           have HU4 := Lib.hid hT4
           have HT4 := Lib.hid ((T2.out.trans (Trn.of b3)).trans (Trn.map hT4 (S := [g, b]) (List.mem_cons_of_mem _ (List.mem_singleton.2 rfl))))
           clear hP4 hT4 hw3))
      have hk4 := H2.out.keepC ((Trn.of b3).trans (Trn.map HU4.out (S := [g, b]) (List.mem_cons_of_mem _ (List.mem_singleton.2 rfl))))
      have hc4 := hk4 _ _ _ (by decide) HC2.out
      have hs5 : w4.frozen? ⟨g, 1, none⟩ = false := HP4.out.fr 1
      have hs6 := HP4.out.c1
      have h5 := HP4.out.setLast ino
      have hc5 := hc4.far (p := ⟨g, 1, none⟩) (HP4.out.cells.ne hc4 (by decide)).symm (.int .i64 ino)
      obtain ⟨_, f1, _, _, _, _, _, _, _⟩ := cells9 (e := ⟨kind, ino, dir, dst, page, size, name, other, A, cp, data⟩) hc4
      obtain ⟨_, g1, g2, _, _, _, g6, _, _⟩ := cells9 (e := ⟨kind, ino, dir, dst, page, size, name, other, A, cp, data⟩) hc5
      have H5 := Lib.hid h5
      have T5 := Lib.hid (HT4.out.trans (Trn.set w4 (p := ⟨g, 1, none⟩) (S := [g, b]) (List.mem_cons_self) (.int .i64 ino)))
      obtain ⟨n0, a0, k0, _⟩ := free_at HF.out
      have hA0 : atS (S.l ++ [newNod ino page dir]) dir = some n0 := by rw [atS_app, a0]; rfl
      have KE := Lib.hid (pEnter h5 (SmS.app HS.out (SmN.new EB.out.ino' EB.out.page EB.out.dir)) (by have := HM.out; omega) dir EB.out.dir hA0 name EB.out.name ino)
      have HX := Lib.hid (show makeS S ⟨kind, ino, dir, dst, page, size, name, other, A, cp, data⟩ = some ⟨enterS (S.l ++ [newNod ino page dir]) dir name ino, ino⟩ by rw [HMK.out, HQ.out]; simp)
      clear hk4 hc4 h5 hc5 a0 k0 hA0 hrun b3 b0 KN
      unfold SPtr at KE
      go_wp2_with fail
      refine (KE.out).mono ?_
      rintro e' w6 ⟨rfl, h6, t6⟩
      have H6 := Lib.hid h6; have T6 := Lib.hid (T5.out.trans t6)
      clear h6 t6
      go_wp2
      go_ret
      rw [HX.out]
      exact ⟨rfl, H6.out.more (by omega), T6.out⟩
    · have q1 : (ino - 1 != L) = true := by simpa using hq
      have HQ := Lib.hid (decide_eq_false hq)
      clear hq
      go_enter Tryz.func90, Tryz.ntmps90
      go_upto_region 1 with fail
      refine wp_region_quiet_grown hfol (by kernel_rfl) ?_
      repeat (go_big_quiet_step (first | (go_at_call 132; (with_reducible exact KF.out _ _))))
      refine wpQuiet_nil ?_
      intro _ hw'
      obtain ⟨⟨nr, osr⟩, hw''⟩ := hw'
      subst hw''
      go_wp2
      go_ret
      exact NO nr osr (by rw [HMK.out, HQ.out]; rfl)
end
end Go.Proofs.YtbejbiogabpmfaaGreat

/-! The way up from a directory, and the project's Within. -/
namespace Go.Proofs.YtbejbiogabpmfaaGreat
open Wd Ino Sm Go.RowKit Go.ChangeShapes Go.WideShapes Go.Sort
set_option linter.unusedVariables false
set_option maxRecDepth 100000
/-- k steps lead up to Root, from directory to directory -/
def Rch (l : List Nod) : Nat → Int → Prop
  | 0, i => i = 1
  | k + 1, i => i ≠ 1 ∧ kindS l i = 2 ∧ Rch l k (upS l i)
theorem Rch.uniq {l : List Nod} : ∀ {k k' : Nat} {i : Int}, Rch l k i → Rch l k' i → k = k'
  | 0, 0, _, _, _ => rfl
  | 0, k' + 1, i, h, h' => absurd h h'.1
  | k + 1, 0, i, h, h' => absurd h' h.1
  | k + 1, k' + 1, i, h, h' => by rw [Rch.uniq h.2.2 h'.2.2]
/-- the way from each directory ends -/
def WayUp (l : List Nod) : Prop := ∀ i, kindS l i = 2 → ∃ k, k < l.length ∧ Rch l k i
theorem way_more {l : List Nod} {d : Int} : ∀ {k n : Nat} {i : Int}, Rch l k i → k ≤ n → wayB l n i d = wayB l k i d
  | 0, 0, i, h, hn => rfl
  | 0, n + 1, i, h, hn => by
    have h' : i = 1 := h
    unfold wayB
    by_cases e : i = d
    · rw [if_pos e]; simp [e]
    · rw [if_neg e, if_pos (.inl h')]; simp [e]
  | k + 1, 0, i, h, hn => by omega
  | k + 1, n + 1, i, h, hn => by
    unfold wayB
    by_cases e : i = d
    · rw [if_pos e, if_pos e]
    · have hc : ¬ (i = 1 ∨ kindS l i ≠ 2) := fun hh => hh.elim h.1 (fun h2 => h2 h.2.1)
      rw [if_neg e, if_neg e, if_neg hc, if_neg hc]
      exact way_more h.2.2 (by omega)
noncomputable def depS (l : List Nod) (i : Int) : Nat := by
  classical exact if h : ∃ k, Rch l k i then h.choose else 0
theorem dep_eq {l : List Nod} {k : Nat} {i : Int} (h : Rch l k i) : depS l i = k := by
  unfold depS
  rw [dif_pos ⟨k, h⟩]
  exact Rch.uniq (Exists.choose_spec (⟨k, h⟩ : ∃ k, Rch l k i)) h
theorem way_step {l : List Nod} (hw : WayUp l) {i d : Int} (h1 : i ≠ d) (h2 : i ≠ 1) (h3 : kindS l i = 2) : withinS l i d = withinS l (upS l i) d ∧ depS l (upS l i) < depS l i := by
  obtain ⟨k, hk, h⟩ := hw i h3
  cases k with
  | zero => exact absurd h h2
  | succ k =>
    refine ⟨?_, ?_⟩
    · unfold withinS
      rw [way_more h (Nat.le_of_lt hk), way_more h.2.2 (by omega)]
      conv => lhs; unfold wayB
      rw [if_neg h1, if_neg (fun hh => hh.elim h2 (fun h4 => h4 h3))]
    · rw [dep_eq h, dep_eq h.2.2]; omega
theorem way_stop {l : List Nod} (hl : 0 < l.length) {i d : Int} (h1 : i ≠ d) (h2 : i = 1 ∨ kindS l i ≠ 2) : withinS l i d = false := by
  unfold withinS
  cases hn : l.length with
  | zero => omega
  | succ n => unfold wayB; rw [if_neg h1, if_pos h2]
theorem way_here (l : List Nod) (d : Int) : withinS l d d = true := by
  unfold withinS
  cases l.length with
  | zero => simp [wayB]
  | succ n => unfold wayB; rw [if_pos rfl]
section
variable {w : World} {base m g b : Nat} {S : Stt}
def WiRel (l : List Nod) (d : Int) (R : Bool) (w : World) (i : Value) (wr : World) : Prop := ∃ x : Int, i = .int .i64 x ∧ i64R x ∧ withinS l x d = R ∧ ∃ q os, wr = grow (w.drewN q) os
theorem pWithin (h : PSt w base m g b S) (hs : SmS S.l) (hw : WayUp S.l) (hpos : 0 < S.l.length) (i d : Int) (hi : i64R i) :
    Calls Tryz.prog 138 #[SPtr g, .int .i64 i, .int .i64 d] w (Grows (.bool (withinS S.l i d)) w) := by
  have KM := Lib.hid (pMade h)
  have H := Lib.hid h; have HS := Lib.hid hs; have HW := Lib.hid hw; have HP := Lib.hid hpos
  obtain ⟨R, hR⟩ : ∃ R, withinS S.l i d = R := ⟨_, rfl⟩
  have HR := Lib.hid hR
  rw [hR]
  have HI := Lib.hid hi
  clear h hs hw hpos hR hi
  unfold SPtr at *
  go_enter Tryz.func138, Tryz.ntmps138
  go_wp2_with fail
  refine (KM.out).mono ?_
  rintro e w1 ⟨rfl, hw1⟩
  have HG1 := Lib.hid hw1
  clear hw1 KM
  go_wp2_with fail
  go_loopw [1, 12] (fun i _ wr => WiRel S.l d R w i wr) (fun i _ _ => depS S.l (intOf i))
  case atStart => exact ⟨i, rfl, HI.out, HR.out, HG1.out⟩
  case round =>
    obtain ⟨x, rfl, hx, hwx, hg⟩ := hrel
    have HG := Lib.hid hg
    have h2 := H.out.below (grown_b hg)
    have HX := Lib.hid hx; have HWX := Lib.hid hwx
    by_cases e : x = d
    · have q0 : (x != d) = false := by simpa using e
      have HE := Lib.hid (show R = true by rw [← hwx, e]; exact way_here _ _)
      clear hg h2 e hwx hx
      go_wp2
      go_ret
      rw [HE.out]
      exact ⟨rfl, HG.out⟩
    · have q0 : (x != d) = true := by simpa using e
      have KI := Lib.hid (pIs h2 x 2 hx)
      have H2 := Lib.hid h2
      by_cases e1 : x = 1
      · have q1 : (x == 1) = true := by simpa using e1
        have HE := Lib.hid (show R = false by rw [← hwx]; exact way_stop HP.out e (.inl e1))
        clear hg h2 e e1 hwx hx
        go_wp2
        go_ret
        rw [HE.out]
        exact ⟨rfl, HG.out⟩
      · have q1 : (x == 1) = false := by simpa using e1
        by_cases e2 : kindS S.l x = 2
        · rw [decide_eq_true e2] at KI
          have HWS := Lib.hid (way_step HW.out e e1 e2)
          clear hg h2 e e1 e2 hwx hx
          unfold SPtr at KI
          go_wp2_with fail
          refine (KI.out).mono ?_
          rintro e' w2 ⟨rfl, hw2⟩
          have h3 := H2.out.below (grown_b hw2)
          have HG2 := Lib.hid (grow_trans HG.out hw2)
          obtain ⟨n, hn, ho, lk⟩ := h3.look HX.out
          have lk0 := lk w2 rfl
          have c0 := h3.c0
          have hsm := HS.out.get x
          obtain ⟨j, ki, l, t, u, A, ac, P, B, bc, N⟩ := n
          have hu : upS S.l x = u := by unfold upS; rw [← hn]; rfl
          have HU := Lib.hid (show i64R u by have := hsm.up; rw [← hn] at this; exact this)
          have HWS2 := HWS.out
          rw [hu] at HWS2
          have HWS3 := Lib.hid HWS2
          unfold Nd.val at lk0
          dsimp only at lk0
          clear h3 ho lk hn hsm hu hw2 HWS2 HWS
          go_wp2
          go_roundw
          case rel => exact ⟨u, rfl, HU.out, by rw [← HWS3.out.1]; exact HWX.out, HG2.out⟩
          case measure => exact HWS3.out.2
        · rw [decide_eq_false e2] at KI
          have HE := Lib.hid (show R = false by rw [← hwx]; exact way_stop HP.out e (.inr e2))
          clear hg h2 e e1 e2 hwx hx
          unfold SPtr at KI
          go_wp2_with fail
          refine (KI.out).mono ?_
          rintro e' w2 ⟨rfl, hw2⟩
          have HG2 := Lib.hid (grow_trans HG.out hw2)
          clear hw2
          go_wp2
          go_ret
          rw [HE.out]
          exact ⟨rfl, HG2.out⟩
end
end Go.Proofs.YtbejbiogabpmfaaGreat
