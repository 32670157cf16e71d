import Derived.Test.YtnoojhkkojijpaaDoorEfTo
import Derived.Test.YtnoojhkkojijpaaDoorEfBas
namespace Go.Proofs.YtnoojhkkojijpaaDoor
open Wd U Go.RowKit Go.ChangeShapes Go.WideShapes Go.Sort
set_option linter.unusedVariables false

theorem pages_one {e : Eff} (h7 : e.kind ≠ 7) : pagesT [e] = 0 := by unfold pagesT; simp [h7]

set_option maxRecDepth 100000 in
set_option maxHeartbeats 4000000 in
theorem shapes_any {w : World} (e : Eff) (n : Int) (hn0 : i64R n) (hT : Tabs w) (ok : e.Ok w w.heap.size) : Calls Tryd.prog 5 #[e.val, .int .i64 n] w (TrueB w) := by
  have HNR := Lib.hid hn0
  have OK := Lib.hid ok; have HT := Lib.hid hT
  have hp := ok.page
  unfold i64R at hp
  have b0 : Below w.heap.size w (w.alloc (.cells (effCells e) 24)) := (Below.refl _ _).alloc (Nat.le_refl _) _
  have HC0 := Lib.hid (Cells.new w 24 (effCells e))
  have HB0 := Lib.hid b0
  have HT0 := Lib.hid (Tabs.below hT b0)
  clear ok hT b0 hn0
  unfold Eff.val
  go_enter Tryd.func5, Tryd.ntmps5
  go_wp2_with fail
  refine (effAwake_true HT0.out).mono ?_
  rintro e' w1 ⟨rfl, b1⟩
  have hc1 := HC0.out.below' b1
  have HC1 := Lib.hid hc1
  have HB1 := Lib.hid (HB0.out.trans (b1.mono HB0.out.size))
  have OK1 := Lib.hid (OK.out.at_ HB1.out)
  obtain ⟨c0, c1, c2, c3, c4, c5, c6, c7, c8⟩ := cells9 hc1
  clear hc1 b1
  go_wp2_with fail
  refine (few_any (l := [e]) (effs_one OK1.out) (by show 1 ≤ maxLen; unfold maxLen; omega)).mono ?_
  rintro e' w2 ⟨rfl, b2'⟩
  have b2 : Below w1.heap.size w1 w2 := ((Below.refl w1.heap.size w1).alloc (Nat.le_refl _) _).trans (b2'.mono (by simp))
  have hc2 := HC1.out.below' b2
  have HC2 := Lib.hid hc2
  have HB2 := Lib.hid (HB1.out.trans (b2.mono HB1.out.size))
  have OK2 := Lib.hid (OK1.out.at_ b2)
  clear b2 b2' c0 c1 c2 c3 c4 c5 c6 c7 c8
  cases hf : fewE [e]
  · have HF := Lib.hid hf
    clear hf hc2
    go_wp2
    go_ret
    exact ⟨rfl, HB2.out⟩
  · have hfew : e.few := (fewE_iff.1 hf).1 e (by simp)
    have HF := Lib.hid hfew
    obtain ⟨c0, c1, c2, c3, c4, c5, c6, c7, c8⟩ := cells9 hc2
    clear hf hc2
    go_wp2_with fail
    refine (eCheck e _ OK2.out HF.out).mono ?_
    rintro e' w3 h3
    obtain ⟨rfl, b3⟩ := h3.below
    have hc3 := HC2.out.below' b3
    have HC3 := Lib.hid hc3
    have HB3 := Lib.hid (HB2.out.trans (b3.mono HB2.out.size))
    have OK3 := Lib.hid (OK2.out.at_ b3)
    clear b3 h3 c0 c1 c2 c3 c4 c5 c6 c7 c8
    cases hck : e.check
    · rw [show errB false 92 = 92 from rfl]
      clear hck hc3
      go_wp2
      go_ret
      exact ⟨rfl, HB3.out⟩
    · rw [show errB true 92 = 0 from rfl]
      have HCK := Lib.hid hck
      obtain ⟨i1, i2⟩ := check_ino hck
      obtain ⟨k1, k8⟩ := check_kind hck
      obtain ⟨c0, c1, c2, c3, c4, c5, c6, c7, c8⟩ := cells9 hc3
      clear hck hc3
      go_upto_region 7 with fail
      obtain ⟨w4, hw4⟩ : ∃ w4, w3.alloc (.cells #[.int .i64 n, .int .i64 e.ino, .int .i64 e.dir, .int .i64 e.dst, .int .i64 e.page, .int .i64 e.size, .string e.name, .string e.other, .slice e.A e.data.length e.cp] 24) = w4 := ⟨_, rfl⟩
      have hc4 : Cells w4 w3.heap.size 24 (effCells { e with kind := n }) := by rw [← hw4]; exact Cells.new _ _ _
      have b4 : Below w3.heap.size w3 w4 := by rw [← hw4]; exact (Below.refl _ _).alloc (Nat.le_refl _) _
      rw [hw4]
      have HC4 := Lib.hid hc4
      have HC34 := Lib.hid (HC3.out.below' b4)
      have HB4 := Lib.hid (HB3.out.trans (b4.mono HB3.out.size))
      have OK4 := Lib.hid (OK3.out.at_ b4)
      clear hw4 b4 c0 c1 c2 c3 c4 c5 c6 c7 c8
      obtain ⟨c0, c1, c2, c3, c4, c5, c6, c7, c8⟩ := cells9 HC34.out
      obtain ⟨d0, d1, d2, d3, d4, d5, d6, d7, d8⟩ := cells9 hc4
      clear hc4
      have p1 : decide (e.ino < 1) = false := decide_eq_false (by omega)
      have p2 : decide (e.ino > 1048576) = false := decide_eq_false (by omega)
      go_cut [46] from 20 to 45 (fun t wx => t = .bool false ∧ Below w4.heap.size w4 wx)
      case first =>
        by_cases hn : n = e.kind
        · have q1 : (n != e.kind) = false := by simpa using hn
          clear hn
          go_wp2_with fail
          go_meet
          exact ⟨rfl, Below.refl _ _⟩
        · have q1 : (n != e.kind) = true := by simpa using hn
          by_cases hlo : n < 1
          · have q2 : decide (n < 1) = true := decide_eq_true hlo
            have ho := Lib.hid (check_other (e := e) (.inl hlo))
            clear hlo hn
            go_wp2_with fail
            refine (eCheck { e with kind := n } _ ⟨?_, OK4.out.ino, OK4.out.dir, OK4.out.dst, OK4.out.page, OK4.out.size, OK4.out.name, OK4.out.other, OK4.out.bytes, OK4.out.row, OK4.out.le, OK4.out.cap⟩ HF.out).mono ?_
            · exact HNR.out
            · rintro e' w5 h5
              obtain ⟨rfl, b5⟩ := h5.below
              rw [ho.out, show errB false 92 = 92 from rfl]
              have HB5 := Lib.hid b5
              have hc5 := HC34.out.below' b5
              clear b5 h5 c0 c1 c2 c3 c4 c5 c6 c7 c8 d0 d1 d2 d3 d4 d5 d6 d7 d8
              obtain ⟨c0, c1, c2, c3, c4, c5, c6, c7, c8⟩ := cells9 hc5
              clear hc5
              go_wp2_with fail
              go_meet
              exact ⟨rfl, HB5.out⟩
          · by_cases hhi : n > 8
            · have q2 : decide (n < 1) = false := decide_eq_false hlo
              have q3 : decide (n > 8) = true := decide_eq_true hhi
              have ho := Lib.hid (check_other (e := e) (.inr hhi))
              clear hlo hhi hn
              go_wp2_with fail
              refine (eCheck { e with kind := n } _ ⟨?_, OK4.out.ino, OK4.out.dir, OK4.out.dst, OK4.out.page, OK4.out.size, OK4.out.name, OK4.out.other, OK4.out.bytes, OK4.out.row, OK4.out.le, OK4.out.cap⟩ HF.out).mono ?_
              · exact HNR.out
              · rintro e' w5 h5
                obtain ⟨rfl, b5⟩ := h5.below
                rw [ho.out, show errB false 92 = 92 from rfl]
                have HB5 := Lib.hid b5
                have hc5 := HC34.out.below' b5
                clear b5 h5 c0 c1 c2 c3 c4 c5 c6 c7 c8 d0 d1 d2 d3 d4 d5 d6 d7 d8
                obtain ⟨c0, c1, c2, c3, c4, c5, c6, c7, c8⟩ := cells9 hc5
                clear hc5
                go_wp2_with fail
                go_meet
                exact ⟨rfl, HB5.out⟩
            · have q2 : decide (n < 1) = false := decide_eq_false hlo
              have q3 : decide (n > 8) = false := decide_eq_false hhi
              clear hlo hhi hn
              go_wp2_with fail
              go_meet
              exact ⟨rfl, Below.refl _ _⟩
      case rest =>
      obtain ⟨rfl, b5⟩ := hcut
      have hc5 := HC34.out.below' b5
      have HC5 := Lib.hid hc5
      have HB5 := Lib.hid (HB4.out.trans (b5.mono HB4.out.size))
      have OK5 := Lib.hid (OK4.out.at_ b5)
      clear b5 c0 c1 c2 c3 c4 c5 c6 c7 c8 d0 d1 d2 d3 d4 d5 d6 d7 d8
      obtain ⟨c0, c1, c2, c3, c4, c5, c6, c7, c8⟩ := cells9 hc5
      clear hc5
      by_cases h7 : e.kind = 7
      · have q7 : (e.kind == 7) = true := by simpa using h7
        obtain ⟨g1, g2, g3, g4, g5⟩ := check_write HCK.out h7
        have r1 : ((e.data.length : Int) == 256) = true := by rw [g1]; rfl
        have r2 : decide (e.size > 256 * e.page) = true := decide_eq_true g2
        have G5 := Lib.hid g5
        clear h7 g1 g5
        go_wp2_with fail
        refine (eBare e _ HF.out.2.1 HF.out.2.2).mono ?_
        rintro e' w6 h6
        obtain ⟨rfl, b6⟩ := h6.below
        have HB6 := Lib.hid (HB5.out.trans (b6.mono HB5.out.size))
        have OK6 := Lib.hid (OK5.out.at_ b6)
        have HC6 := Lib.hid (HC5.out.below' b6)
        clear b6 h6 c0 c1 c2 c3 c4 c5 c6 c7 c8
        go_wp2_with fail
        refine (eCheck e.bare _ OK6.out.bare HF.out.bare).mono ?_
        rintro e' w7 h7
        obtain ⟨rfl, b7⟩ := h7.below
        rw [G5.out, show errB false 92 = 92 from rfl]
        have HB7 := Lib.hid (HB6.out.trans (b7.mono HB6.out.size))
        obtain ⟨c0, c1, c2, c3, c4, c5, c6, c7, c8⟩ := cells9 (HC6.out.below' b7)
        clear b7 h7
        go_wp2
        go_ret
        exact ⟨rfl, HB7.out⟩
      · have q7 : (e.kind == 7) = false := by simpa using h7
        have HSB := Lib.hid (same_bare (check_empty HCK.out h7))
        have HPO := Lib.hid (pages_one h7)
        clear h7
        go_upto_region 11 with fail
        have hb0 : Below wc.heap.size wc wc.drew := below_drewN (Below.refl _ _) 1
        obtain ⟨w5, rfl⟩ : ∃ w5 : World, w5 = wc := ⟨_, rfl⟩
        clear c0 c1 c2 c3 c4 c5 c6 c7 c8
        go_region_held3 (fun w' => Below w5.heap.size w5 w' ∧ w'.cell? ⟨w.heap.size, 0, none⟩ = some (.int .i64 e.kind) ∧ w'.cell? ⟨w.heap.size, 1, none⟩ = some (.int .i64 e.ino) ∧ w'.cell? ⟨w.heap.size, 2, none⟩ = some (.int .i64 e.dir) ∧ w'.cell? ⟨w.heap.size, 3, none⟩ = some (.int .i64 e.dst) ∧ w'.cell? ⟨w.heap.size, 4, none⟩ = some (.int .i64 e.page) ∧ w'.cell? ⟨w.heap.size, 5, none⟩ = some (.int .i64 e.size) ∧ w'.cell? ⟨w.heap.size, 6, none⟩ = some (.string e.name) ∧ w'.cell? ⟨w.heap.size, 7, none⟩ = some (.string e.other) ∧ w'.cell? ⟨w.heap.size, 8, none⟩ = some (.slice e.A e.data.length e.cp))
          (first | exact s9 HC5.out hb0 | exact s9 HC5.out kP | exact s9 HC5.out (kS.alloc kS.size _) | exact s9 HC5.out kS | exact s9 HC5.out kB)
          (first
            | (go_at_call 13; refine (eBare e _ HF.out.2.1 HF.out.2.2).mono ?_; rintro e' wB hB'; obtain ⟨rfl, bB⟩ := hB'.below; have kB : Below w5.heap.size w5 wB := hb0.trans (bB.mono hb0.size); clear hB' bB)
            | (go_at_call 10; refine (eSame e.bare e _ (OK5.out.at_ kB).bare (OK5.out.at_ kB)).mono ?_; rintro e' wS hS'; obtain ⟨rfl, bS⟩ := hS'.below; rw [HSB.out]; have kS : Below w5.heap.size w5 wS := kB.trans (bS.mono kB.size); clear hS' bS)
            | (go_at_call 16; refine (ePages (l := [e]) (effs_one (OK5.out.at_ kS)) (by show 1 ≤ 1000; omega)).mono ?_; rintro e' wP ⟨rfl, bP⟩; rw [HPO.out]; have kP : Below w5.heap.size w5 wP := (kS.alloc kS.size _).trans (bP.mono (kS.alloc kS.size _).size)))
        all_goals
          go_wp2
          go_ret
          exact ⟨rfl, HB5.out.trans (kP.mono HB5.out.size)⟩
end Go.Proofs.YtnoojhkkojijpaaDoor
