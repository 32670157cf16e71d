import Derived.Test.YtcmgngjafnpnoaaFdTe
import Derived.Deep.CutBlock
/-! The project's table: set, closed, made; none; the face. -/
namespace Go.Proofs.Ytcmgngjafnpnoaa
open Wd Go.RowKit Go.ChangeShapes Go.WideShapes Go.Sort
set_option linter.unusedVariables false
set_option maxRecDepth 100000
section
variable {w : World} {g : Nat} {T : List Opn}
theorem isT_in {T : List Opn} {fd : Int} (h : isT T fd = true) : ∃ i : Nat, fd = i ∧ i < 16 := by
  unfold isT at h
  simp only [Bool.and_eq_true, decide_eq_true_eq] at h
  exact ⟨fd.toNat, by omega, by omega⟩
theorem setB_no {T : List Opn} {fd : Int} {o : Opn} (h : setB T fd o = false) : setT T fd o = T := by unfold setT; rw [h]; rfl
def SetD (T : List Opn) (fd : Int) (o : Opn) (w : World) (g : Nat) (e : Ending) (w' : World) : Prop := e = .returned (.bool (setB T fd o)) ∧ Tb w' g (setT T fd o) ∧ Sd w w' g
set_option maxHeartbeats 4000000 in
theorem tSet (h : Tb w g T) (hT : GoodT T) (fd : Int) (o : Opn) : Calls Try.prog 10 #[fptr g, .int .i64 fd, o.val] w (SetD T fd o w g) := by
  have hb1 : Below w.heap.size w (w.alloc (.cells #[.int .i64 o.ino, .int .i64 o.off, .int .i64 o.fl] 27)) := below_of_grown (World.grownBy_alloc w _ none)
  have hB := Cells.new w 27 #[.int .i64 o.ino, .int .i64 o.off, .int .i64 o.fl]
  have hx : Tb _ g T := h.below' hb1
  have K := Lib.hid (tGet hx hT fd)
  have KO := Lib.hid (fun w => fIsOpen o w)
  have HX := Lib.hid hx; have HB := Lib.hid hB; have HB1 := Lib.hid hb1; have H := Lib.hid h; have HT := Lib.hid hT
  unfold RetOB fptr Opn.val at *
  clear hx hB hb1 h hT
  generalize hgt : getT T fd = G at K
  cases hn : isT T fd with
  | false =>
    have e1 : setB T fd o = false := by unfold setB; rw [hn]; rfl
    have E := Lib.hid (setB_no e1)
    have E1 := Lib.hid e1
    rw [hn] at K
    clear hn e1 hgt
    go_enter Try.func10, Try.ntmps10
    go_wp2_with fail
    refine K.out.mono ?_
    rintro e w2 ⟨rfl, hb2⟩
    have HB2 := Lib.hid (HB1.out.trans (hb2.mono HB1.out.size))
    clear hb2
    go_wp2_with fail
    go_ret
    unfold SetD
    rw [E.out, E1.out]
    have hb3 : Below w.heap.size w (w2.alloc (.cells #[.int .i64 G.ino, .int .i64 G.off, .int .i64 G.fl] 27)) := HB2.out.alloc HB2.out.size _
    exact ⟨rfl, H.out.below' hb3, Sd.of hb3⟩
  | true =>
    have e1 : setB T fd o = decide (1 ≤ o.ino) := by unfold setB; rw [hn]; rfl
    rw [hn] at K
    obtain ⟨i, rfl, hl⟩ := isT_in hn
    obtain ⟨x, hxi⟩ : ∃ x, T[i]? = some x := ⟨_, List.getElem?_eq_getElem (by rw [HT.out.1]; exact hl)⟩
    have HF := Lib.hid hxi
    have HLT := Lib.hid (show i < T.length by rw [HT.out.1]; exact hl)
    cases hp : decide (1 ≤ o.ino) with
    | false =>
      rw [hp] at e1 KO
      have E := Lib.hid (setB_no e1)
      have E1 := Lib.hid e1
      clear hn e1 hp hl hgt hxi
      go_enter Try.func10, Try.ntmps10
      go_wp2_with fail
      refine K.out.mono ?_
      rintro e w2 ⟨rfl, hb2⟩
      have hc2 := (HB.out.below' hb2).alloc (.cells #[.int .i64 G.ino, .int .i64 G.off, .int .i64 G.fl] 27)
      have HB2 := Lib.hid ((HB1.out.trans (hb2.mono HB1.out.size)).alloc (by have := hb2.size; have := HB1.out.size; omega) (.cells #[.int .i64 G.ino, .int .i64 G.off, .int .i64 G.fl] 27))
      have y0 := hc2.cell 0
      have y1 := hc2.cell 1
      have y2 := hc2.cell 2
      simp only [List.getElem?_toArray, List.getElem?_cons_zero, List.getElem?_cons_succ] at y0 y1 y2
      clear hb2 hc2
      go_wp2_with fail
      refine (KO.out _).mono ?_
      rintro e w3 h3
      obtain ⟨rfl, hb3⟩ := h3.below
      have HB3 := Lib.hid (HB2.out.trans (hb3.mono HB2.out.size))
      clear h3 hb3
      go_wp2_with fail
      go_ret
      unfold SetD
      rw [E.out, E1.out]
      exact ⟨rfl, H.out.below' HB3.out, Sd.of HB3.out⟩
    | true =>
      rw [hp] at e1 KO
      have E1 := Lib.hid e1
      have E := Lib.hid (show setT T (i : Int) o = T.set i o by unfold setT; rw [e1, Int.toNat_natCast]; rfl)
      clear hn e1 hp hgt hxi
      have i2 : (i : Int) < 16 := by omega
      have i3 : (0 : Int) ≤ (i : Int) := by omega
      clear hl
      go_enter Try.func10, Try.ntmps10
      go_wp2_with fail
      refine K.out.mono ?_
      rintro e w2 ⟨rfl, hb2⟩
      have hc2 := (HB.out.below' hb2).alloc (.cells #[.int .i64 G.ino, .int .i64 G.off, .int .i64 G.fl] 27)
      have HB2 := Lib.hid ((HB1.out.trans (hb2.mono HB1.out.size)).alloc (by have := hb2.size; have := HB1.out.size; omega) (.cells #[.int .i64 G.ino, .int .i64 G.off, .int .i64 G.fl] 27))
      have HC2 := Lib.hid hc2
      have y0 := hc2.cell 0
      have y1 := hc2.cell 1
      have y2 := hc2.cell 2
      simp only [List.getElem?_toArray, List.getElem?_cons_zero, List.getElem?_cons_succ] at y0 y1 y2
      clear hb2 hc2
      go_wp2_with fail
      refine (KO.out _).mono ?_
      rintro e w3 h3
      obtain ⟨rfl, hb3⟩ := h3.below
      have HB3 := Lib.hid (HB2.out.trans (hb3.mono HB2.out.size))
      have hc3 := HC2.out.below' hb3
      clear y0 y1 y2
      have y0 : w3.cell? ⟨w.heap.size, 0, none⟩ = some (.int .i64 o.ino) := hc3.cell 0
      have y1 : w3.cell? ⟨w.heap.size, 1, none⟩ = some (.int .i64 o.off) := hc3.cell 1
      have y2 : w3.cell? ⟨w.heap.size, 2, none⟩ = some (.int .i64 o.fl) := hc3.cell 2
      have hh3 : Tb w3 g T := H.out.below' HB3.out
      obtain ⟨z0, z1, z2⟩ := hh3.at HF.out
      have f0 := Cells.free hh3 (i * 3); have f1 := Cells.free hh3 (i * 3 + 1); have f2 := Cells.free hh3 (i * 3 + 2)
      have HH3 := Lib.hid hh3
      clear h3 hb3 hc3 hh3
      go_wp2_with fail
      go_region
      all_goals
        go_wp2
        go_ret
        unfold SetD
        rw [E.out, E1.out]
        exact ⟨rfl, (show Tb w3.drew g T from HH3.out).set HLT.out o, Sd.set3 (Sd.of (below_drewN HB3.out 1)) _ _ _⟩
theorem sd_far {w0 w : World} {g q i j k : Nat} (h : Sd w0 w g) (hq : w0.heap.size ≤ q) (a b c : Value) : Sd w0 (((w.setCell ⟨q, i, none⟩ a).setCell ⟨q, j, none⟩ b).setCell ⟨q, k, none⟩ c) g :=
  ⟨h.os, h.tape, h.output, by simpa [World.setCell] using h.size, fun n hn hne => (set3_far w (by omega : n ≠ q) a b c).trans (h.block n hn hne)⟩
def CloseD (T : List Opn) (fd : Int) (w : World) (g : Nat) (e : Ending) (w' : World) : Prop := e = RetOB (getT T fd) (isT T fd) ∧ Tb w' g (closeT T fd) ∧ Sd w w' g
set_option maxHeartbeats 4000000 in
theorem tClose (h : Tb w g T) (hT : GoodT T) (fd : Int) : Calls Try.prog 9 #[fptr g, .int .i64 fd] w (CloseD T fd w g) := by
  have hb1 : Below w.heap.size w (w.alloc (.cells #[.int .i64 0, .int .i64 0, .int .i64 0] 27)) := below_of_grown (World.grownBy_alloc w _ none)
  have hB := Cells.new w 27 #[.int .i64 0, .int .i64 0, .int .i64 0]
  have hx : Tb _ g T := h.below' hb1
  have K := Lib.hid (tGet hx hT fd)
  have HX := Lib.hid hx; have HB := Lib.hid hB; have HB1 := Lib.hid hb1; have H := Lib.hid h; have HT := Lib.hid hT
  have HNE := Lib.hid (show g ≠ w.heap.size from Nat.ne_of_lt h.lt)
  unfold CloseD
  unfold RetOB fptr at *
  clear hx hB hb1 h hT
  generalize getT T fd = G at *
  unfold Opn.val at *
  cases hn : isT T fd with
  | false =>
    have E := Lib.hid (show closeT T fd = T by unfold closeT; rw [hn]; rfl)
    rw [hn] at K
    clear hn
    go_enter Try.func9, Try.ntmps9
    go_wp2_with fail
    refine K.out.mono ?_
    rintro e w2 ⟨rfl, hb2⟩
    go_upto_region 4 with fail
    have hr2 := (HB.out.below' hb2).alloc (.cells #[.int .i64 G.ino, .int .i64 G.off, .int .i64 G.fl] 27)
    have hW := Cells.new w2 27 #[.int .i64 G.ino, .int .i64 G.off, .int .i64 G.fl]
    have HB2 := HB1.out.trans (hb2.mono HB1.out.size)
    have HB3 := Lib.hid (HB2.alloc HB2.size (.cells #[.int .i64 G.ino, .int .i64 G.off, .int .i64 G.fl] 27))
    clear hb2 HB2
    generalize w2.alloc (.cells #[.int .i64 G.ino, .int .i64 G.off, .int .i64 G.fl] 27) = w3 at *
    generalize w2.heap.size = q at *
    have HR := Lib.hid hr2
    have f0 := hr2.free 0; have f1 := hr2.free 1; have f2 := hr2.free 2
    have y0 := hr2.cell 0
    have y1 := hr2.cell 1
    have y2 := hr2.cell 2
    have x0 := hW.cell 0
    have x1 := hW.cell 1
    have x2 := hW.cell 2
    simp only [List.getElem?_toArray, List.getElem?_cons_zero, List.getElem?_cons_succ] at y0 y1 y2 x0 x1 x2
    clear hW hr2
    go_wp2_with fail
    exact bodyPost_ret (results_open_tmp rfl _ _ w.heap.size #[.int .i64 G.ino, .int .i64 G.off, .int .i64 G.fl] rfl (set3_cells HR.out _ _ _) rfl) rfl ⟨rfl, by rw [E.out]; exact (set3_far _ HNE.out _ _ _).trans (H.out.below' HB3.out), Sd.of (set3_below HB3.out (Nat.le_refl _) _ _ _)⟩
  | true =>
    rw [hn] at K
    obtain ⟨i, rfl, hl⟩ := isT_in hn
    have E := Lib.hid (show closeT T (i : Int) = T.set i Opn.zero by unfold closeT; rw [hn, Int.toNat_natCast]; rfl)
    obtain ⟨x, hxi⟩ : ∃ x, T[i]? = some x := ⟨_, List.getElem?_eq_getElem (by rw [HT.out.1]; exact hl)⟩
    have HF := Lib.hid hxi
    have HLT := Lib.hid (show i < T.length by rw [HT.out.1]; exact hl)
    have i2 : (i : Int) < 16 := by omega
    have i3 : (0 : Int) ≤ (i : Int) := by omega
    clear hn hl hxi
    go_enter Try.func9, Try.ntmps9
    go_wp2_with fail
    refine K.out.mono ?_
    rintro e w2 ⟨rfl, hb2⟩
    have hr2 := HB.out.below' hb2
    have hs2 : w.heap.size < w2.heap.size := hr2.lt
    have HB2 := Lib.hid (HB1.out.trans (hb2.mono HB1.out.size))
    have HR := Lib.hid (hr2.alloc (.cells #[.int .i64 G.ino, .int .i64 G.off, .int .i64 G.fl] 27))
    have HW := Lib.hid (Cells.new w2 27 #[.int .i64 G.ino, .int .i64 G.off, .int .i64 G.fl])
    have HB3 := Lib.hid (HB2.out.alloc HB2.out.size (.cells #[.int .i64 G.ino, .int .i64 G.off, .int .i64 G.fl] 27))
    have hh3 : Tb _ g T := H.out.below' HB3.out
    obtain ⟨z0, z1, z2⟩ := hh3.at HF.out
    have f0 := Cells.free hh3 (i * 3); have f1 := Cells.free hh3 (i * 3 + 1); have f2 := Cells.free hh3 (i * 3 + 2)
    have HH3 := Lib.hid hh3
    have hT4 := HH3.out.set HLT.out Opn.zero
    unfold Opn.zero at hT4
    dsimp only at hT4
    have S4 := Lib.hid (Sd.set3 (g := g) (i := i * 3) (j := i * 3 + 1) (k := i * 3 + 2) (Sd.of HB3.out) (.int .i64 0) (.int .i64 0) (.int .i64 0))
    have hR4 := ((HR.out.far (p := ⟨g, i * 3, none⟩) (fun e => HNE.out e.symm) (.int .i64 0)).far (p := ⟨g, i * 3 + 1, none⟩) (fun e => HNE.out e.symm) (.int .i64 0)).far (p := ⟨g, i * 3 + 2, none⟩) (fun e => HNE.out e.symm) (.int .i64 0)
    have hgw : w2.heap.size ≠ g := by have := H.out.lt; omega
    have hW4 := ((HW.out.far (p := ⟨g, i * 3, none⟩) hgw (.int .i64 0)).far (p := ⟨g, i * 3 + 1, none⟩) hgw (.int .i64 0)).far (p := ⟨g, i * 3 + 2, none⟩) hgw (.int .i64 0)
    have HT4 := Lib.hid hT4; have HR4 := Lib.hid hR4
    have p0 := hR4.free 0; have p1 := hR4.free 1; have p2 := hR4.free 2
    have y0 := hR4.cell 0
    have y1 := hR4.cell 1
    have y2 := hR4.cell 2
    have x0 := hW4.cell 0
    have x1 := hW4.cell 1
    have x2 := hW4.cell 2
    simp only [List.getElem?_toArray, List.getElem?_cons_zero, List.getElem?_cons_succ] at y0 y1 y2 x0 x1 x2
    clear hb2 hr2 hh3 hT4 hR4 hW4
    go_wp2_with fail
    exact bodyPost_ret (results_open_tmp rfl _ _ w.heap.size #[.int .i64 G.ino, .int .i64 G.off, .int .i64 G.fl] rfl (set3_cells HR4.out _ _ _) rfl) rfl ⟨rfl, by rw [E.out]; exact (set3_far _ HNE.out _ _ _).trans HT4.out, sd_far S4.out (Nat.le_refl _) _ _ _⟩
end
end Go.Proofs.Ytcmgngjafnpnoaa
