import Derived.Test.YtcmgngjafnpnoaaFdTd
/-! The project's table: opened, set, closed, made. -/
namespace Go.Proofs.Ytcmgngjafnpnoaa
open Wd Go.RowKit Go.ChangeShapes Go.WideShapes Go.Sort
set_option linter.unusedVariables false
set_option maxRecDepth 100000
section
variable {w : World} {g : Nat} {T : List Opn}
theorem Tb.set {i : Nat} (h : Tb w g T) (hi : i < T.length) (o : Opn) : Tb (((w.setCell ⟨g, i * 3, none⟩ (.int .i64 o.ino)).setCell ⟨g, i * 3 + 1, none⟩ (.int .i64 o.off)).setCell ⟨g, i * 3 + 2, none⟩ (.int .i64 o.fl)) g (T.set i o) := by
  have := ((Cells.set h (i * 3) (.int .i64 o.ino)).set (i * 3 + 1) (.int .i64 o.off)).set (i * 3 + 2) (.int .i64 o.fl)
  unfold Tb
  rw [← ocells_set T i o hi]
  simpa using this
theorem Sd.set3 {w0 w : World} {g i j k : Nat} (h : Sd w0 w g) (a b c : Value) : Sd w0 (((w.setCell ⟨g, i, none⟩ a).setCell ⟨g, j, none⟩ b).setCell ⟨g, k, none⟩ c) g :=
  ((h.trans (Sd.setAt _ g i a)).trans (Sd.setAt _ g j b)).trans (Sd.setAt _ g k c)
theorem openB_no {T : List Opn} {o : Opn} (h : openB T o = false) : openT T o = T ∧ openV T o = 0 := by unfold openT openV; rw [h]; exact ⟨rfl, rfl⟩
theorem openB_yes {T : List Opn} {o : Opn} (h : openB T o = true) : openT T o = T.set (freeT T) o ∧ openV T o = freeT T := by unfold openT openV; rw [h]; exact ⟨rfl, rfl⟩
def OpenD (T : List Opn) (o : Opn) (w : World) (g : Nat) (e : Ending) (w' : World) : Prop := e = RetIB (openV T o) (openB T o) ∧ Tb w' g (openT T o) ∧ Sd w w' g
set_option maxHeartbeats 4000000 in
theorem tOpen (h : Tb w g T) (hT : GoodT T) (o : Opn) : Calls Try.prog 11 #[fptr g, o.val] w (OpenD T o w g) := by
  have hb1 : Below w.heap.size w (w.alloc (.cells #[.int .i64 o.ino, .int .i64 o.off, .int .i64 o.fl] 27)) := below_of_grown (World.grownBy_alloc w _ none)
  have hB := Cells.new w 27 #[.int .i64 o.ino, .int .i64 o.off, .int .i64 o.fl]
  have hx : Tb _ g T := h.below' hb1
  have K := Lib.hid (tNext hx hT)
  have KO := Lib.hid (fun w => fIsOpen o w)
  have HX := Lib.hid hx; have HB := Lib.hid hB; have HB1 := Lib.hid hb1; have H := Lib.hid h; have HT := Lib.hid hT
  unfold RetIB fptr Opn.val at *
  clear hx hB hb1 h hT
  cases hn : nextB T with
  | false =>
    have e1 : openB T o = false := by unfold openB; rw [hn]; rfl
    have E := Lib.hid (openB_no e1)
    have E1 := Lib.hid e1
    rw [hn] at K
    clear hn e1
    go_enter Try.func11, Try.ntmps11
    go_wp2_with fail
    refine K.out.mono ?_
    rintro e w2 ⟨rfl, hb2⟩
    have HB2 := Lib.hid (HB1.out.trans (hb2.mono HB1.out.size))
    clear hb2
    go_wp2_with fail
    go_ret2
    unfold OpenD RetIB
    rw [E.out.1, E.out.2, E1.out]
    exact ⟨rfl, H.out.below' HB2.out, Sd.of HB2.out⟩
  | true =>
    have hl : freeT T < 16 := by unfold nextB at hn; exact of_decide_eq_true hn
    have hv : nextV T = freeT T := by unfold nextV; rw [if_pos hl]
    have e1 : openB T o = decide (1 ≤ o.ino) := by unfold openB; rw [hn]; rfl
    rw [hn, hv] at K
    have HL := Lib.hid hl
    have HF := Lib.hid (free_at HT.out hl)
    have HLT := Lib.hid (show freeT T < T.length by rw [HT.out.1]; exact hl)
    cases hp : decide (1 ≤ o.ino) with
    | false =>
      rw [hp] at e1 KO
      have E := Lib.hid (openB_no e1)
      have E1 := Lib.hid e1
      clear hn e1 hp hl hv
      go_enter Try.func11, Try.ntmps11
      go_wp2_with fail
      refine K.out.mono ?_
      rintro e w2 ⟨rfl, hb2⟩
      have hc2 := HB.out.below' hb2
      have y0 : w2.cell? ⟨w.heap.size, 0, none⟩ = some (.int .i64 o.ino) := hc2.cell 0
      have y1 : w2.cell? ⟨w.heap.size, 1, none⟩ = some (.int .i64 o.off) := hc2.cell 1
      have y2 : w2.cell? ⟨w.heap.size, 2, none⟩ = some (.int .i64 o.fl) := hc2.cell 2
      have HB2 := Lib.hid (HB1.out.trans (hb2.mono HB1.out.size))
      clear hb2 hc2
      go_wp2_with fail
      refine (KO.out _).mono ?_
      rintro e w3 h3
      obtain ⟨rfl, hb3⟩ := h3.below
      have HB3 := Lib.hid (HB2.out.trans (hb3.mono HB2.out.size))
      clear h3 hb3
      go_wp2_with fail
      go_ret2
      unfold OpenD RetIB
      rw [E.out.1, E.out.2, E1.out]
      exact ⟨rfl, H.out.below' HB3.out, Sd.of HB3.out⟩
    | true =>
      rw [hp] at e1 KO
      have E := Lib.hid (openB_yes e1)
      have E1 := Lib.hid e1
      clear hn e1 hp hv
      generalize freeT T = i at *
      have i2 : (i : Int) < 16 := by omega
      have i3 : (0 : Int) ≤ (i : Int) := by omega
      clear hl
      go_enter Try.func11, Try.ntmps11
      go_wp2_with fail
      refine K.out.mono ?_
      rintro e w2 ⟨rfl, hb2⟩
      have hc2 := HB.out.below' hb2
      have HC2 := Lib.hid hc2
      have y0 : w2.cell? ⟨w.heap.size, 0, none⟩ = some (.int .i64 o.ino) := hc2.cell 0
      have y1 : w2.cell? ⟨w.heap.size, 1, none⟩ = some (.int .i64 o.off) := hc2.cell 1
      have y2 : w2.cell? ⟨w.heap.size, 2, none⟩ = some (.int .i64 o.fl) := hc2.cell 2
      have HB2 := Lib.hid (HB1.out.trans (hb2.mono HB1.out.size))
      clear hb2 hc2
      go_wp2_with fail
      refine (KO.out _).mono ?_
      rintro e w3 h3
      obtain ⟨rfl, hb3⟩ := h3.below
      have HB3 := Lib.hid (HB2.out.trans (hb3.mono HB2.out.size))
      have hc3 := HC2.out.below' hb3
      clear y0 y1 y2
      have y0 : w3.cell? ⟨w.heap.size, 0, none⟩ = some (.int .i64 o.ino) := hc3.cell 0
      have y1 : w3.cell? ⟨w.heap.size, 1, none⟩ = some (.int .i64 o.off) := hc3.cell 1
      have y2 : w3.cell? ⟨w.heap.size, 2, none⟩ = some (.int .i64 o.fl) := hc3.cell 2
      have hh3 : Tb w3 g T := H.out.below' HB3.out
      obtain ⟨z0, z1, z2⟩ := hh3.at HF.out
      have f0 := Cells.free hh3 (i * 3); have f1 := Cells.free hh3 (i * 3 + 1); have f2 := Cells.free hh3 (i * 3 + 2)
      have HH3 := Lib.hid hh3
      clear h3 hb3 hc3 hh3
      go_wp2_with fail
      go_region
      all_goals
        go_wp2
        go_ret2
        unfold OpenD RetIB
        rw [E.out.1, E.out.2, E1.out]
        exact ⟨rfl, (show Tb w3.drew g T from HH3.out).set HLT.out o, Sd.set3 (Sd.of (below_drewN HB3.out 1)) _ _ _⟩
end
end Go.Proofs.Ytcmgngjafnpnoaa
