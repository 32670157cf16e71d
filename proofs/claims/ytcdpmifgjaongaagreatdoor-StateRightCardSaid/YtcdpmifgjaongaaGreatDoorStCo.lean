import Derived.Test.YtcdpmifgjaongaaGreatDoorG34
/-! The project's Copy. -/
namespace Go.Proofs.YtcdpmifgjaongaaGreatDoor
open Wd Ino Sm U Go.Maps Go.RowKit Go.ChangeShapes Go.WideShapes Go.Shelf Go.Sort
set_option linter.unusedVariables false
set_option maxRecDepth 100000
theorem vclone {w : World} {b n : Nat} {F : VFn} (h : Mv Tryz.prog 3 w b n F) : Calls Tryz.prog 50 #[.map (some b)] w fun e w' => e = .returned (.map (some w.heap.size)) ∧ Mv Tryz.prog 3 w' w.heap.size n F ∧ w.heap.size < w'.heap.size ∧ Below w.heap.size w w' := by
  obtain ⟨D, h, v⟩ := h
  refine (AnyW.maps_Clone_owns Tryz.cloneA _ _ b n D w h).mono ?_
  rintro e w' ⟨rfl, h1, h2, hb⟩
  exact ⟨rfl, ⟨D, h1, v⟩, h1.lt, hb⟩
/-- two states that may have the same nodes -/
theorem PSt.apart {w w' : World} {base m g b m' g' b' : Nat} {S S' : Stt} (h : PSt w base m' g' b' S') (hp : PSt w base m g b S) (t : Trn w w' [g, b]) (h1 : g' ≠ g) (h2 : b' ≠ b) : PSt w' base m' g' b' S' := by
  have hk := hp.keepC t
  have hgb : g' ≠ b := fun e => by
    obtain ⟨G, hG, _⟩ := hp.mp
    exact hG.cells h.cells e.symm
  have hbg : b' ≠ g := by
    obtain ⟨G, hG, _⟩ := h.mp
    exact hG.cells hp.cells
  obtain ⟨G, hG, hl, ho⟩ := h.mp
  refine ⟨h.lo, h.lob, ?_, G, hG.same (t.block b' hG.lt (by simp [h2, hbg])), hl, fun i n hn => (ho i n hn).keep hk (by decide) (by decide)⟩
  exact (t.block g' h.cells.lt (by simp [h1, hgb])).trans h.cells
def CopyGo (S : Stt) (base m : Nat) (w : World) (e : Ending) (w' : World) : Prop := ∃ g' b', e = .returned (SPtr g') ∧ PSt w' base m g' b' S ∧ w.heap.size ≤ g' ∧ w.heap.size ≤ b' ∧ Below w.heap.size w w'
section
variable {w : World} {base m g b : Nat} {S : Stt}
set_option maxHeartbeats 4000000 in
theorem pCopy (h : PSt w base m g b S) : Calls Tryz.prog 20 #[SPtr g] w (CopyGo S base m w) := by
  have hfol : Tryz.prog.follows .mixedOrders = true := by kernel_rfl
  have KM := Lib.hid (pMade h)
  have H := Lib.hid h
  clear h
  unfold SPtr at *
  go_enter Tryz.func20, Tryz.ntmps20
  go_wp2_with fail
  refine (KM.out).mono ?_
  rintro e w1 ⟨rfl, hw1⟩
  have b1 := grown_b hw1
  have h1 := H.out.below b1
  have B1 := Lib.hid b1
  have H1 := Lib.hid h1
  obtain ⟨G, hG, hl, ho⟩ := h1.mp
  have b0 : Below w1.heap.size w1 w1.drew := below_drewN (Below.refl _ _) 1
  have KC := Lib.hid (vclone (hG.same (w' := w1.drew) rfl))
  have HL := Lib.hid hl; have HO := Lib.hid ho
  have c0 := h1.c0
  have c1 := h1.cells.cell 1
  simp only [List.getElem?_toArray, List.getElem?_cons_zero, List.getElem?_cons_succ] at c1
  clear hw1 b1 h1 KM hG hl ho
  go_upto_region 3 with fail
  go_region_with (first
    | (go_at_call 50; (with_reducible refine (KC.out).mono ?_); rintro e' w2 ⟨rfl, hm2, hlt2, hb2⟩
       have b12 : Below w1.heap.size w1 w2 := b0.trans (hb2.mono b0.size)
       have d0 := (H1.out.below b12).c0
       have d1 := (H1.out.below b12).cells.cell 1
       simp only [List.getElem?_toArray, List.getElem?_cons_zero, List.getElem?_cons_succ] at d1))
  all_goals
    have HM2 := Lib.hid hm2; have B12 := Lib.hid b12
    go_wp2
    go_ret
    have hb3 : Below w2.heap.size w2 (w2.alloc (.cells #[.map (some w1.drew.heap.size), .int .i64 S.last] 77)) := below_of_grown (World.grownBy_alloc w2 _ none)
    have hbs : base ≤ w1.heap.size := Nat.le_trans H1.out.lo (Nat.le_of_lt H1.out.cells.lt)
    have hbw : w.heap.size ≤ w1.heap.size := B1.out.size
    have hb12 := B12.out.size
    have HB2 := B12.out
    refine ⟨w2.heap.size, w1.drew.heap.size, rfl, ⟨by omega, hbs, Cells.new _ _ _, G, HM2.out.same (hb3.block _ HM2.out.lt), HL.out, fun i n hn => ((HO.out i n hn).below HB2).below hb3⟩, by omega, hbw, (B1.out.trans (HB2.mono hbw)).trans (hb3.mono (by omega))⟩
end
end Go.Proofs.YtcdpmifgjaongaaGreatDoor
