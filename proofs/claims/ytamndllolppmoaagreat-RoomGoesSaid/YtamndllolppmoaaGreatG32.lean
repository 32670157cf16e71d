import Derived.Test.YtamndllolppmoaaGreatG31
import Derived.Test.YtamndllolppmoaaGreatG28
import Derived.Test.YtamndllolppmoaaGreatG27
import Derived.ProofKit
import Derived.OpenShut
import Derived.Carry
import Derived.SizedLaws
import Derived.Deep.Slices
import Derived.Deep.Grids
import Derived.Lib.SmallJoins
import Derived.Laws.Cover2
import Derived.Test.YtamndllolppmoaaGreatG00

/-! The law RoomGoes. -/
namespace Go.Proofs.YtamndllolppmoaaGreat
open Wd Ino Sm U Go.RowKit Go.ChangeShapes Go.WideShapes Go.Sort
set_option linter.unusedVariables false
set_option maxRecDepth 100000
theorem one_ddr {d : Dd} (w : World) {B : Nat} (h : d.Ok (w.alloc (.cells d.vals.toArray 52)) B) (hB : B ≤ w.heap.size + 1) : Dds (w.alloc (.cells d.vals.toArray 52)) (w.alloc (.cells d.vals.toArray 52)).heap.size (some ⟨w.heap.size, 0, none⟩) [d] := ⟨fun _ => ⟨w.heap.size, 0, rfl, by simp, fun j d' hd k x hx => by
  have hj : j = 0 := by have := (List.getElem?_eq_some_iff.1 hd).1; rw [List.length_singleton] at this; omega
  subst hj
  rw [List.getElem?_cons_zero] at hd
  injection hd with hd
  subst hd
  have := (Cells.new w 52 d.vals.toArray).cell k
  rw [show (0 : Nat) + (0 * 10 + k) = k by omega, this, List.getElem?_toArray, hx]⟩, fun d' hd => by rw [List.mem_singleton.1 hd]; exact h.more (by simpa using hB)⟩
theorem geom_bounds {p : Int} (h1 : 64 ≤ p) (h2 : p ≤ 1048576) : (0 ≤ imageG p ∧ imageG p ≤ 1000000000) ∧ (0 ≤ dataG p ∧ dataG p ≤ 1000000000) := by unfold imageG dataG; omega
set_option maxHeartbeats 16000000 in
theorem goes_law {w : World} {A : Option Addr} {c : Nat} {l : List Dd} (h : Dds w w.heap.size A l) (hsz : l.length * 112 ≤ 140737488351232) (d : Dd) (hd : d.Ok w w.heap.size) (p : Int) : Calls Tryz.prog 4 #[.int .i64 p, .slice A l.length c, d.val] w (TrueB w) := by
  have hfol : Tryz.prog.follows .mixedOrders = true := by kernel_rfl
  have hb0 : Below w.heap.size w (w.alloc (.cells d.vals.toArray 52)) := below_of_grown (World.grownBy_alloc w _ none)
  have hc0 : Cells (w.alloc (.cells d.vals.toArray 52)) w.heap.size 52 d.vals.toArray := Cells.new _ _ _
  have KA := Lib.hid (rmAwake_true (w.alloc (.cells d.vals.toArray 52)))
  have HD := Lib.hid h; have HSZ := Lib.hid hsz; have HDD := Lib.hid hd; have B0 := Lib.hid hb0; have C0 := Lib.hid hc0
  have KF2 := Lib.hid (fun wx (hb : Below w.heap.size w wx) => few_law (c := 1) (l := [d]) (one_ddr (d := d) wx (B := w.heap.size) (hd.below (hb.trans ((below_of_grown (World.grownBy_alloc wx _ none)).mono hb.size))) (by have := hb.size; omega)) (by show 1 * 112 ≤ 140737488351232; omega))
  have HDF := Lib.hid (show fewD [d] = true → d.e.few from fun hf => (fewD_iff.1 hf).1 d (List.mem_singleton.2 rfl))
  obtain ⟨⟨kind, ino, dir, dst, page, size, name, other, Ae, cp, data⟩, ref⟩ := d
  obtain ⟨F1, hF1⟩ : ∃ F, fewD l = F := ⟨_, rfl⟩
  obtain ⟨F2, hF2⟩ : ∃ F, fewD [(⟨⟨kind, ino, dir, dst, page, size, name, other, Ae, cp, data⟩, ref⟩ : Dd)] = F := ⟨_, rfl⟩
  have HF1 := Lib.hid hF1; have HF2 := Lib.hid hF2
  unfold Dd.val
  unfold Dd.vals Eff.vals at *
  dsimp only [List.append_eq, List.cons_append, List.nil_append] at *
  clear h hsz hd hb0 hc0 hF1 hF2
  go_enter Tryz.func4, Tryz.ntmps4
  go_wp2_with fail
  refine (KA.out).mono ?_
  rintro e w1 ⟨rfl, hb1⟩
  have B1 := Lib.hid (B0.out.trans (hb1.mono B0.out.size))
  have C1 := Lib.hid (C0.out.below' hb1)
  have KF := Lib.hid (few_law (c := c) ((HD.out.below B1.out).more B1.out.size) HSZ.out)
  clear hb1 KA
  go_wp2_with fail
  refine (KF.out).mono ?_
  rintro e w2 ⟨rfl, hb2⟩
  have B2 := Lib.hid (B1.out.trans (hb2.mono B1.out.size))
  have C2 := Lib.hid (C1.out.below' hb2)
  clear hb2 KF
  rw [HF1.out]
  cases F1 with
  | false =>
    go_wp2
    go_ret
    exact ⟨rfl, B2.out⟩
  | true =>
  have z0 := C2.out.cell 0; have z1 := C2.out.cell 1; have z2 := C2.out.cell 2; have z3 := C2.out.cell 3; have z4 := C2.out.cell 4; have z5 := C2.out.cell 5; have z6 := C2.out.cell 6; have z7 := C2.out.cell 7; have z8 := C2.out.cell 8; have z9 := C2.out.cell 9
  simp only [List.getElem?_toArray, List.getElem?_cons_succ, List.getElem?_cons_zero] at z0 z1 z2 z3 z4 z5 z6 z7 z8 z9
  have KF := Lib.hid (KF2.out w2 B2.out)
  have b3 := below_of_grown (World.grownBy_alloc w2 (.cells #[.int .i64 kind, .int .i64 ino, .int .i64 dir, .int .i64 dst, .int .i64 page, .int .i64 size, .string name, .string other, .slice Ae data.length cp, .int .i64 ref] 52) none)
  have B23 := Lib.hid b3
  have B3 := Lib.hid (B2.out.trans (b3.mono B2.out.size))
  clear b3 KF2
  go_wp2_with fail
  refine (KF.out).mono ?_
  rintro e w4 ⟨rfl, hb4⟩
  have B4 := Lib.hid (B3.out.trans (hb4.mono B3.out.size))
  have C4 := Lib.hid ((C2.out.below' B23.out).below' hb4)
  clear hb4 KF z0 z1 z2 z3 z4 z5 z6 z7 z8 z9
  rw [HF2.out]
  have KGN := Lib.hid (fun hn => refGeom_no p hn w4)
  have KGY := Lib.hid (fun h1 h2 => refGeom_yes p h1 h2 w4)
  cases F2 with
  | false =>
    go_wp2
    go_ret
    exact ⟨rfl, B4.out⟩
  | true =>
  have hfl := fewD_iff.1 HF1.out
  have HL := Lib.hid hfl.2; have HFD := Lib.hid (HDF.out HF2.out)
  have KD := Lib.hid (fun wx (hb : Below w.heap.size w wx) => done_law (c := c) ((HD.out.below hb).more hb.size) HF1.out)
  clear hfl
  by_cases hp : 64 ≤ p ∧ p ≤ 1048576
  case neg =>
    have hn : p < 64 ∨ 1048576 < p := by omega
    have KG := Lib.hid (KGN.out hn)
    unfold noneV at KG
    clear hp hn KGN KGY
    go_wp2_with fail
    refine (KG.out).mono ?_
    rintro e w5 ⟨rfl, hw5⟩
    have B5 := Lib.hid (B4.out.trans ((grown_b hw5).mono B4.out.size))
    have hb6 := below_of_grown (World.grownBy_alloc w5 (.cells #[.int .i64 0, .int .i64 0, .int .i64 0, .int .i64 0, .int .i64 0] 28) none)
    have B6 := Lib.hid (B5.out.trans (hb6.mono B5.out.size))
    have KD6 := Lib.hid (KD.out _ B6.out)
    clear hw5 hb6 KG KD
    go_wp2_with fail
    refine (KD6.out).mono ?_
    rintro e w7 ⟨g, b, gx, rfl, two, hb7⟩
    have B7 := Lib.hid (B6.out.trans (hb7.mono B6.out.size))
    clear two hb7 KD6
    unfold SPtr
    go_wp2
    go_ret
    exact ⟨rfl, B7.out⟩
  case pos =>
    have KG := Lib.hid (KGY.out hp.1 hp.2)
    obtain ⟨hIb, hDb⟩ := geom_bounds hp.1 hp.2
    obtain ⟨I, hI⟩ : ∃ I, imageG p = I := ⟨_, rfl⟩
    obtain ⟨D, hD⟩ : ∃ D, dataG p = D := ⟨_, rfl⟩
    obtain ⟨Bk, hBk⟩ : ∃ D, bankG p = D := ⟨_, rfl⟩
    obtain ⟨Lg, hLg⟩ : ∃ D, logG p = D := ⟨_, rfl⟩
    unfold geomV at KG
    rw [hI, hD, hBk, hLg] at KG
    rw [hI] at hIb
    rw [hD] at hDb
    have HIB := Lib.hid hIb; have HDB := Lib.hid hDb
    clear hp hI hD hBk hLg hIb hDb KGN KGY
    go_wp2_with fail
    refine (KG.out).mono ?_
    rintro e w5 ⟨rfl, hw5⟩
    have hb5 := grown_b hw5
    have B5 := Lib.hid (B4.out.trans (hb5.mono B4.out.size)); have C5 := Lib.hid (C4.out.below' hb5)
    have hb6 := below_of_grown (World.grownBy_alloc w5 (.cells #[.int .i64 p, .int .i64 Bk, .int .i64 I, .int .i64 Lg, .int .i64 D] 28) none)
    have B6 := Lib.hid (B5.out.trans (hb6.mono B5.out.size)); have C6 := Lib.hid (C5.out.below' hb6)
    have G6 := Lib.hid (Cells.new w5 28 #[.int .i64 p, .int .i64 Bk, .int .i64 I, .int .i64 Lg, .int .i64 D])
    have KD6 := Lib.hid (KD.out _ B6.out)
    clear hw5 hb5 hb6 KG KD
    go_wp2_with fail
    refine (KD6.out).mono ?_
    rintro e w7 ⟨g, b, gx, rfl, two, hb7⟩
    have B7 := Lib.hid (B6.out.trans (hb7.mono B6.out.size)); have C7 := Lib.hid (C6.out.below' hb7); have G7 := Lib.hid (G6.out.below' hb7)
    obtain ⟨m, hm⟩ : ∃ m, 1 + 8 * l.length = m := ⟨_, rfl⟩
    have HM := Lib.hid (show m ≤ 1000 by have := HL.out; omega)
    rw [hm] at two
    have hiv := Inv.runD l
    have hnm := Num.runD l (fun x hx => (HD.out.ok x hx).ref)
    obtain ⟨S, hS⟩ : ∃ S, runD l = S := ⟨_, rfl⟩
    rw [hS] at two hiv hnm
    obtain ⟨NN, hNN⟩ : ∃ N, l.length = N := ⟨_, rfl⟩
    have hNL : NN ≤ 30 := by have := HL.out; omega
    rw [hNN] at hnm
    have P7 := Lib.hid (PF.of two.p hiv hnm (by omega) (by have := HM.out; omega))
    have IV := Lib.hid hiv; have NM := Lib.hid hnm; have HNL := Lib.hid hNL
    have HBS := Lib.hid (And.intro (Nat.le_trans B6.out.size two.p.lo) (Nat.le_trans B6.out.size two.p.lob))
    have KFT := Lib.hid (pFits P7.out p Bk I Lg D HIB.out HDB.out)
    unfold SPtr at KFT ⊢
    clear two hb7 KD6 hiv hnm hS hNN hNL hm
    have y0 := G7.out.cell 0; have y1 := G7.out.cell 1; have y2 := G7.out.cell 2; have y3 := G7.out.cell 3; have y4 := G7.out.cell 4
    simp only [List.getElem?_toArray, List.getElem?_cons_succ, List.getElem?_cons_zero] at y0 y1 y2 y3 y4
    go_wp2_with fail
    refine (KFT.out).mono ?_
    rintro e w8 ⟨rfl, hb8⟩
    have B8 := Lib.hid (B7.out.trans (hb8.mono B7.out.size)); have C8 := Lib.hid (C7.out.below' hb8); have G8 := Lib.hid (G7.out.below' hb8); have P8 := Lib.hid (P7.out.below hb8)
    clear hb8 KFT y0 y1 y2 y3 y4
    obtain ⟨FB, hFB⟩ : ∃ F, fitsB I D S.l = F := ⟨_, rfl⟩
    have HFB := Lib.hid hFB
    rw [hFB]
    clear hFB
    cases FB with
    | false =>
      go_wp2
      go_ret
      exact ⟨rfl, B8.out⟩
    | true =>
    have KGet := Lib.hid (pGet P8.out.p P8.out.sm ino HDD.out.e.ino)
    unfold SPtr at KGet
    have z0 := C8.out.cell 0; have z1 := C8.out.cell 1; have z2 := C8.out.cell 2; have z3 := C8.out.cell 3; have z4 := C8.out.cell 4; have z5 := C8.out.cell 5; have z6 := C8.out.cell 6; have z7 := C8.out.cell 7; have z8 := C8.out.cell 8; have z9 := C8.out.cell 9
    simp only [List.getElem?_toArray, List.getElem?_cons_succ, List.getElem?_cons_zero] at z0 z1 z2 z3 z4 z5 z6 z7 z8 z9
    go_wp2_with fail
    refine (KGet.out).mono ?_
    rintro e w9 ⟨n, rfl, hnp, hno, hb9⟩
    obtain ⟨j, ki, lk, t, u, A0, ac, Pg, B0', bc, N⟩ := n
    have HTS := Lib.hid (show (getS S.l ino).size = t by rw [← hnp]; rfl)
    unfold Nd.val
    dsimp only
    have hb10 := below_of_grown (World.grownBy_alloc w9 (.cells #[.int .i64 j, .int .i64 ki, .int .i64 lk, .int .i64 t, .int .i64 u, .slice A0 Pg.length ac, .slice B0' N.length bc] 55) none)
    have hcn := Cells.new w9 55 #[.int .i64 j, .int .i64 ki, .int .i64 lk, .int .i64 t, .int .i64 u, .slice A0 Pg.length ac, .slice B0' N.length bc]
    obtain ⟨w10, hw10⟩ : ∃ w10, w9.alloc (.cells #[.int .i64 j, .int .i64 ki, .int .i64 lk, .int .i64 t, .int .i64 u, .slice A0 Pg.length ac, .slice B0' N.length bc] 55) = w10 := ⟨_, rfl⟩
    rw [hw10] at hb10 hcn
    have HW10 := Lib.hid hw10; have CN10 := Lib.hid hcn
    have hb810 := hb9.trans (hb10.mono hb9.size)
    have B10 := Lib.hid (B8.out.trans (hb810.mono B8.out.size)); have C10 := Lib.hid (C8.out.below' hb810); have G10 := Lib.hid (G8.out.below' hb810); have P10 := Lib.hid (P8.out.below hb810)
    clear hnp hno hb9 hb10 hcn hw10 hb810 KGet z0 z1 z2 z3 z4 z5 z6 z7 z8 z9
    go_upto_region 10 with fail
    rw [HW10.out]
    have z0 := C10.out.cell 0; have z1 := C10.out.cell 1; have z2 := C10.out.cell 2; have z3 := C10.out.cell 3; have z4 := C10.out.cell 4; have z5 := C10.out.cell 5; have z6 := C10.out.cell 6; have z7 := C10.out.cell 7; have z8 := C10.out.cell 8; have z9 := C10.out.cell 9
    simp only [List.getElem?_toArray, List.getElem?_cons_succ, List.getElem?_cons_zero] at z0 z1 z2 z3 z4 z5 z6 z7 z8 z9
    have n3 := CN10.out.cell 3
    simp only [List.getElem?_toArray, List.getElem?_cons_succ, List.getElem?_cons_zero] at n3
    go_cut [13] from 51 to 86 (fun v wx => v = .bool (goesB S ⟨kind, ino, dir, dst, page, size, name, other, Ae, cp, data⟩) ∧ wx = w10)
    case first =>
      by_cases k3 : kind = 3
      · have q3 : (kind == 3) = true := by simp [k3]
        have HG := Lib.hid (show goesB S ⟨kind, ino, dir, dst, page, size, name, other, Ae, cp, data⟩ = true by unfold goesB; simp [k3])
        clear k3
        go_wp2
        go_meet
        exact ⟨by rw [HG.out], rfl⟩
      · have q3 : (kind == 3) = false := by simp [k3]
        by_cases k4 : kind = 4
        · have q4 : (kind == 4) = true := by simp [k4]
          have HG := Lib.hid (show goesB S ⟨kind, ino, dir, dst, page, size, name, other, Ae, cp, data⟩ = true by unfold goesB; simp [k4])
          clear k3 k4
          go_wp2
          go_meet
          exact ⟨by rw [HG.out], rfl⟩
        · have q4 : (kind == 4) = false := by simp [k4]
          by_cases k8 : kind = 8
          · have q8 : (kind == 8) = true := by simp [k8]
            have HG := Lib.hid (show goesB S ⟨kind, ino, dir, dst, page, size, name, other, Ae, cp, data⟩ = true by unfold goesB; simp [k8])
            clear k3 k4 k8
            go_wp2
            go_meet
            exact ⟨by rw [HG.out], rfl⟩
          · have q8 : (kind == 8) = false := by simp [k8]
            by_cases k6 : kind = 6
            · have q6 : (kind == 6) = true := by simp [k6]
              have HG := Lib.hid (show goesB S ⟨kind, ino, dir, dst, page, size, name, other, Ae, cp, data⟩ = decide (size ≤ t) by unfold goesB; dsimp only; rw [HTS.out]; simp [k6])
              clear k3 k4 k8 k6
              go_wp2
              go_meet
              exact ⟨by rw [HG.out], rfl⟩
            · have q6 : (kind == 6) = false := by simp [k6]
              have HG := Lib.hid (show goesB S ⟨kind, ino, dir, dst, page, size, name, other, Ae, cp, data⟩ = false by unfold goesB; simp [k3, k4, k8, k6])
              clear k3 k4 k8 k6
              go_wp2
              go_meet
              exact ⟨by rw [HG.out], rfl⟩
    case rest =>
      obtain ⟨rfl, rfl⟩ := hcut
      clear n3 z0 z1 z2 z3 z4 z5 z6 z7 z8 z9
      have KL := Lib.hid (pLeft P10.out p Bk I Lg D HIB.out HDB.out)
      unfold SPtr LeftGo at KL
      have y0 := G10.out.cell 0; have y1 := G10.out.cell 1; have y2 := G10.out.cell 2; have y3 := G10.out.cell 3; have y4 := G10.out.cell 4
      simp only [List.getElem?_toArray, List.getElem?_cons_succ, List.getElem?_cons_zero] at y0 y1 y2 y3 y4
      go_wp2_with fail
      refine (KL.out).mono ?_
      rintro e w11 ⟨rfl, hb11⟩
      have B11 := Lib.hid (B10.out.trans (hb11.mono B10.out.size)); have C11 := Lib.hid (C10.out.below' hb11); have G11 := Lib.hid (G10.out.below' hb11); have P11 := Lib.hid (P10.out.below hb11)
      clear hb11 KL y0 y1 y2 y3 y4
      obtain ⟨E, hE⟩ : ∃ E, errS S ⟨kind, ino, dir, dst, page, size, name, other, Ae, cp, data⟩ 0 = E := ⟨_, rfl⟩
      have HEE := Lib.hid hE
      have KA := Lib.hid (pApply P11.out.p (IV.out.fit NM.out (by have := HNL.out; omega)) P11.out.m ⟨kind, ino, dir, dst, page, size, name, other, Ae, cp, data⟩ ((HDD.out.e.below B11.out).more B11.out.size) HFD.out 0)
      unfold AGo at KA
      rw [hE] at KA
      unfold Eff.val SPtr at KA
      dsimp only at KA
      clear hE
      have z0 := C11.out.cell 0; have z1 := C11.out.cell 1; have z2 := C11.out.cell 2; have z3 := C11.out.cell 3; have z4 := C11.out.cell 4; have z5 := C11.out.cell 5; have z6 := C11.out.cell 6; have z7 := C11.out.cell 7; have z8 := C11.out.cell 8; have z9 := C11.out.cell 9
      simp only [List.getElem?_toArray, List.getElem?_cons_succ, List.getElem?_cons_zero] at z0 z1 z2 z3 z4 z5 z6 z7 z8 z9
      go_wp2_with fail
      refine (KA.out).mono ?_
      rintro e w12 ⟨A12, c12, l12, rfl, P12, t12⟩
      have B12 := Lib.hid (B11.out.trans (t12.below (B := w.heap.size) B11.out.size (fun x hx => by
        rcases List.mem_cons.1 hx with rfl | hx
        · exact HBS.out.1
        · rw [List.mem_singleton.1 hx]; exact HBS.out.2)))
      have G12 := Lib.hid (P11.out.p.keepC t12 _ _ _ (by decide) G11.out)
      have P12H := Lib.hid P12
      clear P12 t12 KA z0 z1 z2 z3 z4 z5 z6 z7 z8 z9
      obtain ⟨GB, hGB⟩ : ∃ G, goesB S ⟨kind, ino, dir, dst, page, size, name, other, Ae, cp, data⟩ = G := ⟨_, rfl⟩
      have HGB := Lib.hid hGB
      rw [hGB]
      clear hGB
      cases GB with
      | false =>
        go_wp2
        go_ret
        exact ⟨rfl, B12.out⟩
      | true =>
      by_cases hE0 : E = 0
      case neg =>
        have q0 : (E != 0) = true := by simp [hE0]
        clear hE0
        go_wp2
        go_ret
        exact ⟨rfl, B12.out⟩
      case pos =>
        have q0 : (E != 0) = false := by simp [hE0]
        have hle := (IV.out.less HGB.out (by rw [HEE.out]; exact hE0)).fits HFB.out
        have P13 := Lib.hid (PF.of P12H.out (IV.out.next _ 0) (NM.out.next _ i64R_0) (by have := HNL.out; omega) (by have := HM.out; omega))
        obtain ⟨S1, hS1⟩ : ∃ S1, nextS S ⟨kind, ino, dir, dst, page, size, name, other, Ae, cp, data⟩ 0 = S1 := ⟨_, rfl⟩
        rw [hS1] at hle P13
        obtain ⟨X, hX⟩ : ∃ X : Int, I - 1 - ((wordsS S.l : Nat) : Int) = X := ⟨_, rfl⟩
        obtain ⟨Y, hY⟩ : ∃ X : Int, D - 1 - (((refsS S.l).length : Nat) : Int) = X := ⟨_, rfl⟩
        obtain ⟨X1, hX1⟩ : ∃ X : Int, I - 1 - ((wordsS S1.l : Nat) : Int) = X := ⟨_, rfl⟩
        obtain ⟨Y1, hY1⟩ : ∃ X : Int, D - 1 - (((refsS S1.l).length : Nat) : Int) = X := ⟨_, rfl⟩
        rw [hX, hX1, hY, hY1] at hle
        have KL := Lib.hid (pLeft P13.out p Bk I Lg D HIB.out HDB.out)
        have KFT := Lib.hid (fun wx (hb : Below w12.heap.size w12 wx) => pFits (P13.out.below hb) p Bk I Lg D HIB.out HDB.out)
        unfold LeftGo at KL
        rw [hX1, hY1] at KL
        rw [hle.1] at KFT
        unfold SPtr at KL KFT
        have qx : decide (X1 ≥ X) = true := decide_eq_true hle.2.1
        have qx' : decide (X ≤ X1) = true := decide_eq_true hle.2.1
        have qy : decide (Y1 ≥ Y) = true := decide_eq_true hle.2.2
        have qy' : decide (Y ≤ Y1) = true := decide_eq_true hle.2.2
        rw [hX, hY]
        clear hE0 hle hS1 hX hY hX1 hY1
        have y0 := G12.out.cell 0; have y1 := G12.out.cell 1; have y2 := G12.out.cell 2; have y3 := G12.out.cell 3; have y4 := G12.out.cell 4
        simp only [List.getElem?_toArray, List.getElem?_cons_succ, List.getElem?_cons_zero] at y0 y1 y2 y3 y4
        go_wp2_with fail
        refine (KL.out).mono ?_
        rintro e w13 ⟨rfl, hb13⟩
        have B13 := Lib.hid (B12.out.trans (hb13.mono B12.out.size)); have G13 := Lib.hid (G12.out.below' hb13)
        have KF9 := Lib.hid (KFT.out _ hb13)
        clear hb13 KL KFT y0 y1 y2 y3 y4
        have y0 := G13.out.cell 0; have y1 := G13.out.cell 1; have y2 := G13.out.cell 2; have y3 := G13.out.cell 3; have y4 := G13.out.cell 4
        simp only [List.getElem?_toArray, List.getElem?_cons_succ, List.getElem?_cons_zero] at y0 y1 y2 y3 y4
        go_wp2_with fail
        refine (KF9.out).mono ?_
        rintro e w14 ⟨rfl, hb14⟩
        have B14 := Lib.hid (B13.out.trans (hb14.mono B13.out.size))
        clear hb14 KF9 y0 y1 y2 y3 y4
        go_wp2
        go_ret
        exact ⟨rfl, B14.out⟩
end Go.Proofs.YtamndllolppmoaaGreat

namespace Wd
open Go Go.RowKit Go.ChangeShapes Go.WideShapes Go.ChangeAt

section
variable {H : Type} {enc : TypeId × Value → H} {P : Program}
variable {w : World} {base : Nat} {spare : Nat → Bool} {held : Bool}

/-- a slice of one-cell elements, opened as a row, with its room -/
theorem open_rowc {α : Type} [Inhabited α] {f : α → Value} {ok : α → Prop} {r : Reach} {b0 : Nat} {t e : TypeId} {v : Value} {d : DataW H} {p : List MemPlace} (ht : P.underlying t = some (.slice e)) (hc : P.cellsOf e = 1)
    (hel : ∀ n v x, DataW.trod enc P w base spare held n e [v] = some x → ∃ y, v = f y ∧ ok y)
    (hv : Value.okWide P w r b0 t v) (h : DataW.Trod enc P w base spare held t v d p) :
    ∃ (A : Option Addr) (c : Nat) (l : List α), v = .slice A l.length c ∧ Row w w.heap.size A l.length (l.map f) ∧ (∀ y ∈ l, ok y) ∧ l.length ≤ maxLen ∧ l.length ≤ c ∧ c ≤ maxLen := by
  obtain ⟨a0, len, cap, rfl⟩ := okWide_slice ht hv
  obtain ⟨fuel, hf⟩ := h
  rcases Go.Deep.open_slice1 ht hc hf with ⟨hcs, _⟩ | ⟨a, len', cap', m, n, V, D, Pl, hcs, _, hl, hmc, hmm, _, hx⟩
  · simp [Value.cells] at hcs
    obtain ⟨rfl, rfl, rfl⟩ := hcs
    exact ⟨none, 0, [], rfl, Row.nil, (by simp), by simp, by simp, by simp⟩
  · simp [Value.cells] at hcs
    obtain ⟨rfl, rfl, rfl⟩ := hcs
    have hle : len ≤ m := by rw [hmm]; split <;> omega
    have each : ∀ i, i < len → ∃ y, V i = f y ∧ ok y := fun i hi => hel _ _ _ (hx i (by omega)).2
    obtain ⟨Y, hY⟩ := Go.Deep.choose_lt (n := len) (p := fun i y => V i = f y ∧ ok y) each
    refine ⟨some a, cap, (List.range len).map Y, by simp, ⟨by simp, fun hn => ?_⟩, ?_, by simp; omega, by simp; omega, hmc⟩
    · simp only [List.length_map, List.length_range] at hn
      obtain ⟨b, off, spot⟩ := a
      have hc0 := (hx 0 (by omega)).1
      have hs : spot = none := by simpa [Addr.add] using World.cell?_spot hc0
      subst hs
      refine ⟨b, off, rfl, ?_, fun j hj => ?_⟩
      · simpa [Addr.add] using World.block_lt_of_cell? _ _ hc0
      · simp at hj
        have := (hx j (by omega)).1
        rw [(hY j hj).1] at this
        have e : (⟨b, off, none⟩ : Addr).add j = ⟨b, off + j, none⟩ := by unfold Addr.add; split <;> simp_all
        rw [e] at this
        simpa using this
    · intro y hy
      obtain ⟨i, hi, rfl⟩ := List.mem_map.1 hy
      exact (hY i (List.mem_range.1 hi)).2
end
end Wd
