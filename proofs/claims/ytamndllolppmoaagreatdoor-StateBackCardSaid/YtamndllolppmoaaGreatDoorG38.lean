import Derived.Test.YtamndllolppmoaaGreatDoorG33
import Derived.Test.YtamndllolppmoaaGreatDoorG36
import Derived.Test.YtamndllolppmoaaGreatDoorG37

/-! The law StateBack. -/
namespace Go.Proofs.YtamndllolppmoaaGreatDoor
open Wd Ino Sm U Go.RowKit Go.ChangeShapes Go.WideShapes Go.Shelf Go.Sort
set_option linter.unusedVariables false
set_option maxRecDepth 100000
theorem two_dds {d1 d2 : Dd} (w : World) {B : Nat} (h1 : d1.Ok (w.alloc (.cells (d1.vals ++ d2.vals).toArray 52)) B) (h2 : d2.Ok (w.alloc (.cells (d1.vals ++ d2.vals).toArray 52)) B) (hB : B ≤ w.heap.size + 1) :
    Dds (w.alloc (.cells (d1.vals ++ d2.vals).toArray 52)) (w.alloc (.cells (d1.vals ++ d2.vals).toArray 52)).heap.size (some ⟨w.heap.size, 0, none⟩) [d1, d2] := ⟨fun _ => ⟨w.heap.size, 0, rfl, by simp, fun j d' hd k x hx => by
  have hv : ∀ d : Dd, d.vals.length = 10 := fun _ => rfl
  have hc := (Cells.new w 52 (d1.vals ++ d2.vals).toArray).cell (0 + (j * 10 + k))
  rw [hc, List.getElem?_toArray]
  have hk : k < 10 := by rw [← hv d']; exact (List.getElem?_eq_some_iff.1 hx).1
  match j, hd with
  | 0, hd =>
    have e : d1 = d' := by simpa using hd
    subst e
    rw [List.getElem?_append_left (by rw [hv]; omega), show 0 + (0 * 10 + k) = k by omega]; exact hx
  | 1, hd =>
    have e : d2 = d' := by simpa using hd
    subst e
    rw [List.getElem?_append_right (by rw [hv]; omega), hv, show 0 + (1 * 10 + k) - 10 = k by omega]; exact hx
  | j + 2, hd => simp at hd⟩, fun d' hd => by
    rcases List.mem_cons.1 hd with rfl | hd
    · exact h1.more (by simpa using hB)
    · rw [List.mem_singleton.1 hd]; exact h2.more (by simpa using hB)⟩
theorem ok_kind {e : Eff} {w : World} {B : Nat} (h : e.Ok w B) {k : Int} (hk : i64R k) : ({ e with kind := k } : Eff).Ok w B := ⟨hk, h.ino, h.dir, h.dst, h.page, h.size, h.name, h.other, h.bytes, h.row, h.le, h.cap⟩
theorem ok_back {e : Eff} {w : World} {B : Nat} (h : e.Ok w B) {k : Int} (hk : i64R k) : ({ e with kind := k, dir := e.dst, name := e.other, dst := e.dir, other := e.name } : Eff).Ok w B := ⟨hk, h.ino, h.dst, h.dir, h.page, h.size, h.other, h.name, h.bytes, h.row, h.le, h.cap⟩
theorem no_name {S : Stt} (h : Inv S) {s : ByteArray} {d : Int} (hi : inoN s (namesS S.l d) = 0) : hasN s (namesS S.l d) = false := by
  cases hx : hasN s (namesS S.l d) with
  | false => rfl
  | true =>
    obtain ⟨n, a, b⟩ := at_of_has hx
    obtain ⟨e, e1, e2, e3⟩ := has_mem hx
    have hr := (h.names n (atS_mem a)).1 e (by unfold namesS at e1; rw [b] at e1; exact e1)
    have := (okE_parts hr).2.1
    omega
def BkRel (w : World) (l : List Dd) (g b gx : Nat) (i : Value) (wr : World) : Prop := ∃ k : Nat, k ≤ l.length ∧ i = .int .i64 k ∧ Two wr w.heap.size (1 + 8 * k) g b gx (runI l k) (runI l k) ∧ Below w.heap.size w wr
theorem Trn.two_below {w w' : World} {g b B : Nat} (t : Trn w w' [g, b]) (hB : B ≤ w.heap.size) (h1 : B ≤ g) (h2 : B ≤ b) : Below B w w' := t.below hB (fun x hx => by
  rcases List.mem_cons.1 hx with rfl | hx
  · exact h1
  · rw [List.mem_singleton.1 hx]; exact h2)
set_option maxHeartbeats 32000000 in
theorem back_law {w : World} {A : Option Addr} {c : Nat} {l : List Dd} (h : Dds w w.heap.size A l) (hsz : l.length * 112 ≤ 140737488351232) (hM : MaxW w) (lk mv : Eff) (hlk : lk.Ok w w.heap.size) (hmv : mv.Ok w w.heap.size) :
    Calls Tryz.prog 5 #[.slice A l.length c, lk.val, mv.val] w (TrueB w) := by
  have hfol : Tryz.prog.follows .mixedOrders = true := by kernel_rfl
  have hba : Below w.heap.size w (w.alloc (.cells (effCells lk) 50)) := below_of_grown (World.grownBy_alloc w _ none)
  have hbb : Below w.heap.size w ((w.alloc (.cells (effCells lk) 50)).alloc (.cells (effCells mv) 50)) := hba.alloc hba.size _
  have hc4 : Cells ((w.alloc (.cells (effCells lk) 50)).alloc (.cells (effCells mv) 50)) w.heap.size 50 (effCells lk) := (Cells.new w 50 (effCells lk)).alloc _
  have hc5 : Cells ((w.alloc (.cells (effCells lk) 50)).alloc (.cells (effCells mv) 50)) (w.heap.size + 1) 50 (effCells mv) := by
    have := Cells.new (w.alloc (.cells (effCells lk) 50)) 50 (effCells mv)
    simpa using this
  have KA := Lib.hid (stAwake_true _ (hM.below hbb hM.lt))
  have HD := Lib.hid h; have HSZ := Lib.hid hsz; have HLK := Lib.hid hlk; have HMV := Lib.hid hmv; have B0 := Lib.hid hbb; have C40 := Lib.hid hc4; have C50 := Lib.hid hc5
  have KF2 := Lib.hid (fun wx (hb : Below w.heap.size w wx) => few_law (c := 2) (l := [⟨lk, 0⟩, ⟨mv, 0⟩]) (two_dds (d1 := ⟨lk, 0⟩) (d2 := ⟨mv, 0⟩) wx (B := w.heap.size) ((Dd.Ok.mk hlk i64R_0).below (hb.trans ((below_of_grown (World.grownBy_alloc wx _ none)).mono hb.size))) ((Dd.Ok.mk hmv i64R_0).below (hb.trans ((below_of_grown (World.grownBy_alloc wx _ none)).mono hb.size))) (by have := hb.size; omega)) (by show 2 * 112 ≤ 140737488351232; omega))
  have HDF := Lib.hid (show fewD [⟨lk, 0⟩, ⟨mv, 0⟩] = true → lk.few ∧ mv.few from fun hf => ⟨(fewD_iff.1 hf).1 ⟨lk, 0⟩ (by simp), (fewD_iff.1 hf).1 ⟨mv, 0⟩ (by simp)⟩)
  obtain ⟨kkind, kino, kdir, kdst, kpage, ksize, kname, kother, kA, kcp, kdata⟩ := lk
  obtain ⟨mkind, mino, mdir, mdst, mpage, msize, mname, mother, mA, mcp, mdata⟩ := mv
  obtain ⟨F1, hF1⟩ : ∃ F, fewD l = F := ⟨_, rfl⟩
  obtain ⟨F2, hF2⟩ : ∃ F, fewD [(⟨⟨kkind, kino, kdir, kdst, kpage, ksize, kname, kother, kA, kcp, kdata⟩, 0⟩ : Dd), ⟨⟨mkind, mino, mdir, mdst, mpage, msize, mname, mother, mA, mcp, mdata⟩, 0⟩] = F := ⟨_, rfl⟩
  have HF1 := Lib.hid hF1; have HF2 := Lib.hid hF2
  unfold Eff.val
  unfold Dd.vals Eff.vals effCells at *
  dsimp only [List.append_eq, List.cons_append, List.nil_append] at *
  clear h hsz hM hlk hmv hba hbb hc4 hc5 hF1 hF2
  go_enter Tryz.func5, Tryz.ntmps5
  go_wp2_with fail
  refine (KA.out).mono ?_
  rintro e w1 ⟨rfl, hb1⟩
  have B1 := Lib.hid (B0.out.trans (hb1.mono B0.out.size))
  have C41 := Lib.hid (C40.out.below' hb1); have C51 := Lib.hid (C50.out.below' hb1)
  have KF := Lib.hid (few_law (c := c) ((HD.out.below B1.out).more B1.out.size) HSZ.out)
  clear hb1 KA
  go_wp2_with fail
  refine (KF.out).mono ?_
  rintro e w2 ⟨rfl, hb2⟩
  have B2 := Lib.hid (B1.out.trans (hb2.mono B1.out.size))
  have C42 := Lib.hid (C41.out.below' hb2); have C52 := Lib.hid (C51.out.below' hb2)
  clear hb2 KF
  rw [HF1.out]
  cases F1 with
  | false =>
    go_wp2
    go_ret
    exact ⟨rfl, B2.out⟩
  | true =>
  have x0 := C42.out.cell 0; have x1 := C42.out.cell 1; have x2 := C42.out.cell 2; have x3 := C42.out.cell 3; have x4 := C42.out.cell 4; have x5 := C42.out.cell 5; have x6 := C42.out.cell 6; have x7 := C42.out.cell 7; have x8 := C42.out.cell 8
  simp only [List.getElem?_toArray, List.getElem?_cons_succ, List.getElem?_cons_zero] at x0 x1 x2 x3 x4 x5 x6 x7 x8
  have y0 := C52.out.cell 0; have y1 := C52.out.cell 1; have y2 := C52.out.cell 2; have y3 := C52.out.cell 3; have y4 := C52.out.cell 4; have y5 := C52.out.cell 5; have y6 := C52.out.cell 6; have y7 := C52.out.cell 7; have y8 := C52.out.cell 8
  simp only [List.getElem?_toArray, List.getElem?_cons_succ, List.getElem?_cons_zero] at y0 y1 y2 y3 y4 y5 y6 y7 y8
  have KF := Lib.hid (KF2.out w2 B2.out)
  have b3 := below_of_grown (World.grownBy_alloc w2 (.cells #[.int .i64 kkind, .int .i64 kino, .int .i64 kdir, .int .i64 kdst, .int .i64 kpage, .int .i64 ksize, .string kname, .string kother, .slice kA kdata.length kcp, .int .i64 0, .int .i64 mkind, .int .i64 mino, .int .i64 mdir, .int .i64 mdst, .int .i64 mpage, .int .i64 msize, .string mname, .string mother, .slice mA mdata.length mcp, .int .i64 0] 52) none)
  have B23 := Lib.hid b3
  have B3 := Lib.hid (B2.out.trans (b3.mono B2.out.size))
  clear b3 KF2
  go_wp2_with fail
  refine (KF.out).mono ?_
  rintro e w4 ⟨rfl, hb4⟩
  have B4 := Lib.hid (B3.out.trans (hb4.mono B3.out.size))
  have C44 := Lib.hid ((C42.out.below' B23.out).below' hb4); have C54 := Lib.hid ((C52.out.below' B23.out).below' hb4)
  clear hb4 KF x0 x1 x2 x3 x4 x5 x6 x7 x8 y0 y1 y2 y3 y4 y5 y6 y7 y8
  have KP := Lib.hid (pNew w4)
  rw [HF2.out]
  cases F2 with
  | false =>
    go_wp2
    go_ret
    exact ⟨rfl, B4.out⟩
  | true =>
  go_wp2_with fail
  refine (KP.out).mono ?_
  rintro e w5 ⟨g, b, rfl, hb5, P5⟩
  have B45 := Lib.hid hb5; have P5H := Lib.hid P5
  have KX := Lib.hid (rNew w5)
  clear hb5 P5 KP
  go_wp2_with fail
  refine (KX.out).mono ?_
  rintro e w6 ⟨gx, Lx, vx, rfl, X6, hb6⟩
  have B6 := Lib.hid (B45.out.trans (hb6.mono B45.out.size))
  have hx6 : DSx w6 w4.heap.size gx Lx vx newStt := ⟨Nat.le_trans B45.out.size X6.lo, X6.cells, ⟨X6.row.1, by
    rcases X6.row.2 with h3 | ⟨gg, cap, cur, h3, h4, h5⟩
    · exact .inl h3
    · exact .inr ⟨gg, cap, cur, h3, Nat.le_trans B45.out.size h4, h5⟩⟩, fun n hn => (X6.own n hn).mono B45.out.size, X6.eq⟩
  have T6 := Lib.hid (Two.mk (P5H.out.below hb6) ⟨Lx, vx, hx6⟩)
  have hfl := fewD_iff.1 HF1.out
  have HF := Lib.hid hfl.1; have HL := Lib.hid hfl.2
  have HFK := Lib.hid (HDF.out HF2.out).1; have HFM := Lib.hid (HDF.out HF2.out).2
  clear X6 hb6 hx6 KX hfl
  unfold SPtr
  go_wp2
  go_loopw [43] (fun i wr => BkRel w4 l g b gx i wr) (fun i _ => l.length - (intOf i).toNat)
  case atStart => exact ⟨0, Nat.zero_le _, rfl, T6.out, B6.out⟩
  case round =>
    obtain ⟨k, hk, rfl, T, hb⟩ := hrel
    have hbw : Below w.heap.size w wr := B4.out.trans (hb.mono B4.out.size)
    by_cases hlt : k < l.length
    · obtain ⟨d, hd⟩ : ∃ d, l[k]? = some d := ⟨_, List.getElem?_eq_getElem hlt⟩
      have hD := HD.out.below hbw
      obtain ⟨bb, off, rfl, hbB, x0, x1, x2, x3, x4, x5, x6, x7, x8, x9⟩ := dds_cells hD hd
      have hkl : (k : Int) < (l.length : Int) := by omega
      have hdm := List.mem_of_getElem? hd
      have hiv := Inv.runI l k
      have hk30 : k ≤ 30 := Nat.le_trans hk HL.out
      have hnm := Num.runI (l := l) k hk (by omega)
      have hok := (hD.ok d hdm).e
      have hfe := HF.out d hdm
      have hsn := runI_at hd
      have hrf : i64R ((k : Int) + 1) := by unfold i64R; omega
      obtain ⟨⟨kind, ino, dir, dst, page, size, name, other, Ae, cp, data⟩, ref⟩ := d
      dsimp only at x0 x1 x2 x3 x4 x5 x6 x7 x8 x9 hok hfe hsn
      obtain ⟨S, hS⟩ : ∃ S, runI l k = S := ⟨_, rfl⟩
      rw [hS] at T hiv hnm hsn
      obtain ⟨w7, hw7⟩ : ∃ w7, wr.alloc (.cells #[.int .i64 kind, .int .i64 ino, .int .i64 dir, .int .i64 dst, .int .i64 page, .int .i64 size, .string name, .string other, .slice Ae data.length cp, .int .i64 ref] 52) = w7 := ⟨_, rfl⟩
      have hb7 : Below wr.heap.size wr w7 := by rw [← hw7]; exact below_of_grown (World.grownBy_alloc wr _ none)
      have hc7 : Cells w7 wr.heap.size 52 #[.int .i64 kind, .int .i64 ino, .int .i64 dir, .int .i64 dst, .int .i64 page, .int .i64 size, .string name, .string other, .slice Ae data.length cp, .int .i64 ref] := by rw [← hw7]; exact Cells.new _ _ _
      have z0 := hc7.cell 0; have z1 := hc7.cell 1; have z2 := hc7.cell 2; have z3 := hc7.cell 3; have z4 := hc7.cell 4; have z5 := hc7.cell 5; have z6 := hc7.cell 6; have z7 := hc7.cell 7; have z8 := hc7.cell 8; have z9 := hc7.cell 9
      simp only [List.getElem?_toArray, List.getElem?_cons_succ, List.getElem?_cons_zero] at z0 z1 z2 z3 z4 z5 z6 z7 z8 z9
      have T7 := T.below hb7
      have hok7 : Eff.Ok ⟨kind, ino, dir, dst, page, size, name, other, Ae, cp, data⟩ w7 w.heap.size := hok.below (hb7.mono hbw.size)
      have HB7 := Lib.hid (hb.trans (hb7.mono hb.size))
      have hq1 : wrap64 ((k : Int) + 1) = (k : Int) + 1 := by unfold wrap64; omega
      have KA := Lib.hid (pApply T7.p (hiv.fit hnm (by omega)) (by omega) ⟨kind, ino, dir, dst, page, size, name, other, Ae, cp, data⟩ (hok7.more (Nat.le_trans hbw.size hb7.size)) hfe ((k : Int) + 1))
      have KR := Lib.hid (fun wx (b3 : Below w4.heap.size w7 wx) (Lx : List Nd) (vx : Value) (x : DSx wx w4.heap.size gx Lx vx S) => rApply x hiv hnm (by omega) ⟨kind, ino, dir, dst, page, size, name, other, Ae, cp, data⟩ ((hok7.below (b3.mono B4.out.size)).more (Nat.le_trans B4.out.size (Nat.le_trans HB7.out.size b3.size))) hfe ((k : Int) + 1) hrf)
      have T7H := Lib.hid T7; have HC7 := Lib.hid hc7; have HSN := Lib.hid hsn; have HKL := Lib.hid hlt
      unfold Eff.val SPtr at KA KR
      dsimp only at KA KR
      clear T7 hb7 hc7 hok7 hok hfe hrf hsn hS hiv hnm hD hd hdm T hb hbB hbw
      go_wp2_with fail
      refine (KA.out).mono ?_
      rintro e' w8 ⟨A4, c4, l4, rfl, P4, t4⟩
      obtain ⟨Lx3, vx3, X3⟩ := T7H.out.x
      have X4 := X3.far T7H.out.p t4
      have C4 := Lib.hid (T7H.out.p.keepC t4 _ _ _ (by decide) HC7.out)
      have B48 := Lib.hid (t4.two_below (B := w4.heap.size) HB7.out.size T7H.out.p.lo T7H.out.p.lob)
      have KR4 := Lib.hid (KR.out w8 B48.out _ _ X4)
      have P4H := Lib.hid P4; have X4H := Lib.hid X4
      clear P4 t4 X3 X4 KA KR z0 z1 z2 z3 z4 z5 z6 z7 z8 z9 x0 x1 x2 x3 x4 x5 x6 x7 x8 x9
      have z0 := C4.out.cell 0; have z1 := C4.out.cell 1; have z2 := C4.out.cell 2; have z3 := C4.out.cell 3; have z4 := C4.out.cell 4; have z5 := C4.out.cell 5; have z6 := C4.out.cell 6; have z7 := C4.out.cell 7; have z8 := C4.out.cell 8; have z9 := C4.out.cell 9
      simp only [List.getElem?_toArray, List.getElem?_cons_succ, List.getElem?_cons_zero] at z0 z1 z2 z3 z4 z5 z6 z7 z8 z9
      go_wp2_with fail
      refine (KR4.out).mono ?_
      rintro e' w9 ⟨A5, c5, l5, Lx5, vx5, rfl, X5, t5⟩
      have P5 := P4H.out.far X4H.out.cells t5
      have T5 := Lib.hid ((Two.mk P5 ⟨Lx5, vx5, X5⟩).more (m' := 1 + 8 * (k + 1)) (by omega))
      have B9 := Lib.hid ((HB7.out.trans B48.out).trans (t5.below (B := w4.heap.size) (by have := HB7.out.size; have := B48.out.size; omega) (fun x hx => by rw [List.mem_singleton.1 hx]; exact X4H.out.lo)))
      clear P5 X5 t5 KR4 z0 z1 z2 z3 z4 z5 z6 z7 z8 z9
      go_wp2
      go_roundw
      case rel => exact ⟨k + 1, HKL.out, by go_num, by rw [HSN.out]; exact T5.out, B9.out⟩
      case measure => simp [intOf]; have := HKL.out; omega
    · obtain rfl : k = l.length := by omega
      have TH := Lib.hid T; have HB := Lib.hid hb
      have hiv := Inv.runI l l.length
      have hnm := Num.runI (l := l) l.length (Nat.le_refl _) (by have := HL.out; omega)
      obtain ⟨S, hS⟩ : ∃ S, runI l l.length = S := ⟨_, rfl⟩
      rw [hS] at hiv hnm TH
      obtain ⟨m, hm⟩ : ∃ m, 1 + 8 * l.length = m := ⟨_, rfl⟩
      have HM := Lib.hid (show m ≤ 1000 by have := HL.out; omega)
      rw [hm] at TH
      obtain ⟨NN, hNN⟩ : ∃ N, l.length = N := ⟨_, rfl⟩
      have hNL : NN ≤ 30 := by have := HL.out; omega
      have IV := Lib.hid hiv; have NM := Lib.hid (show Num NN S by rw [← hNN]; exact hnm); have HNN := Lib.hid hNL
      have C45 := Lib.hid (C44.out.below' (hb.mono (Nat.le_refl _))); have C55 := Lib.hid (C54.out.below' (hb.mono (Nat.le_refl _)))
      have HSM := Lib.hid (hiv.smN hnm (by have := HL.out; omega))
      have HSL := Lib.hid (show S.l.length ≤ 1000 by have := hnm.len; have := HL.out; omega)
      clear T hb hbw hiv hnm hS hm hk hlt hNN hNL
      have x0 := C45.out.cell 0; have x1 := C45.out.cell 1; have x2 := C45.out.cell 2; have x3 := C45.out.cell 3; have x4 := C45.out.cell 4; have x5 := C45.out.cell 5; have x6 := C45.out.cell 6; have x7 := C45.out.cell 7; have x8 := C45.out.cell 8
      simp only [List.getElem?_toArray, List.getElem?_cons_succ, List.getElem?_cons_zero] at x0 x1 x2 x3 x4 x5 x6 x7 x8
      have ba1 : Below wr.heap.size wr (wr.alloc (.cells #[.int .i64 0, .int .i64 0, .int .i64 0, .int .i64 0, .int .i64 0, .int .i64 0, .string ⟨#[]⟩, .string ⟨#[]⟩, .slice none 0 0] 50)) := below_of_grown (World.grownBy_alloc wr _ none)
      have ba2 := ba1.alloc ba1.size (.cells #[.int .i64 0, .int .i64 0, .int .i64 0, .int .i64 0, .int .i64 0, .int .i64 0, .string ⟨#[]⟩, .string ⟨#[]⟩, .slice none 0 0] 50)
      have C45a := C45.out.below' ba1
      have C45b := C45.out.below' ba2
      have C45c := C45.out.below' (ba1.alloc ba1.size (.cells #[.int .i64 kkind, .int .i64 kino, .int .i64 kdir, .int .i64 kdst, .int .i64 kpage, .int .i64 ksize, .string kname, .string kother, .slice kA kdata.length kcp] 50))
      have C45d := C45.out.below' ((below_of_grown (World.grownBy_alloc wr (.cells #[.int .i64 kkind, .int .i64 kino, .int .i64 kdir, .int .i64 kdst, .int .i64 kpage, .int .i64 ksize, .string kname, .string kother, .slice kA kdata.length kcp] 50) none)).alloc (below_of_grown (World.grownBy_alloc wr (.cells #[.int .i64 kkind, .int .i64 kino, .int .i64 kdir, .int .i64 kdst, .int .i64 kpage, .int .i64 ksize, .string kname, .string kother, .slice kA kdata.length kcp] 50) none)).size (.cells #[.int .i64 0, .int .i64 0, .int .i64 0, .int .i64 0, .int .i64 0, .int .i64 0, .string ⟨#[]⟩, .string ⟨#[]⟩, .slice none 0 0] 50))
      have y0 := C45a.cell 0; have y1 := C45a.cell 1; have y2 := C45a.cell 2; have y3 := C45a.cell 3; have y4 := C45a.cell 4; have y5 := C45a.cell 5; have y6 := C45a.cell 6; have y7 := C45a.cell 7; have y8 := C45a.cell 8
      simp only [List.getElem?_toArray, List.getElem?_cons_succ, List.getElem?_cons_zero] at y0 y1 y2 y3 y4 y5 y6 y7 y8
      have v0 := C45b.cell 0; have v1 := C45b.cell 1; have v2 := C45b.cell 2; have v3 := C45b.cell 3; have v4 := C45b.cell 4; have v5 := C45b.cell 5; have v6 := C45b.cell 6; have v7 := C45b.cell 7; have v8 := C45b.cell 8
      simp only [List.getElem?_toArray, List.getElem?_cons_succ, List.getElem?_cons_zero] at v0 v1 v2 v3 v4 v5 v6 v7 v8
      have u0 := C45c.cell 0; have u1 := C45c.cell 1; have u2 := C45c.cell 2; have u3 := C45c.cell 3; have u4 := C45c.cell 4; have u5 := C45c.cell 5; have u6 := C45c.cell 6; have u7 := C45c.cell 7; have u8 := C45c.cell 8
      simp only [List.getElem?_toArray, List.getElem?_cons_succ, List.getElem?_cons_zero] at u0 u1 u2 u3 u4 u5 u6 u7 u8
      have t0 := C45d.cell 0; have t1 := C45d.cell 1; have t2 := C45d.cell 2; have t3 := C45d.cell 3; have t4 := C45d.cell 4; have t5 := C45d.cell 5; have t6 := C45d.cell 6; have t7 := C45d.cell 7; have t8 := C45d.cell 8
      simp only [List.getElem?_toArray, List.getElem?_cons_succ, List.getElem?_cons_zero] at t0 t1 t2 t3 t4 t5 t6 t7 t8
      go_wp2
      go_cut [11, 12] from 61 to 62 (fun v11 v12 wx => ∃ p1 p2 : Nat, v11 = .pointer (some ⟨p1, 0, none⟩) ∧ v12 = .pointer (some ⟨p2, 0, none⟩) ∧ p1 ≠ p2 ∧ wr.heap.size ≤ p1 ∧ wr.heap.size ≤ p2 ∧ Cells wx p1 50 #[.int .i64 kkind, .int .i64 kino, .int .i64 kdir, .int .i64 kdst, .int .i64 kpage, .int .i64 ksize, .string kname, .string kother, .slice kA kdata.length kcp] ∧ Cells wx p2 50 #[.int .i64 kkind, .int .i64 kino, .int .i64 kdir, .int .i64 kdst, .int .i64 kpage, .int .i64 ksize, .string kname, .string kother, .slice kA kdata.length kcp] ∧ Below wr.heap.size wr wx)
      case first =>
        have hk1 : Cells ((wr.alloc (.cells #[.int .i64 kkind, .int .i64 kino, .int .i64 kdir, .int .i64 kdst, .int .i64 kpage, .int .i64 ksize, .string kname, .string kother, .slice kA kdata.length kcp] 50)).alloc (.cells #[.int .i64 kkind, .int .i64 kino, .int .i64 kdir, .int .i64 kdst, .int .i64 kpage, .int .i64 ksize, .string kname, .string kother, .slice kA kdata.length kcp] 50)) wr.heap.size 50 #[.int .i64 kkind, .int .i64 kino, .int .i64 kdir, .int .i64 kdst, .int .i64 kpage, .int .i64 ksize, .string kname, .string kother, .slice kA kdata.length kcp] := (Cells.new wr 50 _).alloc _
        have hk2 : Cells ((wr.alloc (.cells #[.int .i64 kkind, .int .i64 kino, .int .i64 kdir, .int .i64 kdst, .int .i64 kpage, .int .i64 ksize, .string kname, .string kother, .slice kA kdata.length kcp] 50)).alloc (.cells #[.int .i64 kkind, .int .i64 kino, .int .i64 kdir, .int .i64 kdst, .int .i64 kpage, .int .i64 ksize, .string kname, .string kother, .slice kA kdata.length kcp] 50)) (wr.heap.size + 1) 50 #[.int .i64 kkind, .int .i64 kino, .int .i64 kdir, .int .i64 kdst, .int .i64 kpage, .int .i64 ksize, .string kname, .string kother, .slice kA kdata.length kcp] := by
          have := Cells.new (wr.alloc (.cells #[.int .i64 kkind, .int .i64 kino, .int .i64 kdir, .int .i64 kdst, .int .i64 kpage, .int .i64 ksize, .string kname, .string kother, .slice kA kdata.length kcp] 50)) 50 #[.int .i64 kkind, .int .i64 kino, .int .i64 kdir, .int .i64 kdst, .int .i64 kpage, .int .i64 ksize, .string kname, .string kother, .slice kA kdata.length kcp]
          simpa using this
        have hk3 : Below wr.heap.size wr ((wr.alloc (.cells #[.int .i64 kkind, .int .i64 kino, .int .i64 kdir, .int .i64 kdst, .int .i64 kpage, .int .i64 ksize, .string kname, .string kother, .slice kA kdata.length kcp] 50)).alloc (.cells #[.int .i64 kkind, .int .i64 kino, .int .i64 kdir, .int .i64 kdst, .int .i64 kpage, .int .i64 ksize, .string kname, .string kother, .slice kA kdata.length kcp] 50)) := (below_of_grown (World.grownBy_alloc wr _ none)).alloc (by simp) _
        have HK1 := Lib.hid hk1; have HK2 := Lib.hid hk2; have HK3 := Lib.hid hk3
        clear hk1 hk2 hk3
        go_region
        all_goals
          go_wp2
          go_meet
          first
            | exact ⟨_, _, rfl, rfl, by omega, Nat.le_refl _, by omega, HK1.out, HK2.out, HK3.out⟩
            | exact ⟨_, _, rfl, rfl, by omega, by omega, Nat.le_refl _, HK2.out, HK1.out, HK3.out⟩
            | exact ⟨_, _, rfl, rfl, by omega, Nat.le_refl _, by omega, HK1.out, HK2.out, HK3.out.drew⟩
            | exact ⟨_, _, rfl, rfl, by omega, by omega, Nat.le_refl _, HK2.out, HK1.out, HK3.out.drew⟩
      case rest =>
        obtain ⟨p1, p2, rfl, rfl, hne, hl1, hl2, hc1, hc2, hbc⟩ := hcut
        have c10 := hc1.cell 0; have f10 := hc1.free 0
        have hc2' := hc2.far (p := ⟨p1, 0, none⟩) hne.symm (.int .i64 2)
        have c20 := hc2'.cell 0; have f20 := hc2'.free 0
        have hc13 : Cells ((wc.setCell ⟨p1, 0, none⟩ (.int .i64 2)).setCell ⟨p2, 0, none⟩ (.int .i64 3)) p1 50 #[.int .i64 2, .int .i64 kino, .int .i64 kdir, .int .i64 kdst, .int .i64 kpage, .int .i64 ksize, .string kname, .string kother, .slice kA kdata.length kcp] := (hc1.set 0 (.int .i64 2)).far (p := ⟨p2, 0, none⟩) hne (.int .i64 3)
        have hc23 : Cells ((wc.setCell ⟨p1, 0, none⟩ (.int .i64 2)).setCell ⟨p2, 0, none⟩ (.int .i64 3)) p2 50 #[.int .i64 3, .int .i64 kino, .int .i64 kdir, .int .i64 kdst, .int .i64 kpage, .int .i64 ksize, .string kname, .string kother, .slice kA kdata.length kcp] := hc2'.set 0 (.int .i64 3)
        have hb13 : Below wr.heap.size wr ((wc.setCell ⟨p1, 0, none⟩ (.int .i64 2)).setCell ⟨p2, 0, none⟩ (.int .i64 3)) := (hbc.setCell (p := ⟨p1, 0, none⟩) hl1 _).setCell (p := ⟨p2, 0, none⟩) hl2 _
        have q0 := hc13.cell 0; have q1 := hc13.cell 1; have q2 := hc13.cell 2; have q3 := hc13.cell 3; have q4 := hc13.cell 4; have q5 := hc13.cell 5; have q6 := hc13.cell 6; have q7 := hc13.cell 7; have q8 := hc13.cell 8
        simp only [List.getElem?_toArray, List.getElem?_cons_succ, List.getElem?_cons_zero] at q0 q1 q2 q3 q4 q5 q6 q7 q8
        obtain ⟨w13, hw13⟩ : ∃ w13, (wc.setCell ⟨p1, 0, none⟩ (.int .i64 2)).setCell ⟨p2, 0, none⟩ (.int .i64 3) = w13 := ⟨_, rfl⟩
        have HW13 := Lib.hid hw13
        rw [hw13] at hc23 hb13
        have C23 := Lib.hid hc23; have T13 := Lib.hid (TH.out.below hb13); have B13 := Lib.hid (HB.out.trans (hb13.mono HB.out.size)); have C513 := Lib.hid (C55.out.below' hb13)
        have HM0 := Lib.hid (show m ≤ 1000 from HM.out)
        obtain ⟨E1, hE1⟩ : ∃ E, errS S ⟨2, kino, kdir, kdst, kpage, ksize, kname, kother, kA, kcp, kdata⟩ 0 = E := ⟨_, rfl⟩
        have HE1 := Lib.hid hE1
        have KA := Lib.hid (pApply T13.out.p (IV.out.fit NM.out (by have := HNN.out; omega)) (by have := HM.out; omega) ⟨2, kino, kdir, kdst, kpage, ksize, kname, kother, kA, kcp, kdata⟩ ((ok_kind ((HLK.out.below (B4.out.trans (B13.out.mono B4.out.size)))) (k := 2) (by unfold i64R; omega)).more (Nat.le_trans B4.out.size B13.out.size)) HFK.out 0)
        unfold Eff.val SPtr at KA
        dsimp only at KA
        clear hc1 hc2 hc2' hc13 hc23 hb13 hw13 hbc hl1 hl2 hne hE1
        go_wp2_with fail
        rw [HW13.out]
        refine (KA.out).mono ?_
        rintro e' w14 ⟨A14, c14, l14, rfl, P14, t14⟩
        rw [HE1.out]
        have X14 := Lib.hid (show ∃ Lx vx, DSx w14 w4.heap.size gx Lx vx S by obtain ⟨Lx, vx, h9⟩ := T13.out.x; exact ⟨Lx, vx, h9.far T13.out.p t14⟩)
        have C24 := Lib.hid (T13.out.p.keepC t14 _ _ _ (by decide) C23.out); have C514 := Lib.hid (T13.out.p.keepC t14 _ _ _ (by decide) C513.out)
        have B14 := Lib.hid (B13.out.trans (t14.two_below (B := w4.heap.size) B13.out.size T13.out.p.lo T13.out.p.lob))
        have P14H := Lib.hid P14
        clear P14 t14 KA c10 f10 c20 f20 q0 q1 q2 q3 q4 q5 q6 q7 q8
        by_cases h1 : E1 = 0
        case' pos =>
          have qe : (E1 == 0) = true := by simp [h1]
          obtain ⟨e2, n2⟩ := IV.out.link_unlink (e := ⟨kkind, kino, kdir, kdst, kpage, ksize, kname, kother, kA, kcp, kdata⟩) (by show errS S ⟨2, kino, kdir, kdst, kpage, ksize, kname, kother, kA, kcp, kdata⟩ 0 = 0; rw [HE1.out]; exact h1)
          dsimp only at e2 n2
          have HE2 := Lib.hid e2; have HN2 := Lib.hid n2
          have hiv2 := IV.out.next ⟨2, kino, kdir, kdst, kpage, ksize, kname, kother, kA, kcp, kdata⟩ 0
          have hnm2 := NM.out.next ⟨2, kino, kdir, kdst, kpage, ksize, kname, kother, kA, kcp, kdata⟩ i64R_0
          have KA := Lib.hid (pApply P14H.out (hiv2.fit hnm2 (by have := HNN.out; omega)) (by have := HM.out; omega) ⟨3, kino, kdir, kdst, kpage, ksize, kname, kother, kA, kcp, kdata⟩ ((ok_kind ((HLK.out.below (B4.out.trans (B14.out.mono B4.out.size)))) (k := 3) (by unfold i64R; omega)).more (Nat.le_trans B4.out.size B14.out.size)) HFK.out 0)
          unfold Eff.val SPtr at KA
          dsimp only at KA
          have z0 := C24.out.cell 0; have z1 := C24.out.cell 1; have z2 := C24.out.cell 2; have z3 := C24.out.cell 3; have z4 := C24.out.cell 4; have z5 := C24.out.cell 5; have z6 := C24.out.cell 6; have z7 := C24.out.cell 7; have z8 := C24.out.cell 8
          simp only [List.getElem?_toArray, List.getElem?_cons_succ, List.getElem?_cons_zero] at z0 z1 z2 z3 z4 z5 z6 z7 z8
          clear e2 n2 hiv2 hnm2 h1
          go_wp2_with fail
          refine (KA.out).mono ?_
          rintro e' w15 ⟨A15, c15, l15, rfl, P15, t15⟩
          rw [HE2.out]
          rw [HN2.out] at P15
          have X15 := Lib.hid (show ∃ Lx vx, DSx w15 w4.heap.size gx Lx vx S by obtain ⟨Lx, vx, h9⟩ := X14.out; exact ⟨Lx, vx, h9.far P14H.out t15⟩)
          have C515 := Lib.hid (P14H.out.keepC t15 _ _ _ (by decide) C514.out)
          have B15 := Lib.hid (B14.out.trans (t15.two_below (B := w4.heap.size) B14.out.size P14H.out.lo P14H.out.lob))
          have P15H := Lib.hid P15
          have KL := Lib.hid (show Calls Tryz.prog 28 #[SPtr g, SPtr gx] w15 (TrueB w15) by obtain ⟨Lx, vx, h9⟩ := X15.out; exact alike_any P15H.out IV.out.asc HSM.out HSL.out (by have := HM.out; omega) h9)
          unfold SPtr at KL
          clear P15 t15 KA HE2 HN2 z0 z1 z2 z3 z4 z5 z6 z7 z8
          go_wp2_with fail
          refine (KL.out).mono ?_
          rintro e' wE ⟨rfl, hb16⟩
          have P16 := Lib.hid (P15H.out.below hb16); have C516 := Lib.hid (C515.out.below' hb16); have B16 := Lib.hid (B15.out.trans (hb16.mono B15.out.size))
          have X16 := Lib.hid (show ∃ Lx vx, DSx wE w4.heap.size gx Lx vx S by obtain ⟨Lx, vx, h9⟩ := X15.out; exact ⟨Lx, vx, h9.below hb16⟩)
          clear hb16 KL
        case' neg =>
          have qe : (E1 == 0) = false := by simp [h1]
          have P16 := Lib.hid (show PSt w14 w4.heap.size (m + 8 + 8) g b S by have h9 := P14H.out; rw [err_no (by rw [HE1.out]; exact h1)] at h9; exact h9.more (by omega))
          clear h1
          have X16 := X14; have B16 := B14; have C516 := C514
          obtain ⟨wE, hwE⟩ : ∃ wE, wE = w14 := ⟨_, rfl⟩
          subst hwE
        all_goals
          obtain ⟨Lx, vx, hxx⟩ := X16.out
          have hwt : Below wE.heap.size wE (wE.alloc (.cells #[.int .i64 5, .int .i64 mino, .int .i64 mdir, .int .i64 mdst, .int .i64 mpage, .int .i64 msize, .string mname, .string mother, .slice mA mdata.length mcp] 50)) := below_of_grown (World.grownBy_alloc wE _ none)
          have hc17 : Cells (wE.alloc (.cells #[.int .i64 5, .int .i64 mino, .int .i64 mdir, .int .i64 mdst, .int .i64 mpage, .int .i64 msize, .string mname, .string mother, .slice mA mdata.length mcp] 50)) wE.heap.size 50 #[.int .i64 5, .int .i64 mino, .int .i64 mdir, .int .i64 mdst, .int .i64 mpage, .int .i64 msize, .string mname, .string mother, .slice mA mdata.length mcp] := Cells.new _ _ _
          have hc5t := C516.out.below' hwt
          have z0 := C516.out.cell 0; have z1 := C516.out.cell 1; have z2 := C516.out.cell 2; have z3 := C516.out.cell 3; have z4 := C516.out.cell 4; have z5 := C516.out.cell 5; have z6 := C516.out.cell 6; have z7 := C516.out.cell 7; have z8 := C516.out.cell 8
          simp only [List.getElem?_toArray, List.getElem?_cons_succ, List.getElem?_cons_zero] at z0 z1 z2 z3 z4 z5 z6 z7 z8
          obtain ⟨wt, hwte⟩ : ∃ wt, wE.alloc (.cells #[.int .i64 5, .int .i64 mino, .int .i64 mdir, .int .i64 mdst, .int .i64 mpage, .int .i64 msize, .string mname, .string mother, .slice mA mdata.length mcp] 50) = wt := ⟨_, rfl⟩
          rw [hwte] at hwt hc17 hc5t
          have PT := Lib.hid (P16.out.below hwt); have XT := Lib.hid (hxx.below hwt); have BT := Lib.hid (B16.out.trans (hwt.mono B16.out.size)); have C17 := Lib.hid hc17; have C5T := Lib.hid hc5t; have HWT := Lib.hid hwte
          have HLX := Lib.hid (show Lx.length ≤ 1000 by have := hxx.len; have := HSL.out; omega)
          have HT17 := Lib.hid (show w4.heap.size ≤ wE.heap.size from B16.out.size)
          clear hxx hwt hc17 hc5t hwte
          go_wp2
          rw [HWT.out]
          clear z0 z1 z2 z3 z4 z5 z6 z7 z8
          have z0 := C5T.out.cell 0; have z1 := C5T.out.cell 1; have z2 := C5T.out.cell 2; have z3 := C5T.out.cell 3; have z4 := C5T.out.cell 4; have z5 := C5T.out.cell 5; have z6 := C5T.out.cell 6; have z7 := C5T.out.cell 7; have z8 := C5T.out.cell 8
          simp only [List.getElem?_toArray, List.getElem?_cons_succ, List.getElem?_cons_zero] at z0 z1 z2 z3 z4 z5 z6 z7 z8
          have b0 : Below wt.heap.size wt wt.drew := below_drewN (Below.refl _ _) 1
          have S9 := Lib.hid (fun (wx : World) (hb : Below wt.heap.size wt wx) => show wx.cell? ⟨w.heap.size + 1, 3, none⟩ = some (.int .i64 mdst) ∧ wx.cell? ⟨w.heap.size + 1, 7, none⟩ = some (.string mother) from ⟨(C5T.out.below' hb).cell 3, (C5T.out.below' hb).cell 7⟩)
          have KN := Lib.hid (fun wx (hb : Below wt.heap.size wt wx) => lNames (XT.out.below hb) HLX.out mdst)
          have HNL := Lib.hid (show (namesS S.l mdst).length ≤ 1000 from Nat.le_trans (HSM.out.get mdst).q (by decide))
          unfold SPtr at KN
          go_wp2
          go_region_held3 (fun w' => w'.cell? ⟨w.heap.size + 1, 3, none⟩ = some (.int .i64 mdst) ∧ w'.cell? ⟨w.heap.size + 1, 7, none⟩ = some (.string mother))
            (first | exact S9.out _ b0 | exact S9.out _ k1 | exact S9.out _ k2)
            (first
              | (go_at_call 30; (with_reducible refine (KN.out _ b0).mono ?_); rintro e' w21 ⟨A9, c9, rfl, hcap9, hen9, hg9⟩; have k1 : Below wt.heap.size wt w21 := b0.trans ((grown_b hg9).mono b0.size))
              | (go_at_call 29; (with_reducible refine (rFind hen9 (Nat.le_refl _) HNL.out mother).mono ?_); rintro e' w22 ⟨rfl, hg22⟩; have k2 : Below wt.heap.size wt w22 := k1.trans ((grown_b hg22).mono k1.size)))
          all_goals
            have BK := Lib.hid k2
            clear S9 KN k1 k2 hg22 hg9 hen9 hcap9 b0 z0 z1 z2 z3 z4 z5 z6 z7 z8
            have PU := Lib.hid (PT.out.below BK.out); have XU := Lib.hid (XT.out.below BK.out); have BU := Lib.hid (BT.out.trans (BK.out.mono BT.out.size)); have CU := Lib.hid (C17.out.below' BK.out)
            by_cases hi : inoN mother (namesS S.l mdst) = 0
            case neg =>
              have qi : (inoN mother (namesS S.l mdst) != 0) = true := by simp [hi]
              clear hi
              go_wp2
              go_ret
              exact ⟨rfl, B4.out.trans (BU.out.mono B4.out.size)⟩
            case pos =>
              have hno : hasN mother (namesS S.l mdst) = false := no_name IV.out hi
              rw [hi]
              have HNO := Lib.hid hno
              obtain ⟨E3, hE3⟩ : ∃ E, errS S ⟨5, mino, mdir, mdst, mpage, msize, mname, mother, mA, mcp, mdata⟩ 0 = E := ⟨_, rfl⟩
              have HE3 := Lib.hid hE3
              have KA := Lib.hid (pApply PU.out (IV.out.fit NM.out (by have := HNN.out; omega)) (by have := HM.out; omega) ⟨5, mino, mdir, mdst, mpage, msize, mname, mother, mA, mcp, mdata⟩ ((ok_kind ((HMV.out.below (B4.out.trans (BU.out.mono B4.out.size)))) (k := 5) (by unfold i64R; omega)).more (Nat.le_trans B4.out.size BU.out.size)) HFM.out 0)
              unfold Eff.val SPtr at KA
              dsimp only at KA
              have z0 := CU.out.cell 0; have z1 := CU.out.cell 1; have z2 := CU.out.cell 2; have z3 := CU.out.cell 3; have z4 := CU.out.cell 4; have z5 := CU.out.cell 5; have z6 := CU.out.cell 6; have z7 := CU.out.cell 7; have z8 := CU.out.cell 8
              simp only [List.getElem?_toArray, List.getElem?_cons_succ, List.getElem?_cons_zero] at z0 z1 z2 z3 z4 z5 z6 z7 z8
              clear hi hno hE3
              go_wp2_with fail
              refine (KA.out).mono ?_
              rintro e' w24 ⟨A24, c24, l24, rfl, P24, t24⟩
              rw [HE3.out]
              have X24 := Lib.hid (XU.out.far PU.out t24)
              have C24 := Lib.hid (PU.out.keepC t24 _ _ _ (by decide) CU.out)
              have B24 := Lib.hid (BU.out.trans (t24.two_below (B := w4.heap.size) BU.out.size PU.out.lo PU.out.lob))
              have P24H := Lib.hid P24
              clear P24 t24 KA z0 z1 z2 z3 z4 z5 z6 z7 z8
              by_cases h3 : E3 = 0
              case neg =>
                have q3 : (E3 != 0) = true := by simp [h3]
                have hP : PSt w24 w4.heap.size ((m + 8 + 8) + 8) g b S := by have h9 := P24H.out; rw [err_no (by rw [HE3.out]; exact h3)] at h9; exact h9
                have KL := Lib.hid (alike_any hP IV.out.asc HSM.out HSL.out (by have := HM.out; omega) X24.out)
                unfold SPtr at KL
                clear hP h3
                go_wp2_with fail
                refine (KL.out).mono ?_
                rintro e' w25 ⟨rfl, hb25⟩
                have B25 := Lib.hid (B24.out.trans (hb25.mono B24.out.size))
                clear hb25 KL
                go_wp2
                go_ret
                exact ⟨rfl, B4.out.trans (B25.out.mono B4.out.size)⟩
              case pos =>
                have q3 : (E3 != 0) = false := by simp [h3]
                obtain ⟨e4, n4⟩ := IV.out.there_back (e := ⟨mkind, mino, mdir, mdst, mpage, msize, mname, mother, mA, mcp, mdata⟩) HNO.out (by show errS S ⟨5, mino, mdir, mdst, mpage, msize, mname, mother, mA, mcp, mdata⟩ 0 = 0; rw [HE3.out]; exact h3)
                dsimp only at e4 n4
                have HE4 := Lib.hid e4; have HN4 := Lib.hid n4
                clear e4 n4 h3
                have hwv : Below w24.heap.size w24 ((w24.alloc (.cells #[.int .i64 5, .int .i64 mino, .int .i64 mdir, .int .i64 mdst, .int .i64 mpage, .int .i64 msize, .string mname, .string mother, .slice mA mdata.length mcp] 50))) := (below_of_grown (World.grownBy_alloc w24 _ none))
                have hcv : Cells (w24.alloc (.cells #[.int .i64 5, .int .i64 mino, .int .i64 mdir, .int .i64 mdst, .int .i64 mpage, .int .i64 msize, .string mname, .string mother, .slice mA mdata.length mcp] 50)) w24.heap.size 50 #[.int .i64 5, .int .i64 mino, .int .i64 mdir, .int .i64 mdst, .int .i64 mpage, .int .i64 msize, .string mname, .string mother, .slice mA mdata.length mcp] := Cells.new _ _ _
                have z0 := C24.out.cell 0; have z1 := C24.out.cell 1; have z2 := C24.out.cell 2; have z3 := C24.out.cell 3; have z4 := C24.out.cell 4; have z5 := C24.out.cell 5; have z6 := C24.out.cell 6; have z7 := C24.out.cell 7; have z8 := C24.out.cell 8
                simp only [List.getElem?_toArray, List.getElem?_cons_succ, List.getElem?_cons_zero] at z0 z1 z2 z3 z4 z5 z6 z7 z8
                obtain ⟨wv, hwve⟩ : ∃ wv, w24.alloc (.cells #[.int .i64 5, .int .i64 mino, .int .i64 mdir, .int .i64 mdst, .int .i64 mpage, .int .i64 msize, .string mname, .string mother, .slice mA mdata.length mcp] 50) = wv := ⟨_, rfl⟩
                rw [hwve] at hwv hcv
                have HWV := Lib.hid hwve; have BV := Lib.hid hwv; have CV := Lib.hid hcv; have C17V := Lib.hid (C24.out.below' hwv)
                have HNV := Lib.hid (show wv.heap.size = w24.heap.size + 1 by rw [← hwve]; simp)
                clear hwv hcv hwve
                go_wp2
                rw [HWV.out]
                clear z0 z1 z2 z3 z4 z5 z6 z7 z8
                have z0 := C17V.out.cell 0; have z1 := C17V.out.cell 1; have z2 := C17V.out.cell 2; have z3 := C17V.out.cell 3; have z4 := C17V.out.cell 4; have z5 := C17V.out.cell 5; have z6 := C17V.out.cell 6; have z7 := C17V.out.cell 7; have z8 := C17V.out.cell 8
                simp only [List.getElem?_toArray, List.getElem?_cons_succ, List.getElem?_cons_zero] at z0 z1 z2 z3 z4 z5 z6 z7 z8
                have u0 := CV.out.cell 0; have u1 := CV.out.cell 1; have u2 := CV.out.cell 2; have u3 := CV.out.cell 3; have u4 := CV.out.cell 4; have u5 := CV.out.cell 5; have u6 := CV.out.cell 6; have u7 := CV.out.cell 7; have u8 := CV.out.cell 8
                simp only [List.getElem?_toArray, List.getElem?_cons_succ, List.getElem?_cons_zero] at u0 u1 u2 u3 u4 u5 u6 u7 u8
                have f2 := CV.out.free 2
                have f3 := CV.out.free 3
                have f6 := CV.out.free 6
                have f7 := CV.out.free 7
                have b0 : Below w24.heap.size wv wv.drew := below_drewN (Below.refl _ _) 1
                have hlt17 : wE.heap.size < w24.heap.size := C24.out.lt
                have HLT17 := Lib.hid hlt17
                have S9 := Lib.hid (fun (wx : World) (hb : Below w24.heap.size wv wx) => show wx.cell? ⟨wE.heap.size, 3, none⟩ = some (.int .i64 mdst) ∧ wx.cell? ⟨wE.heap.size, 7, none⟩ = some (.string mother) ∧ wx.cell? ⟨wE.heap.size, 2, none⟩ = some (.int .i64 mdir) ∧ wx.cell? ⟨wE.heap.size, 6, none⟩ = some (.string mname) from ⟨(C17V.out.below hb HLT17.out).cell 3, (C17V.out.below hb HLT17.out).cell 7, (C17V.out.below hb HLT17.out).cell 2, (C17V.out.below hb HLT17.out).cell 6⟩)
                clear hlt17
                have d1 := (Below.refl w24.heap.size wv).setCell (p := ⟨w24.heap.size, 2, none⟩) (Nat.le_refl _) (.int .i64 mdst)
                have d2 := d1.setCell (p := ⟨w24.heap.size, 6, none⟩) (Nat.le_refl _) (.string mother)
                have d3 := d2.setCell (p := ⟨w24.heap.size, 3, none⟩) (Nat.le_refl _) (.int .i64 mdir)
                have d4 := d3.setCell (p := ⟨w24.heap.size, 7, none⟩) (Nat.le_refl _) (.string mname)
                go_region_held3 (fun wx => wx.cell? ⟨wE.heap.size, 3, none⟩ = some (.int .i64 mdst) ∧ wx.cell? ⟨wE.heap.size, 7, none⟩ = some (.string mother) ∧ wx.cell? ⟨wE.heap.size, 2, none⟩ = some (.int .i64 mdir) ∧ wx.cell? ⟨wE.heap.size, 6, none⟩ = some (.string mname))
                  (first | exact S9.out _ b0 | exact S9.out _ d1.drew | exact S9.out _ d2.drew | exact S9.out _ d3.drew | exact S9.out _ d4.drew)
                  (fail)
                all_goals
                  have hc28 : Cells ((((wv.setCell ⟨w24.heap.size, 2, none⟩ (.int .i64 mdst)).setCell ⟨w24.heap.size, 6, none⟩ (.string mother)).setCell ⟨w24.heap.size, 3, none⟩ (.int .i64 mdir)).setCell ⟨w24.heap.size, 7, none⟩ (.string mname)).drew w24.heap.size 50 #[.int .i64 5, .int .i64 mino, .int .i64 mdst, .int .i64 mdir, .int .i64 mpage, .int .i64 msize, .string mother, .string mname, .slice mA mdata.length mcp] := (((((show Cells wv w24.heap.size 50 #[.int .i64 5, .int .i64 mino, .int .i64 mdir, .int .i64 mdst, .int .i64 mpage, .int .i64 msize, .string mname, .string mother, .slice mA mdata.length mcp] from CV.out).set 2 (.int .i64 mdst)).set 6 (.string mother)).set 3 (.int .i64 mdir)).set 7 (.string mname))
                  have hb28 : Below w24.heap.size wv ((((wv.setCell ⟨w24.heap.size, 2, none⟩ (.int .i64 mdst)).setCell ⟨w24.heap.size, 6, none⟩ (.string mother)).setCell ⟨w24.heap.size, 3, none⟩ (.int .i64 mdir)).setCell ⟨w24.heap.size, 7, none⟩ (.string mname)).drew := ((((Below.refl w24.heap.size wv).setCell (p := ⟨w24.heap.size, 2, none⟩) (Nat.le_refl _) _).setCell (p := ⟨w24.heap.size, 6, none⟩) (Nat.le_refl _) _).setCell (p := ⟨w24.heap.size, 3, none⟩) (Nat.le_refl _) _).setCell (p := ⟨w24.heap.size, 7, none⟩) (Nat.le_refl _) _ |>.drew
                  have hb24 : Below w24.heap.size w24 ((((wv.setCell ⟨w24.heap.size, 2, none⟩ (.int .i64 mdst)).setCell ⟨w24.heap.size, 6, none⟩ (.string mother)).setCell ⟨w24.heap.size, 3, none⟩ (.int .i64 mdir)).setCell ⟨w24.heap.size, 7, none⟩ (.string mname)).drew := BV.out.trans hb28
                  have r0 := hc28.cell 0; have r1 := hc28.cell 1; have r2 := hc28.cell 2; have r3 := hc28.cell 3; have r4 := hc28.cell 4; have r5 := hc28.cell 5; have r6 := hc28.cell 6; have r7 := hc28.cell 7; have r8 := hc28.cell 8
                  simp only [List.getElem?_toArray, List.getElem?_cons_succ, List.getElem?_cons_zero] at r0 r1 r2 r3 r4 r5 r6 r7 r8
                  obtain ⟨w28, hw28⟩ : ∃ w28, ((((wv.setCell ⟨w24.heap.size, 2, none⟩ (.int .i64 mdst)).setCell ⟨w24.heap.size, 6, none⟩ (.string mother)).setCell ⟨w24.heap.size, 3, none⟩ (.int .i64 mdir)).setCell ⟨w24.heap.size, 7, none⟩ (.string mname)).drew = w28 := ⟨_, rfl⟩
                  rw [hw28] at hb24
                  have HW28 := Lib.hid hw28; have P28 := Lib.hid (P24H.out.below hb24); have X28 := Lib.hid (X24.out.below hb24); have B28 := Lib.hid (B24.out.trans (hb24.mono B24.out.size))
                  have hiv4 := IV.out.next ⟨5, mino, mdir, mdst, mpage, msize, mname, mother, mA, mcp, mdata⟩ 0
                  have hnm4 := NM.out.next ⟨5, mino, mdir, mdst, mpage, msize, mname, mother, mA, mcp, mdata⟩ i64R_0
                  have KA := Lib.hid (pApply P28.out (hiv4.fit hnm4 (by have := HNN.out; omega)) (by have := HM.out; omega) ⟨5, mino, mdst, mdir, mpage, msize, mother, mname, mA, mcp, mdata⟩ ((ok_back ((HMV.out.below (B4.out.trans (B28.out.mono B4.out.size)))) (k := 5) (by unfold i64R; omega)).more (Nat.le_trans B4.out.size B28.out.size)) ⟨HFM.out.1, HFM.out.2.2, HFM.out.2.1⟩ 0)
                  unfold Eff.val SPtr at KA
                  dsimp only at KA
                  clear d1 d2 d3 d4 hc28 hb28 hb24 hw28 hiv4 hnm4 S9 b0 f2 f3 f6 f7 z0 u0 z1 u1 z2 u2 z3 u3 z4 u4 z5 u5 z6 u6 z7 u7 z8 u8
                  go_wp2_with fail
                  rw [HW28.out]
                  refine (KA.out).mono ?_
                  rintro e' w30 ⟨A30, c30, l30, rfl, P30, t30⟩
                  rw [HE4.out]
                  rw [HN4.out] at P30
                  have X30 := X28.out.far P28.out t30
                  have B30 := Lib.hid (B28.out.trans (t30.two_below (B := w4.heap.size) B28.out.size P28.out.lo P28.out.lob))
                  have KL := Lib.hid (alike_any P30 IV.out.asc HSM.out HSL.out (by have := HM.out; omega) X30)
                  unfold SPtr at KL
                  clear P30 t30 X30 KA r0 r1 r2 r3 r4 r5 r6 r7 r8
                  go_wp2_with fail
                  refine (KL.out).mono ?_
                  rintro e' w31 ⟨rfl, hb31⟩
                  have B31 := Lib.hid (B30.out.trans (hb31.mono B30.out.size))
                  clear hb31 KL
                  go_wp2
                  go_ret
                  exact ⟨rfl, B4.out.trans (B31.out.mono B4.out.size)⟩
end Go.Proofs.YtamndllolppmoaaGreatDoor
