import Derived.Test.YtcdpmifgjaongaaGreatDoorStCo
import Derived.Test.YtcdpmifgjaongaaGreatDoorStRp
import Derived.Test.YtcdpmifgjaongaaGreatDoorStNe
import Derived.Test.YtcdpmifgjaongaaGreatDoorStLa
/-! The law StateRight. -/
namespace Go.Proofs.YtcdpmifgjaongaaGreatDoor
open Wd Ino Sm U Go.RowKit Go.ChangeShapes Go.WideShapes Go.Shelf Go.Sort
set_option linter.unusedVariables false
set_option maxRecDepth 100000
theorem one_dds {d : Dd} (w : World) {B : Nat} (h : d.Ok (w.alloc (.cells d.vals.toArray 52)) B) (hB : B ≤ w.heap.size + 1) : Dds (w.alloc (.cells d.vals.toArray 52)) (w.alloc (.cells d.vals.toArray 52)).heap.size (some ⟨w.heap.size, 0, none⟩) [d] := ⟨fun _ => ⟨w.heap.size, 0, rfl, by simp, fun j d' hd k x hx => by
  have hj : j = 0 := by have := (List.getElem?_eq_some_iff.1 hd).1; rw [List.length_singleton] at this; omega
  subst hj
  rw [List.getElem?_cons_zero] at hd
  injection hd with hd
  subst hd
  have := (Cells.new w 52 d.vals.toArray).cell k
  rw [show (0 : Nat) + (0 * 10 + k) = k by omega, this, List.getElem?_toArray, hx]⟩, fun d' hd => by rw [List.mem_singleton.1 hd]; exact h.more (by simpa using hB)⟩
/-- the state behind the first k deeds, the n-th with the ref n -/
def runI (l : List Dd) : Nat → Stt
  | 0 => newStt
  | k + 1 => match l[k]? with
    | some d => nextS (runI l k) d.e ((k : Int) + 1)
    | none => runI l k
theorem runI_at {l : List Dd} {k : Nat} {d : Dd} (h : l[k]? = some d) : runI l (k + 1) = nextS (runI l k) d.e ((k : Int) + 1) := by
  show (match l[k]? with | some d => nextS (runI l k) d.e ((k : Int) + 1) | none => runI l k) = _
  rw [h]
theorem Inv.runI (l : List Dd) : ∀ k, Inv (runI l k)
  | 0 => Inv.new
  | k + 1 => by
    cases h : l[k]? with
    | none => show Inv (match l[k]? with | some d => nextS (Go.Proofs.YtcdpmifgjaongaaGreatDoor.runI l k) d.e ((k : Int) + 1) | none => Go.Proofs.YtcdpmifgjaongaaGreatDoor.runI l k); rw [h]; exact Inv.runI l k
    | some d => rw [runI_at h]; exact (Inv.runI l k).next _ _
theorem Num.runI {l : List Dd} : ∀ k, k ≤ l.length → k ≤ 1000 → Num k (runI l k)
  | 0, _, _ => Num.new
  | k + 1, hk, h1 => by
    obtain ⟨d, hd⟩ : ∃ d, l[k]? = some d := ⟨_, List.getElem?_eq_getElem (by omega)⟩
    rw [runI_at hd]
    exact (Num.runI (l := l) k (by omega) (by omega)).next _ (by unfold i64R; omega)
theorem OneRef.runI {l : List Dd} : ∀ k, k ≤ l.length → OneRef (k : Int) (runI l k).l
  | 0, _ => OneRef.new
  | k + 1, hk => by
    obtain ⟨d, hd⟩ : ∃ d, l[k]? = some d := ⟨_, List.getElem?_eq_getElem (by omega)⟩
    rw [runI_at hd]
    exact (OneRef.runI (l := l) k (by omega)).next (Inv.runI l k) _ (by omega)
def RgRel (w : World) (l : List Dd) (g b : Nat) (i : Value) (wr : World) : Prop := ∃ k : Nat, k ≤ l.length ∧ i = .int .i64 k ∧ PSt wr w.heap.size (1 + 8 * k) g b (runI l k) ∧ Below w.heap.size w wr
theorem retM {F : Fence} {n : Nat} {P : Program} {fn : Func} {R : Ending → World → Prop} {t : Tmp} {a : Act} {w : World} (hres : fn.results = #[.tmp t]) (hd : a.defers = []) (h : R (.returned (a.tmps.getD t undef)) w) : bodyPostM F n P fn R .ret a w := by
  show LeavesInM F n P fn a.tmps R a.defers .returning w
  rw [hd]
  exact ⟨_, results_tmp hres _ _ _, h⟩
def RightIn (w : World) (A : Option Addr) (c : Nat) (l : List Dd) (d : Dd) : Prop := Calls Tryz.prog 4 #[.slice A l.length c, d.val] w (TrueB w)
set_option maxHeartbeats 16000000 in
theorem right_law {w : World} {A : Option Addr} {c : Nat} {l : List Dd} (h : Dds w w.heap.size A l) (hsz : l.length * 112 ≤ 140737488351232) (hM : MaxW w) (d : Dd) (hd : d.Ok w w.heap.size) : Calls Tryz.prog 4 #[.slice A l.length c, d.val] w (TrueB w) := by
  have hfol : Tryz.prog.follows .mixedOrders = true := by kernel_rfl
  have hb0 : Below w.heap.size w (w.alloc (.cells d.vals.toArray 52)) := below_of_grown (World.grownBy_alloc w _ none)
  have hc0 : Cells (w.alloc (.cells d.vals.toArray 52)) w.heap.size 52 d.vals.toArray := Cells.new _ _ _
  have KA := Lib.hid (stAwake_true _ (hM.below hb0 hM.lt))
  have HD := Lib.hid h; have HSZ := Lib.hid hsz; have HMW := Lib.hid hM; have HDD := Lib.hid hd; have B0 := Lib.hid hb0; have C0 := Lib.hid hc0
  have KF2 := Lib.hid (fun wx (hb : Below w.heap.size w wx) => few_law (c := 1) (l := [d]) (one_dds (d := d) wx (B := w.heap.size) (hd.below (hb.trans ((below_of_grown (World.grownBy_alloc wx _ none)).mono hb.size))) (by have := hb.size; omega)) (by show 1 * 112 ≤ 140737488351232; omega))
  have HDF := Lib.hid (show fewD [d] = true → d.e.few from fun hf => (fewD_iff.1 hf).1 d (List.mem_singleton.2 rfl))
  obtain ⟨⟨kind, ino, dir, dst, page, size, name, other, Ae, cp, data⟩, ref⟩ := d
  obtain ⟨F1, hF1⟩ : ∃ F, fewD l = F := ⟨_, rfl⟩
  obtain ⟨F2, hF2⟩ : ∃ F, fewD [(⟨⟨kind, ino, dir, dst, page, size, name, other, Ae, cp, data⟩, ref⟩ : Dd)] = F := ⟨_, rfl⟩
  have HF1 := Lib.hid hF1; have HF2 := Lib.hid hF2
  unfold Dd.val
  unfold Dd.vals Eff.vals at *
  dsimp only [List.append_eq, List.cons_append, List.nil_append] at *
  clear h hsz hM hd hb0 hc0 hF1 hF2
  refine (callsIn_wide (n := 3)).1 (callsIn_of_wp_marks Tryz.func4 rfl trivial ?_ rfl)
  refine wpIn_wide.2 ?_
  simp only [Tryz.ntmps4, List.size_toArray, List.length_cons, List.length_nil, Nat.reduceAdd, Nat.reduceSub, Array.replicate_succ, Array.replicate_zero, List.push_toArray, List.append_toArray, List.nil_append, List.cons_append]
  go_wp2_with fail
  refine (KA.out).mono ?_
  rintro e w1 ⟨rfl, hb1⟩
  have B1 := Lib.hid (B0.out.trans (hb1.mono B0.out.size))
  have C1 := Lib.hid (C0.out.below' hb1)
  have KF := Lib.hid (few_law (c := c) ((HD.out.below B1.out).more B1.out.size) HSZ.out)
  clear hb1 KA
  go_wp2_with fail
  refine (KF.out).mono ?_
  rintro e w2 ⟨rfl, hb2⟩
  have B2 := Lib.hid (B1.out.trans (hb2.mono B1.out.size))
  have C2 := Lib.hid (C1.out.below' hb2)
  clear hb2 KF
  rw [HF1.out]
  cases F1 with
  | false =>
    go_wp2
    try simp only [Exit.inBlock, Exit.then]
    exact retM rfl rfl ⟨rfl, B2.out⟩
  | true =>
  have z0 := C2.out.cell 0; have z1 := C2.out.cell 1; have z2 := C2.out.cell 2; have z3 := C2.out.cell 3; have z4 := C2.out.cell 4; have z5 := C2.out.cell 5; have z6 := C2.out.cell 6; have z7 := C2.out.cell 7; have z8 := C2.out.cell 8; have z9 := C2.out.cell 9
  simp only [List.getElem?_toArray, List.getElem?_cons_succ, List.getElem?_cons_zero] at z0 z1 z2 z3 z4 z5 z6 z7 z8 z9
  have KF := Lib.hid (KF2.out w2 B2.out)
  have b3 := below_of_grown (World.grownBy_alloc w2 (.cells #[.int .i64 kind, .int .i64 ino, .int .i64 dir, .int .i64 dst, .int .i64 page, .int .i64 size, .string name, .string other, .slice Ae data.length cp, .int .i64 ref] 52) none)
  have B23 := Lib.hid b3
  have B3 := Lib.hid (B2.out.trans (b3.mono B2.out.size))
  clear b3 KF2
  go_wp2_with fail
  refine (KF.out).mono ?_
  rintro e w4 ⟨rfl, hb4⟩
  have B4 := Lib.hid (B3.out.trans (hb4.mono B3.out.size))
  have C4 := Lib.hid ((C2.out.below' B23.out).below' hb4)
  clear hb4 KF z0 z1 z2 z3 z4 z5 z6 z7 z8 z9
  have KP := Lib.hid (pNew w4)
  rw [HF2.out]
  cases F2 with
  | false =>
    go_wp2
    try simp only [Exit.inBlock, Exit.then]
    exact retM rfl rfl ⟨rfl, B4.out⟩
  | true =>
  go_wp2_with fail
  refine (KP.out).mono ?_
  rintro e w5 ⟨g, b, rfl, hb5, P5⟩
  have B45 := Lib.hid hb5
  have B5 := Lib.hid (B4.out.trans (hb5.mono B4.out.size))
  have P5H := Lib.hid P5
  have hfl := fewD_iff.1 HF1.out
  have HF := Lib.hid hfl.1; have HL := Lib.hid hfl.2
  clear hb5 P5 KP hfl
  unfold SPtr
  go_wp2
  go_loopw [33] (fun i wr => RgRel w4 l g b i wr) (fun i _ => l.length - (intOf i).toNat)
  case atStart => exact ⟨0, Nat.zero_le _, rfl, P5H.out, B45.out⟩
  case round =>
    obtain ⟨k, hk, rfl, T, hb⟩ := hrel
    have hbw : Below w.heap.size w wr := B4.out.trans (hb.mono B4.out.size)
    by_cases hlt : k < l.length
    · obtain ⟨d, hd⟩ : ∃ d, l[k]? = some d := ⟨_, List.getElem?_eq_getElem hlt⟩
      have hD := HD.out.below hbw
      obtain ⟨bb, off, rfl, hbB, x0, x1, x2, x3, x4, x5, x6, x7, x8, x9⟩ := dds_cells hD hd
      have hkl : (k : Int) < (l.length : Int) := by omega
      have hdm := List.mem_of_getElem? hd
      have hk30 : k ≤ 30 := Nat.le_trans hk HL.out
      have hiv := Inv.runI l k
      have hnm := Num.runI (l := l) k hk (by omega)
      have hok := (hD.ok d hdm).e
      have hfe := HF.out d hdm
      have hsn := runI_at hd
      have hiv2 := Inv.runI l (k + 1)
      have hnm2 := Num.runI (l := l) (k + 1) hlt (by omega)
      have hone := (OneRef.runI (l := l) (k + 1) hlt).nodup
      obtain ⟨⟨kind', ino', dir', dst', page', size', name', other', Ae', cp', data'⟩, ref'⟩ := d
      dsimp only at x0 x1 x2 x3 x4 x5 x6 x7 x8 x9 hok hfe hsn
      obtain ⟨S, hS⟩ : ∃ S, runI l k = S := ⟨_, rfl⟩
      rw [hS] at T hiv hnm hsn
      obtain ⟨w6, hw6⟩ : ∃ w6, wr.alloc (.cells #[.int .i64 kind', .int .i64 ino', .int .i64 dir', .int .i64 dst', .int .i64 page', .int .i64 size', .string name', .string other', .slice Ae' data'.length cp', .int .i64 ref'] 52) = w6 := ⟨_, rfl⟩
      have hb6 : Below wr.heap.size wr w6 := by rw [← hw6]; exact below_of_grown (World.grownBy_alloc wr _ none)
      have hc6 : Cells w6 wr.heap.size 52 #[.int .i64 kind', .int .i64 ino', .int .i64 dir', .int .i64 dst', .int .i64 page', .int .i64 size', .string name', .string other', .slice Ae' data'.length cp', .int .i64 ref'] := by rw [← hw6]; exact Cells.new _ _ _
      have z0 := hc6.cell 0; have z1 := hc6.cell 1; have z2 := hc6.cell 2; have z3 := hc6.cell 3; have z4 := hc6.cell 4; have z5 := hc6.cell 5; have z6 := hc6.cell 6; have z7 := hc6.cell 7; have z8 := hc6.cell 8; have z9 := hc6.cell 9
      simp only [List.getElem?_toArray, List.getElem?_cons_succ, List.getElem?_cons_zero] at z0 z1 z2 z3 z4 z5 z6 z7 z8 z9
      have T6 := T.below hb6
      have hok6 : Eff.Ok ⟨kind', ino', dir', dst', page', size', name', other', Ae', cp', data'⟩ w6 w.heap.size := hok.below (hb6.mono hbw.size)
      have HB6 := Lib.hid (hb.trans (hb6.mono hb.size))
      have hq1 : wrap64 ((k : Int) + 1) = (k : Int) + 1 := by unfold wrap64; omega
      have KA := Lib.hid (pApply T6 (hiv.fit hnm (by omega)) (by omega) ⟨kind', ino', dir', dst', page', size', name', other', Ae', cp', data'⟩ (hok6.more (Nat.le_trans hbw.size hb6.size)) hfe ((k : Int) + 1))
      have T6H := Lib.hid T6; have HSN := Lib.hid hsn; have HKL := Lib.hid hlt
      have KR := Lib.hid (fun wx (x : PSt wx w4.heap.size (1 + 8 * k + 8) g b (runI l (k + 1))) => pRight x hiv2 hnm2 (by omega) (by omega) hone)
      unfold Eff.val SPtr at KA
      unfold SPtr at KR
      dsimp only at KA KR
      clear T6 hb6 hc6 hok6 hok hfe hsn hS hiv hnm hiv2 hnm2 hone hd hdm T hb hbB hD
      go_wp2_with fail
      refine (KA.out).mono ?_
      rintro e' w7 ⟨A4, c4, l4, rfl, P7, t7⟩
      rw [← HSN.out] at P7
      have B7 := Lib.hid (HB6.out.trans (t7.below (B := w4.heap.size) HB6.out.size (fun x hx => by
        rcases List.mem_cons.1 hx with rfl | hx
        · exact T6H.out.lo
        · rw [List.mem_singleton.1 hx]; exact T6H.out.lob)))
      have KR2 := Lib.hid (KR.out w7 P7)
      have P7H := Lib.hid P7
      clear P7 t7 KA KR z0 z1 z2 z3 z4 z5 z6 z7 z8 z9 x0 x1 x2 x3 x4 x5 x6 x7 x8 x9
      go_wp2_with fail
      refine (KR2.out).mono ?_
      rintro e' w8 ⟨rfl, hb8⟩
      have P8 := Lib.hid (P7H.out.below hb8)
      have B8 := Lib.hid (B7.out.trans (hb8.mono B7.out.size))
      clear hb8 KR2
      go_wp2
      go_roundw
      case rel => exact ⟨k + 1, HKL.out, by go_num, P8.out.more (by omega), B8.out⟩
      case measure => simp [intOf]; have := HKL.out; omega
    · obtain rfl : k = l.length := by omega
      have P6 := Lib.hid T; have HB := Lib.hid hb
      have B6 := Lib.hid hbw
      have C6 := Lib.hid (C4.out.below' (hb.mono (Nat.le_refl _)))
      have hiv := Inv.runI l l.length
      have hnm := Num.runI (l := l) l.length (Nat.le_refl _) (by have := HL.out; omega)
      have hone := OneRef.runI (l := l) l.length (Nat.le_refl _)
      obtain ⟨S, hS⟩ : ∃ S, runI l l.length = S := ⟨_, rfl⟩
      rw [hS] at hiv hnm hone P6
      have IV := Lib.hid hiv; have NM := Lib.hid hnm; have ONE := Lib.hid hone.nodup
      have KC := Lib.hid (pCopy P6.out)
      obtain ⟨m, hm⟩ : ∃ m, 1 + 8 * l.length = m := ⟨_, rfl⟩
      have HM := Lib.hid (show m ≤ 1000 by have := HL.out; omega)
      rw [hm] at KC P6
      unfold SPtr at KC
      clear T hb hbw hiv hnm hone hS hm hk hlt
      go_wp2_with fail
      refine (KC.out).mono ?_
      rintro e w7 ⟨g2, b2, rfl, hp7, hg7, hb7, hB7⟩
      have hbase : w4.heap.size ≤ w7.heap.size := Nat.le_trans HB.out.size hB7.size
      have P7 := Lib.hid (P6.out.below hB7); have Q7 := Lib.hid hp7
      have B7 := Lib.hid (HB.out.trans (hB7.mono HB.out.size))
      have C7 := Lib.hid (C6.out.below' hB7)
      have HNE := Lib.hid (show g2 ≠ g ∧ b2 ≠ b by have h1 := P6.out.cells.lt; have h2 := P6.out.blt; exact ⟨by omega, by omega⟩)
      have hs := IV.out.smN NM.out (by have := HL.out; omega)
      have HSM := Lib.hid hs
      have KW := Lib.hid (fun wx (hx : PSt wx w4.heap.size m g2 b2 S) => (callsIn_wide (n := 3)).1 (pWords_in 3 (Nat.le_refl _) hx IV.out.asc hs (by have := NM.out.len; have := HL.out; omega) (by have := HM.out; omega)))
      have KW7 := Lib.hid (KW.out _ hp7)
      unfold SPtr at KW KW7
      clear hp7 hg7 hb7 hB7 KC hs
      unfold SPtr
      go_wp2_with fail
      refine (KW7.out).mono ?_
      rintro e w8 ⟨rfl, hb8⟩
      have P8 := Lib.hid (P7.out.below hb8); have Q8 := Lib.hid (Q7.out.below hb8)
      have B8 := Lib.hid (B7.out.trans (hb8.mono B7.out.size))
      have C8 := Lib.hid (C7.out.below' hb8)
      have KL := Lib.hid (pLast Q8.out)
      unfold SPtr at KL
      clear hb8 KW7
      go_wp2_with fail
      refine (KL.out).mono ?_
      rintro e w9 ⟨rfl, hw9⟩
      have hb9 := grown_b hw9
      have P9 := Lib.hid (P8.out.below hb9); have Q9 := Lib.hid (Q8.out.below hb9)
      have B9 := Lib.hid (B8.out.trans (hb9.mono B8.out.size))
      have C9 := Lib.hid (C8.out.below' hb9)
      have KA := Lib.hid (pApply P9.out (IV.out.fit NM.out (by have := HL.out; omega)) (by have := HM.out; omega) ⟨kind, ino, dir, dst, page, size, name, other, Ae, cp, data⟩ ((HDD.out.e.below (B4.out.trans (B9.out.mono B4.out.size))).more (Nat.le_trans B4.out.size B9.out.size)) (HDF.out HF2.out) 99)
      unfold Eff.val SPtr at KA
      dsimp only at KA
      have z0 := C9.out.cell 0; have z1 := C9.out.cell 1; have z2 := C9.out.cell 2; have z3 := C9.out.cell 3; have z4 := C9.out.cell 4; have z5 := C9.out.cell 5; have z6 := C9.out.cell 6; have z7 := C9.out.cell 7; have z8 := C9.out.cell 8; have z9 := C9.out.cell 9
      simp only [List.getElem?_toArray, List.getElem?_cons_succ, List.getElem?_cons_zero] at z0 z1 z2 z3 z4 z5 z6 z7 z8 z9
      clear hw9 hb9 KL
      go_wp2_with fail
      refine (KA.out).mono ?_
      rintro e' w10 ⟨A4, c4, l4, rfl, P10, t10⟩
      have Q10 := Lib.hid (Q9.out.apart P9.out t10 HNE.out.1 HNE.out.2)
      have C10 := Lib.hid (P9.out.keepC t10 _ _ _ (by decide) C9.out)
      have B10 := Lib.hid (B9.out.trans (t10.below (B := w4.heap.size) B9.out.size (fun x hx => by
        rcases List.mem_cons.1 hx with rfl | hx
        · exact P9.out.lo
        · rw [List.mem_singleton.1 hx]; exact P9.out.lob)))
      clear t10 P10 KA z0 z1 z2 z3 z4 z5 z6 z7 z8 z9
      have z0 := C10.out.cell 0; have z1 := C10.out.cell 1; have z2 := C10.out.cell 2; have z3 := C10.out.cell 3; have z4 := C10.out.cell 4; have z5 := C10.out.cell 5; have z6 := C10.out.cell 6; have z7 := C10.out.cell 7; have z8 := C10.out.cell 8; have z9 := C10.out.cell 9
      simp only [List.getElem?_toArray, List.getElem?_cons_succ, List.getElem?_cons_zero] at z0 z1 z2 z3 z4 z5 z6 z7 z8 z9
      have KN1 := Lib.hid (nApply w10 ⟨kind, ino, dir, dst, page, size, name, other, Ae, cp, data⟩ 1)
      unfold Eff.val nilS at KN1
      dsimp only at KN1
      go_wp2_with fail
      refine (KN1.out).mono ?_
      rintro e' w11 ⟨rfl, hb11⟩
      have Q11 := Lib.hid (Q10.out.below hb11)
      have B11 := Lib.hid (B10.out.trans (hb11.mono B10.out.size))
      clear hb11 KN1 z0 z1 z2 z3 z4 z5 z6 z7 z8 z9
      have KN2 := Lib.hid (nFind w11 ⟨#[47]⟩)
      unfold nilS at KN2
      go_wp2_with fail
      refine (KN2.out).mono ?_
      rintro e' w12 ⟨rfl, hb12⟩
      have Q12 := Lib.hid (Q11.out.below hb12)
      have B12 := Lib.hid (B11.out.trans (hb12.mono B11.out.size))
      clear hb12 KN2
      have KN3 := Lib.hid (nGet w12 1)
      unfold nilS zeroNdd Nd.val at KN3
      go_wp2_with fail
      refine (KN3.out).mono ?_
      rintro e' w13 ⟨rfl, hb13⟩
      have Q13 := Lib.hid (Q12.out.below hb13)
      have B13 := Lib.hid (B12.out.trans (hb13.mono B12.out.size))
      clear hb13 KN3
      have hb14 : Below w13.heap.size w13 ((w13.alloc (.cells #[.int .i64 0, .int .i64 0, .int .i64 0, .int .i64 0, .int .i64 0, .slice none 0 0, .slice none 0 0] 38)).alloc (.cells #[.int .i64 0] 3)) := (below_of_grown (World.grownBy_alloc w13 _ none)).alloc (by simp) _
      have hk14 : Cells ((w13.alloc (.cells #[.int .i64 0, .int .i64 0, .int .i64 0, .int .i64 0, .int .i64 0, .slice none 0 0, .slice none 0 0] 38)).alloc (.cells #[.int .i64 0] 3)) (w13.heap.size + 1) 3 #[.int .i64 0] := by
        have := Cells.new (w13.alloc (.cells #[.int .i64 0, .int .i64 0, .int .i64 0, .int .i64 0, .int .i64 0, .slice none 0 0, .slice none 0 0] 38)) 3 #[.int .i64 0]
        simpa using this
      have Q14 := Lib.hid (Q13.out.below hb14)
      have B14 := Lib.hid (B13.out.trans (hb14.mono B13.out.size))
      have K14 := Lib.hid hk14
      have KN4 := Lib.hid (nNodes ((w13.alloc (.cells #[.int .i64 0, .int .i64 0, .int .i64 0, .int .i64 0, .int .i64 0, .slice none 0 0, .slice none 0 0] 38)).alloc (.cells #[.int .i64 0] 3)))
      unfold nilS at KN4
      clear hb14 hk14
      go_wp2_with fail
      refine (KN4.out).mono ?_
      rintro e' w15 ⟨rfl, hb15⟩
      have Q15 := Lib.hid (Q14.out.below hb15)
      have B15 := Lib.hid (B14.out.trans (hb15.mono B14.out.size))
      have K15 := Lib.hid (K14.out.below' hb15)
      clear hb15 KN4 Q14 B14 K14
      go_wp2
      refine (wpIn_wide (n := 3)).1 ?_
      refine wp_none (Nat.le_refl _) rfl rfl ?_
      intro D W16 hD hb16 hdf
      refine (?_ : Exit.inBlock 2 _ _ _ _)
      have Q16 := Lib.hid (Q15.out.below hb16)
      have B16 := Lib.hid (B15.out.trans (hb16.mono B15.out.size))
      have K16 := Lib.hid (K15.out.below' hb16)
      have HDF2 := Lib.hid hdf
      have HDL := Lib.hid hD
      clear hb16 hdf hD
      simp only [Exit.inBlock]
      have hDl : D < W16.heap.size := by
        have := HDF2.out
        rcases Nat.lt_or_ge D W16.heap.size with h | h
        · exact h
        · rw [Array.getElem?_eq_none h] at this; cases this
      have HDLT := Lib.hid hDl
      have b0 : Below W16.heap.size W16 W16.drew := below_drewN (Below.refl _ _) 1
      have S9 := Lib.hid (fun (wx : World) (hb : Below W16.heap.size W16 wx) => show wx.cell? ⟨w13.heap.size + 1, 0, none⟩ = some (.int .i64 0) from (K16.out.below' hb).cell 0)
      have H1 := Lib.hid (fun (wx : World) (hb : Below W16.heap.size W16 wx) => pRight (Q16.out.below hb) IV.out NM.out (by have := HL.out; omega) (by have := HM.out; omega) ONE.out)
      have H2 := Lib.hid (fun (wx : World) (hb : Below W16.heap.size W16 wx) => KW.out wx (Q16.out.below hb))
      have H3 := Lib.hid (fun (wx : World) (hb : Below W16.heap.size W16 wx) => pLast (Q16.out.below hb))
      have H4 := Lib.hid nRight
      have H5 := Lib.hid nLast
      have H6 := Lib.hid nWords
      have H7 := Lib.hid nRefs
      have H8 := Lib.hid nOrphans
      have H9 := Lib.hid nCopy
      obtain ⟨WS, hWS⟩ : ∃ W : Int, ((wordsS S.l : Nat) : Int) = W := ⟨_, rfl⟩
      obtain ⟨LS, hLS⟩ : ∃ W : Int, S.last = W := ⟨_, rfl⟩
      rw [hWS] at H2
      rw [hLS] at H3
      have r1 : (WS == WS) = true := by simp
      have r2 : (LS == LS) = true := by simp
      unfold SPtr at H1 H3
      unfold nilS at H4 H5 H6 H7 H8 H9
      clear hDl KW
      rw [hWS, hLS]
      clear hWS hLS
      go_wp2
      go_region_held3 (fun w' => w'.cell? ⟨w13.heap.size + 1, 0, none⟩ = some (.int .i64 0))
        (first | exact S9.out _ b0 | exact S9.out _ k1 | exact S9.out _ k2 | exact S9.out _ k3 | exact S9.out _ k4 | exact S9.out _ k5 | exact S9.out _ k6 | exact S9.out _ k7 | exact S9.out _ k8 | exact S9.out _ k9)
        (first
          | (go_at_call 19; (with_reducible refine (H1.out _ b0).mono ?_); rintro e' w1' ⟨rfl, c1⟩; have k1 : Below W16.heap.size W16 w1' := b0.trans (c1.mono b0.size))
          | (go_at_call 21; (with_reducible refine (H2.out _ k1).mono ?_); rintro e' w2' ⟨rfl, c2⟩; have k2 : Below W16.heap.size W16 w2' := k1.trans (c2.mono k1.size))
          | (go_at_call 22; (with_reducible refine (H3.out _ k2).mono ?_); rintro e' w3' x3; obtain ⟨rfl, c3⟩ := x3.below; clear x3; have k3 : Below W16.heap.size W16 w3' := k2.trans (c3.mono k2.size))
          | (go_at_call 19; (with_reducible refine (H4.out _).mono ?_); rintro e' w4' ⟨rfl, c4'⟩; have k4 : Below W16.heap.size W16 w4' := k3.trans (c4'.mono k3.size))
          | (go_at_call 22; (with_reducible refine (H5.out _).mono ?_); rintro e' w5' ⟨rfl, c5⟩; have k5 : Below W16.heap.size W16 w5' := k4.trans (c5.mono k4.size))
          | (go_at_call 21; (with_reducible refine (H6.out _).mono ?_); rintro e' w6' ⟨rfl, c6⟩; have k6 : Below W16.heap.size W16 w6' := k5.trans (c6.mono k5.size))
          | (go_at_call 24; (with_reducible refine (H7.out _).mono ?_); rintro e' w7' ⟨rfl, c7⟩; have k7 : Below W16.heap.size W16 w7' := k6.trans (c7.mono k6.size))
          | (go_at_call 25; (with_reducible refine (H8.out _).mono ?_); rintro e' w8' ⟨rfl, c8⟩; have k8 : Below W16.heap.size W16 w8' := k7.trans (c8.mono k7.size))
          | (go_at_call 20; (with_reducible refine (H9.out _).mono ?_); rintro e' w9' ⟨rfl, c9⟩; have k9 : Below W16.heap.size W16 w9' := k8.trans (c9.mono k8.size)))
      all_goals
        have KE := Lib.hid k9
        clear S9 H1 H2 H3 H4 H5 H6 H7 H8 H9
        go_wp2
        have hK9 := (KE.out.block D HDLT.out).trans HDF2.out
        have hwD : w.heap.size ≤ D := Nat.le_trans (Nat.le_trans B4.out.size B15.out.size) HDL.out
        have hBE : Below w.heap.size w W16 := B4.out.trans (B16.out.mono B4.out.size)
        have hBF := hBE.trans (KE.out.mono hBE.size)
        refine ⟨by simp, .inl ⟨_, _, rfl, run_takeDeferred hK9, ?_⟩⟩
        refine ⟨.bool true, ?_, rfl, hBF.trans (belowK_b (w := w) (Nat.le_refl _) _ D _ _ hwD hK9 rfl rfl)⟩
        simp [results, Tryz.f4, go_sem]
end Go.Proofs.YtcdpmifgjaongaaGreatDoor
