import Derived.Test.YtcmgngjafnpnoaaFdAw
import Derived.Test.YtcmgngjafnpnoaaFdEq
import Derived.Deep.DeepCutAuto
/-! The law FdOpens. -/
namespace Go.Proofs.Ytcmgngjafnpnoaa
open Wd Go.RowKit Go.ChangeShapes Go.WideShapes Go.Sort
set_option linter.unusedVariables false
set_option maxRecDepth 100000
def runO (l : List Opn) : Nat → List Opn
  | 0 => noneT
  | k + 1 => match l[k]? with
    | some o => openT (runO l k) o
    | none => runO l k
theorem runO_at {l : List Opn} {k : Nat} {o : Opn} (h : l[k]? = some o) : runO l (k + 1) = openT (runO l k) o := by
  show (match l[k]? with | some o => openT (runO l k) o | none => runO l k) = _
  rw [h]
theorem runO_good (l : List Opn) : ∀ k, GoodT (runO l k)
  | 0 => GoodT.none
  | k + 1 => by
    unfold runO
    split
    · exact (runO_good l k).open_ _
    · exact runO_good l k
theorem openV_r (T : List Opn) (o : Opn) : i64R (openV T o : Nat) := by
  unfold openV
  split
  · rename_i h
    unfold openB nextB at h
    rw [Bool.and_eq_true, decide_eq_true_eq] at h
    unfold i64R; omega
  · unfold i64R; omega
theorem op_w {k : Nat} (h : k < 1000) : wrap64 ((k : Int) + 1) = (k : Int) + 1 := by unfold wrap64; omega
theorem op_w2 {k : Nat} (h : k < 1000) : IntKind.i64.wrap ((k : Int) + 1) = (k : Int) + 1 := by rw [IntKind.wrap_i64]; omega
def OpRel (F : FdFace) (w1 : World) (g q : Nat) (l : List Opn) (o : Opn) (i : Value) (wr : World) : Prop := ∃ k : Nat, k ≤ l.length ∧ i = .int .i64 k ∧ F.st wr g (runO l k) ∧ Cells wr q 27 o.cells.toArray ∧ Below w1.heap.size w1 wr
set_option maxHeartbeats 16000000 in
theorem fdOpens_law (F : FdFace) {w : World} {A : Option Addr} {c : Nat} {l : List Opn} (hl : OpRow w A l) (o : Opn) (fds : Int) (hf : i64R fds) : Calls Try.prog 4 #[.slice A l.length c, o.val, .int .i64 fds] w (TrueB w) := by
  have hb0 : Below w.heap.size w (w.alloc (.cells o.cells.toArray 27)) := below_of_grown (World.grownBy_alloc w _ none)
  have hc0 : Cells (w.alloc (.cells o.cells.toArray 27)) w.heap.size 27 o.cells.toArray := Cells.new _ _ _
  have KA := Lib.hid (fdAwake F (w.alloc (.cells o.cells.toArray 27)))
  have HE := Lib.hid (fun (a : Opn) (w : World) => eqO_any a a w)
  have HNE := Lib.hid (fun (a : Opn) (w : World) => neO_any a a w)
  obtain ⟨oi, oo, ofl⟩ := o
  unfold Opn.cells at hb0 hc0 KA
  unfold Opn.val
  dsimp only at hb0 hc0 KA ⊢
  have HB0 := Lib.hid hb0; have HC0 := Lib.hid hc0; have HL := Lib.hid hl; have HF := Lib.hid hf
  clear hb0 hc0 hl hf
  go_enter Try.func4, Try.ntmps4
  go_wp2_with fail
  refine (KA.out).mono ?_
  rintro e w1 ⟨rfl, hb1⟩
  have B1 := Lib.hid (HB0.out.trans (hb1.mono HB0.out.size))
  have C1 := Lib.hid (HC0.out.below' hb1)
  have KN := Lib.hid (F.new w1)
  clear hb1 KA
  by_cases h30 : 30 < l.length
  · have q1 : decide (30 < l.length) = true := decide_eq_true h30
    have q2 : decide ((l.length : Int) > 30) = true := decide_eq_true (by omega)
    clear h30
    go_wp2
    go_ret
    exact ⟨rfl, B1.out⟩
  have q1 : decide (30 < l.length) = false := decide_eq_false h30
  have q2 : decide ((l.length : Int) > 30) = false := decide_eq_false (by omega)
  have H30 := Lib.hid h30
  clear h30
  go_wp2_with fail
  refine (KN.out).mono ?_
  rintro e w2 ⟨g, rfl, st2, hb2, hg⟩
  have B2 := Lib.hid hb2
  have C2 := Lib.hid (C1.out.below' hb2)
  have ST2 := Lib.hid st2
  have hq : w.heap.size ≠ g := by have := C1.out.lt; omega
  clear hb2 st2 KN
  unfold fptr
  go_wp2
  go_loopw [37] (fun i wr => OpRel F w1 g w.heap.size l ⟨oi, oo, ofl⟩ i wr) (fun i _ => l.length - (intOf i).toNat)
  case atStart => exact ⟨0, Nat.zero_le _, rfl, ST2.out, C2.out, B2.out⟩
  case round =>
    obtain ⟨k, hk, rfl, st, hc, hb⟩ := hrel
    by_cases hlt : k < l.length
    · have hlt2 : (k : Int) < (l.length : Int) := Int.ofNat_lt.2 hlt
      have qw := op_w (k := k) (by have := H30.out; omega)
      have qw2 := op_w2 (k := k) (by have := H30.out; omega)
      obtain ⟨d, hd⟩ : ∃ d, l[k]? = some d := ⟨_, List.getElem?_eq_getElem hlt⟩
      obtain ⟨b, off, rfl, hbl, x0, x1, x2⟩ := opens_cells ((HL.out.below B1.out).below (hb.mono (Nat.le_refl _))) hd
      have hrun := runO_at hd
      obtain ⟨di, do_, df⟩ := d
      dsimp only at x0 x1 x2
      obtain ⟨w3, hw3⟩ : ∃ w3, wr.alloc (.cells #[.int .i64 di, .int .i64 do_, .int .i64 df] 27) = w3 := ⟨_, rfl⟩
      have hb3 : Below wr.heap.size wr w3 := by rw [← hw3]; exact below_of_grown (World.grownBy_alloc wr _ none)
      have hc3 : Cells w3 wr.heap.size 27 #[.int .i64 di, .int .i64 do_, .int .i64 df] := by rw [← hw3]; exact Cells.new _ _ _
      have z0 : w3.cell? ⟨wr.heap.size, 0, none⟩ = some (.int .i64 di) := hc3.cell 0
      have z1 : w3.cell? ⟨wr.heap.size, 1, none⟩ = some (.int .i64 do_) := hc3.cell 1
      have z2 : w3.cell? ⟨wr.heap.size, 2, none⟩ = some (.int .i64 df) := hc3.cell 2
      have KO := Lib.hid (F.open_ (FdFace.below st hb3) (runO_good l k) ⟨di, do_, df⟩)
      rw [← hrun] at KO
      unfold fptr Opn.val RetIB at KO
      dsimp only at KO
      have HC := Lib.hid (hc.below' hb3); have HB := Lib.hid (hb.trans (hb3.mono hb.size)); have HLT := Lib.hid hlt
      clear hc hb hlt st hc3 hb3 hd hrun hbl hk
      go_upto_region 9 with fail
      try rw [hw3]
      clear hw3
      go_wp2_with fail
      refine (KO.out).mono ?_
      rintro e w4 ⟨rfl, st4, s4⟩
      have ST4 := Lib.hid st4
      have C4 := Lib.hid (s4.cells HC.out hq)
      have B4 := Lib.hid (Sd.below HB.out HB.out.size s4 hg)
      clear st4 s4 KO
      go_wp2
      go_roundw
      case rel => exact ⟨k + 1, HLT.out, by go_num, ST4.out, C4.out, B4.out⟩
      case measure => simp [intOf]; have := HLT.out; omega
    · obtain rfl : k = l.length := by omega
      have gd := runO_good l l.length
      obtain ⟨T, hT⟩ : ∃ T, runO l l.length = T := ⟨_, rfl⟩
      rw [hT] at gd st
      have hgl := F.lt st
      have HC := Lib.hid hc; have HB := Lib.hid hb; have ST := Lib.hid st; have GD := Lib.hid gd
      have KG := Lib.hid (F.get st gd fds HF.out)
      clear hc hb hlt st gd hT hk
      unfold fptr RetOB at KG
      obtain ⟨⟨xi, xo, xf⟩, hX⟩ : ∃ X, getT T fds = X := ⟨_, rfl⟩
      obtain ⟨hd, hH⟩ : ∃ b, isT T fds = b := ⟨_, rfl⟩
      rw [hX, hH] at KG
      have HX := Lib.hid hX; have HH := Lib.hid hH
      unfold Opn.val at KG
      dsimp only at KG
      clear hX hH
      go_wp2_with fail
      refine (KG.out).mono ?_
      rintro e w3 ⟨rfl, hb3⟩
      obtain ⟨w4, hw4⟩ : ∃ w4, w3.alloc (.cells #[.int .i64 xi, .int .i64 xo, .int .i64 xf] 27) = w4 := ⟨_, rfl⟩
      have hb4 : Below w3.heap.size w3 w4 := by rw [← hw4]; exact below_of_grown (World.grownBy_alloc w3 _ none)
      have hc4 : Cells w4 w3.heap.size 27 #[.int .i64 xi, .int .i64 xo, .int .i64 xf] := by rw [← hw4]; exact Cells.new _ _ _
      have B4 := Lib.hid (HB.out.trans ((hb3.trans (hb4.mono hb3.size)).mono HB.out.size))
      have C4 := Lib.hid ((HC.out.below' hb3).below' hb4)
      have X4 := Lib.hid hc4
      have ST4 := Lib.hid (FdFace.below (FdFace.below ST.out hb3) hb4)
      have hgq : w3.heap.size ≠ g := by have := hb3.size; omega
      have o0 : w4.cell? ⟨w.heap.size, 0, none⟩ = some (.int .i64 oi) := C4.out.cell 0
      have o1 : w4.cell? ⟨w.heap.size, 1, none⟩ = some (.int .i64 oo) := C4.out.cell 1
      have o2 : w4.cell? ⟨w.heap.size, 2, none⟩ = some (.int .i64 ofl) := C4.out.cell 2
      have KO := Lib.hid (F.open_ ST4.out GD.out ⟨oi, oo, ofl⟩)
      unfold fptr RetIB Opn.val at KO
      dsimp only at KO
      clear hb3 hb4 hc4 KG
      go_upto_region 12 with fail
      try rw [hw4]
      clear hw4
      cases hB : openB T ⟨oi, oo, ofl⟩ with
      | true =>
        rw [hB] at KO
        obtain ⟨gi, gg, gc⟩ := open_get GD.out hB
        have gd2 := GD.out.open_ ⟨oi, oo, ofl⟩
        obtain ⟨V, hV⟩ : ∃ V, openV T ⟨oi, oo, ofl⟩ = V := ⟨_, rfl⟩
        rw [hV] at KO gi gg gc
        have hvr : i64R (V : Int) := by rw [← hV]; exact openV_r _ _
        have KG := Lib.hid (fun wx (h : F.st wx g (openT T ⟨oi, oo, ofl⟩)) => F.get h gd2 (V : Int) hvr)
        have KC := Lib.hid (fun wx (h : F.st wx g (openT T ⟨oi, oo, ofl⟩)) => F.close h gd2 (V : Int) hvr)
        rw [gi, gg] at KG KC
        rw [gc] at KC
        unfold fptr RetOB Opn.val at KG KC
        dsimp only at KG KC
        have hN := fun w => HNE.out ⟨oi, oo, ofl⟩ w
        rw [opnEq_self] at hN
        unfold Opn.val at hN
        dsimp only at hN
        clear gi gg gc gd2 hB hV hvr
        go_wp2_with fail
        refine (KO.out).mono ?_
        rintro e w5 ⟨rfl, st5, s5⟩
        have C5 := Lib.hid (s5.cells C4.out hq)
        have X5 := Lib.hid (s5.cells X4.out hgq)
        have B5 := Lib.hid (Sd.below B4.out B4.out.size s5 hg)
        have ST5 := Lib.hid st5
        have KG5 := Lib.hid (KG.out _ st5)
        clear st5 s5 KO KG o0 o1 o2
        go_wp2_with fail
        refine (KG5.out).mono ?_
        rintro e w6 ⟨rfl, hb6⟩
        obtain ⟨w7, hw7⟩ : ∃ w7, w6.alloc (.cells #[.int .i64 oi, .int .i64 oo, .int .i64 ofl] 27) = w7 := ⟨_, rfl⟩
        have hb7 : Below w6.heap.size w6 w7 := by rw [← hw7]; exact below_of_grown (World.grownBy_alloc w6 _ none)
        have hc7 : Cells w7 w6.heap.size 27 #[.int .i64 oi, .int .i64 oo, .int .i64 ofl] := by rw [← hw7]; exact Cells.new _ _ _
        have C7 := Lib.hid ((C5.out.below' hb6).below' hb7)
        have X7 := Lib.hid ((X5.out.below' hb6).below' hb7)
        have B7 := Lib.hid (B5.out.trans ((hb6.trans (hb7.mono hb6.size)).mono B5.out.size))
        have ST7 := Lib.hid (FdFace.below (FdFace.below ST5.out hb6) hb7)
        have KC7 := Lib.hid (KC.out _ ST7.out)
        have o0 : w7.cell? ⟨w.heap.size, 0, none⟩ = some (.int .i64 oi) := C7.out.cell 0
        have o1 : w7.cell? ⟨w.heap.size, 1, none⟩ = some (.int .i64 oo) := C7.out.cell 1
        have o2 : w7.cell? ⟨w.heap.size, 2, none⟩ = some (.int .i64 ofl) := C7.out.cell 2
        have p0 : w7.cell? ⟨w6.heap.size, 0, none⟩ = some (.int .i64 oi) := hc7.cell 0
        have p1 : w7.cell? ⟨w6.heap.size, 1, none⟩ = some (.int .i64 oo) := hc7.cell 1
        have p2 : w7.cell? ⟨w6.heap.size, 2, none⟩ = some (.int .i64 ofl) := hc7.cell 2
        clear hb6 hb7 hc7 KG5 KC
        go_upto_region 15 with fail
        try rw [hw7]
        clear hw7
        go_wp2_with fail
        refine (KC7.out).mono ?_
        rintro e w8 ⟨rfl, st8, s8⟩
        have C8 := s8.cells C7.out hq
        have X8 := s8.cells X7.out hgq
        have B8 := Sd.below B7.out B7.out.size s8 hg
        obtain ⟨w9, hw9⟩ : ∃ w9, w8.alloc (.cells #[.int .i64 oi, .int .i64 oo, .int .i64 ofl] 27) = w9 := ⟨_, rfl⟩
        have hb9 : Below w8.heap.size w8 w9 := by rw [← hw9]; exact below_of_grown (World.grownBy_alloc w8 _ none)
        have CE := Lib.hid (C8.below' hb9)
        have XE := Lib.hid (X8.below' hb9)
        have BE := Lib.hid (B8.trans (hb9.mono B8.size))
        have STE := Lib.hid (FdFace.below st8 hb9)
        clear C8 X8 B8 hb9 st8 s8 KC7 hN o0 o1 o2 p0 p1 p2
        go_upto_region 20 with fail
        try rw [hw9]
        clear hw9
        have KG2 := Lib.hid (F.get STE.out GD.out fds HF.out)
        unfold fptr RetOB at KG2
        rw [HX.out, HH.out] at KG2
        unfold Opn.val at KG2
        dsimp only at KG2
        go_wp2_with fail
        refine (KG2.out).mono ?_
        rintro e v1 ⟨rfl, hb1⟩
        obtain ⟨v2, hv2⟩ : ∃ v2, v1.alloc (.cells #[.int .i64 xi, .int .i64 xo, .int .i64 xf] 27) = v2 := ⟨_, rfl⟩
        have hb2 : Below v1.heap.size v1 v2 := by rw [← hv2]; exact below_of_grown (World.grownBy_alloc v1 _ none)
        have hc2 : Cells v2 v1.heap.size 27 #[.int .i64 xi, .int .i64 xo, .int .i64 xf] := by rw [← hv2]; exact Cells.new _ _ _
        have BV := Lib.hid (BE.out.trans ((hb1.trans (hb2.mono hb1.size)).mono BE.out.size))
        have CV := Lib.hid ((CE.out.below' hb1).below' hb2)
        have XV := Lib.hid ((XE.out.below' hb1).below' hb2)
        have YV := Lib.hid hc2
        clear hb1 hb2 hc2 KG2
        have y0 : v2.cell? ⟨w.heap.size, 0, none⟩ = some (.int .i64 oi) := CV.out.cell 0
        have y1 : v2.cell? ⟨w.heap.size, 1, none⟩ = some (.int .i64 oo) := CV.out.cell 1
        have y2 : v2.cell? ⟨w.heap.size, 2, none⟩ = some (.int .i64 ofl) := CV.out.cell 2
        have N1 := Lib.hid (F.nopen ⟨oi, oo, ofl⟩ v2)
        have N2 := Lib.hid (F.nget 0)
        have N3 := Lib.hid (F.nclose 0)
        have N4 := Lib.hid F.nnext
        have N5 := Lib.hid (F.nset 0 ⟨oi, oo, ofl⟩)
        have N6 := Lib.hid F.nlen
        have N7 := Lib.hid (F.nusers 1)
        have N8 := Lib.hid F.nall
        have N9 := Lib.hid F.nfull
        unfold RetIB Opn.val at N1
        unfold RetOB Opn.val Opn.zero at N2 N3
        unfold RetIB at N4
        unfold Opn.val at N5
        dsimp only at N1 N2 N3 N5
        go_upto_region 22 with fail
        try rw [hv2]
        clear hv2
        go_wp2_with fail
        refine (N1.out).mono ?_
        rintro e v3 ⟨rfl, hb3⟩
        have BW3 := Lib.hid hb3
        clear hb3 N1 y0 y1 y2
        go_wp2_with fail
        refine (N2.out _).mono ?_
        rintro e v4 ⟨rfl, hb4⟩
        have BW4 := Lib.hid (BW3.out.trans (hb4.mono BW3.out.size))
        clear hb4 N2
        have hb5 := Lib.hid (below_of_grown (World.grownBy_alloc v4 (.cells #[.int .i64 0, .int .i64 0, .int .i64 0] 27) none))
        go_wp2_with fail
        refine (N3.out _).mono ?_
        rintro e v5 ⟨rfl, hb6⟩
        have BW5 := Lib.hid (BW4.out.trans ((hb5.out.trans (hb6.mono hb5.out.size)).mono BW4.out.size))
        clear hb6 N3
        have hb7 := Lib.hid (below_of_grown (World.grownBy_alloc v5 (.cells #[.int .i64 0, .int .i64 0, .int .i64 0] 27) none))
        go_wp2_with fail
        refine (N4.out _).mono ?_
        rintro e v6 ⟨rfl, hb8⟩
        have BW6 := Lib.hid (BW5.out.trans ((hb7.out.trans (hb8.mono hb7.out.size)).mono BW5.out.size))
        clear hb8 N4
        have c6 := CV.out.below' BW6.out
        have x6 := XV.out.below' BW6.out
        have w6' := YV.out.below' BW6.out
        have y0 : v6.cell? ⟨w.heap.size, 0, none⟩ = some (.int .i64 oi) := c6.cell 0
        have y1 : v6.cell? ⟨w.heap.size, 1, none⟩ = some (.int .i64 oo) := c6.cell 1
        have y2 : v6.cell? ⟨w.heap.size, 2, none⟩ = some (.int .i64 ofl) := c6.cell 2
        have u0 : v6.cell? ⟨w3.heap.size, 0, none⟩ = some (.int .i64 xi) := x6.cell 0
        have u1 : v6.cell? ⟨w3.heap.size, 1, none⟩ = some (.int .i64 xo) := x6.cell 1
        have u2 : v6.cell? ⟨w3.heap.size, 2, none⟩ = some (.int .i64 xf) := x6.cell 2
        have t0 : v6.cell? ⟨v1.heap.size, 0, none⟩ = some (.int .i64 xi) := w6'.cell 0
        have t1 : v6.cell? ⟨v1.heap.size, 1, none⟩ = some (.int .i64 xo) := w6'.cell 1
        have t2 : v6.cell? ⟨v1.heap.size, 2, none⟩ = some (.int .i64 xf) := w6'.cell 2
        have hE := fun w => HE.out ⟨xi, xo, xf⟩ w
        rw [opnEq_self] at hE
        unfold Opn.val at hE
        dsimp only at hE
        have hHd : (hd == hd) = true := by simp
        clear c6 x6 w6'
        go_wp2_with fail
        refine (N5.out _).mono ?_
        rintro e v7 ⟨rfl, hb9⟩
        have BW7 := Lib.hid (BW6.out.trans (hb9.mono BW6.out.size))
        clear hb9 N5 hE y0 y1 y2 u0 u1 u2 t0 t1 t2
        go_wp2_with fail
        refine (N6.out _).mono ?_
        rintro e v8 ⟨rfl, hb10⟩
        have BW8 := Lib.hid (BW7.out.trans (hb10.mono BW7.out.size))
        clear hb10 N6
        go_wp2_with fail
        refine (N7.out _).mono ?_
        rintro e v9 ⟨rfl, hb11⟩
        have BW9 := Lib.hid (BW8.out.trans (hb11.mono BW8.out.size))
        clear hb11 N7
        go_wp2_with fail
        refine (N8.out _).mono ?_
        rintro e v10 ⟨A10, c10, rfl, hb12⟩
        have BW10 := Lib.hid (BW9.out.trans (hb12.mono BW9.out.size))
        clear hb12 N8
        go_wp2_with fail
        refine (N9.out _).mono ?_
        rintro e v11 ⟨rfl, hb13⟩
        have BW11 := Lib.hid (BW10.out.trans (hb13.mono BW10.out.size))
        clear hb13 N9
        go_wp2
        go_ret
        exact ⟨rfl, B1.out.trans ((BV.out.trans (BW11.out.mono BV.out.size)).mono B1.out.size)⟩
      | false =>
        rw [hB] at KO
        rw [open_no hB] at KO
        clear hB
        go_wp2_with fail
        refine (KO.out).mono ?_
        rintro e w5 ⟨rfl, st5, s5⟩
        have CE := Lib.hid (s5.cells C4.out hq)
        have XE := Lib.hid (s5.cells X4.out hgq)
        have BE := Lib.hid (Sd.below B4.out B4.out.size s5 hg)
        have STE := Lib.hid st5
        clear st5 s5 KO o0 o1 o2
        have KG2 := Lib.hid (F.get STE.out GD.out fds HF.out)
        unfold fptr RetOB at KG2
        rw [HX.out, HH.out] at KG2
        unfold Opn.val at KG2
        dsimp only at KG2
        go_wp2_with fail
        refine (KG2.out).mono ?_
        rintro e v1 ⟨rfl, hb1⟩
        obtain ⟨v2, hv2⟩ : ∃ v2, v1.alloc (.cells #[.int .i64 xi, .int .i64 xo, .int .i64 xf] 27) = v2 := ⟨_, rfl⟩
        have hb2 : Below v1.heap.size v1 v2 := by rw [← hv2]; exact below_of_grown (World.grownBy_alloc v1 _ none)
        have hc2 : Cells v2 v1.heap.size 27 #[.int .i64 xi, .int .i64 xo, .int .i64 xf] := by rw [← hv2]; exact Cells.new _ _ _
        have BV := Lib.hid (BE.out.trans ((hb1.trans (hb2.mono hb1.size)).mono BE.out.size))
        have CV := Lib.hid ((CE.out.below' hb1).below' hb2)
        have XV := Lib.hid ((XE.out.below' hb1).below' hb2)
        have YV := Lib.hid hc2
        clear hb1 hb2 hc2 KG2
        have y0 : v2.cell? ⟨w.heap.size, 0, none⟩ = some (.int .i64 oi) := CV.out.cell 0
        have y1 : v2.cell? ⟨w.heap.size, 1, none⟩ = some (.int .i64 oo) := CV.out.cell 1
        have y2 : v2.cell? ⟨w.heap.size, 2, none⟩ = some (.int .i64 ofl) := CV.out.cell 2
        have N1 := Lib.hid (F.nopen ⟨oi, oo, ofl⟩ v2)
        have N2 := Lib.hid (F.nget 0)
        have N3 := Lib.hid (F.nclose 0)
        have N4 := Lib.hid F.nnext
        have N5 := Lib.hid (F.nset 0 ⟨oi, oo, ofl⟩)
        have N6 := Lib.hid F.nlen
        have N7 := Lib.hid (F.nusers 1)
        have N8 := Lib.hid F.nall
        have N9 := Lib.hid F.nfull
        unfold RetIB Opn.val at N1
        unfold RetOB Opn.val Opn.zero at N2 N3
        unfold RetIB at N4
        unfold Opn.val at N5
        dsimp only at N1 N2 N3 N5
        go_upto_region 22 with fail
        try rw [hv2]
        clear hv2
        go_wp2_with fail
        refine (N1.out).mono ?_
        rintro e v3 ⟨rfl, hb3⟩
        have BW3 := Lib.hid hb3
        clear hb3 N1 y0 y1 y2
        go_wp2_with fail
        refine (N2.out _).mono ?_
        rintro e v4 ⟨rfl, hb4⟩
        have BW4 := Lib.hid (BW3.out.trans (hb4.mono BW3.out.size))
        clear hb4 N2
        have hb5 := Lib.hid (below_of_grown (World.grownBy_alloc v4 (.cells #[.int .i64 0, .int .i64 0, .int .i64 0] 27) none))
        go_wp2_with fail
        refine (N3.out _).mono ?_
        rintro e v5 ⟨rfl, hb6⟩
        have BW5 := Lib.hid (BW4.out.trans ((hb5.out.trans (hb6.mono hb5.out.size)).mono BW4.out.size))
        clear hb6 N3
        have hb7 := Lib.hid (below_of_grown (World.grownBy_alloc v5 (.cells #[.int .i64 0, .int .i64 0, .int .i64 0] 27) none))
        go_wp2_with fail
        refine (N4.out _).mono ?_
        rintro e v6 ⟨rfl, hb8⟩
        have BW6 := Lib.hid (BW5.out.trans ((hb7.out.trans (hb8.mono hb7.out.size)).mono BW5.out.size))
        clear hb8 N4
        have c6 := CV.out.below' BW6.out
        have x6 := XV.out.below' BW6.out
        have w6' := YV.out.below' BW6.out
        have y0 : v6.cell? ⟨w.heap.size, 0, none⟩ = some (.int .i64 oi) := c6.cell 0
        have y1 : v6.cell? ⟨w.heap.size, 1, none⟩ = some (.int .i64 oo) := c6.cell 1
        have y2 : v6.cell? ⟨w.heap.size, 2, none⟩ = some (.int .i64 ofl) := c6.cell 2
        have u0 : v6.cell? ⟨w3.heap.size, 0, none⟩ = some (.int .i64 xi) := x6.cell 0
        have u1 : v6.cell? ⟨w3.heap.size, 1, none⟩ = some (.int .i64 xo) := x6.cell 1
        have u2 : v6.cell? ⟨w3.heap.size, 2, none⟩ = some (.int .i64 xf) := x6.cell 2
        have t0 : v6.cell? ⟨v1.heap.size, 0, none⟩ = some (.int .i64 xi) := w6'.cell 0
        have t1 : v6.cell? ⟨v1.heap.size, 1, none⟩ = some (.int .i64 xo) := w6'.cell 1
        have t2 : v6.cell? ⟨v1.heap.size, 2, none⟩ = some (.int .i64 xf) := w6'.cell 2
        have hE := fun w => HE.out ⟨xi, xo, xf⟩ w
        rw [opnEq_self] at hE
        unfold Opn.val at hE
        dsimp only at hE
        have hHd : (hd == hd) = true := by simp
        clear c6 x6 w6'
        go_wp2_with fail
        refine (N5.out _).mono ?_
        rintro e v7 ⟨rfl, hb9⟩
        have BW7 := Lib.hid (BW6.out.trans (hb9.mono BW6.out.size))
        clear hb9 N5 hE y0 y1 y2 u0 u1 u2 t0 t1 t2
        go_wp2_with fail
        refine (N6.out _).mono ?_
        rintro e v8 ⟨rfl, hb10⟩
        have BW8 := Lib.hid (BW7.out.trans (hb10.mono BW7.out.size))
        clear hb10 N6
        go_wp2_with fail
        refine (N7.out _).mono ?_
        rintro e v9 ⟨rfl, hb11⟩
        have BW9 := Lib.hid (BW8.out.trans (hb11.mono BW8.out.size))
        clear hb11 N7
        go_wp2_with fail
        refine (N8.out _).mono ?_
        rintro e v10 ⟨A10, c10, rfl, hb12⟩
        have BW10 := Lib.hid (BW9.out.trans (hb12.mono BW9.out.size))
        clear hb12 N8
        go_wp2_with fail
        refine (N9.out _).mono ?_
        rintro e v11 ⟨rfl, hb13⟩
        have BW11 := Lib.hid (BW10.out.trans (hb13.mono BW10.out.size))
        clear hb13 N9
        go_wp2
        go_ret
        exact ⟨rfl, B1.out.trans ((BV.out.trans (BW11.out.mono BV.out.size)).mono B1.out.size)⟩
end Go.Proofs.Ytcmgngjafnpnoaa
