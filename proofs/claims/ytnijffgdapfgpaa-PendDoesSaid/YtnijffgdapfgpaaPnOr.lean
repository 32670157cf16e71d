import Derived.Test.YtnijffgdapfgpaaPnAw
import Derived.Test.YtnijffgdapfgpaaEfSame
import Derived.Test.YtnijffgdapfgpaaEfFew
/-! PendOrder's walk. -/
namespace Go.Proofs.Ytnijffgdapfgpaa
open Wd U Go.Maps Go.ChangeShapes Go.WideShapes Go.RowKit Go.Sort
set_option linter.unusedVariables false
set_option maxRecDepth 100000
def upRows (es : List Eff) (k : Nat) : List (Eff × Int) := ((es.take k).zipIdx).map (fun p => (p.1.bare, (p.2 : Int) * 3))
theorem up_snoc {es : List Eff} {k : Nat} {e : Eff} (h : es[k]? = some e) : upRows es (k + 1) = upRows es k ++ [(e.bare, (k : Int) * 3)] := by
  have hk : k < es.length := (List.getElem?_eq_some_iff.1 h).1
  unfold upRows
  rw [take_snocW h, List.zipIdx_append, List.map_append, List.length_take, Nat.min_eq_left (by omega)]
  simp
theorem up_len {es : List Eff} {k : Nat} (h : k ≤ es.length) : (upRows es k).length = k := by unfold upRows; simp; omega
theorem up_drop {es : List Eff} {k : Nat} {e : Eff} (h : es[k]? = some e) : (upRows es es.length).drop k = (e.bare, (k : Int) * 3) :: (upRows es es.length).drop (k + 1) := by
  have hk : k < es.length := (List.getElem?_eq_some_iff.1 h).1
  rw [List.drop_eq_getElem_cons (by rw [up_len (Nat.le_refl _)]; exact hk)]
  congr 1
  have he : es[k] = e := (List.getElem?_eq_some_iff.1 h).2
  unfold upRows
  simp [he]
theorem sameB_self (a : Eff) : sameB a a = true := by unfold sameB; simp
def OrRel (W : World) (es : List Eff) (bl : Nat) (i : Value) (wr : World) : Prop := ∃ k : Nat, k ≤ es.length ∧ i = .int .i64 k ∧ PnAt wr W.heap.size bl ⟨upRows es k, 0⟩ ∧ Below W.heap.size W wr
def OrRel2 (W : World) (es : List Eff) (bl nn : Nat) (i : Value) (wr : World) : Prop := ∃ k : Nat, k ≤ nn ∧ i = .int .i64 k ∧ PnAt wr W.heap.size bl ⟨(upRows es es.length).drop k, k⟩ ∧ Below W.heap.size W wr
set_option maxHeartbeats 40000000 in
theorem lOrder {W : World} {A : Option Addr} {c : Nat} {es : List Eff} (h : Effs W W.heap.size A es) (hm : es.length ≤ maxLen) (n : Int) :
    Calls Try.prog 4 #[.slice A es.length c, .int .i64 n] W (TrueB W) := by
  have KA := Lib.hid (pAwake W)
  have H := Lib.hid h
  have HM := Lib.hid hm
  clear h hm
  go_enter Try.func4, Try.ntmps4
  go_wp2_with fail
  refine KA.out.mono ?_
  rintro e w1 ⟨rfl, b1⟩
  have B1 := Lib.hid b1
  have KF := Lib.hid (few_any (c := c) ((H.out.below b1).more b1.size) HM.out)
  clear b1
  by_cases hf : fewE es = true
  · rw [hf] at KF
    obtain ⟨hall, hl30⟩ := fewE_iff.1 hf
    have HALL := Lib.hid hall
    clear hall hf
    by_cases hn0 : n < 0
    · have hl : (es.length : Int) ≤ 30 := by omega
      go_wp2_with fail
      refine KF.out.mono ?_
      rintro e w2 ⟨rfl, b2⟩
      have B2 := Lib.hid (B1.out.trans (b2.mono B1.out.size))
      go_wp2
      go_ret
      exact ⟨rfl, B2.out⟩
    · by_cases hnl : n > es.length
      · go_wp2_with fail
        refine KF.out.mono ?_
        rintro e w2 ⟨rfl, b2⟩
        have B2 := Lib.hid (B1.out.trans (b2.mono B1.out.size))
        go_wp2
        go_ret
        exact ⟨rfl, B2.out⟩
      · obtain ⟨nn, rfl⟩ : ∃ nn : Nat, n = (nn : Int) := ⟨n.toNat, by omega⟩
        have hnn : nn ≤ es.length := by omega
        have e1 : decide ((nn : Int) < 0) = false := decide_eq_false (by omega)
        have e2 : decide (es.length < nn) = false := decide_eq_false (by omega)
        have e3 : decide ((nn : Int) > (es.length : Int)) = false := decide_eq_false (by omega)
        have e4 : decide ((es.length : Int) < (nn : Int)) = false := decide_eq_false (by omega)
        go_wp2_with fail
        refine KF.out.mono ?_
        rintro e w2 ⟨rfl, b2⟩
        have b12 := B1.out.trans (b2.mono B1.out.size)
        have B2 := Lib.hid b12
        obtain ⟨bl, hbl⟩ : ∃ bl, w2.heap.size = bl := ⟨_, rfl⟩
        obtain ⟨w3, hw3⟩ : ∃ w3, w2.alloc (.cells #[.slice none 0 0, .int .i64 0] 29) = w3 := ⟨_, rfl⟩
        have hp0 : PnAt w3 W.heap.size bl ⟨[], 0⟩ := by rw [← hw3, ← hbl]; exact PnAt.new w2 b12.size
        have b3 : Below W.heap.size W w3 := by rw [← hw3]; exact b12.alloc b12.size _
        have HP0 := Lib.hid hp0; have B3 := Lib.hid b3
        clear b2 b12 hp0 b3 KF KA
        go_wp2
        clear hw3
        go_loopw [36] (fun i wr => OrRel W es bl i wr) (fun i _ => es.length - (intOf i).toNat)
        case atStart => exact ⟨0, Nat.zero_le _, rfl, HP0.out, B3.out⟩
        case round =>
          obtain ⟨k, hk, rfl, hp, hb⟩ := hrel
          by_cases hlt : k < es.length
          · obtain ⟨e, he⟩ : ∃ e, es[k]? = some e := ⟨_, List.getElem?_eq_getElem hlt⟩
            obtain ⟨q, off, rfl, hqB, x0, x1, x2, x3, x4, x5, x6, x7, x8⟩ := effs_cells (H.out.below hb) he
            have hbare := Eff.bare_of ((H.out.below hb).ok e (List.mem_of_getElem? he)) (HALL.out e (List.mem_of_getElem? he))
            obtain ⟨w4, hw4⟩ : ∃ w4, wr.alloc (.cells (effCells e) 32) = w4 := ⟨_, rfl⟩
            have b4 : Below wr.heap.size wr w4 := by rw [← hw4]; exact (Below.refl _ _).alloc (Nat.le_refl _) _
            have c4 : Cells w4 wr.heap.size 32 (effCells e) := by rw [← hw4]; exact Cells.new _ _ _
            have KD := Lib.hid (pnAdd (hp.below b4) e ((k : Int) * 3) hbare (by unfold i64R; omega) (by show (upRows es k).length < 1000; rw [up_len (by omega)]; omega) (Nat.le_trans hb.size b4.size))
            have HB4 := Lib.hid (hb.trans (b4.mono hb.size))
            have HE := Lib.hid he
            have d0 := c4.cell 0; have d1 := c4.cell 1; have d2 := c4.cell 2; have d3 := c4.cell 3; have d4 := c4.cell 4; have d5 := c4.cell 5; have d6 := c4.cell 6; have d7 := c4.cell 7; have d8 := c4.cell 8
            unfold effCells at d0 d1 d2 d3 d4 d5 d6 d7 d8 hw4
            simp at d0 d1 d2 d3 d4 d5 d6 d7 d8
            unfold Eff.val at KD
            have hlt2 : (k : Int) < (es.length : Int) := Int.ofNat_lt.2 hlt
            have hw : wrap64 ((k : Int) * 3) = (k : Int) * 3 := by unfold wrap64; omega
            clear hp hb he hbare b4 c4
            go_wp2_with fail
            refine KD.out.mono ?_
            rintro e5 w5 ⟨rfl, hp5, hk5⟩
            have HP5 := Lib.hid hp5; have HB5 := Lib.hid (HB4.out.trans hk5.below)
            clear hp5 hk5 KD
            go_wp2
            go_roundw
            case rel => exact ⟨k + 1, by omega, by go_num, by rw [up_snoc HE.out]; exact HP5.out, HB5.out⟩
            case measure => simp [intOf]; omega
          · obtain rfl : k = es.length := by omega
            have HP := Lib.hid hp; have HB := Lib.hid hb
            clear hp hb HP0 B3
            go_wp2
            go_loopw [48] (fun i wr => OrRel2 W es bl nn i wr) (fun i _ => nn - (intOf i).toNat)
            case atStart => exact ⟨0, Nat.zero_le _, rfl, HP.out, HB.out⟩
            case round =>
              obtain ⟨k, hk, rfl, hp, hb⟩ := hrel
              by_cases hlt : k < nn
              · obtain ⟨e, he⟩ : ∃ e, es[k]? = some e := ⟨_, List.getElem?_eq_getElem (by omega)⟩
                rw [up_drop he] at hp
                obtain ⟨q, off, rfl, hqB, x0, x1, x2, x3, x4, x5, x6, x7, x8⟩ := effs_cells (H.out.below hb) he
                have hbare := Eff.bare_of ((H.out.below hb).ok e (List.mem_of_getElem? he)) (HALL.out e (List.mem_of_getElem? he))
                have KH := Lib.hid (pnHead hp rfl)
                have KS := Lib.hid (fun (w : World) => refSame_any e.bare e.bare w (hbare.ok _ _) (hbare.ok _ _))
                rw [sameB_self] at KS
                have HPP := Lib.hid hp; have HBB := Lib.hid hb
                have HQ := Lib.hid (Nat.lt_of_lt_of_le hqB hb.size)
                have hlt2 : (k : Int) < (nn : Int) := Int.ofNat_lt.2 hlt
                have hke : (k : Int) < (es.length : Int) := by omega
                obtain ⟨kind, ino, dir, dst, page, size, name, other, EA, ecp, data⟩ := e
                unfold Eff.val at KH KS
                dsimp only [Eff.bare, List.length_nil] at KH KS x0 x1 x2 x3 x4 x5 x6 x7 x8
                have hw : wrap64 ((k : Int) * 3) = (k : Int) * 3 := by unfold wrap64; omega
                clear hp hb hbare he
                go_wp2_with fail
                refine KH.out.mono ?_
                rintro e5 w5 ⟨rfl, h5⟩
                have HB5 := Lib.hid h5
                clear KH
                go_upto_region 15 with fail
                obtain ⟨w6, hw6⟩ : ∃ w6, w5.alloc (.cells #[.int .i64 kind, .int .i64 ino, .int .i64 dir, .int .i64 dst, .int .i64 page, .int .i64 size, .string name, .string other, .slice none 0 0] 32) = w6 := ⟨_, rfl⟩
                have b6 : Below w5.heap.size w5 w6 := by rw [← hw6]; exact (Below.refl _ _).alloc (Nat.le_refl _) _
                have c6 : Cells w6 w5.heap.size 32 #[.int .i64 kind, .int .i64 ino, .int .i64 dir, .int .i64 dst, .int .i64 page, .int .i64 size, .string name, .string other, .slice none 0 0] := by rw [← hw6]; exact Cells.new _ _ _
                have b56 : Below wr.heap.size wr w6 := h5.trans (b6.mono h5.size)
                have z6 : w6.heap.size = w5.heap.size + 1 := by rw [← hw6]; simp
                rw [hw6]
                have y0 := (b56.cell (p := ⟨q, off + k * 9, none⟩) HQ.out).trans x0
                have y1 := (b56.cell (p := ⟨q, off + k * 9 + 1, none⟩) HQ.out).trans x1
                have y2 := (b56.cell (p := ⟨q, off + k * 9 + 2, none⟩) HQ.out).trans x2
                have y3 := (b56.cell (p := ⟨q, off + k * 9 + 3, none⟩) HQ.out).trans x3
                have y4 := (b56.cell (p := ⟨q, off + k * 9 + 4, none⟩) HQ.out).trans x4
                have y5 := (b56.cell (p := ⟨q, off + k * 9 + 5, none⟩) HQ.out).trans x5
                have y6 := (b56.cell (p := ⟨q, off + k * 9 + 6, none⟩) HQ.out).trans x6
                have y7 := (b56.cell (p := ⟨q, off + k * 9 + 7, none⟩) HQ.out).trans x7
                have y8 := (b56.cell (p := ⟨q, off + k * 9 + 8, none⟩) HQ.out).trans x8
                have C6 := Lib.hid c6; have B56 := Lib.hid b56; have Z6 := Lib.hid z6
                clear hw6 x0 x1 x2 x3 x4 x5 x6 x7 x8 h5 b6 c6 b56 z6
                go_upto_region 17 with fail
                obtain ⟨w7, hw7⟩ : ∃ w7, w6.alloc (.cells #[.int .i64 kind, .int .i64 ino, .int .i64 dir, .int .i64 dst, .int .i64 page, .int .i64 size, .string name, .string other, .slice none 0 0] 32) = w7 := ⟨_, rfl⟩
                have b7 : Below w6.heap.size w6 w7 := by rw [← hw7]; exact (Below.refl _ _).alloc (Nat.le_refl _) _
                have C7 := Lib.hid (show Cells w7 w6.heap.size 32 #[.int .i64 kind, .int .i64 ino, .int .i64 dir, .int .i64 dst, .int .i64 page, .int .i64 size, .string name, .string other, .slice none 0 0] by rw [← hw7]; exact Cells.new _ _ _)
                have C67 := Lib.hid (C6.out.below' b7)
                have B57 := Lib.hid (B56.out.trans (b7.mono B56.out.size))
                rw [hw7]
                have d0 := C67.out.cell 0; have g0 := C7.out.cell 0
                have d1 := C67.out.cell 1; have g1 := C7.out.cell 1
                have d2 := C67.out.cell 2; have g2 := C7.out.cell 2
                have d3 := C67.out.cell 3; have g3 := C7.out.cell 3
                have d4 := C67.out.cell 4; have g4 := C7.out.cell 4
                have d5 := C67.out.cell 5; have g5 := C7.out.cell 5
                have d6 := C67.out.cell 6; have g6 := C7.out.cell 6
                have d7 := C67.out.cell 7; have g7 := C7.out.cell 7
                have d8 := C67.out.cell 8; have g8 := C7.out.cell 8
                simp at d0 d1 d2 d3 d4 d5 d6 d7 d8 g0 g1 g2 g3 g4 g5 g6 g7 g8
                clear hw7 b7 y0 y1 y2 y3 y4 y5 y6 y7 y8
                go_wp2_with fail
                refine (KS.out _).mono ?_
                rintro e8 w8 h8
                obtain ⟨rfl, b8⟩ := h8.below
                have B58 := Lib.hid (B57.out.trans (b8.mono B57.out.size))
                have KPO := Lib.hid (pnPop (HPP.out.below B58.out) rfl (by show k < 1000000; omega))
                clear h8 b8 d0 d1 d2 d3 d4 d5 d6 d7 d8 g0 g1 g2 g3 g4 g5 g6 g7 g8
                go_wp2_with fail
                refine KPO.out.mono ?_
                rintro e9 w9 ⟨rfl, hp9, hk9⟩
                have HP9 := Lib.hid hp9
                have HB9 := Lib.hid ((HBB.out.trans (B58.out.mono HBB.out.size)).trans hk9.below)
                clear hp9 hk9 KPO KS
                go_wp2
                go_roundw
                case rel => exact ⟨k + 1, by omega, by go_num, HP9.out, HB9.out⟩
                case measure => simp [intOf]; omega
              · obtain rfl : k = nn := by omega
                have hdl : ((upRows es es.length).drop k).length = es.length - k := by rw [List.length_drop, up_len (Nat.le_refl _)]
                obtain ⟨LL, hLL⟩ : ∃ LL, ((upRows es es.length).drop k).length = LL := ⟨_, rfl⟩
                have HLL := Lib.hid hLL
                have hLLz : ((es.length : Int) - (k : Int)) = (LL : Int) := by omega
                have hwz : wrap64 ((es.length : Int) - (k : Int)) = (LL : Int) := by unfold wrap64; omega
                have HPP := Lib.hid hp; have HBB := Lib.hid hb
                have KHN := Lib.hid (fun w => pnHead_nil w)
                clear hp hb hdl hLL
                go_wp2_with fail
                refine (KHN.out _).mono ?_
                rintro e5 w5 ⟨rfl, h5⟩
                unfold zeffV
                have HB5 := Lib.hid h5
                go_upto_region 22 with fail
                obtain ⟨w6, hw6⟩ : ∃ w6, w5.alloc (.cells #[.int .i64 0, .int .i64 0, .int .i64 0, .int .i64 0, .int .i64 0, .int .i64 0, .string ⟨#[]⟩, .string ⟨#[]⟩, .slice none 0 0] 32) = w6 := ⟨_, rfl⟩
                have b6 : Below w5.heap.size w5 w6 := by rw [← hw6]; exact (Below.refl _ _).alloc (Nat.le_refl _) _
                have B56 := Lib.hid (h5.trans (b6.mono h5.size))
                have hp6 := HPP.out.below B56.out
                obtain ⟨AL, cL, hcL, _⟩ := hp6.open_
                simp only [HLL.out] at hcL
                have KL := Lib.hid (pnLen hcL); have KG := Lib.hid (pnGone hcL)
                unfold PPtr at *
                rw [hw6]
                clear hw6 KHN h5 b6 hp6 hcL
                have KPN := Lib.hid (fun w => pnPop_nil w)
                have KAN := Lib.hid (fun w => pnAdd_nil w ⟨0, 0, 0, 0, 0, 0, ⟨#[]⟩, ⟨#[]⟩, none, 0, []⟩ 1)
                have KLN := Lib.hid (fun w => pnLen_nil w)
                have KGN := Lib.hid (fun w => pnGone_nil w)
                have KNN := Lib.hid (fun w => pnNext_nil w)
                have KTN := Lib.hid (fun w => pnLast_nil w 1)
                have KWN := Lib.hid (fun w => pnRows_nil w)
                unfold Eff.val at KAN
                dsimp only [List.length_nil] at KAN
                go_wp2_with fail
                refine KL.out.mono ?_
                rintro e _ ⟨rfl, rfl⟩
                go_wp2_with fail
                refine KG.out.mono ?_
                rintro e _ ⟨rfl, rfl⟩
                go_wp2_with fail
                refine (KPN.out _).mono ?_
                rintro e _ ⟨rfl, rfl⟩
                go_wp2_with fail
                refine (KAN.out _).mono ?_
                rintro e w7 ⟨rfl, b7⟩
                have B7 := Lib.hid b7
                go_wp2_with fail
                refine (KLN.out _).mono ?_
                rintro e _ ⟨rfl, rfl⟩
                go_wp2_with fail
                refine (KGN.out _).mono ?_
                rintro e _ ⟨rfl, rfl⟩
                go_wp2_with fail
                refine (KNN.out _).mono ?_
                rintro e _ ⟨rfl, rfl⟩
                go_wp2_with fail
                refine (KTN.out _).mono ?_
                rintro e w8 ⟨rfl, b8⟩
                have B8 := Lib.hid b8
                go_wp2_with fail
                refine (KWN.out _).mono ?_
                rintro e _ ⟨rfl, rfl⟩
                go_wp2
                go_ret
                have b6 := HBB.out.trans (B56.out.mono HBB.out.size)
                have b7' := b6.trans (B7.out.mono b6.size)
                exact ⟨rfl, b7'.trans (B8.out.mono b7'.size)⟩
  · have hf2 : fewE es = false := by cases hh : fewE es <;> simp_all
    rw [hf2] at KF
    clear hf
    go_wp2_with fail
    refine KF.out.mono ?_
    rintro e w2 ⟨rfl, b2⟩
    have B2 := Lib.hid (B1.out.trans (b2.mono B1.out.size))
    go_wp2
    go_ret
    exact ⟨rfl, B2.out⟩
end Go.Proofs.Ytnijffgdapfgpaa
