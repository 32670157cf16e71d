import Derived.Test.YtajmboolgekdeaaInSz0
namespace Go.Proofs.Ytajmboolgekdeaa
open Wd Ino Go.RowKit Go.ChangeShapes Go.WideShapes Go.Sort
set_option linter.unusedVariables false
set_option maxRecDepth 100000

def RefsRel (P : List Int) (W : World) (R v : Value) (w : World) : Prop := ∃ kk : Nat, kk ≤ P.length ∧ v = .int .i64 kk ∧ OwnI w W.heap.size R (refsP (P.take kk)) ∧ Below W.heap.size W w
set_option maxHeartbeats 32000000 in
theorem doesLaw (n m : Nd) (size ino kind up : Int) (hz : i64R size) (w : World) (hok : n.Ok w w.heap.size) (mok : m.Ok w w.heap.size) : Calls Try.prog 3 #[n.val, m.val, .int .i64 size, .int .i64 ino, .int .i64 kind, .int .i64 up] w (TrueB w) := by
  have KF := Lib.hid (fun w1 (b : Below w.heap.size w w1) => lFew n w1 (hok.in_.at_ b) hok.nle)
  have KG := Lib.hid (fun w1 (b : Below w.heap.size w w1) => lFew m w1 (mok.in_.at_ b) mok.nle)
  have KA := Lib.hid (fun w => lAwake w)
  obtain ⟨i, k, l, s, u, A, ac, P, B, bc, N⟩ := n
  obtain ⟨i2, k2, l2, s2, u2, A2, ac2, P2, B2, bc2, N2⟩ := m
  have HOk := Lib.hid hok; have HMok := Lib.hid mok
  obtain ⟨fb, hfb⟩ : ∃ b, fewB ⟨i, k, l, s, u, A, ac, P, B, bc, N⟩ = b := ⟨_, rfl⟩
  obtain ⟨fm, hfm⟩ : ∃ b, fewB ⟨i2, k2, l2, s2, u2, A2, ac2, P2, B2, bc2, N2⟩ = b := ⟨_, rfl⟩
  rw [hfb] at KF
  rw [hfm] at KG
  have HFb := Lib.hid hfb; have HFm := Lib.hid hfm; have HZ := Lib.hid hz
  unfold Nd.val at KF KG ⊢
  dsimp only at KF KG ⊢
  have HB := Lib.hid ((below_alloc w (.cells (ncells i k l s u (.slice A P.length ac) (.slice B N.length bc)) 25)).alloc (by simp) (.cells (ncells i2 k2 l2 s2 u2 (.slice A2 P2.length ac2) (.slice B2 N2.length bc2)) 25))
  have Ca := Lib.hid ((Cells.new w 25 (ncells i k l s u (.slice A P.length ac) (.slice B N.length bc))).alloc (.cells (ncells i2 k2 l2 s2 u2 (.slice A2 P2.length ac2) (.slice B2 N2.length bc2)) 25))
  have cb := Cells.new (w.alloc (.cells (ncells i k l s u (.slice A P.length ac) (.slice B N.length bc)) 25)) 25 (ncells i2 k2 l2 s2 u2 (.slice A2 P2.length ac2) (.slice B2 N2.length bc2))
  rw [show (w.alloc (.cells (ncells i k l s u (.slice A P.length ac) (.slice B N.length bc)) 25)).heap.size = w.heap.size + 1 from by simp] at cb
  have Cb := Lib.hid cb
  unfold ncells at HB Ca Cb
  clear hfb hfm hok mok hz cb
  cases fb
  · skip
    go_enter Try.func3, Try.ntmps3
    go_wp2_with fail
    refine (KA.out _).mono ?_
    rintro e w1 ⟨rfl, b1⟩
    have HBn := Lib.hid (HB.out.trans (b1.mono HB.out.size))
    have Can := Lib.hid (Ca.out.below' b1)
    have Cbn := Lib.hid (Cb.out.below' b1)
    clear HB Ca Cb  b1
    have HB := HBn
    have Ca := Can
    have Cb := Cbn
    clear HBn Can Cbn 
    obtain ⟨la0, la1, la2, la3, la4, la5, la6⟩ := cells7 Ca.out
    go_wp2_with fail
    refine (KF.out _ HB.out).mono ?_
    rintro e w2 ⟨rfl, b2⟩
    clear la0 la1 la2 la3 la4 la5 la6
    have HBn := Lib.hid (HB.out.trans (b2.mono HB.out.size))
    have Can := Lib.hid (Ca.out.below' b2)
    have Cbn := Lib.hid (Cb.out.below' b2)
    clear HB Ca Cb  b2
    have HB := HBn
    have Ca := Can
    have Cb := Cbn
    clear HBn Can Cbn 
    go_wp2
    go_ret
    exact ⟨rfl, HB.out⟩
  cases fm
  · skip
    go_enter Try.func3, Try.ntmps3
    go_wp2_with fail
    refine (KA.out _).mono ?_
    rintro e w1 ⟨rfl, b1⟩
    have HBn := Lib.hid (HB.out.trans (b1.mono HB.out.size))
    have Can := Lib.hid (Ca.out.below' b1)
    have Cbn := Lib.hid (Cb.out.below' b1)
    clear HB Ca Cb  b1
    have HB := HBn
    have Ca := Can
    have Cb := Cbn
    clear HBn Can Cbn 
    obtain ⟨la0, la1, la2, la3, la4, la5, la6⟩ := cells7 Ca.out
    go_wp2_with fail
    refine (KF.out _ HB.out).mono ?_
    rintro e w2 ⟨rfl, b2⟩
    clear la0 la1 la2 la3 la4 la5 la6
    have HBn := Lib.hid (HB.out.trans (b2.mono HB.out.size))
    have Can := Lib.hid (Ca.out.below' b2)
    have Cbn := Lib.hid (Cb.out.below' b2)
    clear HB Ca Cb  b2
    have HB := HBn
    have Ca := Can
    have Cb := Cbn
    clear HBn Can Cbn 
    obtain ⟨lb0, lb1, lb2, lb3, lb4, lb5, lb6⟩ := cells7 Cb.out
    go_wp2_with fail
    refine (KG.out _ HB.out).mono ?_
    rintro e w3 ⟨rfl, b3⟩
    clear lb0 lb1 lb2 lb3 lb4 lb5 lb6
    have HBn := Lib.hid (HB.out.trans (b3.mono HB.out.size))
    have Can := Lib.hid (Ca.out.below' b3)
    have Cbn := Lib.hid (Cb.out.below' b3)
    clear HB Ca Cb  b3
    have HB := HBn
    have Ca := Can
    have Cb := Cbn
    clear HBn Can Cbn 
    go_wp2
    go_ret
    exact ⟨rfl, HB.out⟩
  have hfew := fewB_iff.1 HFb.out
  have hfew2 := fewB_iff.1 HFm.out
  have hl1 := hfew.pages
  have hl2 := hfew.names
  have hl3 := hfew.size
  have hm1 := hfew2.pages
  have hm2 := hfew2.names
  dsimp only at hl1 hl2 hl3 hm1 hm2
  have KX := Lib.hid (fun w1 (b : Below w.heap.size w w1) => iResize ⟨i, k, l, s, u, A, ac, P, B, bc, N⟩ size HZ.out w1 (HOk.out.at_ b) (show P.length ≤ 1000 by omega) (show N.length ≤ 1000 by omega) (fun e he => by have := hl3 e he; omega))
  have KY := Lib.hid (fun w1 (b : Below w.heap.size w w1) => rResize ⟨i, k, l, s, u, A, ac, P, B, bc, N⟩ size HZ.out w1 (HOk.out.in_.at_ b) (show P.length ≤ 1000 by omega) (show N.length ≤ 1000 by omega))
  have hP1000 : P.length ≤ 1000 := by omega
  have hN1000 : N.length ≤ 1000 := by omega
  have hPx : (if inB size 0 16384 = true then fitP P (needP size).toNat else P).length ≤ 1000 := by
    split
    · rename_i hin
      unfold inB at hin
      simp at hin
      obtain ⟨K, hK, hK64⟩ := needP_nat size hin.1 hin.2
      rw [fit_len, hK, Int.toNat_natCast]; omega
    · omega
  have hGx : (if inB size 0 16384 = true then refsP (P.drop (needP size).toNat) else []).length ≤ 1000 := by
    split
    · exact Nat.le_trans (refs_len _) (by rw [List.length_drop]; omega)
    · simp
  unfold ResizeD at KX KY
  unfold Nd.val at KX KY
  dsimp only at KX KY
  obtain ⟨sz, hsz⟩ : ∃ z, (if inB size 0 16384 = true then size else s) = z := ⟨_, rfl⟩
  obtain ⟨Px, hPxe⟩ : ∃ z, (if inB size 0 16384 = true then fitP P (needP size).toNat else P) = z := ⟨_, rfl⟩
  obtain ⟨Gx, hGxe⟩ : ∃ z, (if inB size 0 16384 = true then refsP (P.drop (needP size).toNat) else []) = z := ⟨_, rfl⟩
  rw [hsz, hPxe, hGxe] at KX KY
  rw [hPxe] at hPx
  rw [hGxe] at hGx
  have HFew := Lib.hid hfew
  have HM1 := Lib.hid hm1; have HM2 := Lib.hid hm2
  clear hfew hfew2 hl1 hl2 hl3 hm1 hm2 hsz hPxe hGxe
  go_enter Try.func3, Try.ntmps3
  go_wp2_with fail
  refine (KA.out _).mono ?_
  rintro e w1 ⟨rfl, b1⟩
  have HBn := Lib.hid (HB.out.trans (b1.mono HB.out.size))
  have Can := Lib.hid (Ca.out.below' b1)
  have Cbn := Lib.hid (Cb.out.below' b1)
  clear HB Ca Cb  b1
  have HB := HBn
  have Ca := Can
  have Cb := Cbn
  clear HBn Can Cbn 
  obtain ⟨la0, la1, la2, la3, la4, la5, la6⟩ := cells7 Ca.out
  go_wp2_with fail
  refine (KF.out _ HB.out).mono ?_
  rintro e w2 ⟨rfl, b2⟩
  clear la0 la1 la2 la3 la4 la5 la6
  have HBn := Lib.hid (HB.out.trans (b2.mono HB.out.size))
  have Can := Lib.hid (Ca.out.below' b2)
  have Cbn := Lib.hid (Cb.out.below' b2)
  clear HB Ca Cb  b2
  have HB := HBn
  have Ca := Can
  have Cb := Cbn
  clear HBn Can Cbn 
  obtain ⟨lb0, lb1, lb2, lb3, lb4, lb5, lb6⟩ := cells7 Cb.out
  go_wp2_with fail
  refine (KG.out _ HB.out).mono ?_
  rintro e w3 ⟨rfl, b3⟩
  clear lb0 lb1 lb2 lb3 lb4 lb5 lb6
  have HBn := Lib.hid (HB.out.trans (b3.mono HB.out.size))
  have Can := Lib.hid (Ca.out.below' b3)
  have Cbn := Lib.hid (Cb.out.below' b3)
  clear HB Ca Cb  b3
  have HB := HBn
  have Ca := Can
  have Cb := Cbn
  clear HBn Can Cbn 
  obtain ⟨la0, la1, la2, la3, la4, la5, la6⟩ := cells7 Ca.out
  go_wp2_with fail
  refine (KX.out _ HB.out).mono ?_
  rintro e w5 ⟨V, A5, c5, B5, d5, G5, rfl, oX, oG, b5⟩
  clear la0 la1 la2 la3 la4 la5 la6
  have HBn := Lib.hid (HB.out.trans (b5.mono HB.out.size))
  have Can := Lib.hid (Ca.out.below' b5)
  have Cbn := Lib.hid (Cb.out.below' b5)
  clear HB Ca Cb  b5
  have HB := HBn
  have Ca := Can
  have Cb := Cbn
  clear HBn Can Cbn 
  obtain rfl := oX.val
  obtain ⟨Ag, cg, rfl, _⟩ := oG.row
  have OX := Lib.hid oX
  have OG := Lib.hid oG
  clear oX oG
  obtain ⟨gx, hgx⟩ : ∃ gg, w5.heap.size = gg := ⟨_, rfl⟩
  have bA := below_alloc w5 (.cells (ncells i k l sz u (.slice A5 Px.length c5) (.slice B5 N.length d5)) 25)
  have cA := Cells.new w5 25 (ncells i k l sz u (.slice A5 Px.length c5) (.slice B5 N.length d5))
  obtain ⟨W6, hW6⟩ : ∃ W, w5.alloc (.cells (ncells i k l sz u (.slice A5 Px.length c5) (.slice B5 N.length d5)) 25) = W := ⟨_, rfl⟩
  rw [hW6] at bA cA
  rw [hgx] at cA
  unfold ncells at hW6 cA
  have HW := Lib.hid hW6
  have HG := Lib.hid hgx
  clear hW6 hgx
  unfold nv
  go_upto_region 6 with fail
  rw [HG.out, HW.out]
  clear HW HG
  have HBn := Lib.hid (HB.out.trans (bA.mono HB.out.size))
  have Can := Lib.hid (Ca.out.below' bA)
  have Cbn := Lib.hid (Cb.out.below' bA)
  have OGn := Lib.hid (OG.out.below bA)
  have OXn := Lib.hid (OX.out.below bA)
  clear HB Ca Cb OG OX bA
  have HB := HBn
  have Ca := Can
  have Cb := Cbn
  have OG := OGn
  have OX := OXn
  clear HBn Can Cbn OGn OXn
  have Cx := Lib.hid cA
  clear cA
  obtain ⟨la0, la1, la2, la3, la4, la5, la6⟩ := cells7 Ca.out
  go_wp2_with fail
  refine (KY.out _ HB.out).mono ?_
  rintro e w7 ⟨V, A7, c7, B7, d7, G7, rfl, oY, oH, b7⟩
  clear la0 la1 la2 la3 la4 la5 la6
  have HBn := Lib.hid (HB.out.trans (b7.mono HB.out.size))
  have Can := Lib.hid (Ca.out.below' b7)
  have Cbn := Lib.hid (Cb.out.below' b7)
  have Cxn := Lib.hid (Cx.out.below' b7)
  have OGn := Lib.hid (OG.out.below b7)
  have OXn := Lib.hid (OX.out.below b7)
  clear HB Ca Cb Cx OG OX b7
  have HB := HBn
  have Ca := Can
  have Cb := Cbn
  have Cx := Cxn
  have OG := OGn
  have OX := OXn
  clear HBn Can Cbn Cxn OGn OXn
  obtain rfl := oY.val
  obtain ⟨Ah, ch, rfl, _⟩ := oH.row
  have OY := Lib.hid oY
  have OH := Lib.hid oH
  clear oY oH
  obtain ⟨gy, hgy⟩ : ∃ gg, w7.heap.size = gg := ⟨_, rfl⟩
  have bA := below_alloc w7 (.cells (ncells i k l sz u (.slice A7 Px.length c7) (.slice B7 N.length d7)) 25)
  have cA := Cells.new w7 25 (ncells i k l sz u (.slice A7 Px.length c7) (.slice B7 N.length d7))
  obtain ⟨W8, hW8⟩ : ∃ W, w7.alloc (.cells (ncells i k l sz u (.slice A7 Px.length c7) (.slice B7 N.length d7)) 25) = W := ⟨_, rfl⟩
  rw [hW8] at bA cA
  rw [hgy] at cA
  unfold ncells at hW8 cA
  have HW := Lib.hid hW8
  have HG := Lib.hid hgy
  clear hW8 hgy
  unfold nv
  go_upto_region 7 with fail
  rw [HG.out, HW.out]
  clear HW HG
  have HBn := Lib.hid (HB.out.trans (bA.mono HB.out.size))
  have Can := Lib.hid (Ca.out.below' bA)
  have Cbn := Lib.hid (Cb.out.below' bA)
  have Cxn := Lib.hid (Cx.out.below' bA)
  have OGn := Lib.hid (OG.out.below bA)
  have OHn := Lib.hid (OH.out.below bA)
  have OXn := Lib.hid (OX.out.below bA)
  have OYn := Lib.hid (OY.out.below bA)
  clear HB Ca Cb Cx OG OH OX OY bA
  have HB := HBn
  have Ca := Can
  have Cb := Cbn
  have Cx := Cxn
  have OG := OGn
  have OH := OHn
  have OX := OXn
  have OY := OYn
  clear HBn Can Cbn Cxn OGn OHn OXn OYn
  have Cy := Lib.hid cA
  clear cA
  obtain ⟨la0, la1, la2, la3, la4, la5, la6⟩ := cells7 Ca.out
  have HRow := Lib.hid ((HOk.out.row.below HB.out).more HB.out.size)
  dsimp only at HRow
  go_wp2
  clear la0 la1 la2 la3 la4 la5 la6
  go_loopw [17, 46] (fun R v wr => RefsRel P W8 R v wr) (fun _ v _ => P.length - (intOf v).toNat)
  case atStart => exact ⟨0, Nat.zero_le _, rfl, OwnI.nil _ _, Below.refl _ _⟩
  case round =>
    obtain ⟨kk, hk, rfl, hown, hbl⟩ := hrel
    by_cases hlt : kk < P.length
    · skip
      have hltI : (kk : Int) < (P.length : Int) := Int.ofNat_lt.2 hlt
      have hk0 : (0 : Int) ≤ (kk : Int) := Int.natCast_nonneg kk
      obtain ⟨b1, o1, x, hA, hbb, hx, cx⟩ := getI (HRow.out.below hbl) hlt
      have ht := refs_take hx
      have hle := Nat.le_trans (refs_len (P.take kk)) (by rw [List.length_take]; exact Nat.min_le_left kk _)
      have hsz := hbl.size
      by_cases hx0 : x = 0
      · have hz : (x != 0) = false := by simp [hx0]
        rw [if_pos hx0, List.append_nil] at ht
        have HT := Lib.hid ht; have HO := Lib.hid hown; have HBL := Lib.hid hbl
        clear hbl hown hx ht hx0 hle
        subst hA
        go_wp2
        go_roundw
        case rel => exact ⟨kk + 1, by omega, by go_num, by rw [HT.out]; exact HO.out, HBL.out⟩
        case measure => simp [intOf]; omega
      · have hz : (x != 0) = true := by simp [hx0]
        rw [if_neg hx0] at ht
        have HT := Lib.hid ht; have HBL := Lib.hid hbl
        have hle2 : (refsP (P.take kk)).length + 1 ≤ 1001 := by omega
        have HO2 := Lib.hid (show (wr.alloc (.cells #[.int .i64 x] 3)).ownsRow W8.heap.size 3 1 u17 (refsP (P.take kk)).length ((refsP (P.take kk)).map iv) from own_below hown ((Below.refl _ _).alloc (Nat.le_refl _) _))
        have HR2 := Lib.hid (Row.one wr (.int .i64 x) 3)
        clear hbl hown hx ht hx0 hle
        subst hA
        go_wp2_with (at_builtin; refine wpList_append_row _ rfl (.tmp 52) (.tmp 54) 22 rfl W8.heap.size 3 (.int .i64 0) 8 Try.underlying22 infoI rfl u17 (refsP (P.take kk)).length ((refsP (P.take kk)).map iv) rfl HO2.out _ (some ⟨wr.heap.size, 0, none⟩) 1 1 [.int .i64 x] rfl HR2.out (by simp [Value.oneCell']) (by unfold maxLen; omega) (by omega) (by simp; omega) ?_; intro v5 w5' hown5 hgr5 hat5; have hb5 := Lib.hid (show Below W8.heap.size W8 w5' from (HBL.out.alloc hsz _).grown hgr5 (by simp; omega) (own_base HO2.out)); have HO5 := Lib.hid hown5; clear hown5 hgr5 hat5)
        go_roundw
        case rel => exact ⟨kk + 1, by omega, by go_num, by rw [HT.out]; unfold OwnI; rw [List.length_append, List.map_append]; exact HO5.out, hb5.out⟩
        case measure => simp [intOf]; omega
    · obtain rfl : kk = P.length := by omega
      rw [List.take_length] at hown
      obtain ⟨Ar, cr, rfl, _⟩ := hown.row
      have OR := Lib.hid hown
      clear hown
      have HBn := Lib.hid (HB.out.trans (hbl.mono HB.out.size))
      have Can := Lib.hid (Ca.out.below' hbl)
      have Cbn := Lib.hid (Cb.out.below' hbl)
      have Cxn := Lib.hid (Cx.out.below' hbl)
      have Cyn := Lib.hid (Cy.out.below' hbl)
      have OGn := Lib.hid (OG.out.below hbl)
      have OHn := Lib.hid (OH.out.below hbl)
      have OXn := Lib.hid (OX.out.below hbl)
      have OYn := Lib.hid (OY.out.below hbl)
      clear HB Ca Cb Cx Cy OG OH OX OY hbl
      have HB := HBn
      have Ca := Can
      have Cb := Cbn
      have Cx := Cxn
      have Cy := Cyn
      have OG := OGn
      have OH := OHn
      have OX := OXn
      have OY := OYn
      clear HBn Can Cbn Cxn Cyn OGn OHn OXn OYn
      clear hlt
      obtain ⟨qk, hqk⟩ : ∃ q, (kind == 2) = q := ⟨_, rfl⟩
      go_upto_if 61 with fail
      go_cut [62] from 62 to 63 (fun x wx => wx = wr.alloc (.cells #[.int .i64 ino, .int .i64 kind, .int .i64 1, .int .i64 0, .int .i64 (newUp kind up), .slice none 0 0, .slice none 0 0] 25))
      case first =>
        by_cases hk2 : kind = 2
        · obtain rfl : qk = true := by rw [← hqk]; simpa using hk2
          have e : newUp kind up = up := by unfold newUp; rw [if_pos hk2]
          have He := Lib.hid e
          clear hk2 e
          go_wp2_with fail
          go_meet
          rw [He.out]
        · obtain rfl : qk = false := by rw [← hqk]; simpa using hk2
          have e : newUp kind up = 0 := by unfold newUp; rw [if_neg hk2]
          have He := Lib.hid e
          clear hk2 e
          go_wp2_with fail
          go_meet
          rw [He.out]
      case rest =>
      obtain ⟨nu, hnu⟩ : ∃ z, newUp kind up = z := ⟨_, rfl⟩
      rw [hnu] at hcut
      have KN13 := fun w => iNew ino kind up w
      rw [hnu] at KN13
      obtain ⟨gf, hgf⟩ : ∃ gg, wr.heap.size = gg := ⟨_, rfl⟩
      have bA := below_alloc wr (.cells #[.int .i64 ino, .int .i64 kind, .int .i64 1, .int .i64 0, .int .i64 nu, .slice none 0 0, .slice none 0 0] 25)
      have cA : Cells _ wr.heap.size 25 (ncells ino kind 1 0 nu (.slice none 0 0) (.slice none 0 0)) := Cells.new wr 25 #[.int .i64 ino, .int .i64 kind, .int .i64 1, .int .i64 0, .int .i64 nu, .slice none 0 0, .slice none 0 0]
      rw [← hcut] at bA cA
      rw [hgf] at cA
      have HGF := Lib.hid hgf
      clear hcut hnu hgf
      have HBn := Lib.hid (HB.out.trans (bA.mono HB.out.size))
      have Can := Lib.hid (Ca.out.below' bA)
      have Cbn := Lib.hid (Cb.out.below' bA)
      have Cxn := Lib.hid (Cx.out.below' bA)
      have Cyn := Lib.hid (Cy.out.below' bA)
      have OGn := Lib.hid (OG.out.below bA)
      have OHn := Lib.hid (OH.out.below bA)
      have ORn := Lib.hid (OR.out.below bA)
      have OXn := Lib.hid (OX.out.below bA)
      have OYn := Lib.hid (OY.out.below bA)
      clear HB Ca Cb Cx Cy OG OH OR OX OY bA
      have HB := HBn
      have Ca := Can
      have Cb := Cbn
      have Cx := Cxn
      have Cy := Cyn
      have OG := OGn
      have OH := OHn
      have OR := ORn
      have OX := OXn
      have OY := OYn
      clear HBn Can Cbn Cxn Cyn OGn OHn ORn OXn OYn
      have Cf := Lib.hid cA
      clear cA
      have xIn := OX.out.in_
      have yIn := OY.out.in_
      have nIn := HOk.out.in_.at_ HB.out
      have mIn := HMok.out.in_.at_ HB.out
      obtain ⟨Ag', cg', eg, rG⟩ := OG.out.row
      injection eg with eg egl egc
      subst eg
      subst egc
      obtain ⟨Ah', ch', eh, rH⟩ := OH.out.row
      injection eh with eh ehl ehc
      subst eh
      subst ehc
      obtain ⟨Ar', cr', er, rR⟩ := OR.out.row
      injection er with er erl erc
      subst er
      subst erc
      clear egl ehl erl
      have hm1000 : P2.length ≤ 1000 := by have := HM1.out; omega
      have hm21000 : N2.length ≤ 1000 := by have := HM2.out; omega
      have hr1000 : (refsP P).length ≤ 1000 := Nat.le_trans (refs_len P) hP1000
      have K1 := fun w1 (b : Below wc.heap.size wc w1) => rSame ⟨i, k, l, sz, u, A5, c5, Px, B5, d5, N⟩ ⟨i, k, l, sz, u, A7, c7, Px, B7, d7, N⟩ w1 (xIn.at_ b) (yIn.at_ b) hPx hN1000
      have K2 := fun w1 (b : Below wc.heap.size wc w1) => sameI_any Gx Gx _ _ rfl rfl hGx Ag Ah cg ch _ _ w1 (rG.below b) (rH.below b)
      have K3 := fun w1 (b : Below wc.heap.size wc w1) => iRefs ⟨i, k, l, s, u, A, ac, P, B, bc, N⟩ w1 (nIn.at_ b) hP1000
      have K4 := fun w1 (b : Below wc.heap.size wc w1) A' c' (hr : Row w1 w1.heap.size A' (refsP P).length ((refsP P).map iv)) => sameI_any (refsP P) (refsP P) _ _ rfl rfl hr1000 A' Ar c' cr _ _ w1 hr (rR.below b)
      have K5 := fun w1 (b : Below wc.heap.size wc w1) => iWords ⟨i, k, l, s, u, A, ac, P, B, bc, N⟩ w1 (nIn.at_ b) HFew.out
      have K6 := fun w1 (b : Below wc.heap.size wc w1) => rWords ⟨i, k, l, s, u, A, ac, P, B, bc, N⟩ w1 (nIn.at_ b) HFew.out
      have K7 := fun w => iRight i k l s u A B P.length ac N.length bc HOk.out.size w
      have K8 := fun w => rRight i k l s u A B P.length ac N.length bc HOk.out.size w
      have K9 := fun w1 (b : Below wc.heap.size wc w1) => iSame ⟨i, k, l, s, u, A, ac, P, B, bc, N⟩ ⟨i2, k2, l2, s2, u2, A2, ac2, P2, B2, bc2, N2⟩ w1 (nIn.at_ b) (mIn.at_ b) hP1000 hN1000
      have K10 := fun w1 (b : Below wc.heap.size wc w1) => rSame ⟨i, k, l, s, u, A, ac, P, B, bc, N⟩ ⟨i2, k2, l2, s2, u2, A2, ac2, P2, B2, bc2, N2⟩ w1 (nIn.at_ b) (mIn.at_ b) hP1000 hN1000
      have K11 := fun w => iNeed size HZ.out w
      have K12 := fun w => rNeed size HZ.out w
      have K14 := fun w1 => rSame ⟨ino, kind, 1, 0, nu, none, 0, [], none, 0, []⟩ ⟨ino, kind, 1, 0, nu, none, 0, [], none, 0, []⟩ w1 ⟨Row.nil, Ens.nil _ _ _⟩ ⟨Row.nil, Ens.nil _ _ _⟩ (Nat.zero_le _) (Nat.zero_le _)
      rw [nodeEq_self] at K1 K14
      rw [decide_eq_true rfl] at K2 K4
      obtain ⟨wn, hwn⟩ : ∃ z, Nd.words ⟨i, k, l, s, u, A, ac, P, B, bc, N⟩ = z := ⟨_, rfl⟩
      obtain ⟨rb, hrb⟩ : ∃ z, rightB i k l s u P.length N.length = z := ⟨_, rfl⟩
      obtain ⟨eb, heb⟩ : ∃ z, nodeEq ⟨i, k, l, s, u, A, ac, P, B, bc, N⟩ ⟨i2, k2, l2, s2, u2, A2, ac2, P2, B2, bc2, N2⟩ = z := ⟨_, rfl⟩
      obtain ⟨nd, hnd⟩ : ∃ z, needP size = z := ⟨_, rfl⟩
      rw [hwn] at K5 K6
      rw [hrb] at K7 K8
      rw [heb] at K9 K10
      rw [hnd] at K11 K12
      unfold Nd.val at K1 K3 K5 K6 K9 K10 K14
      unfold nv at K7 K8 KN13
      dsimp only [List.length_nil] at K1 K3 K5 K6 K9 K10 K14
      have H1 := Lib.hid K1; have H2 := Lib.hid K2; have H3 := Lib.hid K3; have H4 := Lib.hid K4; have H5 := Lib.hid K5; have H6 := Lib.hid K6; have H7 := Lib.hid K7; have H8 := Lib.hid K8; have H9 := Lib.hid K9; have H10 := Lib.hid K10; have H11 := Lib.hid K11; have H12 := Lib.hid K12; have H13 := Lib.hid KN13; have H14 := Lib.hid K14
      have s9 : ∀ w' : World, Below wc.heap.size wc w' → w'.cell? ⟨gx, 0, none⟩ = some (.int .i64 i) ∧ w'.cell? ⟨gx, 1, none⟩ = some (.int .i64 k) ∧ w'.cell? ⟨gx, 2, none⟩ = some (.int .i64 l) ∧ w'.cell? ⟨gx, 3, none⟩ = some (.int .i64 sz) ∧ w'.cell? ⟨gx, 4, none⟩ = some (.int .i64 u) ∧ w'.cell? ⟨gx, 5, none⟩ = some (.slice A5 Px.length c5) ∧ w'.cell? ⟨gx, 6, none⟩ = some (.slice B5 N.length d5) ∧ w'.cell? ⟨gy, 0, none⟩ = some (.int .i64 i) ∧ w'.cell? ⟨gy, 1, none⟩ = some (.int .i64 k) ∧ w'.cell? ⟨gy, 2, none⟩ = some (.int .i64 l) ∧ w'.cell? ⟨gy, 3, none⟩ = some (.int .i64 sz) ∧ w'.cell? ⟨gy, 4, none⟩ = some (.int .i64 u) ∧ w'.cell? ⟨gy, 5, none⟩ = some (.slice A7 Px.length c7) ∧ w'.cell? ⟨gy, 6, none⟩ = some (.slice B7 N.length d7) ∧ w'.cell? ⟨w.heap.size, 0, none⟩ = some (.int .i64 i) ∧ w'.cell? ⟨w.heap.size, 1, none⟩ = some (.int .i64 k) ∧ w'.cell? ⟨w.heap.size, 2, none⟩ = some (.int .i64 l) ∧ w'.cell? ⟨w.heap.size, 3, none⟩ = some (.int .i64 s) ∧ w'.cell? ⟨w.heap.size, 4, none⟩ = some (.int .i64 u) ∧ w'.cell? ⟨w.heap.size, 5, none⟩ = some (.slice A P.length ac) ∧ w'.cell? ⟨w.heap.size, 6, none⟩ = some (.slice B N.length bc) ∧ w'.cell? ⟨(w.heap.size + 1), 0, none⟩ = some (.int .i64 i2) ∧ w'.cell? ⟨(w.heap.size + 1), 1, none⟩ = some (.int .i64 k2) ∧ w'.cell? ⟨(w.heap.size + 1), 2, none⟩ = some (.int .i64 l2) ∧ w'.cell? ⟨(w.heap.size + 1), 3, none⟩ = some (.int .i64 s2) ∧ w'.cell? ⟨(w.heap.size + 1), 4, none⟩ = some (.int .i64 u2) ∧ w'.cell? ⟨(w.heap.size + 1), 5, none⟩ = some (.slice A2 P2.length ac2) ∧ w'.cell? ⟨(w.heap.size + 1), 6, none⟩ = some (.slice B2 N2.length bc2) ∧ w'.cell? ⟨gf, 0, none⟩ = some (.int .i64 ino) ∧ w'.cell? ⟨gf, 1, none⟩ = some (.int .i64 kind) ∧ w'.cell? ⟨gf, 2, none⟩ = some (.int .i64 1) ∧ w'.cell? ⟨gf, 3, none⟩ = some (.int .i64 0) ∧ w'.cell? ⟨gf, 4, none⟩ = some (.int .i64 nu) ∧ w'.cell? ⟨gf, 5, none⟩ = some (.slice none 0 0) ∧ w'.cell? ⟨gf, 6, none⟩ = some (.slice none 0 0) := fun w' b => by
        obtain ⟨xc0, xc1, xc2, xc3, xc4, xc5, xc6⟩ := cells7 (Cx.out.below' b)
        obtain ⟨yc0, yc1, yc2, yc3, yc4, yc5, yc6⟩ := cells7 (Cy.out.below' b)
        obtain ⟨ac0, ac1, ac2, ac3, ac4, ac5, ac6⟩ := cells7 (Ca.out.below' b)
        obtain ⟨bc0, bc1, bc2, bc3, bc4, bc5, bc6⟩ := cells7 (Cb.out.below' b)
        obtain ⟨fc0, fc1, fc2, fc3, fc4, fc5, fc6⟩ := cells7 (Cf.out.below' b)
        exact ⟨xc0, xc1, xc2, xc3, xc4, xc5, xc6, yc0, yc1, yc2, yc3, yc4, yc5, yc6, ac0, ac1, ac2, ac3, ac4, ac5, ac6, bc0, bc1, bc2, bc3, bc4, bc5, bc6, fc0, fc1, fc2, fc3, fc4, fc5, fc6⟩
      have S9 := Lib.hid s9
      have b0 : Below wc.heap.size wc wc.drew := below_drewN (Below.refl _ _) 1
      clear K1 K2 K3 K4 K5 K6 K7 K8 K9 K10 K11 K12 KN13 K14 hwn hrb heb hnd s9 xIn yIn nIn mIn rG rH rR hm1000 hm21000 hr1000 hPx hGx hP1000 hN1000 Ca Cb Cx Cy Cf OX OY OG OH OR KA KF KG KX KY HRow HFew HM1 HM2 HFb HFm HOk HMok HZ
      go_upto_region 17 with fail
      rw [HGF.out]
      go_region_held3 (fun w' => w'.cell? ⟨gx, 0, none⟩ = some (.int .i64 i) ∧ w'.cell? ⟨gx, 1, none⟩ = some (.int .i64 k) ∧ w'.cell? ⟨gx, 2, none⟩ = some (.int .i64 l) ∧ w'.cell? ⟨gx, 3, none⟩ = some (.int .i64 sz) ∧ w'.cell? ⟨gx, 4, none⟩ = some (.int .i64 u) ∧ w'.cell? ⟨gx, 5, none⟩ = some (.slice A5 Px.length c5) ∧ w'.cell? ⟨gx, 6, none⟩ = some (.slice B5 N.length d5) ∧ w'.cell? ⟨gy, 0, none⟩ = some (.int .i64 i) ∧ w'.cell? ⟨gy, 1, none⟩ = some (.int .i64 k) ∧ w'.cell? ⟨gy, 2, none⟩ = some (.int .i64 l) ∧ w'.cell? ⟨gy, 3, none⟩ = some (.int .i64 sz) ∧ w'.cell? ⟨gy, 4, none⟩ = some (.int .i64 u) ∧ w'.cell? ⟨gy, 5, none⟩ = some (.slice A7 Px.length c7) ∧ w'.cell? ⟨gy, 6, none⟩ = some (.slice B7 N.length d7) ∧ w'.cell? ⟨w.heap.size, 0, none⟩ = some (.int .i64 i) ∧ w'.cell? ⟨w.heap.size, 1, none⟩ = some (.int .i64 k) ∧ w'.cell? ⟨w.heap.size, 2, none⟩ = some (.int .i64 l) ∧ w'.cell? ⟨w.heap.size, 3, none⟩ = some (.int .i64 s) ∧ w'.cell? ⟨w.heap.size, 4, none⟩ = some (.int .i64 u) ∧ w'.cell? ⟨w.heap.size, 5, none⟩ = some (.slice A P.length ac) ∧ w'.cell? ⟨w.heap.size, 6, none⟩ = some (.slice B N.length bc) ∧ w'.cell? ⟨(w.heap.size + 1), 0, none⟩ = some (.int .i64 i2) ∧ w'.cell? ⟨(w.heap.size + 1), 1, none⟩ = some (.int .i64 k2) ∧ w'.cell? ⟨(w.heap.size + 1), 2, none⟩ = some (.int .i64 l2) ∧ w'.cell? ⟨(w.heap.size + 1), 3, none⟩ = some (.int .i64 s2) ∧ w'.cell? ⟨(w.heap.size + 1), 4, none⟩ = some (.int .i64 u2) ∧ w'.cell? ⟨(w.heap.size + 1), 5, none⟩ = some (.slice A2 P2.length ac2) ∧ w'.cell? ⟨(w.heap.size + 1), 6, none⟩ = some (.slice B2 N2.length bc2) ∧ w'.cell? ⟨gf, 0, none⟩ = some (.int .i64 ino) ∧ w'.cell? ⟨gf, 1, none⟩ = some (.int .i64 kind) ∧ w'.cell? ⟨gf, 2, none⟩ = some (.int .i64 1) ∧ w'.cell? ⟨gf, 3, none⟩ = some (.int .i64 0) ∧ w'.cell? ⟨gf, 4, none⟩ = some (.int .i64 nu) ∧ w'.cell? ⟨gf, 5, none⟩ = some (.slice none 0 0) ∧ w'.cell? ⟨gf, 6, none⟩ = some (.slice none 0 0))
        (first | exact S9.out _ b0 | exact S9.out _ k1 | exact S9.out _ k2 | exact S9.out _ k3 | exact S9.out _ k4 | exact S9.out _ k5 | exact S9.out _ k6 | exact S9.out _ k7 | exact S9.out _ k8 | exact S9.out _ k9 | exact S9.out _ k10 | exact S9.out _ k11 | exact S9.out _ k12 | exact S9.out _ k13 | exact S9.out _ k14)
        (first
          | (go_at_call 10; (with_reducible refine (H1.out _ b0).mono ?_); rintro e' w1 x1; obtain ⟨rfl, c1⟩ := x1.below; clear x1; have k1 : Below wc.heap.size wc w1 := b0.trans (c1.mono b0.size))
          | (go_at_call 11; (with_reducible refine (H2.out _ k1).mono ?_); rintro e' w2 x2; obtain ⟨rfl, c2⟩ := x2.below; clear x2; have k2 : Below wc.heap.size wc w2 := k1.trans (c2.mono k1.size))
          | (go_at_call 12; (with_reducible refine (H3.out _ k2).mono ?_); rintro e' w3 ⟨v3, rfl, o3, c3⟩; obtain ⟨A3', c3', rfl, r3⟩ := o3.row; have k3 : Below wc.heap.size wc w3 := k2.trans (c3.mono k2.size))
          | (go_at_call 11; (with_reducible refine (H4.out _ k3 _ _ r3).mono ?_); rintro e' w4 x4; obtain ⟨rfl, cc4⟩ := x4.below; clear x4; have k4 : Below wc.heap.size wc w4 := k3.trans (cc4.mono k3.size))
          | (go_at_call 13; (with_reducible refine (H5.out _ k4).mono ?_); rintro e' w5 x5; obtain ⟨rfl, cc5⟩ := x5.below; clear x5; have k5 : Below wc.heap.size wc w5 := k4.trans (cc5.mono k4.size))
          | (go_at_call 14; (with_reducible refine (H6.out _ k5).mono ?_); rintro e' w6 ⟨rfl, c6⟩; have k6 : Below wc.heap.size wc w6 := k5.trans (c6.mono k5.size))
          | (go_at_call 15; (with_reducible refine (H7.out _).mono ?_); rintro e' w7 x7; obtain ⟨rfl, cc7⟩ := x7.below; clear x7; have k7 : Below wc.heap.size wc w7 := k6.trans (cc7.mono k6.size))
          | (go_at_call 16; (with_reducible refine (H8.out _).mono ?_); rintro e' w8 x8; obtain ⟨rfl, c8⟩ := x8.below; clear x8; have k8 : Below wc.heap.size wc w8 := k7.trans (c8.mono k7.size))
          | (go_at_call 17; (with_reducible refine (H9.out _ k8).mono ?_); rintro e' w9 x9; obtain ⟨rfl, c9⟩ := x9.below; clear x9; have k9 : Below wc.heap.size wc w9 := k8.trans (c9.mono k8.size))
          | (go_at_call 10; (with_reducible refine (H10.out _ k9).mono ?_); rintro e' w10 x10; obtain ⟨rfl, c10⟩ := x10.below; clear x10; have k10 : Below wc.heap.size wc w10 := k9.trans (c10.mono k9.size))
          | (go_at_call 18; (with_reducible refine (H11.out _).mono ?_); rintro e' w11 x11; obtain ⟨rfl, c11⟩ := x11.below; clear x11; have k11 : Below wc.heap.size wc w11 := k10.trans (c11.mono k10.size))
          | (go_at_call 19; (with_reducible refine (H12.out _).mono ?_); rintro e' w12 x12; obtain ⟨rfl, c12⟩ := x12.below; clear x12; have k12 : Below wc.heap.size wc w12 := k11.trans (c12.mono k11.size))
          | (go_at_call 20; (with_reducible refine (H13.out _).mono ?_); rintro e' w13 x13; obtain ⟨rfl, c13⟩ := x13.below; clear x13; have k13 : Below wc.heap.size wc w13 := k12.trans (c13.mono k12.size))
          | (go_at_call 10; (with_reducible refine (H14.out _).mono ?_); rintro e' w14 x14; obtain ⟨rfl, c14⟩ := x14.below; clear x14; have k14 : Below wc.heap.size wc w14 := k13.trans (c14.mono k13.size)))
      all_goals
        have HBe := Lib.hid (HB.out.trans (k14.mono HB.out.size))
        clear S9 H1 H2 H3 H4 H5 H6 H7 H8 H9 H10 H11 H12 H13 H14
        go_wp2
        go_ret
        exact ⟨by simp, HBe.out⟩
end Go.Proofs.Ytajmboolgekdeaa
