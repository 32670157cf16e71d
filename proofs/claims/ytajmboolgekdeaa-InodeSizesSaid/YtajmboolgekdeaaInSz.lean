import Derived.Test.YtajmboolgekdeaaInSz0
namespace Go.Proofs.Ytajmboolgekdeaa
open Wd Ino Go.RowKit Go.ChangeShapes Go.WideShapes Go.Sort
set_option linter.unusedVariables false
set_option maxRecDepth 100000

set_option maxHeartbeats 16000000 in
theorem sizesLaw (n : Nd) (size again : Int) (hz : i64R size) (ha : i64R again) (w : World) (hok : n.Ok w w.heap.size) : Calls Try.prog 5 #[n.val, .int .i64 size, .int .i64 again] w (TrueB w) := by
  have KF := Lib.hid (fun w1 (b : Below w.heap.size w w1) => lFew n w1 (hok.in_.at_ b) hok.nle)
  have KA := Lib.hid (fun w => lAwake w)
  obtain ⟨i, k, l, s, u, A, ac, P, B, bc, N⟩ := n
  have hsz := hok.size
  dsimp only at hsz
  have KI := Lib.hid (fun w => iRight i k l s u A B P.length ac N.length bc hsz w)
  have HOk := Lib.hid hok
  obtain ⟨fb, hfb⟩ : ∃ b, fewB ⟨i, k, l, s, u, A, ac, P, B, bc, N⟩ = b := ⟨_, rfl⟩
  obtain ⟨rb, hrb⟩ : ∃ b, rightB i k l s u P.length N.length = b := ⟨_, rfl⟩
  rw [hfb] at KF
  rw [hrb] at KI
  have HFb := Lib.hid hfb; have HRb := Lib.hid hrb; have HZ := Lib.hid hz; have HA := Lib.hid ha
  unfold nv at KI
  unfold Nd.val at KF ⊢
  dsimp only at KF ⊢
  have HB := Lib.hid (below_alloc w (.cells (ncells i k l s u (.slice A P.length ac) (.slice B N.length bc)) 25))
  have Ca := Lib.hid (Cells.new w 25 (ncells i k l s u (.slice A P.length ac) (.slice B N.length bc)))
  unfold ncells at HB Ca
  clear hfb hrb hok hsz hz ha
  cases fb
  · skip
    go_enter Try.func5, Try.ntmps5
    go_wp2_with fail
    refine (KA.out _).mono ?_
    rintro e w1 ⟨rfl, b1⟩
    have HBn := Lib.hid (HB.out.trans (b1.mono HB.out.size))
    have Can := Lib.hid (Ca.out.below' b1)
    clear HB Ca  b1
    have HB := HBn
    have Ca := Can
    clear HBn Can 
    obtain ⟨la0, la1, la2, la3, la4, la5, la6⟩ := cells7 Ca.out
    go_wp2_with fail
    refine (KF.out _ HB.out).mono ?_
    rintro e w2 ⟨rfl, b2⟩
    clear la0 la1 la2 la3 la4 la5 la6
    have HBn := Lib.hid (HB.out.trans (b2.mono HB.out.size))
    have Can := Lib.hid (Ca.out.below' b2)
    clear HB Ca  b2
    have HB := HBn
    have Ca := Can
    clear HBn Can 
    obtain ⟨la0, la1, la2, la3, la4, la5, la6⟩ := cells7 Ca.out
    go_wp2
    go_ret
    exact ⟨rfl, HB.out⟩
  cases rb
  · skip
    go_enter Try.func5, Try.ntmps5
    go_wp2_with fail
    refine (KA.out _).mono ?_
    rintro e w1 ⟨rfl, b1⟩
    have HBn := Lib.hid (HB.out.trans (b1.mono HB.out.size))
    have Can := Lib.hid (Ca.out.below' b1)
    clear HB Ca  b1
    have HB := HBn
    have Ca := Can
    clear HBn Can 
    obtain ⟨la0, la1, la2, la3, la4, la5, la6⟩ := cells7 Ca.out
    go_wp2_with fail
    refine (KF.out _ HB.out).mono ?_
    rintro e w2 ⟨rfl, b2⟩
    clear la0 la1 la2 la3 la4 la5 la6
    have HBn := Lib.hid (HB.out.trans (b2.mono HB.out.size))
    have Can := Lib.hid (Ca.out.below' b2)
    clear HB Ca  b2
    have HB := HBn
    have Ca := Can
    clear HBn Can 
    obtain ⟨la0, la1, la2, la3, la4, la5, la6⟩ := cells7 Ca.out
    go_wp2_with fail
    refine (KI.out _).mono ?_
    rintro e w3 hg3
    obtain ⟨rfl, b3⟩ := hg3.below
    clear hg3
    clear la0 la1 la2 la3 la4 la5 la6
    have HBn := Lib.hid (HB.out.trans (b3.mono HB.out.size))
    have Can := Lib.hid (Ca.out.below' b3)
    clear HB Ca  b3
    have HB := HBn
    have Ca := Can
    clear HBn Can 
    obtain ⟨la0, la1, la2, la3, la4, la5, la6⟩ := cells7 Ca.out
    go_wp2
    go_ret
    exact ⟨rfl, HB.out⟩
  by_cases h0' : ¬ (k = 1)
  · have q0 : (k != 1) = true := by simpa using h0'
    clear h0'
    go_enter Try.func5, Try.ntmps5
    go_wp2_with fail
    refine (KA.out _).mono ?_
    rintro e w1 ⟨rfl, b1⟩
    have HBn := Lib.hid (HB.out.trans (b1.mono HB.out.size))
    have Can := Lib.hid (Ca.out.below' b1)
    clear HB Ca  b1
    have HB := HBn
    have Ca := Can
    clear HBn Can 
    obtain ⟨la0, la1, la2, la3, la4, la5, la6⟩ := cells7 Ca.out
    go_wp2_with fail
    refine (KF.out _ HB.out).mono ?_
    rintro e w2 ⟨rfl, b2⟩
    clear la0 la1 la2 la3 la4 la5 la6
    have HBn := Lib.hid (HB.out.trans (b2.mono HB.out.size))
    have Can := Lib.hid (Ca.out.below' b2)
    clear HB Ca  b2
    have HB := HBn
    have Ca := Can
    clear HBn Can 
    obtain ⟨la0, la1, la2, la3, la4, la5, la6⟩ := cells7 Ca.out
    go_wp2_with fail
    refine (KI.out _).mono ?_
    rintro e w3 hg3
    obtain ⟨rfl, b3⟩ := hg3.below
    clear hg3
    clear la0 la1 la2 la3 la4 la5 la6
    have HBn := Lib.hid (HB.out.trans (b3.mono HB.out.size))
    have Can := Lib.hid (Ca.out.below' b3)
    clear HB Ca  b3
    have HB := HBn
    have Ca := Can
    clear HBn Can 
    obtain ⟨la0, la1, la2, la3, la4, la5, la6⟩ := cells7 Ca.out
    go_wp2
    go_ret
    exact ⟨rfl, HB.out⟩
  have h0 : k = 1 := Classical.not_not.1 h0'
  clear h0'
  have q0 : (k != 1) = false := by simpa using h0
  have H0 := Lib.hid h0
  clear h0
  by_cases h1' : ¬ (0 ≤ size)
  · have q1 : decide (size < 0) = true := decide_eq_true (by omega)
    clear h1'
    go_enter Try.func5, Try.ntmps5
    go_wp2_with fail
    refine (KA.out _).mono ?_
    rintro e w1 ⟨rfl, b1⟩
    have HBn := Lib.hid (HB.out.trans (b1.mono HB.out.size))
    have Can := Lib.hid (Ca.out.below' b1)
    clear HB Ca  b1
    have HB := HBn
    have Ca := Can
    clear HBn Can 
    obtain ⟨la0, la1, la2, la3, la4, la5, la6⟩ := cells7 Ca.out
    go_wp2_with fail
    refine (KF.out _ HB.out).mono ?_
    rintro e w2 ⟨rfl, b2⟩
    clear la0 la1 la2 la3 la4 la5 la6
    have HBn := Lib.hid (HB.out.trans (b2.mono HB.out.size))
    have Can := Lib.hid (Ca.out.below' b2)
    clear HB Ca  b2
    have HB := HBn
    have Ca := Can
    clear HBn Can 
    obtain ⟨la0, la1, la2, la3, la4, la5, la6⟩ := cells7 Ca.out
    go_wp2_with fail
    refine (KI.out _).mono ?_
    rintro e w3 hg3
    obtain ⟨rfl, b3⟩ := hg3.below
    clear hg3
    clear la0 la1 la2 la3 la4 la5 la6
    have HBn := Lib.hid (HB.out.trans (b3.mono HB.out.size))
    have Can := Lib.hid (Ca.out.below' b3)
    clear HB Ca  b3
    have HB := HBn
    have Ca := Can
    clear HBn Can 
    obtain ⟨la0, la1, la2, la3, la4, la5, la6⟩ := cells7 Ca.out
    go_wp2
    go_ret
    exact ⟨rfl, HB.out⟩
  have h1 : 0 ≤ size := Classical.not_not.1 h1'
  clear h1'
  have q1 : decide (size < 0) = false := decide_eq_false (by omega)
  by_cases h2' : ¬ (size ≤ 16384)
  · have q2 : decide (16384 < size) = true := decide_eq_true (by omega)
    clear h2'
    go_enter Try.func5, Try.ntmps5
    go_wp2_with fail
    refine (KA.out _).mono ?_
    rintro e w1 ⟨rfl, b1⟩
    have HBn := Lib.hid (HB.out.trans (b1.mono HB.out.size))
    have Can := Lib.hid (Ca.out.below' b1)
    clear HB Ca  b1
    have HB := HBn
    have Ca := Can
    clear HBn Can 
    obtain ⟨la0, la1, la2, la3, la4, la5, la6⟩ := cells7 Ca.out
    go_wp2_with fail
    refine (KF.out _ HB.out).mono ?_
    rintro e w2 ⟨rfl, b2⟩
    clear la0 la1 la2 la3 la4 la5 la6
    have HBn := Lib.hid (HB.out.trans (b2.mono HB.out.size))
    have Can := Lib.hid (Ca.out.below' b2)
    clear HB Ca  b2
    have HB := HBn
    have Ca := Can
    clear HBn Can 
    obtain ⟨la0, la1, la2, la3, la4, la5, la6⟩ := cells7 Ca.out
    go_wp2_with fail
    refine (KI.out _).mono ?_
    rintro e w3 hg3
    obtain ⟨rfl, b3⟩ := hg3.below
    clear hg3
    clear la0 la1 la2 la3 la4 la5 la6
    have HBn := Lib.hid (HB.out.trans (b3.mono HB.out.size))
    have Can := Lib.hid (Ca.out.below' b3)
    clear HB Ca  b3
    have HB := HBn
    have Ca := Can
    clear HBn Can 
    obtain ⟨la0, la1, la2, la3, la4, la5, la6⟩ := cells7 Ca.out
    go_wp2
    go_ret
    exact ⟨rfl, HB.out⟩
  have h2 : size ≤ 16384 := Classical.not_not.1 h2'
  clear h2'
  have q2 : decide (16384 < size) = false := decide_eq_false (by omega)
  by_cases h3' : ¬ (size ≤ again)
  · have q3 : decide (again < size) = true := decide_eq_true (by omega)
    clear h3'
    go_enter Try.func5, Try.ntmps5
    go_wp2_with fail
    refine (KA.out _).mono ?_
    rintro e w1 ⟨rfl, b1⟩
    have HBn := Lib.hid (HB.out.trans (b1.mono HB.out.size))
    have Can := Lib.hid (Ca.out.below' b1)
    clear HB Ca  b1
    have HB := HBn
    have Ca := Can
    clear HBn Can 
    obtain ⟨la0, la1, la2, la3, la4, la5, la6⟩ := cells7 Ca.out
    go_wp2_with fail
    refine (KF.out _ HB.out).mono ?_
    rintro e w2 ⟨rfl, b2⟩
    clear la0 la1 la2 la3 la4 la5 la6
    have HBn := Lib.hid (HB.out.trans (b2.mono HB.out.size))
    have Can := Lib.hid (Ca.out.below' b2)
    clear HB Ca  b2
    have HB := HBn
    have Ca := Can
    clear HBn Can 
    obtain ⟨la0, la1, la2, la3, la4, la5, la6⟩ := cells7 Ca.out
    go_wp2_with fail
    refine (KI.out _).mono ?_
    rintro e w3 hg3
    obtain ⟨rfl, b3⟩ := hg3.below
    clear hg3
    clear la0 la1 la2 la3 la4 la5 la6
    have HBn := Lib.hid (HB.out.trans (b3.mono HB.out.size))
    have Can := Lib.hid (Ca.out.below' b3)
    clear HB Ca  b3
    have HB := HBn
    have Ca := Can
    clear HBn Can 
    obtain ⟨la0, la1, la2, la3, la4, la5, la6⟩ := cells7 Ca.out
    go_wp2
    go_ret
    exact ⟨rfl, HB.out⟩
  have h3 : size ≤ again := Classical.not_not.1 h3'
  clear h3'
  have q3 : decide (again < size) = false := decide_eq_false (by omega)
  by_cases h4' : ¬ (again ≤ 16384)
  · have q4 : decide (16384 < again) = true := decide_eq_true (by omega)
    clear h4'
    go_enter Try.func5, Try.ntmps5
    go_wp2_with fail
    refine (KA.out _).mono ?_
    rintro e w1 ⟨rfl, b1⟩
    have HBn := Lib.hid (HB.out.trans (b1.mono HB.out.size))
    have Can := Lib.hid (Ca.out.below' b1)
    clear HB Ca  b1
    have HB := HBn
    have Ca := Can
    clear HBn Can 
    obtain ⟨la0, la1, la2, la3, la4, la5, la6⟩ := cells7 Ca.out
    go_wp2_with fail
    refine (KF.out _ HB.out).mono ?_
    rintro e w2 ⟨rfl, b2⟩
    clear la0 la1 la2 la3 la4 la5 la6
    have HBn := Lib.hid (HB.out.trans (b2.mono HB.out.size))
    have Can := Lib.hid (Ca.out.below' b2)
    clear HB Ca  b2
    have HB := HBn
    have Ca := Can
    clear HBn Can 
    obtain ⟨la0, la1, la2, la3, la4, la5, la6⟩ := cells7 Ca.out
    go_wp2_with fail
    refine (KI.out _).mono ?_
    rintro e w3 hg3
    obtain ⟨rfl, b3⟩ := hg3.below
    clear hg3
    clear la0 la1 la2 la3 la4 la5 la6
    have HBn := Lib.hid (HB.out.trans (b3.mono HB.out.size))
    have Can := Lib.hid (Ca.out.below' b3)
    clear HB Ca  b3
    have HB := HBn
    have Ca := Can
    clear HBn Can 
    obtain ⟨la0, la1, la2, la3, la4, la5, la6⟩ := cells7 Ca.out
    go_wp2
    go_ret
    exact ⟨rfl, HB.out⟩
  have h4 : again ≤ 16384 := Classical.not_not.1 h4'
  clear h4'
  have q4 : decide (16384 < again) = false := decide_eq_false (by omega)
  have hfew := fewB_iff.1 HFb.out
  have hl1 := hfew.pages
  have hl2 := hfew.names
  have hl3 := hfew.size
  dsimp only at hl1 hl2 hl3
  have KX := Lib.hid (fun w1 (b : Below w.heap.size w w1) => iResize ⟨i, k, l, s, u, A, ac, P, B, bc, N⟩ size HZ.out w1 (HOk.out.at_ b) (show P.length ≤ 1000 by omega) (show N.length ≤ 1000 by omega) (fun e he => by have := hl3 e he; omega))
  have hin1 : inB size 0 16384 = true := by unfold inB; rw [decide_eq_true h1, decide_eq_true h2]; rfl
  have hin2 : inB again 0 16384 = true := by unfold inB; rw [decide_eq_true (show 0 ≤ again by omega), decide_eq_true h4]; rfl
  obtain ⟨K, hK, hK64⟩ := needP_nat size h1 h2
  obtain ⟨K2, hK2, hK264⟩ := needP_nat again (by omega) h4
  have hKK : K ≤ K2 := by have := need_mono h3; omega
  have hrx := right_resize HRb.out H0.out hin1 hK
  have hry := right_resize hrx H0.out hin2 hK2
  have hcount := refs_fit P K
  have hfi := fit_ints (K := K) HOk.out.int
  have hfl := fit_len P K
  unfold ResizeD at KX
  unfold Nd.val at KX
  dsimp only at KX hfi
  simp only [hin1, if_true] at KX
  rw [hK, Int.toNat_natCast] at KX
  obtain ⟨Fx, hFx⟩ : ∃ F, fitP P K = F := ⟨_, rfl⟩
  rw [hFx] at KX hcount hfi hfl
  have hmore := fit_none Fx K K2 hfl hKK
  have HFl := Lib.hid hfl; have HMore := Lib.hid hmore; have HCount := Lib.hid hcount; have HFi := Lib.hid hfi; have HN3 := Lib.hid hl3
  have HIn2 := Lib.hid hin2; have HK2 := Lib.hid hK2
  have hF1000 : Fx.length ≤ 1000 := by omega
  have hN1000 : N.length ≤ 1000 := by omega
  have hP1000 : P.length ≤ 1000 := by omega
  have KRx := fun A B c d w => iRight i k l size u A B K c N.length d HZ.out w
  have KRy := fun A B c d w => iRight i k l again u A B K2 c N.length d HA.out w
  unfold nv at KRx KRy
  rw [hrx] at KRx
  rw [hry] at KRy
  have HKRx := Lib.hid KRx; have HKRy := Lib.hid KRy
  clear hfew hl1 hl2 hl3 hin1 hin2 hK hK2 hrx hry hcount hfi hfl hmore hFx h1 h2 h3 h4 KRx KRy
  go_enter Try.func5, Try.ntmps5
  go_wp2_with fail
  refine (KA.out _).mono ?_
  rintro e w1 ⟨rfl, b1⟩
  have HBn := Lib.hid (HB.out.trans (b1.mono HB.out.size))
  have Can := Lib.hid (Ca.out.below' b1)
  clear HB Ca  b1
  have HB := HBn
  have Ca := Can
  clear HBn Can 
  obtain ⟨la0, la1, la2, la3, la4, la5, la6⟩ := cells7 Ca.out
  go_wp2_with fail
  refine (KF.out _ HB.out).mono ?_
  rintro e w2 ⟨rfl, b2⟩
  clear la0 la1 la2 la3 la4 la5 la6
  have HBn := Lib.hid (HB.out.trans (b2.mono HB.out.size))
  have Can := Lib.hid (Ca.out.below' b2)
  clear HB Ca  b2
  have HB := HBn
  have Ca := Can
  clear HBn Can 
  obtain ⟨la0, la1, la2, la3, la4, la5, la6⟩ := cells7 Ca.out
  go_wp2_with fail
  refine (KI.out _).mono ?_
  rintro e w3 hg3
  obtain ⟨rfl, b3⟩ := hg3.below
  clear hg3
  clear la0 la1 la2 la3 la4 la5 la6
  have HBn := Lib.hid (HB.out.trans (b3.mono HB.out.size))
  have Can := Lib.hid (Ca.out.below' b3)
  clear HB Ca  b3
  have HB := HBn
  have Ca := Can
  clear HBn Can 
  obtain ⟨la0, la1, la2, la3, la4, la5, la6⟩ := cells7 Ca.out
  go_wp2_with fail
  refine (KX.out _ HB.out).mono ?_
  rintro e w5 ⟨V, A5, c5, B5, d5, G5, rfl, oX, oG, b5⟩
  clear la0 la1 la2 la3 la4 la5 la6
  have HBn := Lib.hid (HB.out.trans (b5.mono HB.out.size))
  have Can := Lib.hid (Ca.out.below' b5)
  clear HB Ca  b5
  have HB := HBn
  have Ca := Can
  clear HBn Can 
  obtain rfl := oX.val
  obtain ⟨Ag, cg, rfl, _⟩ := oG.row
  have xOk := oX.ok HOk.out.ino HOk.out.kind HOk.out.links HZ.out HOk.out.up HFi.out HOk.out.ok
  have KY := Lib.hid (fun w1 (b : Below w5.heap.size w5 w1) => iResize ⟨i, k, l, size, u, A5, c5, Fx, B5, d5, N⟩ again HA.out w1 (xOk.at_ b) hF1000 hN1000 (fun e he => by have := HN3.out e he; omega))
  unfold ResizeD at KY
  unfold Nd.val at KY
  dsimp only at KY
  simp only [HIn2.out, if_true] at KY
  rw [HK2.out, Int.toNat_natCast, HMore.out, HFl.out] at KY
  have OX := Lib.hid oX
  clear oX oG
  rw [HFl.out]
  obtain ⟨gx, hgx⟩ : ∃ gg, w5.heap.size = gg := ⟨_, rfl⟩
  have bA := below_alloc w5 (.cells (ncells i k l size u (.slice A5 K c5) (.slice B5 N.length d5)) 25)
  have cA := Cells.new w5 25 (ncells i k l size u (.slice A5 K c5) (.slice B5 N.length d5))
  obtain ⟨W6, hW6⟩ : ∃ W, w5.alloc (.cells (ncells i k l size u (.slice A5 K c5) (.slice B5 N.length d5)) 25) = W := ⟨_, rfl⟩
  rw [hW6] at bA cA
  rw [hgx] at cA
  unfold ncells at hW6 cA
  have HW := Lib.hid hW6
  have HG := Lib.hid hgx
  clear hW6 hgx
  unfold nv
  go_upto_region 6 with fail
  rw [HG.out, HW.out]
  clear HW HG
  have BAW6 := Lib.hid bA
  have HBn := Lib.hid (HB.out.trans (bA.mono HB.out.size))
  have Can := Lib.hid (Ca.out.below' bA)
  have OXn := Lib.hid (OX.out.below bA)
  clear HB Ca OX bA
  have HB := HBn
  have Ca := Can
  have OX := OXn
  clear HBn Can OXn
  have Cx := Lib.hid cA
  clear cA
  obtain ⟨lx0, lx1, lx2, lx3, lx4, lx5, lx6⟩ := cells7 Cx.out
  go_wp2_with fail
  refine (KY.out _ BAW6.out).mono ?_
  rintro e w7 ⟨V, A7, c7, B7, d7, G7, rfl, oY, oG, b7⟩
  clear lx0 lx1 lx2 lx3 lx4 lx5 lx6
  have HBn := Lib.hid (HB.out.trans (b7.mono HB.out.size))
  have Can := Lib.hid (Ca.out.below' b7)
  have Cxn := Lib.hid (Cx.out.below' b7)
  have OXn := Lib.hid (OX.out.below b7)
  clear HB Ca Cx OX b7
  have HB := HBn
  have Ca := Can
  have Cx := Cxn
  have OX := OXn
  clear HBn Can Cxn OXn
  obtain rfl := oY.val
  obtain ⟨Ag7, cg7, rfl, _⟩ := oG.row
  have hyl := fit_len Fx K2
  have HYl := Lib.hid hyl
  have OY := Lib.hid oY
  clear oY oG hyl
  rw [HYl.out]
  obtain ⟨gy, hgy⟩ : ∃ gg, w7.heap.size = gg := ⟨_, rfl⟩
  have bA := below_alloc w7 (.cells (ncells i k l again u (.slice A7 K2 c7) (.slice B7 N.length d7)) 25)
  have cA := Cells.new w7 25 (ncells i k l again u (.slice A7 K2 c7) (.slice B7 N.length d7))
  obtain ⟨W8, hW8⟩ : ∃ W, w7.alloc (.cells (ncells i k l again u (.slice A7 K2 c7) (.slice B7 N.length d7)) 25) = W := ⟨_, rfl⟩
  rw [hW8] at bA cA
  rw [hgy] at cA
  unfold ncells at hW8 cA
  have HW := Lib.hid hW8
  have HG := Lib.hid hgy
  clear hW8 hgy
  unfold nv
  go_upto_region 7 with fail
  rw [HG.out, HW.out]
  clear HW HG
  have BAW8 := Lib.hid bA
  have HBn := Lib.hid (HB.out.trans (bA.mono HB.out.size))
  have Can := Lib.hid (Ca.out.below' bA)
  have Cxn := Lib.hid (Cx.out.below' bA)
  have OXn := Lib.hid (OX.out.below bA)
  have OYn := Lib.hid (OY.out.below bA)
  clear HB Ca Cx OX OY bA
  have HB := HBn
  have Ca := Can
  have Cx := Cxn
  have OX := OXn
  have OY := OYn
  clear HBn Can Cxn OXn OYn
  have Cy := Lib.hid cA
  clear cA
  obtain ⟨lx0, lx1, lx2, lx3, lx4, lx5, lx6⟩ := cells7 Cx.out
  obtain ⟨ly0, ly1, ly2, ly3, ly4, ly5, ly6⟩ := cells7 Cy.out
  go_wp2_with fail
  refine (HKRx.out _ _ _ _ _).mono ?_
  rintro e w9 hg9
  obtain ⟨rfl, b9⟩ := hg9.below
  clear hg9
  clear lx0 lx1 lx2 lx3 lx4 lx5 lx6 ly0 ly1 ly2 ly3 ly4 ly5 ly6
  have HBn := Lib.hid (HB.out.trans (b9.mono HB.out.size))
  have Can := Lib.hid (Ca.out.below' b9)
  have Cxn := Lib.hid (Cx.out.below' b9)
  have Cyn := Lib.hid (Cy.out.below' b9)
  have OXn := Lib.hid (OX.out.below b9)
  have OYn := Lib.hid (OY.out.below b9)
  clear HB Ca Cx Cy OX OY b9
  have HB := HBn
  have Ca := Can
  have Cx := Cxn
  have Cy := Cyn
  have OX := OXn
  have OY := OYn
  clear HBn Can Cxn Cyn OXn OYn
  obtain ⟨lx0, lx1, lx2, lx3, lx4, lx5, lx6⟩ := cells7 Cx.out
  obtain ⟨ly0, ly1, ly2, ly3, ly4, ly5, ly6⟩ := cells7 Cy.out
  go_wp2_with fail
  refine (HKRy.out _ _ _ _ _).mono ?_
  rintro e w10 hg10
  obtain ⟨rfl, b10⟩ := hg10.below
  clear hg10
  clear lx0 lx1 lx2 lx3 lx4 lx5 lx6 ly0 ly1 ly2 ly3 ly4 ly5 ly6
  have HBn := Lib.hid (HB.out.trans (b10.mono HB.out.size))
  have Can := Lib.hid (Ca.out.below' b10)
  have Cxn := Lib.hid (Cx.out.below' b10)
  have Cyn := Lib.hid (Cy.out.below' b10)
  have OXn := Lib.hid (OX.out.below b10)
  have OYn := Lib.hid (OY.out.below b10)
  clear HB Ca Cx Cy OX OY b10
  have HB := HBn
  have Ca := Can
  have Cx := Cxn
  have Cy := Cyn
  have OX := OXn
  have OY := OYn
  clear HBn Can Cxn Cyn OXn OYn
  obtain ⟨lx0, lx1, lx2, lx3, lx4, lx5, lx6⟩ := cells7 Cx.out
  obtain ⟨ly0, ly1, ly2, ly3, ly4, ly5, ly6⟩ := cells7 Cy.out
  have qa : (again != again) = false := by simp
  go_wp2
  have rx := OX.out.pages.row
  obtain ⟨A5', c5', e5, hrX⟩ := rx
  injection e5 with e5 e5l e5c
  subst e5
  subst e5c
  clear e5l
  rw [HFl.out] at hrX
  have ry := OY.out.pages.row
  obtain ⟨A7', c7', e7, hrY⟩ := ry
  injection e7 with e7 e7l e7c
  subst e7
  subst e7c
  clear e7l
  rw [HYl.out] at hrY
  have HrX := Lib.hid hrX; have HrY := Lib.hid hrY
  clear hrX hrY qa q0 q1 q2 q3 q4
  go_loopw [79] (fun v wr => ∃ kk : Nat, kk ≤ K2 ∧ v = .int .i64 kk ∧ wr = w10) (fun v _ => K2 - (intOf v).toNat)
  case atStart => exact ⟨0, Nat.zero_le _, rfl, rfl⟩
  case round =>
    obtain ⟨kk, hk, rfl, rfl⟩ := hrel
    by_cases hlt : kk < K2
    · skip
      have hltI : (kk : Int) < (K2 : Int) := Int.ofNat_lt.2 hlt
      have hk0 : (0 : Int) ≤ (kk : Int) := Int.natCast_nonneg kk
      obtain ⟨b7, o7, yv, rfl, _, hyv, cyv⟩ := getI HrY.out hlt
      have hfa := fit_at Fx K2 kk hlt
      rw [hyv] at hfa
      have hfa := Option.some.inj hfa
      by_cases hx : kk < K
      · skip
        have hxI : (kk : Int) < (K : Int) := Int.ofNat_lt.2 hx
        have qx : decide ((K : Int) ≤ (kk : Int)) = false := decide_eq_false (by omega)
        obtain ⟨b5, o5, xv, rfl, _, hxv, cxv⟩ := getI HrX.out hx
        rw [hxv, Option.getD_some] at hfa
        subst hfa
        have qq : (yv != yv) = false := by simp
        clear hyv hxv
        go_wp2
        go_roundw
        case rel => exact ⟨kk + 1, by omega, by go_num, by first | rfl | trivial⟩
        case measure => simp [intOf]; omega
      · have qx : decide ((kk : Int) < (K : Int)) = false := decide_eq_false (by omega)
        have qy : decide ((K : Int) ≤ (kk : Int)) = true := decide_eq_true (by omega)
        rw [show Fx[kk]? = none from List.getElem?_eq_none (by rw [HFl.out]; omega), Option.getD_none] at hfa
        subst hfa
        clear hyv
        go_wp2
        go_roundw
        case rel => exact ⟨kk + 1, by omega, by go_num, by first | rfl | trivial⟩
        case measure => simp [intOf]; omega
    · obtain rfl : kk = K2 := by omega
      have xIn := OX.out.in_
      have nIn := HOk.out.in_.at_ HB.out
      have hcn := HCount.out
      obtain ⟨ca, hca⟩ : ∃ a, (refsP Fx).length = a := ⟨_, rfl⟩
      obtain ⟨cb, hcb⟩ : ∃ a, (refsP (P.drop K)).length = a := ⟨_, rfl⟩
      obtain ⟨cc, hcc⟩ : ∃ a, (refsP P).length = a := ⟨_, rfl⟩
      rw [hca, hcb, hcc] at hcn
      have hcl : cc ≤ 1000 := by rw [← hcc]; exact Nat.le_trans (refs_len _) hP1000
      have qw : IntKind.i64.wrap ((ca : Int) + (cb : Int)) = (cc : Int) := by rw [IntKind.wrap_i64]; omega
      have KX2 := fun w1 (b : Below wr.heap.size wr w1) => iRefs ⟨i, k, l, size, u, A5, c5, Fx, B5, d5, N⟩ w1 (xIn.at_ b) hF1000
      have KN2 := fun w1 (b : Below wr.heap.size wr w1) => iRefs ⟨i, k, l, s, u, A, ac, P, B, bc, N⟩ w1 (nIn.at_ b) hP1000
      unfold Nd.val at KX2 KN2
      dsimp only at KX2 KN2
      rw [HFl.out] at KX2
      have HKX := Lib.hid KX2; have HKN := Lib.hid KN2; have HCa := Lib.hid hca; have HCb := Lib.hid hcb; have HCc := Lib.hid hcc
      have s9 : ∀ w' : World, Below wr.heap.size wr w' → w'.cell? ⟨gx, 0, none⟩ = some (.int .i64 i) ∧ w'.cell? ⟨gx, 1, none⟩ = some (.int .i64 k) ∧ w'.cell? ⟨gx, 2, none⟩ = some (.int .i64 l) ∧ w'.cell? ⟨gx, 3, none⟩ = some (.int .i64 size) ∧ w'.cell? ⟨gx, 4, none⟩ = some (.int .i64 u) ∧ w'.cell? ⟨gx, 5, none⟩ = some (.slice A5 K c5) ∧ w'.cell? ⟨gx, 6, none⟩ = some (.slice B5 N.length d5) ∧ w'.cell? ⟨w.heap.size, 0, none⟩ = some (.int .i64 i) ∧ w'.cell? ⟨w.heap.size, 1, none⟩ = some (.int .i64 k) ∧ w'.cell? ⟨w.heap.size, 2, none⟩ = some (.int .i64 l) ∧ w'.cell? ⟨w.heap.size, 3, none⟩ = some (.int .i64 s) ∧ w'.cell? ⟨w.heap.size, 4, none⟩ = some (.int .i64 u) ∧ w'.cell? ⟨w.heap.size, 5, none⟩ = some (.slice A P.length ac) ∧ w'.cell? ⟨w.heap.size, 6, none⟩ = some (.slice B N.length bc) := fun w' b => by
        obtain ⟨x0, x1, x2, x3, x4, x5, x6⟩ := cells7 (Cx.out.below' b)
        obtain ⟨n0, n1, n2, n3, n4, n5, n6⟩ := cells7 (Ca.out.below' b)
        exact ⟨x0, x1, x2, x3, x4, x5, x6, n0, n1, n2, n3, n4, n5, n6⟩
      have S9 := Lib.hid s9
      have b0 : Below wr.heap.size wr wr.drew := below_drewN (Below.refl _ _) 1
      clear KX2 KN2 hca hcc s9 xIn nIn hcn hcl hlt HrX HrY lx0 lx1 lx2 lx3 lx4 lx5 lx6 ly0 ly1 ly2 ly3 ly4 ly5 ly6 hKK hK264 hK64 Cx Ca Cy OX OY KA KF KI KX KY HKRx HKRy HMore HCount HFi HFl HYl HN3 HIn2 HK2 BAW6 BAW8 HRb HFb hF1000 hN1000 hP1000 H0
      go_upto_region 15 with fail
      rw [hcb]
      go_region_held3 (fun w' => w'.cell? ⟨gx, 0, none⟩ = some (.int .i64 i) ∧ w'.cell? ⟨gx, 1, none⟩ = some (.int .i64 k) ∧ w'.cell? ⟨gx, 2, none⟩ = some (.int .i64 l) ∧ w'.cell? ⟨gx, 3, none⟩ = some (.int .i64 size) ∧ w'.cell? ⟨gx, 4, none⟩ = some (.int .i64 u) ∧ w'.cell? ⟨gx, 5, none⟩ = some (.slice A5 K c5) ∧ w'.cell? ⟨gx, 6, none⟩ = some (.slice B5 N.length d5) ∧ w'.cell? ⟨w.heap.size, 0, none⟩ = some (.int .i64 i) ∧ w'.cell? ⟨w.heap.size, 1, none⟩ = some (.int .i64 k) ∧ w'.cell? ⟨w.heap.size, 2, none⟩ = some (.int .i64 l) ∧ w'.cell? ⟨w.heap.size, 3, none⟩ = some (.int .i64 s) ∧ w'.cell? ⟨w.heap.size, 4, none⟩ = some (.int .i64 u) ∧ w'.cell? ⟨w.heap.size, 5, none⟩ = some (.slice A P.length ac) ∧ w'.cell? ⟨w.heap.size, 6, none⟩ = some (.slice B N.length bc))
        (first | exact S9.out _ b0 | exact S9.out _ kB | exact S9.out _ kA)
        (first
          | (go_at_call 12; (with_reducible refine (HKX.out _ b0).mono ?_); rintro e' wA ⟨vA, rfl, oA, bA⟩; obtain ⟨Aa, ca', rfl, _⟩ := oA.row; have kA : Below wr.heap.size wr wA := b0.trans (bA.mono b0.size); rw [HCa.out])
          | (go_at_call 12; (with_reducible refine (HKN.out _ kA).mono ?_); rintro e' wB ⟨vB, rfl, oB, bB⟩; obtain ⟨Ab, cb', rfl, _⟩ := oB.row; have kB : Below wr.heap.size wr wB := kA.trans (bB.mono kA.size); rw [HCc.out]))
      all_goals
        have HBe := Lib.hid (HB.out.trans (kB.mono HB.out.size))
        clear kA kB bA bB oA oB b0
        go_wp2
        go_ret
        exact ⟨by simp, HBe.out⟩
end Go.Proofs.Ytajmboolgekdeaa
