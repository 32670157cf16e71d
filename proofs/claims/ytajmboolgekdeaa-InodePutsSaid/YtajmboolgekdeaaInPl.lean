import Derived.Test.YtajmboolgekdeaaInPl0
namespace Go.Proofs.Ytajmboolgekdeaa
open Wd Ino Go.RowKit Go.ChangeShapes Go.WideShapes Go.Sort
set_option linter.unusedVariables false
set_option maxRecDepth 100000

set_option maxHeartbeats 16000000 in
theorem putsLaw (n : Nd) (j ref size : Int) (hj : i64R j) (hz : i64R size) (w : World) (hok : n.Ok w w.heap.size) : Calls Try.prog 4 #[n.val, .int .i64 j, .int .i64 ref, .int .i64 size] w (TrueB w) := by
  have KF := Lib.hid (fun w1 (b : Below w.heap.size w w1) => lFew n w1 (hok.in_.at_ b) hok.nle)
  have KA := Lib.hid (fun w => lAwake w)
  by_cases hf : fewB n = true
  · have hfew := fewB_iff.1 hf
    rw [hf] at KF
    have KC := Lib.hid (fun w1 (b : Below w.heap.size w w1) => iCopy n w1 (hok.in_.at_ b) (by have := hfew.pages; omega) (by have := hfew.names; omega) (fun e he => by have := hfew.size e he; omega))
    have KP := Lib.hid (fun w1 (b : Below w.heap.size w w1) => iPut n j ref size hz w1 (hok.at_ b) (by have := hfew.pages; omega) (by have := hfew.names; omega) (fun e he => by have := hfew.size e he; omega))
    have KR := Lib.hid (fun w1 (b : Below w.heap.size w w1) => rResize n size hz w1 (hok.in_.at_ b) (by have := hfew.pages; omega) (by have := hfew.names; omega))
    have KN := Lib.hid (fun w => rNeed_is size hz w)
    obtain ⟨i, k, l, s, u, A, ac, P, B, bc, N⟩ := n
    have hl1 := hfew.pages
    have hl2 := hfew.names
    unfold PutD at KP
    unfold ResizeD at KR
    unfold Nd.val at KF KC KP KR ⊢
    dsimp only at hl1 hl2 KF KC KP KR ⊢
    have HIn := Lib.hid hok.in_
    have HB := Lib.hid (below_alloc w (.cells (ncells i k l s u (.slice A P.length ac) (.slice B N.length bc)) 25))
    have C0 := Lib.hid (Cells.new w 25 (ncells i k l s u (.slice A P.length ac) (.slice B N.length bc)))
    unfold ncells at HB C0
    have hN : N.length ≤ 1000 := by omega
    have hP : P.length ≤ 1000 := by omega
    clear hfew hf hok
    go_enter Try.func4, Try.ntmps4
    go_wp2_with fail
    refine (KA.out _).mono ?_
    rintro e w1 ⟨rfl, b1⟩
    have HBn := Lib.hid (HB.out.trans (b1.mono HB.out.size))
    have C0n := Lib.hid (C0.out.below' b1)
    clear HB C0  b1
    have HB := HBn
    have C0 := C0n
    clear HBn C0n 
    obtain ⟨l00, l01, l02, l03, l04, l05, l06⟩ := cells7 C0.out
    go_wp2_with fail
    refine (KF.out _ HB.out).mono ?_
    rintro e w2 ⟨rfl, b2⟩
    clear l00 l01 l02 l03 l04 l05 l06
    have HBn := Lib.hid (HB.out.trans (b2.mono HB.out.size))
    have C0n := Lib.hid (C0.out.below' b2)
    clear HB C0  b2
    have HB := HBn
    have C0 := C0n
    clear HBn C0n 
    obtain ⟨l00, l01, l02, l03, l04, l05, l06⟩ := cells7 C0.out
    go_wp2_with fail
    refine (KC.out _ HB.out).mono ?_
    rintro e w3 ⟨V, A3, c3, B3, d3, rfl, oC, b3⟩
    clear l00 l01 l02 l03 l04 l05 l06
    have HBn := Lib.hid (HB.out.trans (b3.mono HB.out.size))
    have C0n := Lib.hid (C0.out.below' b3)
    clear HB C0  b3
    have HB := HBn
    have C0 := C0n
    clear HBn C0n 
    obtain rfl := oC.val
    have OC := Lib.hid oC
    clear oC
    obtain ⟨gc, hgc⟩ : ∃ gg, w3.heap.size = gg := ⟨_, rfl⟩
    have bA := below_alloc w3 (.cells (ncells i k l s u (.slice A3 P.length c3) (.slice B3 N.length d3)) 25)
    have cA := Cells.new w3 25 (ncells i k l s u (.slice A3 P.length c3) (.slice B3 N.length d3))
    obtain ⟨W4, hW4⟩ : ∃ W, w3.alloc (.cells (ncells i k l s u (.slice A3 P.length c3) (.slice B3 N.length d3)) 25) = W := ⟨_, rfl⟩
    rw [hW4] at bA cA
    rw [hgc] at cA
    unfold ncells at hW4 cA
    have HW := Lib.hid hW4
    have HG := Lib.hid hgc
    clear hW4 hgc
    unfold nv
    go_upto_region 6 with fail
    rw [HG.out, HW.out]
    clear HW
    have BAW4 := Lib.hid bA
    have HBn := Lib.hid (HB.out.trans (bA.mono HB.out.size))
    have C0n := Lib.hid (C0.out.below' bA)
    have OCn := Lib.hid (OC.out.below bA)
    clear HB C0 OC bA
    have HB := HBn
    have C0 := C0n
    have OC := OCn
    clear HBn C0n OCn
    have Cc := Lib.hid cA
    clear cA
    clear HG
    obtain ⟨l00, l01, l02, l03, l04, l05, l06⟩ := cells7 C0.out
    cases hpk : putOk j size
    · simp only [hpk, Bool.false_eq_true, if_false] at KP
      go_wp2_with fail
      refine (KP.out _ HB.out).mono ?_
      rintro e w5 ⟨V, A5, c5, B5, d5, rfl, oX, b5⟩
      clear l00 l01 l02 l03 l04 l05 l06
      have HBn := Lib.hid (HB.out.trans (b5.mono HB.out.size))
      have C0n := Lib.hid (C0.out.below' b5)
      have Ccn := Lib.hid (Cc.out.below' b5)
      have OCn := Lib.hid (OC.out.below b5)
      clear HB C0 Cc OC b5
      have HB := HBn
      have C0 := C0n
      have Cc := Ccn
      have OC := OCn
      clear HBn C0n Ccn OCn
      obtain rfl := oX.val
      have OX := Lib.hid oX
      clear oX
      obtain ⟨gx, hgx⟩ : ∃ gg, w5.heap.size = gg := ⟨_, rfl⟩
      have bA := below_alloc w5 (.cells (ncells i k l s u (.slice A5 P.length c5) (.slice B5 N.length d5)) 25)
      have cA := Cells.new w5 25 (ncells i k l s u (.slice A5 P.length c5) (.slice B5 N.length d5))
      obtain ⟨W6, hW6⟩ : ∃ W, w5.alloc (.cells (ncells i k l s u (.slice A5 P.length c5) (.slice B5 N.length d5)) 25) = W := ⟨_, rfl⟩
      rw [hW6] at bA cA
      rw [hgx] at cA
      unfold ncells at hW6 cA
      have HW := Lib.hid hW6
      have HG := Lib.hid hgx
      clear hW6 hgx
      unfold nv
      go_upto_region 7 with fail
      rw [HG.out, HW.out]
      clear HW
      have BAW6 := Lib.hid bA
      have HBn := Lib.hid (HB.out.trans (bA.mono HB.out.size))
      have C0n := Lib.hid (C0.out.below' bA)
      have Ccn := Lib.hid (Cc.out.below' bA)
      have OCn := Lib.hid (OC.out.below bA)
      have OXn := Lib.hid (OX.out.below bA)
      clear HB C0 Cc OC OX bA
      have HB := HBn
      have C0 := C0n
      have Cc := Ccn
      have OC := OCn
      have OX := OXn
      clear HBn C0n Ccn OCn OXn
      have Cx := Lib.hid cA
      clear cA
      clear HG
      have KS := Lib.hid (rSame ⟨i, k, l, s, u, A3, c3, P, B3, d3, N⟩ ⟨i, k, l, s, u, A, ac, P, B, bc, N⟩ W6 OC.out.in_ (HIn.out.at_ HB.out) hP hN)
      rw [nodeEq_self] at KS
      unfold Nd.val at KS
      dsimp only at KS
      obtain ⟨l00, l01, l02, l03, l04, l05, l06⟩ := cells7 C0.out
      obtain ⟨lc0, lc1, lc2, lc3, lc4, lc5, lc6⟩ := cells7 Cc.out
      go_wp2_with fail
      refine KS.out.mono ?_
      rintro e w7 hg7
      obtain ⟨rfl, b7⟩ := hg7.below
      clear hg7
      clear l00 l01 l02 l03 l04 l05 l06 lc0 lc1 lc2 lc3 lc4 lc5 lc6
      have HBn := Lib.hid (HB.out.trans (b7.mono HB.out.size))
      have C0n := Lib.hid (C0.out.below' b7)
      have Ccn := Lib.hid (Cc.out.below' b7)
      have Cxn := Lib.hid (Cx.out.below' b7)
      have OCn := Lib.hid (OC.out.below b7)
      have OXn := Lib.hid (OX.out.below b7)
      clear HB C0 Cc Cx OC OX b7
      have HB := HBn
      have C0 := C0n
      have Cc := Ccn
      have Cx := Cxn
      have OC := OCn
      have OX := OXn
      clear HBn C0n Ccn Cxn OCn OXn
      have KS2 := Lib.hid (rSame ⟨i, k, l, s, u, A5, c5, P, B5, d5, N⟩ ⟨i, k, l, s, u, A, ac, P, B, bc, N⟩ w7 OX.out.in_ (HIn.out.at_ HB.out) hP hN)
      rw [nodeEq_self] at KS2
      unfold Nd.val at KS2
      dsimp only at KS2
      obtain ⟨l00, l01, l02, l03, l04, l05, l06⟩ := cells7 C0.out
      obtain ⟨lx0, lx1, lx2, lx3, lx4, lx5, lx6⟩ := cells7 Cx.out
      have hor : size < 1 ∨ 16384 < size ∨ j < 0 ∨ needP size ≤ j := by
        unfold putOk inB at hpk
        simp at hpk
        have := hpk
        by_cases h1 : size < 1
        · exact .inl h1
        · by_cases h2 : 16384 < size
          · exact .inr (.inl h2)
          · by_cases h3 : j < 0
            · exact .inr (.inr (.inl h3))
            · exact .inr (.inr (.inr (by have := this (by omega) (by omega); omega)))
      clear hpk KP KR KC KS
      obtain ⟨m, hm⟩ : ∃ m, needP size = m := ⟨_, rfl⟩
      rw [hm] at KN hor
      clear hm
      by_cases h1 : size < 1
      · have q1 : decide (size < 1) = true := decide_eq_true h1
        clear hor h1
        go_wp2_with fail
        refine KS2.out.mono ?_
        rintro e w9 hg9
        obtain ⟨rfl, b9⟩ := hg9.below
        have HBn := Lib.hid (HB.out.trans (b9.mono HB.out.size))
        clear hg9 b9
        go_wp2
        go_ret
        exact ⟨rfl, HBn.out⟩
      · have q1 : decide (size < 1) = false := decide_eq_false h1
        by_cases h2 : 16384 < size
        · have q2 : decide (16384 < size) = true := decide_eq_true h2
          clear hor h1 h2
          go_wp2_with fail
          refine KS2.out.mono ?_
          rintro e w9 hg9
          obtain ⟨rfl, b9⟩ := hg9.below
          have HBn := Lib.hid (HB.out.trans (b9.mono HB.out.size))
          clear hg9 b9
          go_wp2
          go_ret
          exact ⟨rfl, HBn.out⟩
        · have q2 : decide (16384 < size) = false := decide_eq_false h2
          by_cases h3 : j < 0
          · have q3 : decide (j < 0) = true := decide_eq_true h3
            clear hor h1 h2 h3
            go_wp2_with fail
            refine KS2.out.mono ?_
            rintro e w9 hg9
            obtain ⟨rfl, b9⟩ := hg9.below
            have HBn := Lib.hid (HB.out.trans (b9.mono HB.out.size))
            clear hg9 b9
            go_wp2
            go_ret
            exact ⟨rfl, HBn.out⟩
          · have q3 : decide (j < 0) = false := decide_eq_false h3
            have q4 : decide (m ≤ j) = true := decide_eq_true (by omega)
            clear hor h1 h2 h3
            go_wp2_with fail
            refine (KN.out _).mono ?_
            rintro e w8 ⟨rfl, rfl⟩
            go_wp2_with fail
            refine KS2.out.mono ?_
            rintro e w9 hg9
            obtain ⟨rfl, b9⟩ := hg9.below
            have HBn := Lib.hid (HB.out.trans (b9.mono HB.out.size))
            clear hg9 b9
            go_wp2
            go_ret
            exact ⟨rfl, HBn.out⟩
    · simp only [hpk, if_true] at KP
      have hjz : 0 ≤ j ∧ j ≤ needP size - 1 ∧ size ≤ 16384 ∧ 1 ≤ size := by
        unfold putOk inB at hpk
        simp at hpk
        refine ⟨hpk.2.1, by omega, hpk.1, ?_⟩
        have h := hpk.2
        unfold needP at h
        split at h <;> omega
      obtain ⟨K, hK, hK64⟩ := needP_nat size (by omega) (by omega)
      obtain ⟨jn, rfl⟩ : ∃ jn : Nat, j = (jn : Int) := ⟨j.toNat, by omega⟩
      have hjK : jn < K := by omega
      have hK1000 : K ≤ 1000 := by omega
      have hin1 : inB size 0 16384 = true := by unfold inB; rw [decide_eq_true (show 0 ≤ size by omega), decide_eq_true (show size ≤ 16384 by omega)]; rfl
      simp only [hin1, if_true] at KR
      rw [hK, Int.toNat_natCast] at KR
      rw [hK] at KN
      unfold putP putV at KP
      rw [hK, Int.toNat_natCast, Int.toNat_natCast] at KP
      obtain ⟨Fx, hFx⟩ : ∃ F, fitP P K = F := ⟨_, rfl⟩
      have hFl : Fx.length = K := by rw [← hFx]; exact fit_len _ _
      rw [hFx] at KP KR
      clear hFx
      obtain ⟨xv, hxv⟩ : ∃ x, Fx[jn]? = some x := ⟨_, List.getElem?_eq_getElem (by omega)⟩
      rw [hxv, Option.getD_some] at KP
      have hsl : (Fx.set jn ref).length = K := by rw [List.length_set]; exact hFl
      have q1 : decide (size < 1) = false := decide_eq_false (by omega)
      have q2 : decide (16384 < size) = false := decide_eq_false (by omega)
      have q3 : decide ((jn : Int) < 0) = false := decide_eq_false (by omega)
      have q4 : decide ((K : Int) ≤ (jn : Int)) = false := decide_eq_false (by omega)
      have HFl := Lib.hid hFl; have HSl := Lib.hid hsl; have HXv := Lib.hid hxv
      clear hjz hin1 hpk hK hFl hsl hxv
      go_wp2_with fail
      refine (KP.out _ HB.out).mono ?_
      rintro e w5 ⟨V, A5, c5, B5, d5, rfl, oX, b5⟩
      clear l00 l01 l02 l03 l04 l05 l06
      have HBn := Lib.hid (HB.out.trans (b5.mono HB.out.size))
      have C0n := Lib.hid (C0.out.below' b5)
      have Ccn := Lib.hid (Cc.out.below' b5)
      have OCn := Lib.hid (OC.out.below b5)
      clear HB C0 Cc OC b5
      have HB := HBn
      have C0 := C0n
      have Cc := Ccn
      have OC := OCn
      clear HBn C0n Ccn OCn
      obtain rfl := oX.val
      have OX := Lib.hid oX
      clear oX
      rw [HSl.out]
      obtain ⟨gx, hgx⟩ : ∃ gg, w5.heap.size = gg := ⟨_, rfl⟩
      have bA := below_alloc w5 (.cells (ncells i k l size u (.slice A5 K c5) (.slice B5 N.length d5)) 25)
      have cA := Cells.new w5 25 (ncells i k l size u (.slice A5 K c5) (.slice B5 N.length d5))
      obtain ⟨W6, hW6⟩ : ∃ W, w5.alloc (.cells (ncells i k l size u (.slice A5 K c5) (.slice B5 N.length d5)) 25) = W := ⟨_, rfl⟩
      rw [hW6] at bA cA
      rw [hgx] at cA
      unfold ncells at hW6 cA
      have HW := Lib.hid hW6
      have HG := Lib.hid hgx
      clear hW6 hgx
      unfold nv
      go_upto_region 7 with fail
      rw [HG.out, HW.out]
      clear HW
      have BAW6 := Lib.hid bA
      have HBn := Lib.hid (HB.out.trans (bA.mono HB.out.size))
      have C0n := Lib.hid (C0.out.below' bA)
      have Ccn := Lib.hid (Cc.out.below' bA)
      have OCn := Lib.hid (OC.out.below bA)
      have OXn := Lib.hid (OX.out.below bA)
      clear HB C0 Cc OC OX bA
      have HB := HBn
      have C0 := C0n
      have Cc := Ccn
      have OC := OCn
      have OX := OXn
      clear HBn C0n Ccn OCn OXn
      have Cx := Lib.hid cA
      clear cA
      have HGX := Lib.hid HG.out
      clear HG
      have KS := Lib.hid (rSame ⟨i, k, l, s, u, A3, c3, P, B3, d3, N⟩ ⟨i, k, l, s, u, A, ac, P, B, bc, N⟩ W6 OC.out.in_ (HIn.out.at_ HB.out) hP hN)
      rw [nodeEq_self] at KS
      unfold Nd.val at KS
      dsimp only at KS
      obtain ⟨l00, l01, l02, l03, l04, l05, l06⟩ := cells7 C0.out
      obtain ⟨lc0, lc1, lc2, lc3, lc4, lc5, lc6⟩ := cells7 Cc.out
      go_wp2_with fail
      refine KS.out.mono ?_
      rintro e w7 hg7
      obtain ⟨rfl, b7⟩ := hg7.below
      clear hg7
      clear l00 l01 l02 l03 l04 l05 l06 lc0 lc1 lc2 lc3 lc4 lc5 lc6
      have HBn := Lib.hid (HB.out.trans (b7.mono HB.out.size))
      have C0n := Lib.hid (C0.out.below' b7)
      have Ccn := Lib.hid (Cc.out.below' b7)
      have Cxn := Lib.hid (Cx.out.below' b7)
      have OCn := Lib.hid (OC.out.below b7)
      have OXn := Lib.hid (OX.out.below b7)
      clear HB C0 Cc Cx OC OX b7
      have HB := HBn
      have C0 := C0n
      have Cc := Ccn
      have Cx := Cxn
      have OC := OCn
      have OX := OXn
      clear HBn C0n Ccn Cxn OCn OXn
      clear KS KP KC Cc OC
      have OX7 := Lib.hid OX.out.in_
      have hgx7 := Cx.out.lt
      have hw7 := HB.out.size
      obtain ⟨l00, l01, l02, l03, l04, l05, l06⟩ := cells7 C0.out
      go_wp2_with fail
      refine (KN.out _).mono ?_
      rintro e w8 ⟨rfl, rfl⟩
      go_wp2_with fail
      refine (KR.out _ HB.out).mono ?_
      rintro e w8 ⟨V, Ay, cy, By, dy, Gy, rfl, oY, _, b8⟩
      clear l00 l01 l02 l03 l04 l05 l06
      have B78 := Lib.hid b8
      have HBn := Lib.hid (HB.out.trans (b8.mono HB.out.size))
      have C0n := Lib.hid (C0.out.below' b8)
      have Cxn := Lib.hid (Cx.out.below' b8)
      have OXn := Lib.hid (OX.out.below b8)
      clear HB C0 Cx OX b8
      have HB := HBn
      have C0 := C0n
      have Cx := Cxn
      have OX := OXn
      clear HBn C0n Cxn OXn
      obtain rfl := oY.val
      have oY2 := oY.pages
      unfold OwnI at oY2
      rw [HFl.out] at oY2
      obtain ⟨gy', cap, hA, hgy', _, _, hgl⟩ := own_open oY2 (by omega)
      injection hA with hA _ hcap
      subst hA
      subst hcap
      have OY := Lib.hid oY
      clear oY oY2
      rw [HFl.out]
      obtain ⟨gy, hgy⟩ : ∃ gg, w8.heap.size = gg := ⟨_, rfl⟩
      have bA := below_alloc w8 (.cells (ncells i k l size u (.slice (some ⟨gy', 0, none⟩) K cy) (.slice By N.length dy)) 25)
      have cA := Cells.new w8 25 (ncells i k l size u (.slice (some ⟨gy', 0, none⟩) K cy) (.slice By N.length dy))
      obtain ⟨W9, hW9⟩ : ∃ W, w8.alloc (.cells (ncells i k l size u (.slice (some ⟨gy', 0, none⟩) K cy) (.slice By N.length dy)) 25) = W := ⟨_, rfl⟩
      rw [hW9] at bA cA
      rw [hgy] at cA
      unfold ncells at hW9 cA
      have HW := Lib.hid hW9
      have HG := Lib.hid hgy
      clear hW9 hgy
      unfold nv
      go_upto_region 12 with fail
      rw [HG.out, HW.out]
      clear HW
      have BAW9 := Lib.hid bA
      have HBn := Lib.hid (HB.out.trans (bA.mono HB.out.size))
      have C0n := Lib.hid (C0.out.below' bA)
      have Cxn := Lib.hid (Cx.out.below' bA)
      have OXn := Lib.hid (OX.out.below bA)
      have OYn := Lib.hid (OY.out.below bA)
      clear HB C0 Cx OX OY bA
      have HB := HBn
      have C0 := C0n
      have Cx := Cxn
      have OX := OXn
      have OY := OYn
      clear HBn C0n Cxn OXn OYn
      have Cy := Lib.hid cA
      clear cA
      have hgy : gy' < gy := by rw [← HG.out]; exact hgl
      clear HG hgl
      have rX := OX.out.pages.row
      obtain ⟨A5', c5', e5, hrX⟩ := rX
      injection e5 with e5 e5l e5c
      subst e5
      subst e5c
      clear e5l
      rw [HSl.out] at hrX
      obtain ⟨bx, ox, xr, hA5, _, hxr, hcx⟩ := getI hrX hjK
      have hxr2 : xr = ref := by rw [List.getElem?_set_self (by rw [HFl.out]; exact hjK)] at hxr; exact (Option.some.inj hxr).symm
      subst hxr2
      subst hA5
      have oyp := OY.out.pages
      unfold OwnI at oyp
      rw [HFl.out] at oyp
      obtain ⟨yc, yf⟩ := own_cell oyp (k := jn) (u := .int .i64 xv) (by rw [List.getElem?_map, HXv.out]; rfl)
      have hjI : (jn : Int) < (K : Int) := Int.ofNat_lt.2 hjK
      have hj0 : (0 : Int) ≤ (jn : Int) := Int.natCast_nonneg jn
      have qe : ((K : Int) != (K : Int)) = false := by simp
      have qx : (xv != xv) = false := by simp
      have qr : (xr != xr) = false := by simp
      obtain ⟨lx0, lx1, lx2, lx3, lx4, lx5, lx6⟩ := cells7 Cx.out
      obtain ⟨ly0, ly1, ly2, ly3, ly4, ly5, ly6⟩ := cells7 Cy.out
      go_upto_region 15 with fail
      obtain ⟨cur, hcur⟩ := own_cells oyp
      have b710 := (B78.out.trans (BAW9.out.mono B78.out.size)).setCell (p := ⟨gy', jn, none⟩) hgy' (.int .i64 xr)
      have hos := own_set oyp jn (.int .i64 xr)
      have hon := own_apart OY.out.names hcur (by decide) jn (.int .i64 xr)
      have HBn := Lib.hid (HB.out.setCell (p := ⟨gy', jn, none⟩) (Nat.le_trans hw7 hgy') (.int .i64 xr))
      have cxn := Cx.out.far (p := ⟨gy', jn, none⟩) (show gx ≠ gy' from Nat.ne_of_lt (Nat.lt_of_lt_of_le hgx7 hgy')) (.int .i64 xr)
      have cyn := Cy.out.far (p := ⟨gy', jn, none⟩) (show gy ≠ gy' from Nat.ne_of_gt hgy) (.int .i64 xr)
      obtain ⟨W10, hW10⟩ : ∃ W, W9.setCell ⟨gy', jn, none⟩ (.int .i64 xr) = W := ⟨_, rfl⟩
      rw [hW10] at b710 hos hon HBn cxn cyn ⊢
      have oY10 : OwnN W10 w7.heap.size (nv i k l size u (.slice (some ⟨gy', 0, none⟩) (Fx.set jn xr).length cy) (.slice By N.length dy)) i k l size u (Fx.set jn xr) N (some ⟨gy', 0, none⟩) cy By dy := ⟨rfl, by unfold OwnI; rw [HSl.out, List.map_set]; exact hos, hon⟩
      have KS := rSame ⟨i, k, l, size, u, some ⟨bx, ox, none⟩, c5, Fx.set jn xr, B5, d5, N⟩ ⟨i, k, l, size, u, some ⟨gy', 0, none⟩, cy, Fx.set jn xr, By, dy, N⟩ W10 (OX7.out.at_ b710) oY10.in_ (Nat.le_trans (Nat.le_of_eq HSl.out) hK1000) hN
      rw [nodeEq_self] at KS
      unfold Nd.val at KS
      dsimp only at KS
      rw [HSl.out] at KS
      have HKS := Lib.hid KS
      have Cxn := Lib.hid cxn; have Cyn := Lib.hid cyn
      clear lx0 lx1 lx2 lx3 lx4 lx5 lx6 ly0 ly1 ly2 ly3 ly4 ly5 ly6
      obtain ⟨x0, x1, x2, x3, x4, x5, x6⟩ := cells7 Cxn.out
      obtain ⟨y0, y1, y2, y3, y4, y5, y6⟩ := cells7 Cyn.out
      clear hW10 b710 hos hon cxn cyn oY10 KS oyp hcur yc yf hcx hxr hrX qe qx qr q1 q2 q3 q4 Cx Cy HB
      go_wp2_with fail
      refine HKS.out.mono ?_
      rintro e w11 hg11
      obtain ⟨rfl, b11⟩ := hg11.below
      have HBe := Lib.hid (HBn.out.trans (b11.mono HBn.out.size))
      clear hg11 b11
      go_wp2
      go_ret
      exact ⟨rfl, HBe.out⟩
  · have hf' : fewB n = false := by simpa using hf
    rw [hf'] at KF
    obtain ⟨i, k, l, s, u, A, ac, P, B, bc, N⟩ := n
    unfold Nd.val at KF ⊢
    dsimp only at KF ⊢
    have HB := Lib.hid (below_alloc w (.cells (ncells i k l s u (.slice A P.length ac) (.slice B N.length bc)) 25))
    have C0 := Lib.hid (Cells.new w 25 (ncells i k l s u (.slice A P.length ac) (.slice B N.length bc)))
    unfold ncells at HB C0
    clear hf hf' hok
    go_enter Try.func4, Try.ntmps4
    go_wp2_with fail
    refine (KA.out _).mono ?_
    rintro e w1 ⟨rfl, b1⟩
    have B1 := Lib.hid (HB.out.trans (b1.mono HB.out.size))
    have C1 := Lib.hid (C0.out.below' b1)
    obtain ⟨c0, c1, c2, c3, c4, c5, c6⟩ := cells7 C1.out
    clear b1 C0 HB
    go_wp2_with fail
    refine (KF.out _ B1.out).mono ?_
    rintro e w2 ⟨rfl, b2⟩
    have B2 := Lib.hid (B1.out.trans (b2.mono B1.out.size))
    clear b2
    go_wp2
    go_ret
    exact ⟨rfl, B2.out⟩
end Go.Proofs.Ytajmboolgekdeaa
