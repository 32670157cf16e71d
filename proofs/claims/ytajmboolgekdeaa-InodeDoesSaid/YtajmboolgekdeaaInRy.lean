import Derived.Test.YtajmboolgekdeaaInRz
namespace Go.Proofs.Ytajmboolgekdeaa
open Wd Ino Go.RowKit Go.ChangeShapes Go.WideShapes Go.Sort
set_option linter.unusedVariables false
set_option maxRecDepth 100000

set_option maxHeartbeats 8000000 in
theorem rResize (n : Nd) (size : Int) (hz : i64R size) (w : World) (h : n.In w) (hp : n.pages.length ≤ 1000) (hq : n.names.length ≤ 1000) :
    Calls Try.prog 9 #[n.val, .int .i64 size] w (ResizeD n size w) := by
  have KC := Lib.hid (fun w1 (b : Below w.heap.size w w1) => rCopy n w1 (h.at_ b) hp hq)
  obtain ⟨i, ki, l, s, u, A, ac, P, B, bc, N⟩ := n
  have hr := h.row
  unfold ResizeD
  dsimp only at hp hq hr ⊢
  unfold Nd.val at KC ⊢
  dsimp only at KC ⊢
  have HRow := Lib.hid hr
  have HB0 := Lib.hid (((Below.refl w.heap.size w).alloc (Nat.le_refl _) (.cells (ncells i ki l s u (.slice A P.length ac) (.slice B N.length bc)) 25)).alloc (by simp) (.cells (ncells 0 0 0 0 0 (.slice none 0 0) (.slice none 0 0)) 25))
  have hc : Cells ((w.alloc (.cells (ncells i ki l s u (.slice A P.length ac) (.slice B N.length bc)) 25)).alloc (.cells (ncells 0 0 0 0 0 (.slice none 0 0) (.slice none 0 0)) 25)) w.heap.size 25 (ncells i ki l s u (.slice A P.length ac) (.slice B N.length bc)) := (Cells.new _ _ _).alloc _
  have hr2 : Cells ((w.alloc (.cells (ncells i ki l s u (.slice A P.length ac) (.slice B N.length bc)) 25)).alloc (.cells (ncells 0 0 0 0 0 (.slice none 0 0) (.slice none 0 0)) 25)) (w.heap.size + 1) 25 (ncells 0 0 0 0 0 (.slice none 0 0) (.slice none 0 0)) := by
    have := Cells.new (w.alloc (.cells (ncells i ki l s u (.slice A P.length ac) (.slice B N.length bc)) 25)) 25 (ncells 0 0 0 0 0 (.slice none 0 0) (.slice none 0 0)); simpa using this
  have HC := Lib.hid hc; have HR := Lib.hid hr2
  have hs2 : ((w.alloc (.cells (ncells i ki l s u (.slice A P.length ac) (.slice B N.length bc)) 25)).alloc (.cells (ncells 0 0 0 0 0 (.slice none 0 0) (.slice none 0 0)) 25)).heap.size = w.heap.size + 2 := by simp
  have HS2 := Lib.hid hs2
  unfold ncells at HB0 HC HR HS2
  clear hr hc hr2 hs2 h
  by_cases hin : 0 ≤ size ∧ size ≤ 16384
  · have hin1 : inB size 0 16384 = true := by unfold inB; rw [decide_eq_true hin.1, decide_eq_true hin.2]; rfl
    rw [hin1]
    simp only [if_true]
    obtain ⟨K, hK, hK64⟩ := needP_nat size hin.1 hin.2
    rw [hK, Int.toNat_natCast]
    have KN := Lib.hid (fun w => rNeed_is size hz w)
    rw [hK] at KN
    have q1 : decide (size < 0) = false := decide_eq_false (by omega)
    have q2 : decide (16384 < size) = false := decide_eq_false (by omega)
    clear hin1 hK hin hz
    go_enter Try.func9, Try.ntmps9
    go_wp2_with fail
    refine (KC.out _ HB0.out).mono ?_
    rintro e w2 ⟨V, A3, c3, B4, c4, rfl, ⟨rfl, oI, oE⟩, b2⟩
    rw [HS2.out] at oI oE
    have hs : w.heap.size + 2 ≤ w2.heap.size := by have := b2.size; rw [HS2.out] at this; exact this
    obtain ⟨hn, hhn⟩ : ∃ hn, w2.heap.size = hn := ⟨_, rfl⟩
    have b3 := (Below.refl w2.heap.size w2).alloc (Nat.le_refl _) (.cells (ncells i ki l s u (.slice A3 P.length c3) (.slice B4 N.length c4)) 25)
    have c3n := Cells.new w2 25 (ncells i ki l s u (.slice A3 P.length c3) (.slice B4 N.length c4))
    have hB2 := HB0.out.trans (b2.mono HB0.out.size)
    have hB3 := hB2.trans (b3.mono hB2.size)
    have c3g := (HC.out.below' b2).below' b3
    have c3r := (HR.out.below' b2).below' b3
    have oE3 := oE.below b3
    unfold ncells at b3 c3n hB3 oE3 c3g c3r
    rw [hhn] at c3n hs
    unfold nv
    have HHN := Lib.hid hhn
    clear hhn oI oE b2 b3 hB2 HC HR HB0 HS2 KC
    go_upto_region 4 with fail
    rw [HHN.out]
    obtain ⟨W3, hW3⟩ : ∃ W3, w2.alloc (.cells #[.int .i64 i, .int .i64 ki, .int .i64 l, .int .i64 s, .int .i64 u, .slice A3 P.length c3, .slice B4 N.length c4] 25) = W3 := ⟨_, rfl⟩
    rw [hW3] at c3n hB3 oE3 c3g c3r ⊢
    have z := fun j => Cells.free c3n j
    have y3 := c3n.cell 3
    have y5 := c3n.cell 5
    simp at y3 y5
    have C3n := Lib.hid c3n; have C3g := Lib.hid c3g; have C3r := Lib.hid c3r; have B3 := Lib.hid hB3; have OE3 := Lib.hid oE3
    clear hW3 c3n hB3 oE3 c3g c3r HHN
    go_wp2
    go_loopw [7, 8] (fun G v wr => ∃ k A5 c5, k ≤ max K P.length ∧ v = .int .i64 (k : Int) ∧ RzAt ⟨i, ki, l, s, u, A, ac, P, B, bc, N⟩ size K hn B4 c4 w k A5 c5 G wr) (fun _ v _ => max K P.length - (intOf v).toNat)
    case atStart =>
      have C5 : Cells ((W3.setCell ⟨hn, 3, none⟩ (.int .i64 size)).setCell ⟨hn, 5, none⟩ (.slice none 0 0)) hn 25 (ncells i ki l size u (.slice none 0 0) (.slice B4 N.length c4)) := by
        have h0 : Cells _ hn 25 (ncells i ki l size u (.slice A3 P.length c3) (.slice B4 N.length c4)) := Cells.set C3n.out 3 (.int .i64 size)
        have h1 : Cells _ hn 25 (ncells i ki l size u (.slice none 0 0) (.slice B4 N.length c4)) := Cells.set h0 5 (.slice none 0 0)
        exact h1
      have h0 : Cells _ hn 25 (ncells i ki l size u (.slice A3 P.length c3) (.slice B4 N.length c4)) := Cells.set C3n.out 3 (.int .i64 size)
      refine ⟨0, none, 0, Nat.zero_le _, rfl, ⟨OwnI.nil _ _, by rw [gone_none _ _ _ (Nat.zero_le _)]; exact OwnI.nil _ _, fun b e => (by cases e), own_apart (own_apart OE3.out C3n.out (by decide) _ _) h0 (by decide) _ _, C5, (C3g.out.far (p := ⟨hn, 3, none⟩) (by simp; omega) _).far (p := ⟨hn, 5, none⟩) (by simp; omega) _, (C3r.out.far (p := ⟨hn, 3, none⟩) (by simp; omega) _).far (p := ⟨hn, 5, none⟩) (by simp; omega) _, hs, (B3.out.setCell (p := ⟨hn, 3, none⟩) (by simp; omega) _).setCell (p := ⟨hn, 5, none⟩) (by simp; omega) _, fun _ => rfl⟩⟩
    case round =>
      obtain ⟨k, A5, c5, hk, rfl, hJ⟩ := hrel
      have HJ := Lib.hid hJ
      clear z y3 y5 C3n C3g C3r B3 OE3
      have g5 := (cells7 hJ.arg).2.2.2.2.2.1
      dsimp only at g5
      have hbl := hJ.below
      by_cases hkK : k < K
      · have hkI : (k : Int) < (K : Int) := Int.ofNat_lt.2 hkK
        have hln := fit_part P K k
        obtain rfl := hJ.nil (Nat.le_of_lt hkK)
        obtain ⟨p, hpp⟩ : ∃ p, (P[k]?).getD 0 = p := ⟨_, rfl⟩
        have hba := (Below.refl wr.heap.size wr).alloc (Nat.le_refl _) (.cells #[.int .i64 p] 3)
        have hJa := hJ.grown hba
        have hgap := fun A6 c6 wx => hJa.put (A5 := A6) (c5 := c6) (wx := wx) hkK
        have hra := hJa.row
        have hoa := hJa.own
        have n5 := (cells7 hJ.own).2.2.2.2.2.1
        unfold OwnI at hra
        dsimp only at n5 hgap hra hoa
        rw [hpp] at hgap
        obtain ⟨nn, hnn⟩ : ∃ nn, ((fitP P K).take k).length = nn := ⟨_, rfl⟩
        rw [hnn] at n5 hln hgap hra hoa
        have hsz : w.heap.size + 2 ≤ (wr.alloc (.cells #[.int .i64 p] 3)).heap.size := by have := hJ.own.lt; have := hJ.hn; simp; omega
        have HO2 := Lib.hid hra; have HOA := Lib.hid hoa; have HGap := Lib.hid hgap
        have HR2 := Lib.hid (Row.one wr (.int .i64 p) 3)
        clear hJ hJa hgap hra hoa hba hnn HJ
        by_cases hkP : k < P.length
        · obtain ⟨b1, o1, x, hA, _, hx, cx⟩ := getI (HRow.out.below hbl) hkP
          have hkI2 : (k : Int) < (P.length : Int) := Int.ofNat_lt.2 hkP
          rw [hx, Option.getD_some] at hpp
          subst hpp
          clear hbl
          subst hA
          go_wp2_with (first
            | (go_at_call 19; refine (KN.out _).mono ?_; rintro e w4 ⟨rfl, rfl⟩)
            | (at_builtin; refine wpList_append_row _ rfl (.tmp 50) (.tmp 52) 22 rfl (w.heap.size + 2) 3 (.int .i64 0) 8 Try.underlying22 infoI rfl (.slice A5 nn c5) nn (((fitP P K).take k).map iv) rfl HO2.out _ (some ⟨wr.heap.size, 0, none⟩) 1 1 [.int .i64 x] rfl HR2.out (by simp [Value.oneCell']) (by unfold maxLen; omega) (by omega) hsz ?_; intro v5 w5 hown5 hgr5 hat5; obtain ⟨g5, cap5, rfl, _⟩ := own_open hown5 (by omega); have HG5 := Lib.hid (HGap.out _ _ _ hown5 hgr5); have hox := HOA.out.grown hgr5 (own_ne HO2.out HOA.out (by decide)); have p5 := hox.cell 5; have f5 := hox.free 5; simp [ncells] at p5; clear hown5 hgr5 hat5 hox))
          go_roundw
          case rel => exact ⟨k + 1, _, _, by omega, by go_num, HG5.out⟩
          case measure => simp [intOf]; omega
        · have q3 : decide ((k : Int) < (P.length : Int)) = false := decide_eq_false (by omega)
          rw [show P[k]? = none from List.getElem?_eq_none (by omega), Option.getD_none] at hpp
          subst hpp
          clear hbl
          go_wp2_with (first
            | (go_at_call 19; refine (KN.out _).mono ?_; rintro e w4 ⟨rfl, rfl⟩)
            | (at_builtin; refine wpList_append_row _ rfl (.tmp 50) (.tmp 52) 22 rfl (w.heap.size + 2) 3 (.int .i64 0) 8 Try.underlying22 infoI rfl (.slice A5 nn c5) nn (((fitP P K).take k).map iv) rfl HO2.out _ (some ⟨wr.heap.size, 0, none⟩) 1 1 [.int .i64 0] rfl HR2.out (by simp [Value.oneCell']) (by unfold maxLen; omega) (by omega) hsz ?_; intro v5 w5 hown5 hgr5 hat5; obtain ⟨g5, cap5, rfl, _⟩ := own_open hown5 (by omega); have HG5 := Lib.hid (HGap.out _ _ _ hown5 hgr5); have hox := HOA.out.grown hgr5 (own_ne HO2.out HOA.out (by decide)); have p5 := hox.cell 5; have f5 := hox.free 5; simp [ncells] at p5; clear hown5 hgr5 hat5 hox))
          go_roundw
          case rel => exact ⟨k + 1, _, _, by omega, by go_num, HG5.out⟩
          case measure => simp [intOf]; omega
      · have q4 : decide ((k : Int) < (K : Int)) = false := decide_eq_false (by omega)
        by_cases hkP : k < P.length
        · obtain ⟨b1, o1, x, hA, _, hx, cx⟩ := getI (HRow.out.below hbl) hkP
          have hkI2 : (k : Int) < (P.length : Int) := Int.ofNat_lt.2 hkP
          by_cases hx0 : x = 0
          · have hz0 : (x != 0) = false := by simp [hx0]
            subst hx0
            have HJ2 := Lib.hid (HJ.out.skip (by omega) hx)
            clear hJ hbl hx
            subst hA
            go_wp2_with (go_at_call 19; refine (KN.out _).mono ?_; rintro e w4 ⟨rfl, rfl⟩)
            go_roundw
            case rel => exact ⟨k + 1, A5, c5, by omega, by go_num, HJ2.out⟩
            case measure => simp [intOf]; omega
          · have hz0 : (x != 0) = true := by simp [hx0]
            have hba := (Below.refl wr.heap.size wr).alloc (Nat.le_refl _) (.cells #[.int .i64 x] 3)
            have hJa := hJ.grown hba
            have hcut := fun G' wx => hJa.cut (G' := G') (wx := wx) (by omega) hx hx0
            have hgl := gone_len P K k
            have hga := hJa.gone
            unfold OwnI at hga
            dsimp only at hcut hga
            obtain ⟨nn, hnn⟩ : ∃ nn, (refsP ((P.take k).drop K)).length = nn := ⟨_, rfl⟩
            rw [hnn] at hgl hcut hga
            have hsz : w.heap.size + 2 ≤ (wr.alloc (.cells #[.int .i64 x] 3)).heap.size := by have := hJ.own.lt; have := hJ.hn; simp; omega
            have HO2 := Lib.hid hga; have HCut := Lib.hid hcut
            have HR2 := Lib.hid (Row.one wr (.int .i64 x) 3)
            clear hJ hJa hcut hga hba hnn HJ hbl hx0 hx
            subst hA
            go_wp2_with (first
              | (go_at_call 19; refine (KN.out _).mono ?_; rintro e w4 ⟨rfl, rfl⟩)
              | (at_builtin; refine wpList_append_row _ rfl (.tmp 57) (.tmp 59) 22 rfl (w.heap.size + 2) 3 (.int .i64 0) 8 Try.underlying22 infoI rfl u7 nn ((refsP ((P.take k).drop K)).map iv) rfl HO2.out _ (some ⟨wr.heap.size, 0, none⟩) 1 1 [.int .i64 x] rfl HR2.out (by simp [Value.oneCell']) (by unfold maxLen; omega) (by omega) hsz ?_; intro v5 w5 hown5 hgr5 hat5; have HG5 := Lib.hid (HCut.out _ _ hown5 hgr5 hat5); clear hown5 hgr5 hat5))
            go_roundw
            case rel => exact ⟨k + 1, _, _, by omega, by go_num, HG5.out⟩
            case measure => simp [intOf]; omega
        · have q3 : decide ((k : Int) < (P.length : Int)) = false := decide_eq_false (by omega)
          have hf : (fitP P K).take k = fitP P K := fit_full _ _ _ (by omega)
          have ht : P.take k = P := List.take_of_length_le (by omega)
          have e1 := hJ.row; have e2 := hJ.gone; have e3 := hJ.names; have e4 := hJ.own; have e5 := hJ.res; have e6 := hJ.below
          dsimp only at e1 e2 e3 e4 e5
          rw [hf] at e1 e4
          rw [fit_len] at e4
          rw [ht] at e2
          obtain ⟨n0, n1, n2, n3, n4, n5, n6⟩ := cells7 e4
          obtain ⟨d0, d1, d2, d3, d4, d5, d6⟩ := cells7 e5
          have z := fun j => Cells.free e5 j
          have E1 := Lib.hid e1; have E2 := Lib.hid e2; have E3 := Lib.hid e3; have E5 := Lib.hid e5; have E6 := Lib.hid e6
          clear hJ HJ hbl e1 e2 e3 e4 e5 e6 hf ht
          go_wp2_with (go_at_call 19; refine (KN.out _).mono ?_; rintro e w4 ⟨rfl, rfl⟩)
          exact bodyPost_ret (results_node_tmp rfl _ _ (w.heap.size + 1) (ncells i ki l size u (.slice A5 K c5) (.slice B4 N.length c4)) rfl (set7_cells E5.out) rfl) rfl
            ⟨_, A5, c5, B4, c4, u7, rfl, ⟨by rw [fit_len]; rfl, OwnI.mono (own_set7 E1.out (by omega)) (by omega), OwnE.mono (own_set7 E3.out (by omega)) (by omega)⟩, OwnI.mono (own_set7 E2.out (by omega)) (by omega), set7_below E6.out (by omega)⟩
  · have hin1 : inB size 0 16384 = false := by
      unfold inB
      by_cases h0 : 0 ≤ size
      · rw [decide_eq_false (show ¬ size ≤ 16384 by omega), Bool.and_false]
      · rw [decide_eq_false h0, Bool.false_and]
    rw [hin1]
    simp only [Bool.false_eq_true, if_false]
    clear hin1 hz HC HRow
    by_cases h0 : size < 0
    · have q1 : decide (size < 0) = true := decide_eq_true h0
      clear h0 hin
      go_enter Try.func9, Try.ntmps9
      go_wp2_with fail
      refine (KC.out _ HB0.out).mono ?_
      rintro e w2 ⟨V, A3, c3, B4, c4, rfl, ⟨rfl, oI, oE⟩, b2⟩
      have R3 := Lib.hid ((HR.out.below' b2).alloc (.cells (ncells i ki l s u (.slice A3 P.length c3) (.slice B4 N.length c4)) 25))
      have hb2 := HB0.out.trans (b2.mono HB0.out.size)
      have B3 := Lib.hid (hb2.alloc hb2.size (.cells (ncells i ki l s u (.slice A3 P.length c3) (.slice B4 N.length c4)) 25))
      have b3 := (Below.refl w2.heap.size w2).alloc (Nat.le_refl _) (.cells (ncells i ki l s u (.slice A3 P.length c3) (.slice B4 N.length c4)) 25)
      rw [HS2.out] at oI oE
      have OI3 := Lib.hid (oI.below b3)
      have OE3 := Lib.hid (oE.below b3)
      have hs : w.heap.size + 2 ≤ w2.heap.size := by have := b2.size; rw [HS2.out] at this; exact this
      obtain ⟨d0, d1, d2, d3, d4, d5, d6⟩ := cells7 R3.out
      have z := fun j => Cells.free R3.out j
      unfold ncells at d0 d1 d2 d3 d4 d5 d6 z OI3 OE3 B3 R3
      unfold nv
      clear b3 b2 hb2 oI oE KC HR HB0 HS2
      go_wp2
      exact bodyPost_ret (results_node_tmp rfl _ _ (w.heap.size + 1) (ncells i ki l s u (.slice A3 P.length c3) (.slice B4 N.length c4)) rfl (set7_cells R3.out) rfl) rfl
        ⟨_, A3, c3, B4, c4, _, rfl, ⟨rfl, OwnI.mono (own_set7 OI3.out (by omega)) (by omega), OwnE.mono (own_set7 OE3.out (by omega)) (by omega)⟩, OwnI.nil _ _, set7_below B3.out (by omega)⟩
    · have q1 : decide (size < 0) = false := decide_eq_false h0
      have q2 : decide (16384 < size) = true := decide_eq_true (by omega)
      clear h0 hin
      go_enter Try.func9, Try.ntmps9
      go_wp2_with fail
      refine (KC.out _ HB0.out).mono ?_
      rintro e w2 ⟨V, A3, c3, B4, c4, rfl, ⟨rfl, oI, oE⟩, b2⟩
      have R3 := Lib.hid ((HR.out.below' b2).alloc (.cells (ncells i ki l s u (.slice A3 P.length c3) (.slice B4 N.length c4)) 25))
      have hb2 := HB0.out.trans (b2.mono HB0.out.size)
      have B3 := Lib.hid (hb2.alloc hb2.size (.cells (ncells i ki l s u (.slice A3 P.length c3) (.slice B4 N.length c4)) 25))
      have b3 := (Below.refl w2.heap.size w2).alloc (Nat.le_refl _) (.cells (ncells i ki l s u (.slice A3 P.length c3) (.slice B4 N.length c4)) 25)
      rw [HS2.out] at oI oE
      have OI3 := Lib.hid (oI.below b3)
      have OE3 := Lib.hid (oE.below b3)
      have hs : w.heap.size + 2 ≤ w2.heap.size := by have := b2.size; rw [HS2.out] at this; exact this
      obtain ⟨d0, d1, d2, d3, d4, d5, d6⟩ := cells7 R3.out
      have z := fun j => Cells.free R3.out j
      unfold ncells at d0 d1 d2 d3 d4 d5 d6 z OI3 OE3 B3 R3
      unfold nv
      clear b3 b2 hb2 oI oE KC HR HB0 HS2
      go_wp2
      exact bodyPost_ret (results_node_tmp rfl _ _ (w.heap.size + 1) (ncells i ki l s u (.slice A3 P.length c3) (.slice B4 N.length c4)) rfl (set7_cells R3.out) rfl) rfl
        ⟨_, A3, c3, B4, c4, _, rfl, ⟨rfl, OwnI.mono (own_set7 OI3.out (by omega)) (by omega), OwnE.mono (own_set7 OE3.out (by omega)) (by omega)⟩, OwnI.nil _ _, set7_below B3.out (by omega)⟩
end Go.Proofs.Ytajmboolgekdeaa
