import Derived.Test.YtbejbiogabpmfaaGreatG06
import Derived.Test.YtbejbiogabpmfaaGreatG02
import Derived.Test.YtbejbiogabpmfaaGreatG01
import Derived.Test.YtbejbiogabpmfaaGreatG05

namespace Go.Proofs.YtbejbiogabpmfaaGreat
open Wd Ino Go.RowKit Go.ChangeShapes Go.WideShapes Go.Sort
set_option linter.unusedVariables false
set_option maxRecDepth 100000

set_option maxHeartbeats 8000000 in
theorem rResize (n : Nd) (size : Int) (hz : i64R size) (w : World) (h : n.In w) (hp : n.pages.length ≤ 1000) (hq : n.names.length ≤ 1000) :
    Calls Tryz.prog 105 #[n.val, .int .i64 size] w (ResizeD n size w) := by
  have KC := Lib.hid (fun w1 (b : Below w.heap.size w w1) => rCopy n w1 (h.at_ b) hp hq)
  obtain ⟨i, ki, l, s, u, A, ac, P, B, bc, N⟩ := n
  have hr := h.row
  unfold ResizeD
  dsimp only at hp hq hr ⊢
  unfold Nd.val at KC ⊢
  dsimp only at KC ⊢
  have HRow := Lib.hid hr
  have HB0 := Lib.hid (((Below.refl w.heap.size w).alloc (Nat.le_refl _) (.cells (ncells i ki l s u (.slice A P.length ac) (.slice B N.length bc)) 51)).alloc (by simp) (.cells (ncells 0 0 0 0 0 (.slice none 0 0) (.slice none 0 0)) 51))
  have hc : Cells ((w.alloc (.cells (ncells i ki l s u (.slice A P.length ac) (.slice B N.length bc)) 51)).alloc (.cells (ncells 0 0 0 0 0 (.slice none 0 0) (.slice none 0 0)) 51)) w.heap.size 51 (ncells i ki l s u (.slice A P.length ac) (.slice B N.length bc)) := (Cells.new _ _ _).alloc _
  have hr2 : Cells ((w.alloc (.cells (ncells i ki l s u (.slice A P.length ac) (.slice B N.length bc)) 51)).alloc (.cells (ncells 0 0 0 0 0 (.slice none 0 0) (.slice none 0 0)) 51)) (w.heap.size + 1) 51 (ncells 0 0 0 0 0 (.slice none 0 0) (.slice none 0 0)) := by
    have := Cells.new (w.alloc (.cells (ncells i ki l s u (.slice A P.length ac) (.slice B N.length bc)) 51)) 51 (ncells 0 0 0 0 0 (.slice none 0 0) (.slice none 0 0)); simpa using this
  have HC := Lib.hid hc; have HR := Lib.hid hr2
  have hs2 : ((w.alloc (.cells (ncells i ki l s u (.slice A P.length ac) (.slice B N.length bc)) 51)).alloc (.cells (ncells 0 0 0 0 0 (.slice none 0 0) (.slice none 0 0)) 51)).heap.size = w.heap.size + 2 := by simp
  have HS2 := Lib.hid hs2
  unfold ncells at HB0 HC HR HS2
  clear hr hc hr2 hs2 h
  by_cases hin : 0 ≤ size ∧ size ≤ 16384
  · have hin1 : inB size 0 16384 = true := by unfold inB; rw [decide_eq_true hin.1, decide_eq_true hin.2]; rfl
    rw [hin1]
    simp only [if_true]
    obtain ⟨K, hK, hK64⟩ := needP_nat size hin.1 hin.2
    rw [hK, Int.toNat_natCast]
    have KN := Lib.hid (fun w => rNeed_is size hz w)
    rw [hK] at KN
    have q1 : decide (size < 0) = false := decide_eq_false (by omega)
    have q2 : decide (16384 < size) = false := decide_eq_false (by omega)
    clear hin1 hK hin hz
    go_enter Tryz.func105, Tryz.ntmps105
    go_wp2_with fail
    refine (KC.out _ HB0.out).mono ?_
    rintro e w2 ⟨V, A3, c3, B4, c4, rfl, ⟨rfl, oI, oE⟩, b2⟩
    rw [HS2.out] at oI oE
    have hs : w.heap.size + 2 ≤ w2.heap.size := by have := b2.size; rw [HS2.out] at this; exact this
    obtain ⟨hn, hhn⟩ : ∃ hn, w2.heap.size = hn := ⟨_, rfl⟩
    have b3 := (Below.refl w2.heap.size w2).alloc (Nat.le_refl _) (.cells (ncells i ki l s u (.slice A3 P.length c3) (.slice B4 N.length c4)) 51)
    have c3n := Cells.new w2 51 (ncells i ki l s u (.slice A3 P.length c3) (.slice B4 N.length c4))
    have hB2 := HB0.out.trans (b2.mono HB0.out.size)
    have hB3 := hB2.trans (b3.mono hB2.size)
    have c3g := (HC.out.below' b2).below' b3
    have c3r := (HR.out.below' b2).below' b3
    have oE3 := oE.below b3
    unfold ncells at b3 c3n hB3 oE3 c3g c3r
    rw [hhn] at c3n hs
    unfold nv
    have HHN := Lib.hid hhn
    clear hhn oI oE b2 b3 hB2 HC HR HB0 HS2 KC
    go_upto_region 4 with fail
    rw [HHN.out]
    obtain ⟨W3, hW3⟩ : ∃ W3, w2.alloc (.cells #[.int .i64 i, .int .i64 ki, .int .i64 l, .int .i64 s, .int .i64 u, .slice A3 P.length c3, .slice B4 N.length c4] 51) = W3 := ⟨_, rfl⟩
    rw [hW3] at c3n hB3 oE3 c3g c3r ⊢
    have z := fun j => Cells.free c3n j
    have y3 := c3n.cell 3
    have y5 := c3n.cell 5
    simp at y3 y5
    have C3n := Lib.hid c3n; have C3g := Lib.hid c3g; have C3r := Lib.hid c3r; have B3 := Lib.hid hB3; have OE3 := Lib.hid oE3
    clear hW3 c3n hB3 oE3 c3g c3r HHN
    go_wp2
    go_loopw [7, 8] (fun G v wr => ∃ k A5 c5, k ≤ max K P.length ∧ v = .int .i64 (k : Int) ∧ RzAt ⟨i, ki, l, s, u, A, ac, P, B, bc, N⟩ size K hn B4 c4 w k A5 c5 G wr) (fun _ v _ => max K P.length - (intOf v).toNat)
    case atStart =>
      have C5 : Cells ((W3.setCell ⟨hn, 3, none⟩ (.int .i64 size)).setCell ⟨hn, 5, none⟩ (.slice none 0 0)) hn 51 (ncells i ki l size u (.slice none 0 0) (.slice B4 N.length c4)) := by
        have h0 : Cells _ hn 51 (ncells i ki l size u (.slice A3 P.length c3) (.slice B4 N.length c4)) := Cells.set C3n.out 3 (.int .i64 size)
        have h1 : Cells _ hn 51 (ncells i ki l size u (.slice none 0 0) (.slice B4 N.length c4)) := Cells.set h0 5 (.slice none 0 0)
        exact h1
      have h0 : Cells _ hn 51 (ncells i ki l size u (.slice A3 P.length c3) (.slice B4 N.length c4)) := Cells.set C3n.out 3 (.int .i64 size)
      refine ⟨0, none, 0, Nat.zero_le _, rfl, ⟨OwnI.nil _ _, by rw [gone_none _ _ _ (Nat.zero_le _)]; exact OwnI.nil _ _, fun b e => (by cases e), own_apart (own_apart OE3.out C3n.out (by decide) _ _) h0 (by decide) _ _, C5, (C3g.out.far (p := ⟨hn, 3, none⟩) (by simp; omega) _).far (p := ⟨hn, 5, none⟩) (by simp; omega) _, (C3r.out.far (p := ⟨hn, 3, none⟩) (by simp; omega) _).far (p := ⟨hn, 5, none⟩) (by simp; omega) _, hs, (B3.out.setCell (p := ⟨hn, 3, none⟩) (by simp; omega) _).setCell (p := ⟨hn, 5, none⟩) (by simp; omega) _, fun _ => rfl⟩⟩
    case round =>
      obtain ⟨k, A5, c5, hk, rfl, hJ⟩ := hrel
      have HJ := Lib.hid hJ
      clear z y3 y5 C3n C3g C3r B3 OE3
      have g5 := (cells7 hJ.arg).2.2.2.2.2.1
      dsimp only at g5
      have hbl := hJ.below
      by_cases hkK : k < K
      · have hkI : (k : Int) < (K : Int) := Int.ofNat_lt.2 hkK
        have hln := fit_part P K k
        obtain rfl := hJ.nil (Nat.le_of_lt hkK)
        obtain ⟨p, hpp⟩ : ∃ p, (P[k]?).getD 0 = p := ⟨_, rfl⟩
        have hba := (Below.refl wr.heap.size wr).alloc (Nat.le_refl _) (.cells #[.int .i64 p] 3)
        have hJa := hJ.grown hba
        have hgap := fun A6 c6 wx => hJa.put (A5 := A6) (c5 := c6) (wx := wx) hkK
        have hra := hJa.row
        have hoa := hJa.own
        have n5 := (cells7 hJ.own).2.2.2.2.2.1
        unfold OwnI at hra
        dsimp only at n5 hgap hra hoa
        rw [hpp] at hgap
        obtain ⟨nn, hnn⟩ : ∃ nn, ((fitP P K).take k).length = nn := ⟨_, rfl⟩
        rw [hnn] at n5 hln hgap hra hoa
        have hsz : w.heap.size + 2 ≤ (wr.alloc (.cells #[.int .i64 p] 3)).heap.size := by have := hJ.own.lt; have := hJ.hn; simp; omega
        have HO2 := Lib.hid hra; have HOA := Lib.hid hoa; have HGap := Lib.hid hgap
        have HR2 := Lib.hid (Row.one wr (.int .i64 p) 3)
        clear hJ hJa hgap hra hoa hba hnn HJ
        by_cases hkP : k < P.length
        · obtain ⟨b1, o1, x, hA, _, hx, cx⟩ := getI (HRow.out.below hbl) hkP
          have hkI2 : (k : Int) < (P.length : Int) := Int.ofNat_lt.2 hkP
          rw [hx, Option.getD_some] at hpp
          subst hpp
          clear hbl
          subst hA
          go_wp2_with (first
            | (go_at_call 148; refine (KN.out _).mono ?_; rintro e w4 ⟨rfl, rfl⟩)
            | (at_builtin; refine wpList_append_row _ rfl (.tmp 50) (.tmp 52) 40 rfl (w.heap.size + 2) 3 (.int .i64 0) 8 Tryz.underlying40 infoI rfl (.slice A5 nn c5) nn (((fitP P K).take k).map iv) rfl HO2.out _ (some ⟨wr.heap.size, 0, none⟩) 1 1 [.int .i64 x] rfl HR2.out (by simp [Value.oneCell']) (by unfold maxLen; omega) (by omega) hsz ?_; intro v5 w5 hown5 hgr5 hat5; obtain ⟨g5, cap5, rfl, _⟩ := own_open hown5 (by omega); have HG5 := Lib.hid (HGap.out _ _ _ hown5 hgr5); have hox := HOA.out.grown hgr5 (own_ne HO2.out HOA.out (by decide)); have p5 := hox.cell 5; have f5 := hox.free 5; simp [ncells] at p5; clear hown5 hgr5 hat5 hox))
          go_roundw
          case rel => exact ⟨k + 1, _, _, by omega, by go_num, HG5.out⟩
          case measure => simp [intOf]; omega
        · have q3 : decide ((k : Int) < (P.length : Int)) = false := decide_eq_false (by omega)
          rw [show P[k]? = none from List.getElem?_eq_none (by omega), Option.getD_none] at hpp
          subst hpp
          clear hbl
          go_wp2_with (first
            | (go_at_call 148; refine (KN.out _).mono ?_; rintro e w4 ⟨rfl, rfl⟩)
            | (at_builtin; refine wpList_append_row _ rfl (.tmp 50) (.tmp 52) 40 rfl (w.heap.size + 2) 3 (.int .i64 0) 8 Tryz.underlying40 infoI rfl (.slice A5 nn c5) nn (((fitP P K).take k).map iv) rfl HO2.out _ (some ⟨wr.heap.size, 0, none⟩) 1 1 [.int .i64 0] rfl HR2.out (by simp [Value.oneCell']) (by unfold maxLen; omega) (by omega) hsz ?_; intro v5 w5 hown5 hgr5 hat5; obtain ⟨g5, cap5, rfl, _⟩ := own_open hown5 (by omega); have HG5 := Lib.hid (HGap.out _ _ _ hown5 hgr5); have hox := HOA.out.grown hgr5 (own_ne HO2.out HOA.out (by decide)); have p5 := hox.cell 5; have f5 := hox.free 5; simp [ncells] at p5; clear hown5 hgr5 hat5 hox))
          go_roundw
          case rel => exact ⟨k + 1, _, _, by omega, by go_num, HG5.out⟩
          case measure => simp [intOf]; omega
      · have q4 : decide ((k : Int) < (K : Int)) = false := decide_eq_false (by omega)
        by_cases hkP : k < P.length
        · obtain ⟨b1, o1, x, hA, _, hx, cx⟩ := getI (HRow.out.below hbl) hkP
          have hkI2 : (k : Int) < (P.length : Int) := Int.ofNat_lt.2 hkP
          by_cases hx0 : x = 0
          · have hz0 : (x != 0) = false := by simp [hx0]
            subst hx0
            have HJ2 := Lib.hid (HJ.out.skip (by omega) hx)
            clear hJ hbl hx
            subst hA
            go_wp2_with (go_at_call 148; refine (KN.out _).mono ?_; rintro e w4 ⟨rfl, rfl⟩)
            go_roundw
            case rel => exact ⟨k + 1, A5, c5, by omega, by go_num, HJ2.out⟩
            case measure => simp [intOf]; omega
          · have hz0 : (x != 0) = true := by simp [hx0]
            have hba := (Below.refl wr.heap.size wr).alloc (Nat.le_refl _) (.cells #[.int .i64 x] 3)
            have hJa := hJ.grown hba
            have hcut := fun G' wx => hJa.cut (G' := G') (wx := wx) (by omega) hx hx0
            have hgl := gone_len P K k
            have hga := hJa.gone
            unfold OwnI at hga
            dsimp only at hcut hga
            obtain ⟨nn, hnn⟩ : ∃ nn, (refsP ((P.take k).drop K)).length = nn := ⟨_, rfl⟩
            rw [hnn] at hgl hcut hga
            have hsz : w.heap.size + 2 ≤ (wr.alloc (.cells #[.int .i64 x] 3)).heap.size := by have := hJ.own.lt; have := hJ.hn; simp; omega
            have HO2 := Lib.hid hga; have HCut := Lib.hid hcut
            have HR2 := Lib.hid (Row.one wr (.int .i64 x) 3)
            clear hJ hJa hcut hga hba hnn HJ hbl hx0 hx
            subst hA
            go_wp2_with (first
              | (go_at_call 148; refine (KN.out _).mono ?_; rintro e w4 ⟨rfl, rfl⟩)
              | (at_builtin; refine wpList_append_row _ rfl (.tmp 57) (.tmp 59) 40 rfl (w.heap.size + 2) 3 (.int .i64 0) 8 Tryz.underlying40 infoI rfl u7 nn ((refsP ((P.take k).drop K)).map iv) rfl HO2.out _ (some ⟨wr.heap.size, 0, none⟩) 1 1 [.int .i64 x] rfl HR2.out (by simp [Value.oneCell']) (by unfold maxLen; omega) (by omega) hsz ?_; intro v5 w5 hown5 hgr5 hat5; have HG5 := Lib.hid (HCut.out _ _ hown5 hgr5 hat5); clear hown5 hgr5 hat5))
            go_roundw
            case rel => exact ⟨k + 1, _, _, by omega, by go_num, HG5.out⟩
            case measure => simp [intOf]; omega
        · have q3 : decide ((k : Int) < (P.length : Int)) = false := decide_eq_false (by omega)
          have hf : (fitP P K).take k = fitP P K := fit_full _ _ _ (by omega)
          have ht : P.take k = P := List.take_of_length_le (by omega)
          have e1 := hJ.row; have e2 := hJ.gone; have e3 := hJ.names; have e4 := hJ.own; have e5 := hJ.res; have e6 := hJ.below
          dsimp only at e1 e2 e3 e4 e5
          rw [hf] at e1 e4
          rw [fit_len] at e4
          rw [ht] at e2
          obtain ⟨n0, n1, n2, n3, n4, n5, n6⟩ := cells7 e4
          obtain ⟨d0, d1, d2, d3, d4, d5, d6⟩ := cells7 e5
          have z := fun j => Cells.free e5 j
          have E1 := Lib.hid e1; have E2 := Lib.hid e2; have E3 := Lib.hid e3; have E5 := Lib.hid e5; have E6 := Lib.hid e6
          clear hJ HJ hbl e1 e2 e3 e4 e5 e6 hf ht
          go_wp2_with (go_at_call 148; refine (KN.out _).mono ?_; rintro e w4 ⟨rfl, rfl⟩)
          exact bodyPost_ret (results_node_tmp rfl _ _ (w.heap.size + 1) (ncells i ki l size u (.slice A5 K c5) (.slice B4 N.length c4)) rfl (set7_cells E5.out) rfl) rfl
            ⟨_, A5, c5, B4, c4, u7, rfl, ⟨by rw [fit_len]; rfl, OwnI.mono (own_set7 E1.out (by omega)) (by omega), OwnE.mono (own_set7 E3.out (by omega)) (by omega)⟩, OwnI.mono (own_set7 E2.out (by omega)) (by omega), set7_below E6.out (by omega)⟩
  · have hin1 : inB size 0 16384 = false := by
      unfold inB
      by_cases h0 : 0 ≤ size
      · rw [decide_eq_false (show ¬ size ≤ 16384 by omega), Bool.and_false]
      · rw [decide_eq_false h0, Bool.false_and]
    rw [hin1]
    simp only [Bool.false_eq_true, if_false]
    clear hin1 hz HC HRow
    by_cases h0 : size < 0
    · have q1 : decide (size < 0) = true := decide_eq_true h0
      clear h0 hin
      go_enter Tryz.func105, Tryz.ntmps105
      go_wp2_with fail
      refine (KC.out _ HB0.out).mono ?_
      rintro e w2 ⟨V, A3, c3, B4, c4, rfl, ⟨rfl, oI, oE⟩, b2⟩
      have R3 := Lib.hid ((HR.out.below' b2).alloc (.cells (ncells i ki l s u (.slice A3 P.length c3) (.slice B4 N.length c4)) 51))
      have hb2 := HB0.out.trans (b2.mono HB0.out.size)
      have B3 := Lib.hid (hb2.alloc hb2.size (.cells (ncells i ki l s u (.slice A3 P.length c3) (.slice B4 N.length c4)) 51))
      have b3 := (Below.refl w2.heap.size w2).alloc (Nat.le_refl _) (.cells (ncells i ki l s u (.slice A3 P.length c3) (.slice B4 N.length c4)) 51)
      rw [HS2.out] at oI oE
      have OI3 := Lib.hid (oI.below b3)
      have OE3 := Lib.hid (oE.below b3)
      have hs : w.heap.size + 2 ≤ w2.heap.size := by have := b2.size; rw [HS2.out] at this; exact this
      obtain ⟨d0, d1, d2, d3, d4, d5, d6⟩ := cells7 R3.out
      have z := fun j => Cells.free R3.out j
      unfold ncells at d0 d1 d2 d3 d4 d5 d6 z OI3 OE3 B3 R3
      unfold nv
      clear b3 b2 hb2 oI oE KC HR HB0 HS2
      go_wp2
      exact bodyPost_ret (results_node_tmp rfl _ _ (w.heap.size + 1) (ncells i ki l s u (.slice A3 P.length c3) (.slice B4 N.length c4)) rfl (set7_cells R3.out) rfl) rfl
        ⟨_, A3, c3, B4, c4, _, rfl, ⟨rfl, OwnI.mono (own_set7 OI3.out (by omega)) (by omega), OwnE.mono (own_set7 OE3.out (by omega)) (by omega)⟩, OwnI.nil _ _, set7_below B3.out (by omega)⟩
    · have q1 : decide (size < 0) = false := decide_eq_false h0
      have q2 : decide (16384 < size) = true := decide_eq_true (by omega)
      clear h0 hin
      go_enter Tryz.func105, Tryz.ntmps105
      go_wp2_with fail
      refine (KC.out _ HB0.out).mono ?_
      rintro e w2 ⟨V, A3, c3, B4, c4, rfl, ⟨rfl, oI, oE⟩, b2⟩
      have R3 := Lib.hid ((HR.out.below' b2).alloc (.cells (ncells i ki l s u (.slice A3 P.length c3) (.slice B4 N.length c4)) 51))
      have hb2 := HB0.out.trans (b2.mono HB0.out.size)
      have B3 := Lib.hid (hb2.alloc hb2.size (.cells (ncells i ki l s u (.slice A3 P.length c3) (.slice B4 N.length c4)) 51))
      have b3 := (Below.refl w2.heap.size w2).alloc (Nat.le_refl _) (.cells (ncells i ki l s u (.slice A3 P.length c3) (.slice B4 N.length c4)) 51)
      rw [HS2.out] at oI oE
      have OI3 := Lib.hid (oI.below b3)
      have OE3 := Lib.hid (oE.below b3)
      have hs : w.heap.size + 2 ≤ w2.heap.size := by have := b2.size; rw [HS2.out] at this; exact this
      obtain ⟨d0, d1, d2, d3, d4, d5, d6⟩ := cells7 R3.out
      have z := fun j => Cells.free R3.out j
      unfold ncells at d0 d1 d2 d3 d4 d5 d6 z OI3 OE3 B3 R3
      unfold nv
      clear b3 b2 hb2 oI oE KC HR HB0 HS2
      go_wp2
      exact bodyPost_ret (results_node_tmp rfl _ _ (w.heap.size + 1) (ncells i ki l s u (.slice A3 P.length c3) (.slice B4 N.length c4)) rfl (set7_cells R3.out) rfl) rfl
        ⟨_, A3, c3, B4, c4, _, rfl, ⟨rfl, OwnI.mono (own_set7 OI3.out (by omega)) (by omega), OwnE.mono (own_set7 OE3.out (by omega)) (by omega)⟩, OwnI.nil _ _, set7_below B3.out (by omega)⟩
end Go.Proofs.YtbejbiogabpmfaaGreat

namespace Go.Proofs.YtbejbiogabpmfaaGreat
open Wd Ino Go.RowKit Go.ChangeShapes Go.WideShapes Go.Sort
set_option linter.unusedVariables false
set_option maxRecDepth 100000

set_option maxHeartbeats 4000000 in
theorem iRightFile (ino kind links size up : Int) (A B : Option Addr) (np c nn d : Nat) (hs : i64R size) (w : World) : Calls Tryz.prog 187 #[nv ino kind links size up (.slice A np c) (.slice B nn d)] w (Grows (.bool (fileB size up np nn)) w) := by
  have hc := Cells.new w 51 (ncells ino kind links size up (.slice A np c) (.slice B nn d))
  have HG := Lib.hid (grow_one w (.cells (ncells ino kind links size up (.slice A np c) (.slice B nn d)) 51))
  obtain ⟨c0, c1, c2, c3, c4, c5, c6⟩ := cells7 hc
  have hl := hc.lt
  have g3 := cell_grown (a := ⟨w.heap.size, 3, none⟩) hl c3
  have g4 := cell_grown (a := ⟨w.heap.size, 4, none⟩) hl c4
  have g5 := cell_grown (a := ⟨w.heap.size, 5, none⟩) hl c5
  have g6 := cell_grown (a := ⟨w.heap.size, 6, none⟩) hl c6
  have KW := Lib.hid (fun w => iWithin size 0 16384 w)
  have KN := Lib.hid (fun w => iNeed size hs w)
  have hfol : Tryz.prog.follows .mixedOrders = true := by kernel_rfl
  unfold nv
  unfold fileB
  unfold ncells at c3 c4 c5 c6 g3 g4 g5 g6 HG hl
  obtain ⟨m, hm⟩ : ∃ m, needP size = m := ⟨_, rfl⟩
  obtain ⟨b, hb⟩ : ∃ b, inB size 0 16384 = b := ⟨_, rfl⟩
  rw [hm] at KN ⊢
  rw [hb] at KW ⊢
  clear hc c0 c1 c2 hl hm hb hs
  cases q1 : (up == 0)
  · rw [Bool.false_and, Bool.false_and, Bool.false_and]
    go_enter Tryz.func187, Tryz.ntmps187
    go_wp2_with fail
    refine wp_region_quiet_grown hfol (by kernel_rfl) ?_
    repeat (go_big_quiet_step (first
      | (go_at_call 177; (with_reducible exact Grows.in KW.out _ _ _))
      | (go_at_call 178; (with_reducible exact Grows.in KN.out _ _ _))))
    refine wpQuiet_nil ?_
    intro _ hw'
    obtain ⟨⟨nr, osr⟩, hw''⟩ := hw'
    subst hw''
    clear g3 g4 g5 g6 c3 c4 c5 c6
    go_wp2
    go_ret
    exact ⟨rfl, grow_trans HG.out ⟨nr, osr, rfl⟩⟩
  · cases q2 : ((nn : Int) == 0)
    · rw [Bool.true_and, Bool.false_and, Bool.false_and]
      go_enter Tryz.func187, Tryz.ntmps187
      go_wp2_with fail
      refine wp_region_quiet_grown hfol (by kernel_rfl) ?_
      repeat (go_big_quiet_step (first
        | (go_at_call 177; (with_reducible exact Grows.in KW.out _ _ _))
        | (go_at_call 178; (with_reducible exact Grows.in KN.out _ _ _))))
      refine wpQuiet_nil ?_
      intro _ hw'
      obtain ⟨⟨nr, osr⟩, hw''⟩ := hw'
      subst hw''
      clear g3 g4 g5 g6 c3 c4 c5 c6
      go_wp2
      go_ret
      exact ⟨rfl, grow_trans HG.out ⟨nr, osr, rfl⟩⟩
    · cases b
      · rw [Bool.and_false, Bool.false_and]
        go_enter Tryz.func187, Tryz.ntmps187
        go_wp2_with fail
        refine wp_region_quiet_grown hfol (by kernel_rfl) ?_
        repeat (go_big_quiet_step (first
          | (go_at_call 177; (with_reducible exact Grows.in KW.out _ _ _))
          | (go_at_call 178; (with_reducible exact Grows.in KN.out _ _ _))))
        refine wpQuiet_nil ?_
        intro _ hw'
        obtain ⟨⟨nr, osr⟩, hw''⟩ := hw'
        subst hw''
        clear g3 g4 g5 g6 c3 c4 c5 c6
        go_wp2
        go_ret
        exact ⟨rfl, grow_trans HG.out ⟨nr, osr, rfl⟩⟩
      · rw [Bool.true_and, Bool.true_and, Bool.true_and]
        cases q4 : ((np : Int) == m)
        · skip
          go_enter Tryz.func187, Tryz.ntmps187
          go_wp2_with fail
          refine wp_region_quiet_grown hfol (by kernel_rfl) ?_
          repeat (go_big_quiet_step (first
            | (go_at_call 177; (with_reducible exact Grows.in KW.out _ _ _))
            | (go_at_call 178; (with_reducible exact Grows.in KN.out _ _ _))))
          refine wpQuiet_nil ?_
          intro _ hw'
          obtain ⟨⟨nr, osr⟩, hw''⟩ := hw'
          subst hw''
          clear g3 g4 g5 g6 c3 c4 c5 c6
          go_wp2
          go_ret
          exact ⟨rfl, grow_trans HG.out ⟨nr, osr, rfl⟩⟩
        · skip
          go_enter Tryz.func187, Tryz.ntmps187
          go_wp2_with fail
          refine wp_region_quiet_grown hfol (by kernel_rfl) ?_
          repeat (go_big_quiet_step (first
            | (go_at_call 177; (with_reducible exact Grows.in KW.out _ _ _))
            | (go_at_call 178; (with_reducible exact Grows.in KN.out _ _ _))))
          refine wpQuiet_nil ?_
          intro _ hw'
          obtain ⟨⟨nr, osr⟩, hw''⟩ := hw'
          subst hw''
          clear g3 g4 g5 g6 c3 c4 c5 c6
          go_wp2
          go_ret
          exact ⟨rfl, grow_trans HG.out ⟨nr, osr, rfl⟩⟩
end Go.Proofs.YtbejbiogabpmfaaGreat

namespace Go.Proofs.YtbejbiogabpmfaaGreat
open Wd Ino Go.RowKit Go.ChangeShapes Go.WideShapes Go.Sort
set_option linter.unusedVariables false
set_option maxRecDepth 100000

set_option maxHeartbeats 4000000 in
theorem iRight (ino kind links size up : Int) (A B : Option Addr) (np c nn d : Nat) (hs : i64R size) (w : World) : Calls Tryz.prog 167 #[nv ino kind links size up (.slice A np c) (.slice B nn d)] w (Grows (.bool (rightB ino kind links size up np nn)) w) := by
  have hc := Cells.new w 51 (ncells ino kind links size up (.slice A np c) (.slice B nn d))
  have HG := Lib.hid (grow_one w (.cells (ncells ino kind links size up (.slice A np c) (.slice B nn d)) 51))
  obtain ⟨c0, c1, c2, c3, c4, c5, c6⟩ := cells7 hc
  have KF := Lib.hid (fun w => iRightFile ino kind links size up A B np c nn d hs w)
  have KD := Lib.hid (fun w => iRightDir ino kind links size up A np c (.slice B nn d) w)
  obtain ⟨R1, hR1⟩ : ∃ b, fileB size up np nn = b := ⟨_, rfl⟩
  obtain ⟨R2, hR2⟩ : ∃ b, dirB ino links size up np = b := ⟨_, rfl⟩
  obtain ⟨b1, hb1⟩ : ∃ b, inB ino 1 1048576 = b := ⟨_, rfl⟩
  obtain ⟨b2, hb2⟩ : ∃ b, inB links 0 16 = b := ⟨_, rfl⟩
  have KI := Lib.hid (fun w => iWithin_is ino 1 1048576 w)
  have KL := Lib.hid (fun w => iWithin_is links 0 16 w)
  unfold nv at KF KD ⊢
  unfold rightB
  rw [hR1] at KF ⊢
  rw [hR2] at KD ⊢
  rw [hb1] at KI ⊢
  rw [hb2] at KL ⊢
  unfold ncells at c0 c1 c2 c3 c4 c5 c6 HG
  clear hc hR1 hR2 hb1 hb2 hs
  cases b1
  · rw [if_neg (by simp)]
    go_enter Tryz.func167, Tryz.ntmps167
    go_wp2_with (go_at_call 177; refine (KI.out _).mono ?_; rintro e w1 ⟨rfl, rfl⟩)
    go_ret
    exact ⟨rfl, HG.out⟩
  · cases b2
    · rw [if_neg (by simp)]
      go_enter Tryz.func167, Tryz.ntmps167
      go_wp2_with fail
      refine (KI.out _).mono ?_
      rintro e w1 ⟨rfl, rfl⟩
      go_wp2_with fail
      refine (KL.out _).mono ?_
      rintro e w1 ⟨rfl, rfl⟩
      go_wp2
      go_ret
      exact ⟨rfl, HG.out⟩
    · rw [if_pos (by simp)]
      by_cases h1 : kind = 1
      · have q1 : (kind == 1) = true := by simpa using h1
        rw [if_pos h1]
        clear h1
        go_enter Tryz.func167, Tryz.ntmps167
        go_wp2_with fail
        refine (KI.out _).mono ?_
        rintro e w1 ⟨rfl, rfl⟩
        go_wp2_with fail
        refine (KL.out _).mono ?_
        rintro e w1 ⟨rfl, rfl⟩
        go_wp2_with fail
        refine (KF.out _).mono ?_
        rintro e w1 ⟨rfl, hg⟩
        go_wp2
        go_ret
        exact ⟨rfl, grow_trans HG.out hg⟩
      · have q1 : (kind == 1) = false := by simpa using h1
        rw [if_neg h1]
        by_cases h2 : kind = 2
        · have q2 : (kind == 2) = true := by simpa using h2
          rw [if_pos h2]
          clear h1 h2
          go_enter Tryz.func167, Tryz.ntmps167
          go_wp2_with fail
          refine (KI.out _).mono ?_
          rintro e w1 ⟨rfl, rfl⟩
          go_wp2_with fail
          refine (KL.out _).mono ?_
          rintro e w1 ⟨rfl, rfl⟩
          go_wp2_with fail
          refine (KD.out _).mono ?_
          rintro e w1 ⟨rfl, hg⟩
          go_wp2
          go_ret
          exact ⟨rfl, grow_trans HG.out hg⟩
        · have q2 : (kind == 2) = false := by simpa using h2
          rw [if_neg h2]
          clear h1 h2
          go_enter Tryz.func167, Tryz.ntmps167
          go_wp2_with fail
          refine (KI.out _).mono ?_
          rintro e w1 ⟨rfl, rfl⟩
          go_wp2_with fail
          refine (KL.out _).mono ?_
          rintro e w1 ⟨rfl, rfl⟩
          go_wp2
          go_ret
          exact ⟨rfl, HG.out⟩
end Go.Proofs.YtbejbiogabpmfaaGreat

namespace Go.Proofs.YtbejbiogabpmfaaGreat
open Wd Ino Go.RowKit Go.ChangeShapes Go.WideShapes Go.Sort
set_option linter.unusedVariables false
set_option maxRecDepth 100000

end Go.Proofs.YtbejbiogabpmfaaGreat

namespace Go.Proofs.YtbejbiogabpmfaaGreat
open Wd Ino Go.RowKit Go.ChangeShapes Go.WideShapes Go.Sort
set_option linter.unusedVariables false
set_option maxRecDepth 100000

/-! whether a node is small; the law's example -/
def fewB (n : Nd) : Bool := decide (∀ e ∈ n.names, e.s.size ≤ 100) && (decide (n.pages.length ≤ 100) && decide (n.names.length ≤ 30))
/-- a node in rows of its own is a node -/
theorem own_form {w : World} {base : Nat} {e : TypeId} {sz n c : Nat} {A : Option Addr} {xs : List Value} (h : w.ownsRow base e sz (.slice A n c) n xs) : n ≤ c ∧ c ≤ maxLen := by
  rcases h.2 with ⟨h0, hn⟩ | ⟨g, cap, cur, hv, _, _, h1, h2, _⟩
  · injection h0 with _ _ hc
    rw [hc, hn]
    exact ⟨Nat.le_refl _, Nat.zero_le _⟩
  · injection hv with _ _ hc
    rw [hc]
    exact ⟨h1, h2⟩
theorem OwnN.in_ {w : World} {base : Nat} {V : Value} {i k l s u : Int} {P : List Int} {N : List Ent} {A : Option Addr} {ac : Nat} {B : Option Addr} {bc : Nat} (h : OwnN w base V i k l s u P N A ac B bc) : (Nd.mk i k l s u A ac P B bc N).In w := by
  obtain ⟨A', c', e, hr⟩ := h.pages.row
  injection e with e
  subst e
  obtain ⟨B', d', e, _, he⟩ := h.names.form
  injection e with e
  subst e
  exact ⟨hr, he⟩
theorem OwnN.ok {w : World} {base : Nat} {V : Value} {i k l s u : Int} {P : List Int} {N : List Ent} {A : Option Addr} {ac : Nat} {B : Option Addr} {bc : Nat} (h : OwnN w base V i k l s u P N A ac B bc)
    (h0 : i64R i) (h1 : i64R k) (h2 : i64R l) (h3 : i64R s) (h4 : i64R u) (hp : ∀ x ∈ P, i64R x) (hn : ∀ e ∈ N, e.Ok) : (Nd.mk i k l s u A ac P B bc N).Ok w w.heap.size := by
  have a := own_form h.pages
  have b := own_form h.names
  exact ⟨h0, h1, h2, h3, h4, h.in_.row, hp, Nat.le_trans a.1 a.2, a.1, a.2, h.in_.ens, hn, Nat.le_trans b.1 b.2⟩
theorem OwnN.val_ {w : World} {base : Nat} {V : Value} {i k l s u : Int} {P : List Int} {N : List Ent} {A : Option Addr} {ac : Nat} {B : Option Addr} {bc : Nat} (h : OwnN w base V i k l s u P N A ac B bc) : V = (Nd.mk i k l s u A ac P B bc N).val := h.val
end Go.Proofs.YtbejbiogabpmfaaGreat

/-! A state in memory: the project's (a map of nodes) and the document's (a row of nodes). -/
namespace Go.Proofs.YtbejbiogabpmfaaGreat
open Wd Ino Sm Go.RowKit Go.ChangeShapes Go.WideShapes Go.Sort
set_option linter.unusedVariables false
set_option maxRecDepth 100000
theorem keyedN : Go.Maps.Keyed Tryz.prog 3 := Go.Maps.int_keyed Tryz.underlying3
theorem zeroNd (w : World) : (zeroValue 51).run Tryz.prog w = .ok (nv 0 0 0 0 0 (.slice none 0 0) (.slice none 0 0)) w := by kernel_rfl
theorem wfI {x : Int} (h : i64R x) : (Lit.int .i64 x).wf = true := WalkArith.wf_i64 (by unfold i64R at h; omega)

@[go_sem] theorem fieldN0 (a0 a1 a2 a3 a4 a5 a6 : Value) (w : World) : (Instr.field 51 (.agg #[a0, a1, a2, a3, a4, a5, a6]) 0).run Tryz.prog w = .ok a0 w := by
  simp [Instr.field, run_underlying Tryz.underlying51, asAgg, Result.andThen, go_sem]
@[go_sem] theorem fieldN1 (a0 a1 a2 a3 a4 a5 a6 : Value) (w : World) : (Instr.field 51 (.agg #[a0, a1, a2, a3, a4, a5, a6]) 1).run Tryz.prog w = .ok a1 w := by
  simp [Instr.field, run_underlying Tryz.underlying51, asAgg, Result.andThen, go_sem]
@[go_sem] theorem fieldN2 (a0 a1 a2 a3 a4 a5 a6 : Value) (w : World) : (Instr.field 51 (.agg #[a0, a1, a2, a3, a4, a5, a6]) 2).run Tryz.prog w = .ok a2 w := by
  simp [Instr.field, run_underlying Tryz.underlying51, asAgg, Result.andThen, go_sem]
@[go_sem] theorem fieldN3 (a0 a1 a2 a3 a4 a5 a6 : Value) (w : World) : (Instr.field 51 (.agg #[a0, a1, a2, a3, a4, a5, a6]) 3).run Tryz.prog w = .ok a3 w := by
  simp [Instr.field, run_underlying Tryz.underlying51, asAgg, Result.andThen, go_sem]
@[go_sem] theorem fieldN4 (a0 a1 a2 a3 a4 a5 a6 : Value) (w : World) : (Instr.field 51 (.agg #[a0, a1, a2, a3, a4, a5, a6]) 4).run Tryz.prog w = .ok a4 w := by
  simp [Instr.field, run_underlying Tryz.underlying51, asAgg, Result.andThen, go_sem]
@[go_sem] theorem fieldN5 (a0 a1 a2 a3 a4 a5 a6 : Value) (w : World) : (Instr.field 51 (.agg #[a0, a1, a2, a3, a4, a5, a6]) 5).run Tryz.prog w = .ok a5 w := by
  simp [Instr.field, run_underlying Tryz.underlying51, asAgg, Result.andThen, go_sem]
@[go_sem] theorem fieldN6 (a0 a1 a2 a3 a4 a5 a6 : Value) (w : World) : (Instr.field 51 (.agg #[a0, a1, a2, a3, a4, a5, a6]) 6).run Tryz.prog w = .ok a6 w := by
  simp [Instr.field, run_underlying Tryz.underlying51, asAgg, Result.andThen, go_sem]
/-- blocks but those of S are as they were -/
structure Trn (w w' : World) (S : List Nat) : Prop where
  os : w'.os = w.os
  tape : w'.tape = w.tape
  output : w'.output = w.output
  size : w.heap.size ≤ w'.heap.size
  block : ∀ k, k < w.heap.size → k ∉ S → w'.heap[k]? = w.heap[k]?
theorem Trn.refl (w : World) (S : List Nat) : Trn w w S := ⟨rfl, rfl, rfl, Nat.le_refl _, fun _ _ _ => rfl⟩
theorem Trn.trans {a b c : World} {S : List Nat} (h : Trn a b S) (k : Trn b c S) : Trn a c S :=
  ⟨k.os.trans h.os, k.tape.trans h.tape, k.output.trans h.output, Nat.le_trans h.size k.size, fun i hi hn => (k.block i (Nat.lt_of_lt_of_le hi h.size) hn).trans (h.block i hi hn)⟩
theorem Trn.of {a b : World} {S : List Nat} (h : Below a.heap.size a b) : Trn a b S := ⟨h.os, h.tape, h.output, h.size, fun k hk _ => h.block k hk⟩
theorem Trn.more {a b : World} {S S' : List Nat} (h : Trn a b S) (hS : ∀ x ∈ S, x ∈ S') : Trn a b S' := ⟨h.os, h.tape, h.output, h.size, fun k hk hn => h.block k hk fun e => hn (hS k e)⟩
theorem Trn.set (w : World) {p : Addr} {S : List Nat} (hp : p.block ∈ S) (u : Value) : Trn w (w.setCell p u) S :=
  ⟨rfl, rfl, rfl, by simp [World.setCell], fun k hk hn => Below.heap_setCell w p u k fun e => hn (e ▸ hp)⟩
theorem Trn.map {w w' : World} {b : Nat} {S : List Nat} (h : w.mapTurned w' b) (hb : b ∈ S) : Trn w w' S := by
  have hs := turned_size h
  have hk := fun q hq => turned_block h (q := q) hq
  obtain ⟨es, clock, es', clock', hb', rfl⟩ := h
  exact ⟨rfl, rfl, rfl, by rw [hs]; exact Nat.le_refl _, fun k _ hn => hk k fun e => hn (e ▸ hb)⟩
theorem Trn.below {a b : World} {S : List Nat} (h : Trn a b S) {B : Nat} (hB : B ≤ a.heap.size) (hS : ∀ x ∈ S, B ≤ x) : Below B a b :=
  ⟨h.os, h.tape, h.output, h.size, fun k hk => h.block k (by omega) fun hm => by have := hS k hm; omega⟩
theorem Trn.drew {a b : World} {S : List Nat} (h : Trn a b S) : Trn a b.drew S := ⟨h.os, h.tape, h.output, h.size, h.block⟩
theorem Trn.drewN {a b : World} {S : List Nat} (h : Trn a b S) (n : Nat) : Trn a (b.drewN n) S := ⟨h.os, h.tape, h.output, h.size, h.block⟩
theorem Trn.alloc {a b : World} {S : List Nat} (h : Trn a b S) (o : Obj) : Trn a (b.alloc o) S := h.trans (Trn.of (below_of_grown (World.grownBy_alloc b o none)))
theorem Trn.grow {a b c : World} {S : List Nat} (h : Trn a b S) (k : ∃ q os, c = grow (b.drewN q) os) : Trn a c S := h.trans (Trn.of (grown_b k))

/-- cells of all kinds but those of Ts are as they were -/
def KeepC (Ts : List TypeId) (w w' : World) : Prop := ∀ b t cs, t ∉ Ts → Cells w b t cs → Cells w' b t cs
theorem KeepC.of {w w' : World} {Ts : List TypeId} (h : Below w.heap.size w w') : KeepC Ts w w' := fun b t cs _ hc => hc.below' h
theorem KeepC.trans {a b c : World} {Ts : List TypeId} (h : KeepC Ts a b) (k : KeepC Ts b c) : KeepC Ts a c := fun q t cs ht hc => k q t cs ht (h q t cs ht hc)
theorem KeepC.more {a b : World} {Ts Us : List TypeId} (h : KeepC Ts a b) (hs : ∀ x ∈ Ts, x ∈ Us) : KeepC Us a b := fun q t cs ht hc => h q t cs (fun e => ht (hs t e)) hc
theorem KeepC.own {w w' : World} {Ts : List TypeId} (h : KeepC Ts w w') {base n sz : Nat} {e : TypeId} {v : Value} {xs : List Value} (he : e ∉ Ts) (ho : w.ownsRow base e sz v n xs) : w'.ownsRow base e sz v n xs := by
  rcases ho with ⟨hl, ho⟩
  refine ⟨hl, ?_⟩
  rcases ho with ho | ⟨g, cap, cur, hv, hg, hh, h1⟩
  · exact .inl ho
  · exact .inr ⟨g, cap, cur, hv, hg, h g e cur he hh, h1⟩

def Nd.plain (n : Nd) : Nod := ⟨n.ino, n.kind, n.links, n.size, n.up, n.pages, n.names⟩
def OwnNd (w : World) (base : Nat) (n : Nd) : Prop := OwnI w base (.slice n.A n.pages.length n.ac) n.pages ∧ OwnE w base (.slice n.B n.names.length n.bc) n.names
def zeroNdd : Nd := ⟨0, 0, 0, 0, 0, none, 0, [], none, 0, []⟩
theorem OwnNd.zero (w : World) (base : Nat) : OwnNd w base zeroNdd := ⟨OwnI.nil _ _, own_nilE _ _⟩
theorem OwnNd.keep {w w' : World} {base : Nat} {n : Nd} {Ts : List TypeId} (h : OwnNd w base n) (hk : KeepC Ts w w') (h1 : 3 ∉ Ts) (h2 : 103 ∉ Ts) : OwnNd w' base n := ⟨hk.own h1 h.1, hk.own h2 h.2⟩
theorem OwnNd.below {w w' : World} {base : Nat} {n : Nd} (h : OwnNd w base n) (hb : Below w.heap.size w w') : OwnNd w' base n := h.keep (KeepC.of (Ts := []) hb) (by simp) (by simp)
theorem OwnNd.mono {w : World} {b1 b2 : Nat} {n : Nd} (h : OwnNd w b1 n) (hb : b2 ≤ b1) : OwnNd w b2 n := ⟨h.1.mono hb, h.2.mono hb⟩
theorem OwnNd.in_ {w : World} {base : Nat} {n : Nd} (h : OwnNd w base n) : n.In w := by
  refine ⟨?_, ?_⟩
  · obtain ⟨A, c, hv, hr⟩ := h.1.row
    injection hv with h1 h2 h3
    rw [h1]; exact hr
  · obtain ⟨A, c, hv, _, hr⟩ := h.2.form
    injection hv with h1 h2 h3
    rw [h1]; exact hr
theorem OwnN.nd {w : World} {base : Nat} {V : Value} {i k l s u : Int} {P : List Int} {N : List Ent} {A : Option Addr} {ac : Nat} {B : Option Addr} {bc : Nat} (h : OwnN w base V i k l s u P N A ac B bc) :
    V = (Nd.mk i k l s u A ac P B bc N).val ∧ OwnNd w base (Nd.mk i k l s u A ac P B bc N) := ⟨h.val_, h.pages, h.names⟩
/-- the names of a directory, replaced by others that lie anywhere -/
def Nd.withNames (n : Nd) (B : Option Addr) (bc : Nat) (l : List Ent) : Nd := { n with B := B, bc := bc, names := l }

/-! the project's -/
def mval (G : Int → Option Nd) : VFn := fun i => (G i).map Nd.val
def Mpn (w : World) (base m b : Nat) (l : List Nod) : Prop := ∃ G : Int → Option Nd, Mv Tryz.prog 3 w b m (mval G) ∧ (∀ i, (G i).map Nd.plain = atS l i) ∧ ∀ i n, G i = some n → OwnNd w base n
structure PSt (w : World) (base m g b : Nat) (S : Stt) : Prop where
  lo : base ≤ g
  lob : base ≤ b
  cells : Cells w g 108 #[.map (some b), .int .i64 S.last]
  mp : Mpn w base m b S.l
theorem Mpn.keep {w w' : World} {base m b : Nat} {l : List Nod} (h : Mpn w base m b l) {Ts : List TypeId} (hk : KeepC Ts w w') (h1 : 3 ∉ Ts) (h2 : 103 ∉ Ts) (hb : w'.heap[b]? = w.heap[b]?) : Mpn w' base m b l := by
  obtain ⟨G, hG, hl, ho⟩ := h
  exact ⟨G, hG.same hb, hl, fun i n hi => (ho i n hi).keep hk h1 h2⟩
theorem Mpn.more {w : World} {base m m' b : Nat} {l : List Nod} (h : Mpn w base m b l) (hm : m ≤ m') : Mpn w base m' b l := by
  obtain ⟨G, hG, hl, ho⟩ := h
  exact ⟨G, hG.mono hm, hl, ho⟩
theorem PSt.more {w : World} {base m m' g b : Nat} {S : Stt} (h : PSt w base m g b S) (hm : m ≤ m') : PSt w base m' g b S := ⟨h.lo, h.lob, h.cells, h.mp.more hm⟩
theorem PSt.below {w w' : World} {base m g b : Nat} {S : Stt} (h : PSt w base m g b S) (hb : Below w.heap.size w w') : PSt w' base m g b S := by
  obtain ⟨G, hG, hl, ho⟩ := h.mp
  exact ⟨h.lo, h.lob, h.cells.below' hb, G, hG.same (hb.block b hG.lt), hl, fun i n hi => (ho i n hi).below hb⟩
theorem PSt.ne {w : World} {base m g b : Nat} {S : Stt} (h : PSt w base m g b S) : b ≠ g := by
  obtain ⟨G, hG, _⟩ := h.mp
  exact hG.cells h.cells
theorem PSt.blt {w : World} {base m g b : Nat} {S : Stt} (h : PSt w base m g b S) : b < w.heap.size := by
  obtain ⟨G, hG, _⟩ := h.mp
  exact hG.lt
/-- where only blocks of other kinds have turned -/
theorem PSt.keep {w w' : World} {base m g b : Nat} {S : Stt} (h : PSt w base m g b S) {Ts : List TypeId} (hk : KeepC Ts w w') (h1 : 3 ∉ Ts) (h2 : 103 ∉ Ts) (h3 : 108 ∉ Ts) (hb : w'.heap[b]? = w.heap[b]?) : PSt w' base m g b S :=
  ⟨h.lo, h.lob, hk _ _ _ h3 h.cells, h.mp.keep hk h1 h2 hb⟩
/-- what a State of its own does to other cells -/
theorem PSt.keepC {w w' : World} {base m g b : Nat} {S : Stt} (h : PSt w base m g b S) (t : Trn w w' [g, b]) : KeepC [108] w w' := by
  intro q t' cs ht hc
  refine (t.block q hc.lt ?_).trans hc
  intro hm
  rcases List.mem_cons.1 hm with rfl | hm
  · exact ht (by
      have : t' = 108 := Decidable.byContradiction fun hne => hc.ne h.cells hne rfl
      rw [this]; exact List.mem_singleton.2 rfl)
  · obtain ⟨G, hG, _⟩ := h.mp
    have := hG.cells hc
    exact this (List.mem_singleton.1 hm).symm
theorem PSt.look {w : World} {base m g b : Nat} {S : Stt} (h : PSt w base m g b S) {x : Int} (hx : i64R x) :
    ∃ n : Nd, n.plain = getS S.l x ∧ OwnNd w base n ∧ ∀ w', w'.heap[b]? = w.heap[b]? → (Instr.lookup 106 (.map (some b)) (.int .i64 x) false).run Tryz.prog w' = .ok n.val w' := by
  obtain ⟨G, hG, hl, ho⟩ := h.mp
  have key : ∀ w', w'.heap[b]? = w.heap[b]? → (Instr.lookup 106 (.map (some b)) (.int .i64 x) false).run Tryz.prog w' = .ok ((mval G x).getD zeroNdd.val) w' := fun w' hb =>
    (hG.same hb).look keyedN Tryz.underlying106 Tryz.underlying3 (zeroNd w') x (wfI hx)
  have hlx := hl x
  cases hg : G x with
  | none =>
    refine ⟨zeroNdd, ?_, OwnNd.zero _ _, fun w' hb => ?_⟩
    · unfold getS; rw [← hlx, hg]; rfl
    · rw [key w' hb]; unfold mval; rw [hg]; rfl
  | some n =>
    refine ⟨n, ?_, ho x n hg, fun w' hb => ?_⟩
    · unfold getS; rw [← hlx, hg]; rfl
    · rw [key w' hb]; unfold mval; rw [hg]; rfl
theorem PSt.store {w : World} {base m g b : Nat} {S : Stt} (h : PSt w base m g b S) (hm : m < 1000000) {x : Int} (hx : i64R x) {n : Nd} (hn : OwnNd w base n) {l' : List Nod} (hl' : ∀ i, atS l' i = if i = x then some n.plain else atS S.l i) :
    ∃ w', (Instr.mapUpdate 106 (.map (some b)) (.int .i64 x) n.val).run Tryz.prog w = .ok () w' ∧ PSt w' base (m + 1) g b ⟨l', S.last⟩ ∧ w.mapTurned w' b := by
  have hne := h.ne
  obtain ⟨G, hG, hl, ho⟩ := h.mp
  obtain ⟨w', h1, h2, h3⟩ := hG.store keyedN Tryz.underlying106 Tryz.underlying3 (by unfold maxLen; omega) x n.val (wfI hx)
  have hk : KeepC [] w w' := fun q t cs _ hc => by
    have : q ≠ b := fun e => hG.cells hc e.symm
    exact (turned_block h3 this).trans hc
  refine ⟨w', h1, ⟨h.lo, h.lob, hk _ _ _ (by simp) h.cells, fun i => if i = x then some n else G i, h2.congr fun y => ?_, fun i => ?_, fun i k hi => ?_⟩, h3⟩
  · unfold mval; by_cases e : y = x <;> simp [e]
  · rw [hl', ← hl]; by_cases e : i = x <;> simp [e]
  · by_cases e : i = x
    · simp only [if_pos e] at hi
      obtain rfl := Option.some.inj hi
      exact hn.keep hk (by simp) (by simp)
    · simp only [if_neg e] at hi
      exact (ho i k hi).keep hk (by simp) (by simp)
theorem PSt.drop {w : World} {base m g b : Nat} {S : Stt} (h : PSt w base m g b S) {x : Int} (hx : i64R x) {l' : List Nod} (hl' : ∀ i, atS l' i = if i = x then none else atS S.l i) (ty : TypeId) :
    ∃ w', (Builtin.delete_ #[106, 3] ty #[.map (some b), .int .i64 x]).run Tryz.prog w = .ok (.tuple #[]) w' ∧ PSt w' base m g b ⟨l', S.last⟩ ∧ w.mapTurned w' b := by
  obtain ⟨G, hG, hl, ho⟩ := h.mp
  obtain ⟨w', h1, h2, h3⟩ := hG.drop keyedN Tryz.underlying106 Tryz.underlying3 x (wfI hx) ty
  have hk : KeepC [] w w' := fun q t cs _ hc => by
    have : q ≠ b := fun e => hG.cells hc e.symm
    exact (turned_block h3 this).trans hc
  refine ⟨w', h1, ⟨h.lo, h.lob, hk _ _ _ (by simp) h.cells, fun i => if i = x then none else G i, h2.congr fun y => ?_, fun i => ?_, fun i k hi => ?_⟩, h3⟩
  · unfold mval; by_cases e : y = x <;> simp [e]
  · rw [hl', ← hl]; by_cases e : i = x <;> simp [e]
  · by_cases e : i = x
    · simp only [if_pos e] at hi; cases hi
    · simp only [if_neg e] at hi
      exact (ho i k hi).keep hk (by simp) (by simp)

/-! the document's -/
def Nd.cells (n : Nd) : List Value := [.int .i64 n.ino, .int .i64 n.kind, .int .i64 n.links, .int .i64 n.size, .int .i64 n.up, .slice n.A n.pages.length n.ac, .slice n.B n.names.length n.bc]
def ndvals (l : List Nd) : List Value := l.flatMap Nd.cells
structure DSt (w : World) (base g : Nat) (Ls : List Nd) (v : Value) (S : Stt) : Prop where
  lo : base ≤ g
  cells : Cells w g 75 #[v, .int .i64 S.last]
  row : w.ownsRow base 51 7 v Ls.length (ndvals Ls)
  own : ∀ n ∈ Ls, OwnNd w base n
  eq : Ls.map Nd.plain = S.l
end Go.Proofs.YtbejbiogabpmfaaGreat
