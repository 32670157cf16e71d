import Derived.Test.YtcimmfhbffofjaaRcRg
namespace Go.Proofs.Ytcimmfhbffofjaa
open Wd U Go.ChangeShapes Go.WideShapes Go.RowKit Go.Sort
set_option linter.unusedVariables false
set_option linter.unusedSimpArgs false

set_option maxRecDepth 100000 in
set_option maxHeartbeats 4000000 in
theorem dOf_short (l : List Nat) (L : Nat) (hL : l.length = L) (h8 : L < 8) (A : Option Addr) (c : Nat) (w : World) : Calls Try.prog 11 #[.slice A L c] w (OfR l w) := by
  have hz := Cells.new w 24 zl.toArray
  have hb1 : Below w.heap.size w (w.alloc (.cells zl.toArray 24)) := (Below.refl _ _).alloc (Nat.le_refl _) _
  have HNO := Lib.hid (no_short (l := l) (by omega))
  have q8 : decide ((L : Int) < 8) = true := decide_eq_true (by omega)
  obtain ⟨w1, hw1⟩ : ∃ w1, w.alloc (.cells zl.toArray 24) = w1 := ⟨_, rfl⟩
  obtain ⟨gZ, hgZ⟩ : ∃ gZ, w.heap.size = gZ := ⟨_, rfl⟩
  rw [hw1] at hz hb1
  rw [hgZ] at hz
  have HZ := Lib.hid hz; have HB1 := Lib.hid hb1; have HGZ := Lib.hid hgZ
  clear hz hb1 hL
  go_enter Try.func11, Try.ntmps11
  go_upto_region 1 with fail
  unfold zl at hw1
  rw [hw1]
  clear hw1 hgZ
  have hzx := HZ.out
  have d0 : w1.cell? ⟨gZ, 0, none⟩ = some (Value.int .i64 0) := hzx.cell 0
  have d1 : w1.cell? ⟨gZ, 1, none⟩ = some (Value.int .i64 0) := hzx.cell 1
  have d2 : w1.cell? ⟨gZ, 2, none⟩ = some (Value.int .i64 0) := hzx.cell 2
  have d3 : w1.cell? ⟨gZ, 3, none⟩ = some (Value.int .i64 0) := hzx.cell 3
  have d4 : w1.cell? ⟨gZ, 4, none⟩ = some (Value.int .i64 0) := hzx.cell 4
  have d5 : w1.cell? ⟨gZ, 5, none⟩ = some (Value.int .i64 0) := hzx.cell 5
  have d6 : w1.cell? ⟨gZ, 6, none⟩ = some (.string ⟨#[]⟩) := hzx.cell 6
  have d7 : w1.cell? ⟨gZ, 7, none⟩ = some (.string ⟨#[]⟩) := hzx.cell 7
  have d8 : w1.cell? ⟨gZ, 8, none⟩ = some (.slice none 0 0) := hzx.cell 8
  have fz : ∀ k, w1.frozen? ⟨gZ, k, none⟩ = false := fun k => hzx.free k
  clear hzx
  go_wp2
  obtain ⟨w6, hw6, hc6, hb6, hk6⟩ := fill9k (w0 := w) HZ.out HB1.out (Nat.le_of_eq HGZ.out) (.int .i64 0) (.int .i64 0) (.int .i64 0) (.int .i64 0) (.int .i64 0) (.int .i64 0) (.string ⟨#[]⟩) (.string ⟨#[]⟩) (.slice none 0 0)
  rw [hw6]
  clear hw6 d0 d1 d2 d3 d4 d5 d6 d7 d8 fz
  obtain ⟨d0, d1, d2, d3, d4, d5, d6, d7, d8⟩ := cells9 (e := zE) hc6
  refine bodyPost_ret (v := .tuple #[Eff.val zE, .int .i64 0, .int .i64 0, .int .i64 74]) (by simp [results, Try.results11, go_sem, Eff.val, zE, d0, d1, d2, d3, d4, d5, d6, d7, d8]) rfl ?_
  exact ⟨hb6, .inr ⟨HNO.out, rfl⟩⟩
def BigLoop (l : List Nat) (w1 : World) (i : Value) (wr : World) : Prop := ∃ j : Nat, j ≤ 8 ∧ i = .int .i64 (j : Int) ∧ (∀ (k x : Nat), k < j → l[k]? = some x → x ≤ 1099511627776) ∧ wr = w1
set_option maxRecDepth 100000 in
set_option maxHeartbeats 8000000 in
theorem dOf_long (l : List Nat) (L : Nat) (hL : l.length = L) (hl : Small l) (hle : L ≤ 100) (h8 : 8 ≤ L) (A : Option Addr) (c B : Nat) (hc : L ≤ c) (hcm : c ≤ maxLen) (w : World) (hB : B ≤ w.heap.size) (hr : Row w B A L (l.map wd)) : Calls Try.prog 11 #[.slice A L c] w (OfR l w) := by
  have hz := Cells.new w 24 zl.toArray
  have hb1 : Below w.heap.size w (w.alloc (.cells zl.toArray 24)) := (Below.refl _ _).alloc (Nat.le_refl _) _
  have hr1 := hr.below (hb1.mono hB)
  have q8 : decide ((L : Int) < 8) = false := decide_eq_false (by omega)
  obtain ⟨b, off, _, rfl, hbB, _, _⟩ := hr1.get (k := 0) (by omega)
  have HBB := Lib.hid hbB
  clear hbB
  have hcm' : c ≤ 9223372036854775807 := by unfold maxLen at hcm; omega
  obtain ⟨w1, hw1⟩ : ∃ w1, w.alloc (.cells zl.toArray 24) = w1 := ⟨_, rfl⟩
  obtain ⟨gZ, hgZ⟩ : ∃ gZ, w.heap.size = gZ := ⟨_, rfl⟩
  rw [hw1] at hz hb1 hr1
  have hB1 : B ≤ w1.heap.size := Nat.le_trans hB hb1.size
  rw [hgZ] at hz
  have HZ := Lib.hid hz; have HB1 := Lib.hid hb1; have HGZ := Lib.hid hgZ; have HR1 := Lib.hid hr1; have HL := Lib.hid hL; have HS := Lib.hid hl; have HCM := Lib.hid hcm
  clear hz hb1 hL hr hr1 hl hcm
  go_enter Try.func11, Try.ntmps11
  go_upto_region 1 with fail
  unfold zl at hw1
  rw [hw1]
  clear hw1 hgZ
  go_wp2
  go_loopw [22] (fun i wr => BigLoop l w1 i wr) (fun i _ => 8 - (intOf i).toNat)
  case atStart => exact ⟨0, by omega, rfl, (fun k x hk => by omega), rfl⟩
  case round =>
    obtain ⟨j, hj, rfl, hs, rfl⟩ := hrel
    have HSM := Lib.hid hs
    clear hs
    by_cases hlt : j < 8
    · obtain ⟨b', off', x, he, _, hx, cx⟩ := HR1.out.get (k := j) (by omega)
      cases he
      have cx2 : wr.cell? ⟨b, off + j, none⟩ = some (.int .u64 (x : Int)) := cx
      have hjl : (j : Int) < 8 := by omega
      have HX := Lib.hid hx; have HLT := Lib.hid hlt
      have hxs := HS.out.at hx
      clear hx cx hj
      by_cases hbig : 1099511627776 < x
      · have q1 : decide ((x : Int) > 1099511627776) = true := decide_eq_true (by omega)
        have HNO := Lib.hid (no_big hlt HX.out hbig)
        have hzx := HZ.out
        have d0 : wr.cell? ⟨gZ, 0, none⟩ = some (Value.int .i64 0) := hzx.cell 0
        have d1 : wr.cell? ⟨gZ, 1, none⟩ = some (Value.int .i64 0) := hzx.cell 1
        have d2 : wr.cell? ⟨gZ, 2, none⟩ = some (Value.int .i64 0) := hzx.cell 2
        have d3 : wr.cell? ⟨gZ, 3, none⟩ = some (Value.int .i64 0) := hzx.cell 3
        have d4 : wr.cell? ⟨gZ, 4, none⟩ = some (Value.int .i64 0) := hzx.cell 4
        have d5 : wr.cell? ⟨gZ, 5, none⟩ = some (Value.int .i64 0) := hzx.cell 5
        have d6 : wr.cell? ⟨gZ, 6, none⟩ = some (.string ⟨#[]⟩) := hzx.cell 6
        have d7 : wr.cell? ⟨gZ, 7, none⟩ = some (.string ⟨#[]⟩) := hzx.cell 7
        have d8 : wr.cell? ⟨gZ, 8, none⟩ = some (.slice none 0 0) := hzx.cell 8
        have fz : ∀ k, wr.frozen? ⟨gZ, k, none⟩ = false := fun k => hzx.free k
        clear hzx hbig
        go_wp2
        obtain ⟨w6, hw6, hc6, hb6, hk6⟩ := fill9k (w0 := w) HZ.out HB1.out (Nat.le_of_eq HGZ.out) (.int .i64 0) (.int .i64 0) (.int .i64 0) (.int .i64 0) (.int .i64 0) (.int .i64 0) (.string ⟨#[]⟩) (.string ⟨#[]⟩) (.slice none 0 0)
        rw [hw6]
        clear hw6 d0 d1 d2 d3 d4 d5 d6 d7 d8 fz
        obtain ⟨d0, d1, d2, d3, d4, d5, d6, d7, d8⟩ := cells9 (e := zE) hc6
        refine bodyPost_ret (v := .tuple #[Eff.val zE, .int .i64 0, .int .i64 0, .int .i64 74]) (by simp [results, Try.results11, go_sem, Eff.val, zE, d0, d1, d2, d3, d4, d5, d6, d7, d8]) rfl ?_
        exact ⟨hb6, .inr ⟨HNO.out, rfl⟩⟩
      · have q1 : decide ((x : Int) > 1099511627776) = false := decide_eq_false (by omega)
        have HXL := Lib.hid (show x ≤ 1099511627776 by omega)
        clear hbig
        go_wp2
        go_roundw
        case rel =>
          have hlt := HLT.out
          refine ⟨j + 1, by omega, by go_num, fun k y hk hy => ?_, rfl⟩
          by_cases hkj : k = j
          · subst hkj
            rw [HX.out] at hy
            cases hy
            exact HXL.out
          · exact HSM.out k y (by omega) hy
        case measure => simp [intOf]; omega
    · obtain rfl : j = 8 := by omega
      have HA := Lib.hid (fun (k a : Nat) (hk : k < 8) (h : l[k]? = some a) => HSM.out k a hk h)
      obtain ⟨a1, x1, _⟩ := word_at HR1.out (k := 1) (by omega)
      have y1 := HSM.out 1 a1 (by omega) x1
      have X1 := Lib.hid x1
      clear x1
      obtain ⟨a2, x2, _⟩ := word_at HR1.out (k := 2) (by omega)
      have y2 := HSM.out 2 a2 (by omega) x2
      have X2 := Lib.hid x2
      clear x2
      obtain ⟨a3, x3, _⟩ := word_at HR1.out (k := 3) (by omega)
      have y3 := HSM.out 3 a3 (by omega) x3
      have X3 := Lib.hid x3
      clear x3
      obtain ⟨a4, x4, _⟩ := word_at HR1.out (k := 4) (by omega)
      have y4 := HSM.out 4 a4 (by omega) x4
      have X4 := Lib.hid x4
      clear x4
      obtain ⟨a5, x5, _⟩ := word_at HR1.out (k := 5) (by omega)
      have y5 := HSM.out 5 a5 (by omega) x5
      have X5 := Lib.hid x5
      clear x5
      obtain ⟨a6, x6, _⟩ := word_at HR1.out (k := 6) (by omega)
      have y6 := HSM.out 6 a6 (by omega) x6
      have X6 := Lib.hid x6
      clear x6
      obtain ⟨a7, x7, _⟩ := word_at HR1.out (k := 7) (by omega)
      have y7 := HSM.out 7 a7 (by omega) x7
      have X7 := Lib.hid x7
      clear x7
      clear hj hlt
      obtain ⟨s1, hs1⟩ : ∃ s, (dtx l 8).1 = s := ⟨_, rfl⟩
      obtain ⟨z1, hz1⟩ : ∃ z, (dtx l 8).2 = z := ⟨_, rfl⟩
      obtain ⟨s2, hs2⟩ : ∃ s, (dtx l z1).1 = s := ⟨_, rfl⟩
      obtain ⟨z2, hz2⟩ : ∃ z, (dtx l z1).2 = z := ⟨_, rfl⟩
      have g1 := dtx_le l 8
      have g2 := dtx_le l z1
      rw [hs1, hz1] at g1
      rw [hs2, hz2] at g2
      have K1 := Lib.hid (fun w hB hr => dText_any l L HL.out HS.out hle 8 (by omega) (some ⟨b, off, none⟩) c B hc HCM.out w hB hr)
      have K2 := Lib.hid (fun w hB hr => dText_any l L HL.out HS.out hle z1 (by omega) (some ⟨b, off, none⟩) c B hc HCM.out w hB hr)
      unfold TextAt at K1 K2
      rw [hs1, hz1] at K1
      rw [hs2, hz2] at K2
      have HEND := Lib.hid (fun (h : z1 < 0 ∨ z2 < 0) => d_end X1.out X2.out X3.out X4.out X5.out X6.out X7.out (by rw [hz1, hz2]; exact h))
      have HDE := Lib.hid (show dE l a1 a2 a3 a4 a5 a6 = ⟨a1, a2, a3, a4, a5, a6, s1, s2, none, 0, []⟩ from by unfold dE; rw [hz1, hs1, hs2])
      clear hs1 hz1 hs2 hz2
      go_upto_region 11 with (first
        | (go_at_call 33; (with_reducible refine (K1.out _ hB1 HR1.out).mono ?_); rintro e' w2 ⟨rfl, b2⟩; have HB2 := Lib.hid b2; clear b2)
        | (go_at_call 33; (with_reducible refine (K2.out _ (Nat.le_trans hB1 HB2.out.size) (HR1.out.below (HB2.out.mono hB1))).mono ?_); rintro e' w3 ⟨rfl, b3⟩; have HBX := Lib.hid (HB2.out.trans (b3.mono HB2.out.size)); clear b3))
      have hbx := HBX.out
      have HZ3 := Lib.hid (HZ.out.below' hbx)
      have HR3 := Lib.hid (HR1.out.below (hbx.mono hB1))
      have hB3 : B ≤ w3.heap.size := Nat.le_trans hB1 hbx.size
      have HB3 := Lib.hid (HB1.out.trans (hbx.mono HB1.out.size))
      clear hbx
      by_cases hend : z1 < 0 ∨ z2 < 0
      · have HNO := Lib.hid (HEND.out hend)
        have hzx := HZ3.out
        have d0 : w3.cell? ⟨gZ, 0, none⟩ = some (Value.int .i64 0) := hzx.cell 0
        have d1 : w3.cell? ⟨gZ, 1, none⟩ = some (Value.int .i64 0) := hzx.cell 1
        have d2 : w3.cell? ⟨gZ, 2, none⟩ = some (Value.int .i64 0) := hzx.cell 2
        have d3 : w3.cell? ⟨gZ, 3, none⟩ = some (Value.int .i64 0) := hzx.cell 3
        have d4 : w3.cell? ⟨gZ, 4, none⟩ = some (Value.int .i64 0) := hzx.cell 4
        have d5 : w3.cell? ⟨gZ, 5, none⟩ = some (Value.int .i64 0) := hzx.cell 5
        have d6 : w3.cell? ⟨gZ, 6, none⟩ = some (.string ⟨#[]⟩) := hzx.cell 6
        have d7 : w3.cell? ⟨gZ, 7, none⟩ = some (.string ⟨#[]⟩) := hzx.cell 7
        have d8 : w3.cell? ⟨gZ, 8, none⟩ = some (.slice none 0 0) := hzx.cell 8
        have fz : ∀ k, w3.frozen? ⟨gZ, k, none⟩ = false := fun k => hzx.free k
        by_cases hz : z1 < 0
        · have q1 : decide (z1 < 0) = true := decide_eq_true hz
          clear hzx hz hend
          go_wp2
          obtain ⟨w6, hw6, hc6, hb6, hk6⟩ := fill9k (w0 := w) HZ3.out HB3.out (Nat.le_of_eq HGZ.out) (.int .i64 0) (.int .i64 0) (.int .i64 0) (.int .i64 0) (.int .i64 0) (.int .i64 0) (.string ⟨#[]⟩) (.string ⟨#[]⟩) (.slice none 0 0)
          rw [hw6]
          clear hw6 d0 d1 d2 d3 d4 d5 d6 d7 d8 fz
          obtain ⟨d0, d1, d2, d3, d4, d5, d6, d7, d8⟩ := cells9 (e := zE) hc6
          refine bodyPost_ret (v := .tuple #[Eff.val zE, .int .i64 0, .int .i64 0, .int .i64 74]) (by simp [results, Try.results11, go_sem, Eff.val, zE, d0, d1, d2, d3, d4, d5, d6, d7, d8]) rfl ?_
          exact ⟨hb6, .inr ⟨HNO.out, rfl⟩⟩
        · have q1 : decide (z1 < 0) = false := decide_eq_false hz
          have q2 : decide (z2 < 0) = true := decide_eq_true (by omega)
          clear hzx hz hend
          go_wp2
          obtain ⟨w6, hw6, hc6, hb6, hk6⟩ := fill9k (w0 := w) HZ3.out HB3.out (Nat.le_of_eq HGZ.out) (.int .i64 0) (.int .i64 0) (.int .i64 0) (.int .i64 0) (.int .i64 0) (.int .i64 0) (.string ⟨#[]⟩) (.string ⟨#[]⟩) (.slice none 0 0)
          rw [hw6]
          clear hw6 d0 d1 d2 d3 d4 d5 d6 d7 d8 fz
          obtain ⟨d0, d1, d2, d3, d4, d5, d6, d7, d8⟩ := cells9 (e := zE) hc6
          refine bodyPost_ret (v := .tuple #[Eff.val zE, .int .i64 0, .int .i64 0, .int .i64 74]) (by simp [results, Try.results11, go_sem, Eff.val, zE, d0, d1, d2, d3, d4, d5, d6, d7, d8]) rfl ?_
          exact ⟨hb6, .inr ⟨HNO.out, rfl⟩⟩
      · have q1 : decide (z1 < 0) = false := decide_eq_false (by omega)
        have q2 : decide (z2 < 0) = false := decide_eq_false (by omega)
        clear hend
        clear K1 K2 HEND
        have u1 := word_is HR3.out (by omega) X1.out
        have u2 := word_is HR3.out (by omega) X2.out
        have u3 := word_is HR3.out (by omega) X3.out
        have u4 := word_is HR3.out (by omega) X4.out
        have u5 := word_is HR3.out (by omega) X5.out
        have u6 := word_is HR3.out (by omega) X6.out
        have u7 := word_is HR3.out (by omega) X7.out
        go_upto_region 13 with fail
        refine reg13_wp (lq := l) (w := w) (l := l) (B := B) _ _ _ _ _ _ _ _ _ _ _ _ _ _ _ _ _ _ _ _ _ _ _ _ _ _ _ _ _ _ _ _ _ _ _ _ _ _ _ _ _ _ _ _ _ _ _ _ _ _ _ _ _ _ _ _ _ _ _ _ _ _ _ _ _ _ _ _ _ _ _ _ _ _ _ _ _ _ _ _ _ _ _ _ _ _ _ _ _ _ _ _ _ _ _ _ _ _ _ _ _ _ _ _ _ _ _ _ _ _ _ _ h8 hB3 HR3.out X1.out X2.out X3.out X4.out X5.out X6.out X7.out y1 y2 y3 y4 y5 y6 ?_
        intro v48 v49 v50 v51 v52 v53 v54 v55 v56 v57 v58 v59 v60 v61 v62 v63 v64 v65 v66 v67 v68 v69 v70 v71 v72 v73 v74 w4 hcE hbx
        obtain ⟨gE, hgE⟩ : ∃ gE, w3.heap.size = gE := ⟨_, rfl⟩
        have hzE : gZ < gE := by rw [← hgE]; exact HZ3.out.lt
        have HGE := Lib.hid hgE
        have HZ4 := Lib.hid (HZ3.out.below' hbx)
        have hs4 := hbx.size
        rw [hgE] at hcE hs4 ⊢
        have HCE := Lib.hid hcE
        have HB34 := Lib.hid hbx
        obtain ⟨c0, c1, c2, c3, c4, c5, c6, c7, c8⟩ := cells9 hcE
        clear hcE hbx hgE u1 u2 u3 u4 u5 u6 u7
        go_upto_if 77 with fail
        go_cut [76, 77, 78] from 78 to 79 (fun _ _ _ wx => ∃ (Ad : Option Addr) (cp : Nat), Cells wx gE 24 (effCells ⟨a1, a2, a3, a4, a5, a6, s1, s2, Ad, cp, zer a1⟩) ∧ (⟨a1, a2, a3, a4, a5, a6, s1, s2, Ad, cp, zer a1⟩ : Eff).Ok wx wx.heap.size ∧ (⟨a1, a2, a3, a4, a5, a6, s1, s2, Ad, cp, zer a1⟩ : Eff).Ty wx ∧ Below w3.heap.size w3 wx)
        case first =>
          by_cases h7 : a1 = 7
          · subst h7
            have hz7 : zer ((7 : Nat) : Int) = List.replicate 256 0 := by unfold zer; rw [if_pos (by rfl)]
            have hmk : ∀ W : World, (Instr.makeSlice 22 (.int .i64 256) (.int .i64 256)).run Try.prog W = .ok (.slice (some ⟨W.heap.size, 0, none⟩) 256 256) (W.alloc (.cells (Array.replicate 256 (Value.int .u8 0)) 5)) := fun W => by
              have h := make_row (P := Try.prog) 22 5 (.int .u8 0) 1 Try.underlying22 infoU8 rfl 256 (by omega) (by omega) W
              rw [List.toArray_replicate] at h
              exact h
            have hal := HCE.out.alloc (.cells (Array.replicate 256 (Value.int .u8 0)) 5)
            have g8 : (w4.alloc (.cells (Array.replicate 256 (Value.int .u8 0)) 5)).cell? ⟨gE, 8, none⟩ = some (.slice none 0 0) := hal.cell 8
            have gf : (w4.alloc (.cells (Array.replicate 256 (Value.int .u8 0)) 5)).frozen? ⟨gE, 8, none⟩ = false := hal.free 8
            have HAL := Lib.hid hal; have HZ7 := Lib.hid hz7
            clear hz7 hal
            go_wp2_with fail
            go_meet
            have hlt := HCE.out.lt
            have hdt := (Cells.new w4 5 (Array.replicate 256 (Value.int .u8 0))).far (p := ⟨gE, 8, none⟩) (by simp; omega) (.slice (some ⟨w4.heap.size, 0, none⟩) 256 256)
            have hst := HAL.out.set 8 (.slice (some ⟨w4.heap.size, 0, none⟩) 256 256)
            have hb4 := (HB34.out.alloc HB34.out.size (.cells (Array.replicate 256 (Value.int .u8 0)) 5)).setCell (p := ⟨gE, 8, none⟩) (Nat.le_of_eq HGE.out) (.slice (some ⟨w4.heap.size, 0, none⟩) 256 256)
            refine ⟨some ⟨w4.heap.size, 0, none⟩, 256, ?_, ?_, (fun b off e _ => by cases e; exact ⟨_, hdt⟩), hb4⟩
            · rw [HZ7.out]
              unfold effCells at hst ⊢
              simpa using hst
            · rw [HZ7.out]
              have hrow := Row.of_cells (B := ((w4.alloc (.cells (Array.replicate 256 (Value.int .u8 0)) 5)).setCell ⟨gE, 8, none⟩ (.slice (some ⟨w4.heap.size, 0, none⟩) 256 256)).heap.size) hdt hdt.lt
              exact ⟨by show i64R ((7 : Nat) : Int); unfold i64R; omega, by show i64R (a2 : Int); unfold i64R; omega, by show i64R (a3 : Int); unfold i64R; omega, by show i64R (a4 : Int); unfold i64R; omega, by show i64R (a5 : Int); unfold i64R; omega, by show i64R (a6 : Int); unfold i64R; omega, by show s1.size ≤ maxLen; unfold maxLen; omega, by show s2.size ≤ maxLen; unfold maxLen; omega, (fun y hy => by rw [List.eq_of_mem_replicate hy]; decide), by simpa [bt] using hrow, by show 256 ≤ maxLen; decide, Nat.le_refl _⟩
          · have q7 : ((a1 : Int) == 7) = false := by rw [beq_eq_false_iff_ne]; omega
            have HZ7 := Lib.hid (show zer (a1 : Int) = [] from by unfold zer; rw [if_neg (by omega)])
            clear h7
            go_wp2_with fail
            go_meet
            refine ⟨none, 0, ?_, ?_, (fun b off e _ => by cases e), HB34.out⟩
            · rw [HZ7.out]; exact HCE.out
            · rw [HZ7.out]
              exact ⟨by show i64R (a1 : Int); unfold i64R; omega, by show i64R (a2 : Int); unfold i64R; omega, by show i64R (a3 : Int); unfold i64R; omega, by show i64R (a4 : Int); unfold i64R; omega, by show i64R (a5 : Int); unfold i64R; omega, by show i64R (a6 : Int); unfold i64R; omega, by show s1.size ≤ maxLen; unfold maxLen; omega, by show s2.size ≤ maxLen; unfold maxLen; omega, (fun y hy => by cases hy), Row.nil, Nat.zero_le _, Nat.zero_le _⟩
        case rest =>
        obtain ⟨Ad, cp, hcE, okE, tyE, hbx⟩ := hcut
        obtain ⟨w5, hw5, hcE, okE, tyE, hbx⟩ : ∃ w5, w5 = _ ∧ Cells w5 gE 24 (effCells ⟨a1, a2, a3, a4, a5, a6, s1, s2, Ad, cp, zer a1⟩) ∧ (⟨a1, a2, a3, a4, a5, a6, s1, s2, Ad, cp, zer a1⟩ : Eff).Ok w5 w5.heap.size ∧ (⟨a1, a2, a3, a4, a5, a6, s1, s2, Ad, cp, zer a1⟩ : Eff).Ty w5 ∧ Below w3.heap.size w3 w5 := ⟨_, rfl, hcE, okE, tyE, hbx⟩
        subst hw5
        have HCE5 := Lib.hid hcE; have OK5 := Lib.hid okE; have TY5 := Lib.hid tyE
        have HZ5 := Lib.hid (HZ3.out.below' hbx)
        have HR5 := Lib.hid (HR3.out.below (hbx.mono hB3))
        have hB5 : B ≤ w5.heap.size := Nat.le_trans hB3 hbx.size
        have HB5 := Lib.hid (HB3.out.trans (hbx.mono HB3.out.size))
        clear hcE okE tyE hbx c0 c1 c2 c3 c4 c5 c6 c7 c8 HCE HB34 HZ4 hs4 HGE
        obtain ⟨E, hE⟩ : ∃ E : Eff, (⟨a1, a2, a3, a4, a5, a6, s1, s2, Ad, cp, zer a1⟩ : Eff) = E := ⟨_, rfl⟩
        have hcoreE : core E = dE l a1 a2 a3 a4 a5 a6 := by rw [HDE.out, ← hE]; rfl
        have hdatE : E.data = zer E.kind := by rw [← hE]
        have fewE : E.few := by
          have := zer_len a1
          rw [← hE]
          exact ⟨by show (zer a1).length ≤ 300; omega, by show s1.size ≤ 100; omega, by show s2.size ≤ 100; omega⟩
        have HNOF := Lib.hid (d_no X1.out X2.out X3.out X4.out X5.out X6.out X7.out hcoreE hdatE)
        have HDAT := Lib.hid hdatE; have HCORE := Lib.hid hcoreE
        rw [hE] at HCE5 OK5 TY5
        have KP := Lib.hid (fun w ok => dPut E (a7 : Int) w ok fewE)
        obtain ⟨c0, c1, c2, c3, c4, c5, c6, c7, c8⟩ := cells9 HCE5.out
        have u7 := word_is HR5.out (by omega) X7.out
        have HE := Lib.hid hE
        clear hE hcoreE hdatE fewE
        unfold Eff.val at KP
        go_upto_region 16 with fail
        go_cut [13, 14] from 80 to 88 (fun v13 v14 wx => ∃ (A5 : Option Addr) (k5 : Nat), v13 = .slice A5 (putL E a7).length k5 ∧ v14 = .int .i64 (errB (recB E a7) 92) ∧ Row wx wx.heap.size A5 (putL E a7).length ((putL E a7).map wd) ∧ (putL E a7).length ≤ k5 ∧ Below w5.heap.size w5 wx)
        case first =>
          have hb0 : Below w5.heap.size w5 w5.drew := below_drewN (Below.refl _ _) 1
          have hi7 : (7 : Int) < (L : Int) := by omega
          have hi0 : (0 : Int) ≤ 7 := by omega
          have hw7 : IntKind.i64.wrap (a7 : Int) = (a7 : Int) := by rw [IntKind.wrap_i64]; omega
          have hd7 : w5.drew.cell? ⟨b, off + 7, none⟩ = some (.int .u64 (a7 : Int)) := u7
          go_region_held3 (fun w' => w'.cell? ⟨b, off + 7, none⟩ = some (.int .u64 (a7 : Int)) ∧ Below w5.heap.size w5 w' ∧ w'.cell? ⟨gE, 0, none⟩ = some (.int .i64 E.kind) ∧ w'.cell? ⟨gE, 1, none⟩ = some (.int .i64 E.ino) ∧ w'.cell? ⟨gE, 2, none⟩ = some (.int .i64 E.dir) ∧ w'.cell? ⟨gE, 3, none⟩ = some (.int .i64 E.dst) ∧ w'.cell? ⟨gE, 4, none⟩ = some (.int .i64 E.page) ∧ w'.cell? ⟨gE, 5, none⟩ = some (.int .i64 E.size) ∧ w'.cell? ⟨gE, 6, none⟩ = some (.string E.name) ∧ w'.cell? ⟨gE, 7, none⟩ = some (.string E.other) ∧ w'.cell? ⟨gE, 8, none⟩ = some (.slice E.A E.data.length E.cp))
            (first | exact ⟨hd7, s9 HCE5.out hb0⟩ | exact ⟨hdT, s9 HCE5.out kT⟩)
            (first | (go_at_call 9; (with_reducible refine (KP.out _ (OK5.out.at_ hb0)).mono ?_); rintro e' wT ⟨bT, A5, k5, rfl, hr5, hk5⟩; have kT : Below w5.heap.size w5 wT := hb0.trans (bT.mono hb0.size); have hdT := word_is (HR5.out.below (kT.mono hB5)) (by omega) X7.out))
          all_goals
            go_wp2_with fail
            go_meet
            exact ⟨A5, k5, rfl, rfl, hr5, hk5, kT⟩
        case rest =>
        obtain ⟨A5, k5, rfl, rfl, hr6, hk6, hbx⟩ := hcut
        obtain ⟨w6, hw6, hr6, hbx⟩ : ∃ w6, w6 = _ ∧ Row w6 w6.heap.size A5 (putL E a7).length ((putL E a7).map wd) ∧ Below w5.heap.size w5 w6 := ⟨_, rfl, hr6, hbx⟩
        subst hw6
        have HB6 := Lib.hid (HB5.out.trans (hbx.mono HB5.out.size))
        have HZ6 := Lib.hid (HZ5.out.below' hbx)
        have HCE6 := Lib.hid (HCE5.out.below' hbx)
        have HR6L := Lib.hid (HR5.out.below (hbx.mono hB5))
        have OK6 := Lib.hid (OK5.out.at_ hbx)
        have TY6 := Lib.hid (TY5.out.below hbx)
        have hB6 : B ≤ w6.heap.size := Nat.le_trans hB5 hbx.size
        clear hbx c0 c1 c2 c3 c4 c5 c6 c7 c8 u7 KP
        have hm1 : recB E a7 = true → (putL E a7) = recW E a7 := fun h => by unfold putL; rw [h]; rfl
        cases hb : recB E a7
        · have HNO := Lib.hid (HNOF.out (fun h => by rw [hb] at h; cases h))
          have hpl : putL E a7 = [] := by unfold putL; rw [hb]; rfl
          rw [hpl, show errB false 92 = 92 from rfl]
          have hzx := HZ6.out
          have d0 : w6.cell? ⟨gZ, 0, none⟩ = some (Value.int .i64 0) := hzx.cell 0
          have d1 : w6.cell? ⟨gZ, 1, none⟩ = some (Value.int .i64 0) := hzx.cell 1
          have d2 : w6.cell? ⟨gZ, 2, none⟩ = some (Value.int .i64 0) := hzx.cell 2
          have d3 : w6.cell? ⟨gZ, 3, none⟩ = some (Value.int .i64 0) := hzx.cell 3
          have d4 : w6.cell? ⟨gZ, 4, none⟩ = some (Value.int .i64 0) := hzx.cell 4
          have d5 : w6.cell? ⟨gZ, 5, none⟩ = some (Value.int .i64 0) := hzx.cell 5
          have d6 : w6.cell? ⟨gZ, 6, none⟩ = some (.string ⟨#[]⟩) := hzx.cell 6
          have d7 : w6.cell? ⟨gZ, 7, none⟩ = some (.string ⟨#[]⟩) := hzx.cell 7
          have d8 : w6.cell? ⟨gZ, 8, none⟩ = some (.slice none 0 0) := hzx.cell 8
          have fz : ∀ k, w6.frozen? ⟨gZ, k, none⟩ = false := fun k => hzx.free k
          clear hzx hb hpl hm1 hr6 hk6
          go_wp2
          obtain ⟨wq, hw6, hc6, hb6, hk6⟩ := fill9k (w0 := w) HZ6.out HB6.out (Nat.le_of_eq HGZ.out) (.int .i64 0) (.int .i64 0) (.int .i64 0) (.int .i64 0) (.int .i64 0) (.int .i64 0) (.string ⟨#[]⟩) (.string ⟨#[]⟩) (.slice none 0 0)
          rw [hw6]
          clear hw6 d0 d1 d2 d3 d4 d5 d6 d7 d8 fz
          obtain ⟨d0, d1, d2, d3, d4, d5, d6, d7, d8⟩ := cells9 (e := zE) hc6
          refine bodyPost_ret (v := .tuple #[Eff.val zE, .int .i64 0, .int .i64 0, .int .i64 74]) (by simp [results, Try.results11, go_sem, Eff.val, zE, d0, d1, d2, d3, d4, d5, d6, d7, d8]) rfl ?_
          exact ⟨hb6, .inr ⟨HNO.out, rfl⟩⟩
        · have hm3 := manyR_le (check_in (recB_parts hb).1)
          have hpl := hm1 hb
          have HY := Lib.hid hb
          obtain ⟨m, hm⟩ : ∃ m, manyR E = m := ⟨_, rfl⟩
          have HM := Lib.hid ((recW_len E a7).trans hm)
          rw [hm] at hm3
          rw [hpl, HM.out] at hr6 hk6
          rw [hpl, HM.out, show errB true 92 = 0 from rfl]
          have HR6 := Lib.hid hr6; have HMM := Lib.hid hm
          clear hb hpl hm hm1 hr6
          by_cases hmL : L < m
          · have HNO := Lib.hid (HNOF.out (fun _ t he => by
              have h1 := congrArg List.length he
              rw [List.length_append, HM.out, HL.out] at h1
              omega))
            have q3 : decide ((m : Int) > (L : Int)) = true := decide_eq_true (by omega)
            have q4 : decide (L < m) = true := decide_eq_true (by omega)
            have hzx := HZ6.out
            have d0 : w6.cell? ⟨gZ, 0, none⟩ = some (Value.int .i64 0) := hzx.cell 0
            have d1 : w6.cell? ⟨gZ, 1, none⟩ = some (Value.int .i64 0) := hzx.cell 1
            have d2 : w6.cell? ⟨gZ, 2, none⟩ = some (Value.int .i64 0) := hzx.cell 2
            have d3 : w6.cell? ⟨gZ, 3, none⟩ = some (Value.int .i64 0) := hzx.cell 3
            have d4 : w6.cell? ⟨gZ, 4, none⟩ = some (Value.int .i64 0) := hzx.cell 4
            have d5 : w6.cell? ⟨gZ, 5, none⟩ = some (Value.int .i64 0) := hzx.cell 5
            have d6 : w6.cell? ⟨gZ, 6, none⟩ = some (.string ⟨#[]⟩) := hzx.cell 6
            have d7 : w6.cell? ⟨gZ, 7, none⟩ = some (.string ⟨#[]⟩) := hzx.cell 7
            have d8 : w6.cell? ⟨gZ, 8, none⟩ = some (.slice none 0 0) := hzx.cell 8
            have fz : ∀ k, w6.frozen? ⟨gZ, k, none⟩ = false := fun k => hzx.free k
            clear hzx hmL
            go_wp2
            obtain ⟨wq, hw6, hc6, hb6, hk6⟩ := fill9k (w0 := w) HZ6.out HB6.out (Nat.le_of_eq HGZ.out) (.int .i64 0) (.int .i64 0) (.int .i64 0) (.int .i64 0) (.int .i64 0) (.int .i64 0) (.string ⟨#[]⟩) (.string ⟨#[]⟩) (.slice none 0 0)
            rw [hw6]
            clear hw6 d0 d1 d2 d3 d4 d5 d6 d7 d8 fz
            obtain ⟨d0, d1, d2, d3, d4, d5, d6, d7, d8⟩ := cells9 (e := zE) hc6
            refine bodyPost_ret (v := .tuple #[Eff.val zE, .int .i64 0, .int .i64 0, .int .i64 74]) (by simp [results, Try.results11, go_sem, Eff.val, zE, d0, d1, d2, d3, d4, d5, d6, d7, d8]) rfl ?_
            exact ⟨hb6, .inr ⟨HNO.out, rfl⟩⟩
          · have q3 : decide ((m : Int) > (L : Int)) = false := decide_eq_false (by omega)
            have q4 : decide (L < m) = false := decide_eq_false (by omega)
            have HTL := Lib.hid (show (l.take m).length = m from by rw [List.length_take, HL.out]; omega)
            have HSUB := Lib.hid ((row_take (k := m) HR6L.out (by omega)).more hB6)
            have hmc : m ≤ c := by omega
            have hmc2 : m ≤ L := by omega
            by_cases he : recW E a7 = l.take m
            · have hd1 : decide (recW E a7 = l.take m) = true := decide_eq_true he
              have HE2 := Lib.hid he; have HD1 := Lib.hid hd1
              clear he hd1 hmL
              go_upto_region 19 with (first
                | (go_at_call 14; (with_reducible refine (sameWords_any (recW E a7) (l.take m) m m HM.out HTL.out (by omega) _ _ _ _ w6.heap.size _ HR6.out HSUB.out).mono ?_); rintro e' w7 h7; obtain ⟨rfl, b7⟩ := h7.below; rw [HD1.out]; have HB67 := Lib.hid b7; clear h7 b7))
              have HZ7 := Lib.hid (HZ6.out.below' HB67.out)
              have HB7 := Lib.hid (HB6.out.trans (HB67.out.mono HB6.out.size))
              have OK7 := Lib.hid (OK6.out.at_ HB67.out)
              obtain ⟨c0, c1, c2, c3, c4, c5, c6, c7, c8⟩ := cells9 (HCE6.out.below' HB67.out)
              have u7 := word_is (HR6L.out.below (HB67.out.mono hB6)) (by omega) X7.out
              have hi7 : (7 : Int) < (L : Int) := by omega
              have hi0 : (0 : Int) ≤ 7 := by omega
              have hw7 : IntKind.i64.wrap (a7 : Int) = (a7 : Int) := by rw [IntKind.wrap_i64]; omega
              have hzx := HZ7.out
              have d0 : w7.cell? ⟨gZ, 0, none⟩ = some (Value.int .i64 0) := hzx.cell 0
              have d1 : w7.cell? ⟨gZ, 1, none⟩ = some (Value.int .i64 0) := hzx.cell 1
              have d2 : w7.cell? ⟨gZ, 2, none⟩ = some (Value.int .i64 0) := hzx.cell 2
              have d3 : w7.cell? ⟨gZ, 3, none⟩ = some (Value.int .i64 0) := hzx.cell 3
              have d4 : w7.cell? ⟨gZ, 4, none⟩ = some (Value.int .i64 0) := hzx.cell 4
              have d5 : w7.cell? ⟨gZ, 5, none⟩ = some (Value.int .i64 0) := hzx.cell 5
              have d6 : w7.cell? ⟨gZ, 6, none⟩ = some (.string ⟨#[]⟩) := hzx.cell 6
              have d7 : w7.cell? ⟨gZ, 7, none⟩ = some (.string ⟨#[]⟩) := hzx.cell 7
              have d8 : w7.cell? ⟨gZ, 8, none⟩ = some (.slice none 0 0) := hzx.cell 8
              have fz : ∀ k, w7.frozen? ⟨gZ, k, none⟩ = false := fun k => hzx.free k
              clear hzx
              have u7q := word_is (row_fill9 (HR6L.out.below (HB67.out.mono hB6)) (g := gZ) (fun b' off' e' _ => by cases e'; have := HBB.out; have := HGZ.out; omega) (.int .i64 E.kind) (.int .i64 E.ino) (.int .i64 E.dir) (.int .i64 E.dst) (.int .i64 E.page) (.int .i64 E.size) (.string E.name) (.string E.other) (.slice E.A E.data.length E.cp)) (by omega) X7.out
              obtain ⟨wq, hwq, hcq, hbq, hkq⟩ := fill9k (w0 := w) HZ7.out HB7.out (Nat.le_of_eq HGZ.out) (.int .i64 E.kind) (.int .i64 E.ino) (.int .i64 E.dir) (.int .i64 E.dst) (.int .i64 E.page) (.int .i64 E.size) (.string E.name) (.string E.other) (.slice E.A E.data.length E.cp)
              have hrow := row_fill9 OK7.out.row (byte_ne (e := zE) HZ7.out OK7.out.row) (.int .i64 E.kind) (.int .i64 E.ino) (.int .i64 E.dir) (.int .i64 E.dst) (.int .i64 E.page) (.int .i64 E.size) (.string E.name) (.string E.other) (.slice E.A E.data.length E.cp)
              rw [hwq] at hrow
              have hsq : w7.heap.size ≤ wq.heap.size := by rw [← hwq]; simp
              have HWQ := Lib.hid hwq; have HCQ := Lib.hid hcq; have HBQ := Lib.hid hbq; have HROW := Lib.hid hrow; have HKQ := Lib.hid ((TY6.out.below HB67.out).kept HZ7.out hkq)
              clear hwq hcq hbq hkq hrow
              go_region
              rw [HWQ.out]
              clear d0 d1 d2 d3 d4 d5 d6 d7 d8 fz c0 c1 c2 c3 c4 c5 c6 c7 c8 u7 u7q
              go_wp2
              have HCD := Lib.hid (show Cells wq.drew gZ 24 (effCells E) from HCQ.out)
              obtain ⟨d0, d1, d2, d3, d4, d5, d6, d7, d8⟩ := cells9 HCQ.out
              refine bodyPost_ret (v := .tuple #[Eff.val E, .int .i64 (a7 : Int), .int .i64 (m : Int), .int .i64 0]) (by simp [results, Try.results11, go_sem, Eff.val, d0, d1, d2, d3, d4, d5, d6, d7, d8]) rfl ?_
              have OKX := OK7.out
              refine ⟨below_drewN HBQ.out 1, .inl ⟨E, a7, l.drop m, HY.out, HDAT.out, by rw [HE2.out, List.take_append_drop], ⟨OKX.kind, OKX.ino, OKX.dir, OKX.dst, OKX.page, OKX.size, OKX.name, OKX.other, OKX.bytes, HROW.out.more hsq, OKX.le, OKX.cap⟩, HKQ.out, ?_⟩⟩
              rw [HMM.out]
            · have hd1 : decide (recW E a7 = l.take m) = false := decide_eq_false he
              have HNO := Lib.hid (HNOF.out (fun _ t ht => he (by rw [ht, ← HM.out, List.take_left])))
              have HD1 := Lib.hid hd1
              clear he hd1 hmL
              go_upto_region 17 with fail
              go_wp2_with (first
                | (go_at_call 14; (with_reducible refine (sameWords_any (recW E a7) (l.take m) m m HM.out HTL.out (by omega) _ _ _ _ w6.heap.size _ HR6.out HSUB.out).mono ?_); rintro e' w7 h7; obtain ⟨rfl, b7⟩ := h7.below; rw [HD1.out]; have HB67 := Lib.hid b7; have hzx := HZ6.out.below' b7; have d0 : w7.cell? ⟨gZ, 0, none⟩ = some (Value.int .i64 0) := hzx.cell 0; have d1 : w7.cell? ⟨gZ, 1, none⟩ = some (Value.int .i64 0) := hzx.cell 1; have d2 : w7.cell? ⟨gZ, 2, none⟩ = some (Value.int .i64 0) := hzx.cell 2; have d3 : w7.cell? ⟨gZ, 3, none⟩ = some (Value.int .i64 0) := hzx.cell 3; have d4 : w7.cell? ⟨gZ, 4, none⟩ = some (Value.int .i64 0) := hzx.cell 4; have d5 : w7.cell? ⟨gZ, 5, none⟩ = some (Value.int .i64 0) := hzx.cell 5; have d6 : w7.cell? ⟨gZ, 6, none⟩ = some (.string ⟨#[]⟩) := hzx.cell 6; have d7 : w7.cell? ⟨gZ, 7, none⟩ = some (.string ⟨#[]⟩) := hzx.cell 7; have d8 : w7.cell? ⟨gZ, 8, none⟩ = some (.slice none 0 0) := hzx.cell 8; have fz : ∀ k, w7.frozen? ⟨gZ, k, none⟩ = false := (fun k => hzx.free k); have HZ7 := Lib.hid hzx; have HB7 := Lib.hid (HB6.out.trans (b7.mono HB6.out.size)); clear hzx h7 b7))
              obtain ⟨wq, hw6, hc6, hb6, hk6⟩ := fill9k (w0 := w) HZ7.out HB7.out (Nat.le_of_eq HGZ.out) (.int .i64 0) (.int .i64 0) (.int .i64 0) (.int .i64 0) (.int .i64 0) (.int .i64 0) (.string ⟨#[]⟩) (.string ⟨#[]⟩) (.slice none 0 0)
              rw [hw6]
              clear hw6 d0 d1 d2 d3 d4 d5 d6 d7 d8 fz
              obtain ⟨d0, d1, d2, d3, d4, d5, d6, d7, d8⟩ := cells9 (e := zE) hc6
              refine bodyPost_ret (v := .tuple #[Eff.val zE, .int .i64 0, .int .i64 0, .int .i64 74]) (by simp [results, Try.results11, go_sem, Eff.val, zE, d0, d1, d2, d3, d4, d5, d6, d7, d8]) rfl ?_
              exact ⟨hb6, .inr ⟨HNO.out, rfl⟩⟩
theorem dOf_any (l : List Nat) (L : Nat) (hL : l.length = L) (hl : Small l) (hle : L ≤ 100) (A : Option Addr) (c B : Nat) (hc : L ≤ c) (hcm : c ≤ maxLen) (w : World) (hB : B ≤ w.heap.size) (hr : Row w B A L (l.map wd)) : Calls Try.prog 11 #[.slice A L c] w (OfR l w) := by
  by_cases h : L < 8
  · exact dOf_short l L hL h A c w
  · exact dOf_long l L hL hl hle (by omega) A c B hc hcm w hB hr
end Go.Proofs.Ytcimmfhbffofjaa
