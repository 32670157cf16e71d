import Derived.Test.YtdfgehmabfacbaaCaAw
/-! CacheMost: its walk. -/
namespace Go.Proofs.Ytdfgehmabfacbaa
open Wd Sm Go.Maps Go.RowKit Go.ChangeShapes Go.WideShapes Go.Sort
set_option linter.unusedVariables false
set_option maxRecDepth 100000
def MoRel (W : World) (base p m L : Nat) (i : Value) (wr : World) : Prop := ∃ (j : Nat) (S : Cst), j ≤ L ∧ i = .int .i64 j ∧ CaAt wr base p m S ∧ S.last ≤ j ∧ Below W.heap.size W wr
theorem headD_in {S : Cst} (h : S.Ok) (hne : S.ids ≠ []) : (S.F (S.ids.headD 0)).isSome = true ∧ 1 ≤ S.ids.headD 0 ∧ S.ids.headD 0 ≤ S.last := by
  cases hq : S.ids with
  | nil => exact absurd hq hne
  | cons x l =>
    have hx : x ∈ S.ids := by rw [hq]; exact List.mem_cons_self
    exact ⟨(h.mem x).1 hx, h.le x hx⟩
set_option maxHeartbeats 16000000 in
theorem lMost {W : World} {A : Option Addr} {c : Nat} {l : List Bool} (h : Row W W.heap.size A l.length (l.map Value.bool)) (hlm : l.length ≤ maxLen) (n : Int) (kk : Int) :
    Calls Try.prog 4 #[.int .i64 n, .slice A l.length c, .int .i64 kk] W (TrueB W) := by
  have H := Lib.hid h
  unfold maxLen at hlm
  have KA := Lib.hid (cAwake W)
  have KN := Lib.hid (fun w => caNew w n)
  have hmk := mk256
  clear h
  go_enter Try.func4, Try.ntmps4
  go_wp2_with fail
  refine KA.out.mono ?_
  rintro e w1 ⟨rfl, b1⟩
  have B1 := Lib.hid b1
  clear b1 KA
  by_cases c1 : 400 < l.length
  · have q1 : (400 : Int) < (l.length : Int) := by omega
    go_wp2
    go_ret
    exact ⟨rfl, B1.out⟩
  have q1 : ¬ ((400 : Int) < (l.length : Int)) := by omega
  have hle : l.length ≤ 400 := by omega
  by_cases c2 : kk < 0
  · go_wp2
    go_ret
    exact ⟨rfl, B1.out⟩
  have hk0 : 0 ≤ kk := by omega
  by_cases c3 : 1000 < kk
  · go_wp2
    go_ret
    exact ⟨rfl, B1.out⟩
  have hk1 : kk ≤ 1000 := by omega
  clear c1
  go_wp2_with fail
  refine (KN.out _).mono ?_
  rintro e w2 ⟨rfl, h2, b2⟩
  obtain ⟨base, hbase⟩ : ∃ base, base = w1.heap.size := ⟨_, rfl⟩
  obtain ⟨p, hp⟩ : ∃ p, p = w1.heap.size + 1 := ⟨_, rfl⟩
  rw [← hp, ← hbase] at h2
  rw [← hp]
  have HBS := Lib.hid (show W.heap.size ≤ base by rw [hbase]; exact B1.out.size)
  have H2 := Lib.hid h2
  have B2 := Lib.hid (B1.out.trans (b2.mono B1.out.size))
  clear h2 b2 hbase hp KN
  have HHK := Lib.hid hk0
  go_wp2
  go_loopw [34] (fun i wr => MoRel W base p base l.length i wr) (fun i _ => l.length - (intOf i).toNat)
  case atStart => exact ⟨0, _, Nat.zero_le _, rfl, H2.out, Nat.le_refl _, B2.out⟩
  case round =>
    obtain ⟨j, S, hj, rfl, hc, hl, hb⟩ := hrel
    have HC := Lib.hid hc; have HL0 := Lib.hid hl; have HB0 := Lib.hid hb
    by_cases hlt : j < l.length
    · obtain ⟨b, off, x, rfl, hbB, hx, hcx⟩ := (H.out.below hb).get hlt
      have hlt2 : (j : Int) < (l.length : Int) := Int.ofNat_lt.2 hlt
      have HPUT := Lib.hid (caPutZ hc (by omega))
      have HEL := Lib.hid (caEldest hc)
      have HHX := Lib.hid hx
      clear hc hb hx hl
      cases x with
      | true =>
        go_wp2_with fail
        refine HPUT.out.mono ?_
        rintro e w4 ⟨y4, n4, b4⟩
        have HBX := Lib.hid (HB0.out.trans (b4.mono HBS.out))
        by_cases hroom : S.ids.length < S.most
        · obtain ⟨rfl, h4⟩ := y4 hroom
          have H4 := Lib.hid h4
          have HLX := Lib.hid (show (putC S zB.toArray).last ≤ j + 1 from Nat.succ_le_succ HL0.out)
          clear y4 n4 b4 h4 hroom HPUT HEL
          obtain ⟨M, hM⟩ : ∃ M, M = (putC S zB.toArray).most := ⟨_, rfl⟩
          obtain ⟨N, hN⟩ : ∃ N, N = (putC S zB.toArray).ids.length := ⟨_, rfl⟩
          have hNM : N ≤ M := by rw [hM, hN]; exact H4.out.ok.few
          have hM2 : M ≤ 256 := by rw [hM]; exact H4.out.ok.hi
          have t1 : ¬ M < N := by omega
          have t2 : ¬ ((M : Int) < (N : Int)) := by omega
          have KL := Lib.hid (caLen H4.out); have KM := Lib.hid (caMost H4.out); have KR := Lib.hid (caRoom H4.out kk)
          rw [← hN] at KL
          rw [← hM] at KM
          by_cases hr : kk ≤ (M : Int) - N
          · rw [roomB_of hk0 (by rw [← hM, ← hN]; exact hr)] at KR
            clear hM hN
            go_wp2_with fail
            refine KL.out.mono ?_
            rintro e wy ⟨rfl, rfl⟩
            go_wp2_with fail
            refine KM.out.mono ?_
            rintro e wy ⟨rfl, rfl⟩
            go_wp2_with fail
            refine KR.out.mono ?_
            rintro e wy ⟨rfl, rfl⟩
            go_wp2_with fail
            refine KM.out.mono ?_
            rintro e wy ⟨rfl, rfl⟩
            go_wp2_with fail
            refine KL.out.mono ?_
            rintro e wy ⟨rfl, rfl⟩
            go_wp2
            go_roundw
            case rel => exact ⟨j + 1, _, by omega, by go_num, H4.out, HLX.out, HBX.out⟩
            case measure => simp [intOf]; omega
          · have hr' : (M : Int) - N < kk := Int.not_le.1 hr
            rw [roomB_hi (by rw [← hM, ← hN]; exact hr')] at KR
            clear hM hN
            go_wp2_with fail
            refine KL.out.mono ?_
            rintro e wy ⟨rfl, rfl⟩
            go_wp2_with fail
            refine KM.out.mono ?_
            rintro e wy ⟨rfl, rfl⟩
            go_wp2_with fail
            refine KR.out.mono ?_
            rintro e wy ⟨rfl, rfl⟩
            go_wp2_with fail
            refine KM.out.mono ?_
            rintro e wy ⟨rfl, rfl⟩
            go_wp2_with fail
            refine KL.out.mono ?_
            rintro e wy ⟨rfl, rfl⟩
            go_wp2
            go_roundw
            case rel => exact ⟨j + 1, _, by omega, by go_num, H4.out, HLX.out, HBX.out⟩
            case measure => simp [intOf]; omega
        · obtain ⟨rfl, h4⟩ := n4 hroom
          have H4 := Lib.hid h4
          have HLX := Lib.hid (show S.last ≤ j + 1 from Nat.le_succ_of_le HL0.out)
          clear y4 n4 b4 h4 hroom HPUT HEL
          obtain ⟨M, hM⟩ : ∃ M, M = (S).most := ⟨_, rfl⟩
          obtain ⟨N, hN⟩ : ∃ N, N = (S).ids.length := ⟨_, rfl⟩
          have hNM : N ≤ M := by rw [hM, hN]; exact H4.out.ok.few
          have hM2 : M ≤ 256 := by rw [hM]; exact H4.out.ok.hi
          have t1 : ¬ M < N := by omega
          have t2 : ¬ ((M : Int) < (N : Int)) := by omega
          have KL := Lib.hid (caLen H4.out); have KM := Lib.hid (caMost H4.out); have KR := Lib.hid (caRoom H4.out kk)
          rw [← hN] at KL
          rw [← hM] at KM
          by_cases hr : kk ≤ (M : Int) - N
          · rw [roomB_of hk0 (by rw [← hM, ← hN]; exact hr)] at KR
            clear hM hN
            go_wp2_with fail
            refine KL.out.mono ?_
            rintro e wy ⟨rfl, rfl⟩
            go_wp2_with fail
            refine KM.out.mono ?_
            rintro e wy ⟨rfl, rfl⟩
            go_wp2_with fail
            refine KR.out.mono ?_
            rintro e wy ⟨rfl, rfl⟩
            go_wp2_with fail
            refine KM.out.mono ?_
            rintro e wy ⟨rfl, rfl⟩
            go_wp2_with fail
            refine KL.out.mono ?_
            rintro e wy ⟨rfl, rfl⟩
            go_wp2
            go_roundw
            case rel => exact ⟨j + 1, _, by omega, by go_num, H4.out, HLX.out, HBX.out⟩
            case measure => simp [intOf]; omega
          · have hr' : (M : Int) - N < kk := Int.not_le.1 hr
            rw [roomB_hi (by rw [← hM, ← hN]; exact hr')] at KR
            clear hM hN
            go_wp2_with fail
            refine KL.out.mono ?_
            rintro e wy ⟨rfl, rfl⟩
            go_wp2_with fail
            refine KM.out.mono ?_
            rintro e wy ⟨rfl, rfl⟩
            go_wp2_with fail
            refine KR.out.mono ?_
            rintro e wy ⟨rfl, rfl⟩
            go_wp2_with fail
            refine KM.out.mono ?_
            rintro e wy ⟨rfl, rfl⟩
            go_wp2_with fail
            refine KL.out.mono ?_
            rintro e wy ⟨rfl, rfl⟩
            go_wp2
            go_roundw
            case rel => exact ⟨j + 1, _, by omega, by go_num, H4.out, HLX.out, HBX.out⟩
            case measure => simp [intOf]; omega
      | false =>
        go_wp2_with fail
        refine HEL.out.mono ?_
        rintro e w4 ⟨rfl, b4⟩
        have H4 := Lib.hid (HC.out.below' b4)
        have HBX := Lib.hid (HB0.out.trans (b4.mono HB0.out.size))
        have HLX := Lib.hid (show S.last ≤ j + 1 from Nat.le_succ_of_le HL0.out)
        clear b4 HPUT HEL
        by_cases hid0 : S.ids = []
        · have e1 : S.ids.isEmpty = true := by rw [hid0]; rfl
          rw [e1]
          clear hid0 e1
          obtain ⟨M, hM⟩ : ∃ M, M = (S).most := ⟨_, rfl⟩
          obtain ⟨N, hN⟩ : ∃ N, N = (S).ids.length := ⟨_, rfl⟩
          have hNM : N ≤ M := by rw [hM, hN]; exact H4.out.ok.few
          have hM2 : M ≤ 256 := by rw [hM]; exact H4.out.ok.hi
          have t1 : ¬ M < N := by omega
          have t2 : ¬ ((M : Int) < (N : Int)) := by omega
          have KL := Lib.hid (caLen H4.out); have KM := Lib.hid (caMost H4.out); have KR := Lib.hid (caRoom H4.out kk)
          rw [← hN] at KL
          rw [← hM] at KM
          by_cases hr : kk ≤ (M : Int) - N
          · rw [roomB_of hk0 (by rw [← hM, ← hN]; exact hr)] at KR
            clear hM hN
            go_wp2_with fail
            refine KL.out.mono ?_
            rintro e wy ⟨rfl, rfl⟩
            go_wp2_with fail
            refine KM.out.mono ?_
            rintro e wy ⟨rfl, rfl⟩
            go_wp2_with fail
            refine KR.out.mono ?_
            rintro e wy ⟨rfl, rfl⟩
            go_wp2_with fail
            refine KM.out.mono ?_
            rintro e wy ⟨rfl, rfl⟩
            go_wp2_with fail
            refine KL.out.mono ?_
            rintro e wy ⟨rfl, rfl⟩
            go_wp2
            go_roundw
            case rel => exact ⟨j + 1, _, by omega, by go_num, H4.out, HLX.out, HBX.out⟩
            case measure => simp [intOf]; omega
          · have hr' : (M : Int) - N < kk := Int.not_le.1 hr
            rw [roomB_hi (by rw [← hM, ← hN]; exact hr')] at KR
            clear hM hN
            go_wp2_with fail
            refine KL.out.mono ?_
            rintro e wy ⟨rfl, rfl⟩
            go_wp2_with fail
            refine KM.out.mono ?_
            rintro e wy ⟨rfl, rfl⟩
            go_wp2_with fail
            refine KR.out.mono ?_
            rintro e wy ⟨rfl, rfl⟩
            go_wp2_with fail
            refine KM.out.mono ?_
            rintro e wy ⟨rfl, rfl⟩
            go_wp2_with fail
            refine KL.out.mono ?_
            rintro e wy ⟨rfl, rfl⟩
            go_wp2
            go_roundw
            case rel => exact ⟨j + 1, _, by omega, by go_num, H4.out, HLX.out, HBX.out⟩
            case measure => simp [intOf]; omega
        · have e1 : S.ids.isEmpty = false := by cases hq : S.ids with | nil => exact absurd hq hid0 | cons a t => rfl
          obtain ⟨f1, f2, f3⟩ := headD_in H4.out.ok hid0
          have KD := Lib.hid (caDrop H4.out (S.ids.headD 0) (by have := H4.out.ok.last; omega))
          unfold DropCa at KD
          rw [f1] at KD
          rw [e1]
          obtain ⟨x0, hx0⟩ : ∃ x0, x0 = S.ids.headD 0 := ⟨_, rfl⟩
          rw [← hx0] at KD ⊢
          clear hid0 e1 f1 f2 f3 hx0
          go_wp2_with fail
          refine KD.out.mono ?_
          rintro e w5 ⟨rfl, h5, b5, _, _⟩
          have H5 := Lib.hid h5
          have HBY := Lib.hid (HBX.out.trans (b5.mono HBS.out))
          have HLY := Lib.hid (show (dropC S x0).last ≤ j + 1 from HLX.out)
          clear h5 b5 KD
          obtain ⟨M, hM⟩ : ∃ M, M = (dropC S x0).most := ⟨_, rfl⟩
          obtain ⟨N, hN⟩ : ∃ N, N = (dropC S x0).ids.length := ⟨_, rfl⟩
          have hNM : N ≤ M := by rw [hM, hN]; exact H5.out.ok.few
          have hM2 : M ≤ 256 := by rw [hM]; exact H5.out.ok.hi
          have t1 : ¬ M < N := by omega
          have t2 : ¬ ((M : Int) < (N : Int)) := by omega
          have KL := Lib.hid (caLen H5.out); have KM := Lib.hid (caMost H5.out); have KR := Lib.hid (caRoom H5.out kk)
          rw [← hN] at KL
          rw [← hM] at KM
          by_cases hr : kk ≤ (M : Int) - N
          · rw [roomB_of hk0 (by rw [← hM, ← hN]; exact hr)] at KR
            clear hM hN
            go_wp2_with fail
            refine KL.out.mono ?_
            rintro e wy ⟨rfl, rfl⟩
            go_wp2_with fail
            refine KM.out.mono ?_
            rintro e wy ⟨rfl, rfl⟩
            go_wp2_with fail
            refine KR.out.mono ?_
            rintro e wy ⟨rfl, rfl⟩
            go_wp2_with fail
            refine KM.out.mono ?_
            rintro e wy ⟨rfl, rfl⟩
            go_wp2_with fail
            refine KL.out.mono ?_
            rintro e wy ⟨rfl, rfl⟩
            go_wp2
            go_roundw
            case rel => exact ⟨j + 1, _, by omega, by go_num, H5.out, HLY.out, HBY.out⟩
            case measure => simp [intOf]; omega
          · have hr' : (M : Int) - N < kk := Int.not_le.1 hr
            rw [roomB_hi (by rw [← hM, ← hN]; exact hr')] at KR
            clear hM hN
            go_wp2_with fail
            refine KL.out.mono ?_
            rintro e wy ⟨rfl, rfl⟩
            go_wp2_with fail
            refine KM.out.mono ?_
            rintro e wy ⟨rfl, rfl⟩
            go_wp2_with fail
            refine KR.out.mono ?_
            rintro e wy ⟨rfl, rfl⟩
            go_wp2_with fail
            refine KM.out.mono ?_
            rintro e wy ⟨rfl, rfl⟩
            go_wp2_with fail
            refine KL.out.mono ?_
            rintro e wy ⟨rfl, rfl⟩
            go_wp2
            go_roundw
            case rel => exact ⟨j + 1, _, by omega, by go_num, H5.out, HLY.out, HBY.out⟩
            case measure => simp [intOf]; omega
    · obtain rfl : j = l.length := by omega
      have KP := Lib.hid (fun w v => caPut_nil w v); have KG := Lib.hid (fun w v => caGet_nil w v); have KD := Lib.hid (fun w v => caDrop_nil w v); have KR := Lib.hid (fun w v => caRoom_nil w v); have KL := Lib.hid caLen_nil; have KM := Lib.hid caMost_nil; have KI := Lib.hid caIds_nil
      have HBZ := Lib.hid (HB0.out.trans ((Below.refl wr.heap.size wr).alloc (Nat.le_refl _) (.cells zB.toArray 5) |>.mono HB0.out.size))
      clear hc hb hlt hl
      go_wp2_with fail
      refine (KP.out _ _).mono ?_
      rintro e wy ⟨rfl, rfl⟩
      go_wp2_with fail
      refine (KG.out _ _).mono ?_
      rintro e wy ⟨rfl, rfl⟩
      go_wp2_with fail
      refine (KD.out _ _).mono ?_
      rintro e wy ⟨rfl, rfl⟩
      go_wp2_with fail
      refine (KR.out _ _).mono ?_
      rintro e wy ⟨rfl, rfl⟩
      go_wp2_with fail
      refine (KL.out _).mono ?_
      rintro e wy ⟨rfl, rfl⟩
      go_wp2_with fail
      refine (KM.out _).mono ?_
      rintro e wy ⟨rfl, rfl⟩
      go_wp2_with fail
      refine (KI.out _).mono ?_
      rintro e wy ⟨rfl, rfl⟩
      go_wp2
      go_ret
      exact ⟨rfl, HBZ.out⟩
end Go.Proofs.Ytdfgehmabfacbaa
