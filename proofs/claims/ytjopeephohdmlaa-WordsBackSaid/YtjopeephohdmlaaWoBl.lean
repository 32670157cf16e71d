import Derived.Test.YtjopeephohdmlaaWoBk
namespace Go.Proofs.Ytjopeephohdmlaa
open Wd U Go.ChangeShapes Go.WideShapes Go.RowKit Go.Sort
set_option linter.unusedVariables false

theorem wordsBack_far (L M : Nat) (A E : Option Addr) (c d : Nat) (w : World) (h : 20 < L ∨ L ≤ 20 ∧ 20 < M) :
    Calls Try.prog 4 #[.slice A L c, .slice E M d] w (TrueB w) := by
  rcases h with h | ⟨h1, h2⟩
  · have d1 : decide ((L : Int) > 20) = true := decide_eq_true (by omega)
    have d1' : decide ((20 : Int) < (L : Int)) = true := decide_eq_true (by omega)
    go_enter Try.func4, Try.ntmps4
    go_wp2_with fail
    refine (wordsAwake_true _).mono ?_
    rintro e w2 ⟨rfl, hb⟩
    have HB := Lib.hid hb
    clear hb
    go_wp2
    go_ret
    exact ⟨rfl, HB.out⟩
  · have d1 : decide ((L : Int) > 20) = false := decide_eq_false (by omega)
    have d2 : decide ((M : Int) > 20) = true := decide_eq_true (by omega)
    have d1' : decide ((20 : Int) < (L : Int)) = false := decide_eq_false (by omega)
    have d2' : decide ((20 : Int) < (M : Int)) = true := decide_eq_true (by omega)
    go_enter Try.func4, Try.ntmps4
    go_wp2_with fail
    refine (wordsAwake_true _).mono ?_
    rintro e w2 ⟨rfl, hb⟩
    have HB := Lib.hid hb
    clear hb
    go_wp2
    go_ret
    exact ⟨rfl, HB.out⟩

set_option maxRecDepth 100000 in
set_option maxHeartbeats 4000000 in
theorem wordsBack_any (l : List ByteArray) (n : List Int) (A E : Option Addr) (c d L M : Nat) (w : World) (hL : l.length = L) (hM : n.length = M) (hl : L ≤ 20) (hn : M ≤ 20) (hnw : ∀ y ∈ n, (Lit.int .i64 y).wf = true)
    (hr : Row w w.heap.size A L (l.map Value.string)) (he : Row w w.heap.size E M (n.map (Value.int .i64))) :
    Calls Try.prog 4 #[.slice A L c, .slice E M d] w (TrueB w) := by
  have d1 : decide ((L : Int) > 20) = false := decide_eq_false (by omega)
  have d2 : decide ((M : Int) > 20) = false := decide_eq_false (by omega)
  have HL := Lib.hid hL; have HM := Lib.hid hM; have HR := Lib.hid hr; have HE := Lib.hid he; have HNW := Lib.hid hnw
  clear hL hM hr he hnw
  go_enter Try.func4, Try.ntmps4
  go_wp2_with fail
  refine (wordsAwake_true _).mono ?_
  rintro e w1 ⟨rfl, hb1⟩
  have hw1 := WrSt.new w w1 hb1
  have HW1 := Lib.hid hw1
  clear hw1 hb1
  go_wp2
  go_loopw [27] (fun i wr => Back1 w w1.heap.size l i wr) (fun i _ => L - (intOf i).toNat)
  case atStart => exact ⟨0, Nat.zero_le _, rfl, (by simp), HW1.out⟩
  case round =>
    obtain ⟨j, hj, rfl, hs, hw⟩ := hrel
    have HS := Lib.hid hs; have HW := Lib.hid hw; have HB := Lib.hid hw.is_below
    clear hs hw
    have hlen := encs_len HS.out
    have hlen2 : (l.take j).length ≤ 20 := by have := HL.out; rw [List.length_take]; omega
    by_cases hlt : j < L
    · obtain ⟨b1, o1, s, rfl, _, hx, cx⟩ := (HR.out.below HB.out).get hlt
      have HX := Lib.hid hx
      have hjl : (j : Int) < (L : Int) := by omega
      clear hx hj
      by_cases h100 : 100 < s.size
      · have q : decide ((s.size : Int) > 100) = true := decide_eq_true (by omega)
        clear h100
        go_wp2
        go_ret
        exact ⟨rfl, HB.out⟩
      · have q : decide ((s.size : Int) > 100) = false := decide_eq_false (by omega)
        go_wp2_with (go_at_call 14; refine (text_w HW.out (by omega) s (by omega)).mono ?_; rintro e w2 ⟨rfl, h2⟩; have H2 := Lib.hid h2; clear h2)
        go_roundw
        case rel =>
          refine ⟨j + 1, by have := HL.out; omega, by go_num, fun y hy => ?_, by rw [encs_snoc HX.out]; exact H2.out⟩
          rw [List.take_add_one, HX.out] at hy
          rcases List.mem_append.1 hy with hy | hy
          · exact HS.out y hy
          · have : y = s := by simpa using hy
            subst this; omega
        case measure => simp [intOf]; omega
    · obtain rfl : j = L := by have := HL.out; omega
      have hs := HS.out; have hw := HW.out
      rw [List.take_of_length_le (by rw [HL.out]; exact Nat.le_refl _)] at hs hw
      have HSA := Lib.hid hs; have HW2 := Lib.hid hw
      have hjl : ¬ ((j : Int) < (j : Int)) := by omega
      clear hs hw hj hlt hlen hlen2
      go_wp2
      go_loopw [39] (fun i wr => Back2 w w1.heap.size l n i wr) (fun i _ => M - (intOf i).toNat)
      case atStart => exact ⟨0, Nat.zero_le _, rfl, (by simp), by simpa using HW2.out⟩
      case round =>
        obtain ⟨k, hk, rfl, hy, hw⟩ := hrel
        have HY := Lib.hid hy; have HW3 := Lib.hid hw; have HB3 := Lib.hid hw.is_below
        clear hy hw
        have hlen := encs_len HSA.out
        have hlen1 : (encs l ++ (n.take k).map Int.toNat).length ≤ 300 + 20 := by have := HL.out; have := HM.out; rw [List.length_append, List.length_map, List.length_take]; omega
        have HLEN := Lib.hid hlen1
        clear hlen hlen1
        by_cases hlt : k < M
        · obtain ⟨b1, o1, y, rfl, _, hx, cx⟩ := (HE.out.below HB3.out).get hlt
          have HX := Lib.hid hx
          have hkl : (k : Int) < (M : Int) := by omega
          clear hx hk
          by_cases hy0 : y < 0
          · have q : decide (y < 0) = true := decide_eq_true hy0
            clear hy0
            go_wp2
            go_ret
            exact ⟨rfl, HB3.out⟩
          · have q : decide (y < 0) = false := decide_eq_false hy0
            by_cases hy1 : y > 4611686018427387904
            · have q1 : decide (y > 4611686018427387904) = true := decide_eq_true hy1
              clear hy0 hy1
              go_wp2
              go_ret
              exact ⟨rfl, HB3.out⟩
            · have q1 : decide (y > 4611686018427387904) = false := decide_eq_false hy1
              obtain ⟨z, rfl⟩ : ∃ z : Nat, y = (z : Int) := ⟨y.toNat, by omega⟩
              have hz : z ≤ 4611686018427387904 := by omega
              clear hy0 hy1
              go_wp2_with (go_at_call 15; refine (num_w HW3.out (by have := HLEN.out; omega) z (by omega)).mono ?_; rintro e w2 ⟨rfl, h2⟩; have H2 := Lib.hid h2; clear h2)
              go_roundw
              case rel =>
                refine ⟨k + 1, by have := HM.out; omega, by go_num, fun y hy => ?_, ?_⟩
                · rw [List.take_add_one, HX.out] at hy
                  rcases List.mem_append.1 hy with hy | hy
                  · exact HY.out y hy
                  · have : y = (z : Int) := by simpa using hy
                    subst this; unfold okI; omega
                · rw [List.take_add_one, HX.out, List.map_append, ← List.append_assoc]
                  exact H2.out
              case measure => simp [intOf]; omega
        · obtain rfl : k = M := by have := HM.out; omega
          have hy := HY.out; have hw := HW3.out; have hle := HLEN.out
          rw [List.take_of_length_le (by rw [HM.out]; exact Nat.le_refl _)] at hy hw hle
          have HYA := Lib.hid hy; have HW4 := Lib.hid hw; have HLE := Lib.hid hle
          have hkl : ¬ ((k : Int) < (k : Int)) := by omega
          clear hy hw hk hlt hle
          have hsm : Small (encs l ++ n.map Int.toNat) := (encs_small HSA.out).append (small_ints HYA.out)
          have HSM := Lib.hid hsm
          clear hsm
          go_wp2_with fail
          refine (words_w HW4.out (by have := HLE.out; omega)).mono ?_
          rintro e w5 ⟨v5, rfl, hr5, hb5⟩
          obtain ⟨A5, c5, rfl, hcap5, hrow5⟩ := hr5.row
          obtain ⟨x, hx⟩ : ∃ x, (encs l ++ n.map Int.toNat).length = x := ⟨_, rfl⟩
          rw [hx] at hrow5 hcap5 ⊢
          have HX := Lib.hid hx; have HRW5 := Lib.hid hrow5
          have HB5 := Lib.hid (HW4.out.is_below.trans (hb5.mono HW4.out.is_below.size))
          have hx320 : x ≤ 320 := by have := HLE.out; omega
          clear hx hrow5 hr5 hb5
          go_wp2_with fail
          refine (new_r HB5.out HX.out HSM.out HRW5.out (Nat.le_refl _) (by omega)).mono ?_
          rintro e w6 ⟨g6, rfl, h6⟩
          have H6 := Lib.hid h6
          clear h6
          go_wp2
          go_loopw [56] (fun i wr => Back3 w g6 l (n.map Int.toNat) i wr) (fun i _ => l.length - (intOf i).toNat)
          case atStart => exact ⟨0, Nat.zero_le _, rfl, by rw [List.drop_zero]; exact H6.out⟩
          case round =>
            obtain ⟨j3, hj3, rfl, h3⟩ := hrel
            have H3 := Lib.hid h3
            have HB3' := Lib.hid h3.b
            clear h3
            by_cases hlt3 : j3 < l.length
            · have hlt3' : j3 < j := by have := HL.out; omega
              obtain ⟨b3, o3, s, rfl, _, hx3, cx3⟩ := (HR.out.below HB3'.out).get hlt3'
              have hs100 := HSA.out s (List.mem_of_getElem? hx3)
              have hd3 := encs_drop hx3
              have h3 := H3.out
              rw [hd3, List.cons_append, List.append_assoc] at h3
              obtain ⟨t1, t2, t3, t4⟩ := back_text hs100 (encs (l.drop (j3 + 1)) ++ n.map Int.toNat)
              have H3b := Lib.hid h3; have T2 := Lib.hid t2; have T3 := Lib.hid t3; have T4 := Lib.hid t4
              have hjl3 : (j3 : Int) < (j : Int) := by omega
              clear hx3 hd3 h3 t1 t2 t3 t4 hs100 H3 hj3
              go_wp2_with (go_at_call 18; refine (text_r H3b.out 100 (by omega) (by omega) (.inr (by omega))).mono ?_; rintro e w7 ⟨rfl, h7⟩; rw [T3.out, T4.out] at h7; rw [T2.out]; have H7 := Lib.hid h7; clear h7)
              go_roundw
              case rel => exact ⟨j3 + 1, by omega, by go_num, H7.out⟩
              case measure => simp [intOf]; omega
            · obtain rfl : j3 = l.length := by omega
              have h3 := H3.out
              rw [List.drop_length, show encs [] = [] from rfl, List.nil_append] at h3
              have H4 := Lib.hid h3
              clear h3 H3 hj3 hlt3
              have HLL := HL.out
              subst HLL
              go_wp2
              go_loopw [67] (fun i wr => Back4 w g6 n i wr) (fun i _ => n.length - (intOf i).toNat)
              case atStart => exact ⟨0, Nat.zero_le _, rfl, by rw [List.drop_zero]; exact H4.out⟩
              case round =>
                obtain ⟨j4, hj4, rfl, h4⟩ := hrel
                have H4' := Lib.hid h4
                have HB4 := Lib.hid h4.b
                clear h4
                by_cases hlt4 : j4 < n.length
                · have hlt4' : j4 < k := by have := HM.out; omega
                  obtain ⟨b4, o4, y, rfl, _, hx4, cx4⟩ := (HE.out.below HB4.out).get hlt4'
                  have hok := HYA.out y (List.mem_of_getElem? hx4)
                  unfold okI at hok
                  obtain ⟨z, rfl⟩ : ∃ z : Nat, y = (z : Int) := ⟨y.toNat, by omega⟩
                  have h4 := H4'.out
                  have hdr : (n.drop j4).map Int.toNat = z :: (n.drop (j4 + 1)).map Int.toNat := by
                    obtain ⟨hj, he⟩ := List.getElem?_eq_some_iff.1 hx4
                    rw [List.drop_eq_getElem_cons hj, he]
                    rfl
                  rw [hdr] at h4
                  obtain ⟨t1, t2, t3⟩ := back_num (x := z) (by unfold topN; omega) ((n.drop (j4 + 1)).map Int.toNat)
                  have H4b := Lib.hid h4; have T1 := Lib.hid t1; have T2 := Lib.hid t2; have T3 := Lib.hid t3
                  have hjl4 : (j4 : Int) < (k : Int) := by omega
                  have hzz : ((z : Int) != (z : Int)) = false := by simp
                  clear hx4 hdr h4 t1 t2 t3 hok H4' hj4
                  go_wp2_with (go_at_call 19; refine (num_r H4b.out).mono ?_; rintro e w8 ⟨rfl, h8⟩; rw [T2.out, T3.out] at h8; rw [T1.out]; have H8 := Lib.hid h8; clear h8)
                  go_roundw
                  case rel => exact ⟨j4 + 1, by omega, by go_num, H8.out⟩
                  case measure => simp [intOf]; omega
                · obtain rfl : j4 = n.length := by omega
                  have h4 := H4'.out
                  rw [List.drop_length, List.map_nil] at h4
                  have H5 := Lib.hid h4
                  clear h4 H4' hj4 hlt4
                  have HMM := HM.out
                  subst HMM
                  go_wp2_with (first
                    | (go_at_call 20; refine (bad_r H5.out).mono ?_; rintro e w' ⟨rfl, rfl⟩)
                    | (go_at_call 21; refine (left_r H5.out).mono ?_; rintro e w' ⟨rfl, rfl⟩; rw [show ((([] : List Nat).length : Nat) : Int) = 0 from rfl])
                    | (go_at_call 19; refine (num_r H5.out).mono ?_; rintro e w9 ⟨rfl, h9⟩; rw [show numV [] = 0 from rfl]; rw [show numX [] = [] from rfl, show numB [] false = true from rfl] at h9; have H9 := Lib.hid h9; clear h9)
                    | (go_at_call 20; refine (bad_r H9.out).mono ?_; rintro e w' ⟨rfl, rfl⟩))
                  go_ret
                  exact ⟨rfl, H9.out.b⟩
theorem wordsBack_walk (l : List ByteArray) (A : Option Addr) (c : Nat) {w : World} (hr : Row w w.heap.size A l.length (l.map Value.string)) (n : List Int) (E : Option Addr) (d : Nat) (he : Row w w.heap.size E n.length (n.map (Value.int .i64))) (hok : ∀ y ∈ n, (Lit.int .i64 y).wf = true) :
    Calls Try.prog 4 #[.slice A l.length c, .slice E n.length d] w (TrueB w) := by
  by_cases h1 : 20 < l.length
  · exact wordsBack_far _ _ A E c d w (.inl h1)
  · by_cases h2 : 20 < n.length
    · exact wordsBack_far _ _ A E c d w (.inr ⟨by omega, h2⟩)
    · exact wordsBack_any l n A E c d _ _ w rfl rfl (by omega) (by omega) hok hr he
end Go.Proofs.Ytjopeephohdmlaa
