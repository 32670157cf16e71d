import Derived.Test.YtbegnnohmahglaaDiSt
namespace Go.Proofs.Ytbegnnohmahglaa
open Wd Ino Go.RowKit Go.ChangeShapes Go.WideShapes Go.Sort
set_option linter.unusedVariables false
set_option maxRecDepth 100000

def DoesRel (n : Int) (l : List Ent) (w0 : World) (v c i : Value) (wr : World) : Prop := ∃ k m : Nat, k ≤ l.length ∧ i = .int .i64 k ∧ c = .int .i64 m ∧ countN n (l.take k) = m ∧ m ≤ k ∧ wr.ownsRow w0.heap.size 9 1 v k (textsV (l.take k)) ∧ Below w0.heap.size w0 wr
theorem hrn_at {w w' : World} {A : Option Addr} {n : Nat} {xs : List Value} (h : Row w w.heap.size A n xs) (hb : Below w.heap.size w w') : Row w' w'.heap.size A n xs := (h.below hb).more hb.size
theorem keptS {w w5 : World} {base : Nat} {t : TypeId} {v : Value} {n : Nat} {xs : List Value} {e : Ent} {o : Obj} (ho : w.ownsRow base t 1 v n xs) (h5 : ((w.alloc (.cells #[.string e.s, .int .i64 e.n] 32)).alloc o).grownBy w5 v.ownBlock) :
    w5.cell? ⟨w.heap.size, 0, none⟩ = some (.string e.s) ∧ w5.cell? ⟨w.heap.size, 1, none⟩ = some (.int .i64 e.n) := by
  have h := ((Cells.new w 32 (ecells e)).alloc o).grown h5 (fun h => by have := own_lt' ho _ h.symm; omega)
  exact ecells2 h
set_option maxHeartbeats 16000000 in
theorem lDoes {W : World} {A : Option Addr} {c : Nat} {l : List Ent} (h : Ens W W.heap.size A l) (ho : ∀ e ∈ l, Ent.Ok e) (hc : l.length ≤ c) (hcm : c ≤ maxLen) (s : ByteArray) (hs : s.size ≤ maxLen) (n : Int) (hn : (Lit.int .i64 n).wf = true) :
    Calls Try.prog 3 #[.slice A l.length c, .string s, .int .i64 n] W (TrueB W) := by
  have H := Lib.hid h
  have KA := Lib.hid (fun w => lAwake w)
  have HF0 := Lib.hid (fun (w : World) (hb : Below W.heap.size W w) => lFew (c := c) (h.at_ hb) (Nat.le_refl _) (Nat.le_trans hc hcm) (fun e he => (ho e he).1))
  unfold maxLen at hs hcm
  clear h ho hn
  go_enter Try.func3, Try.ntmps3
  go_wp2_with fail
  refine (KA.out _).mono ?_
  rintro e1 w1 ⟨rfl, b1⟩
  have B1 := Lib.hid b1
  have KF := Lib.hid (HF0.out _ b1)
  clear b1 KA HF0
  obtain ⟨f, hf⟩ : ∃ f, fewE l = f := ⟨_, rfl⟩
  rw [hf] at KF
  go_wp2_with fail
  refine KF.out.mono ?_
  rintro e1 w2 hg
  obtain ⟨rfl, b2⟩ := hg.below
  have B2 := Lib.hid (B1.out.trans (b2.mono B1.out.size))
  clear hg b2 KF
  cases f with
  | false =>
    clear hf
    go_wp2
    go_ret
    exact ⟨rfl, B2.out⟩
  | true =>
    obtain ⟨hsm, hlen⟩ := few_of hf
    have HSM := Lib.hid hsm
    clear hsm hf
    by_cases h100 : 100 < s.size
    · have q0 : decide ((100 : Int) < (s.size : Int)) = true := decide_eq_true (by omega)
      clear h100
      go_wp2
      go_ret
      exact ⟨rfl, B2.out⟩
    have q0 : decide ((100 : Int) < (s.size : Int)) = false := decide_eq_false (by omega)
    have hs1 : s.size ≤ 1000 := by omega
    clear h100
    obtain ⟨f, hf⟩ : ∃ f, hasN s l = f := ⟨_, rfl⟩
    obtain ⟨D, hD⟩ : ∃ D, dropN s l = D := ⟨_, rfl⟩
    obtain ⟨Q, hQ⟩ : ∃ Q, putR s n l = Q := ⟨_, rfl⟩
    obtain ⟨a, ha⟩ : ∃ a, inoN s l = a := ⟨_, rfl⟩
    have HDl := Lib.hid (show D.length ≤ 30 by rw [← hD]; have := dropN_len s l; omega)
    have HQl := Lib.hid (show Q.length ≤ 31 by
      rw [← hQ]
      unfold putR
      split
      · omega
      · rw [put_len]; omega)
    have K1 := Lib.hid (dFind (c := c) (H.out.at_ B2.out) (Nat.le_refl _) (by omega) s)
    rw [ha, hf] at K1
    go_wp2_with fail
    refine K1.out.mono ?_
    rintro e1 w3 hg
    obtain ⟨rfl, b⟩ := hg.below
    have B3 := Lib.hid (B2.out.trans (b.mono B2.out.size))
    have K2 := Lib.hid (rFind (c := c) (H.out.at_ B3.out) (Nat.le_refl _) (by omega) s)
    rw [ha, hf] at K2
    clear hg b K1
    go_wp2_with fail
    refine K2.out.mono ?_
    rintro e1 w4 hg
    obtain ⟨rfl, b⟩ := hg.below
    have B4 := Lib.hid (B3.out.trans (b.mono B3.out.size))
    have K3 := Lib.hid (dPut (c := c) (H.out.at_ B4.out) (Nat.le_refl _) (by omega) HSM.out s hs1 n)
    rw [hQ, hf] at K3
    clear hg b K2
    go_wp2_with fail
    refine K3.out.mono ?_
    rintro e1 w5 ⟨A5, c5, rfl, hc5, x5, b⟩
    have X5 := Lib.hid x5
    have B5 := Lib.hid (B4.out.trans (b.mono B4.out.size))
    have K4 := Lib.hid (rPut (c := c) (H.out.at_ B5.out) (Nat.le_refl _) hc (by omega) s n)
    rw [hQ, hf] at K4
    clear x5 b K3
    go_wp2_with fail
    refine K4.out.mono ?_
    rintro e1 w6 ⟨A6, c6, rfl, hc6, x6, b⟩
    have X6 := Lib.hid x6
    have Y6 := Lib.hid (X5.out.at_ b)
    have B6 := Lib.hid (B5.out.trans (b.mono B5.out.size))
    have K5 := Lib.hid (dDrop (c := c) (H.out.at_ B6.out) (Nat.le_refl _) (by omega) HSM.out s)
    rw [hD, hf] at K5
    clear x6 b K4 X5
    go_wp2_with fail
    refine K5.out.mono ?_
    rintro e1 w7 ⟨A7, c7, rfl, hc7, x7, b⟩
    have X7 := Lib.hid x7
    have Y7 := Lib.hid (Y6.out.at_ b)
    have Z7 := Lib.hid (X6.out.at_ b)
    have B7 := Lib.hid (B6.out.trans (b.mono B6.out.size))
    have K6 := Lib.hid (rDrop (c := c) (H.out.at_ B7.out) (Nat.le_refl _) (by omega) s)
    rw [hD, hf] at K6
    clear x7 b K5 Y6 X6
    go_wp2_with fail
    refine K6.out.mono ?_
    rintro e1 w8 ⟨A8, c8, rfl, hc8, x8, b⟩
    have U8 := Lib.hid x8
    have X8 := Lib.hid (X7.out.at_ b)
    have Y8 := Lib.hid (Y7.out.at_ b)
    have Z8 := Lib.hid (Z7.out.at_ b)
    have B8 := Lib.hid (B7.out.trans (b.mono B7.out.size))
    have H8 := Lib.hid (H.out.at_ B8.out)
    clear x8 b K6 X7 Y7 Z7 hf hD hQ ha
    go_wp2
    go_loopw [19, 20, 73] (fun v m i wr => DoesRel n l w8 v m i wr) (fun _ _ i _ => l.length - (intOf i).toNat)
    case atStart => exact ⟨0, 0, Nat.zero_le _, rfl, rfl, by simp [countN], Nat.le_refl _, by rw [List.take_zero]; exact ⟨rfl, .inl ⟨rfl, rfl⟩⟩, Below.refl _ _⟩
    case round =>
      obtain ⟨k, m, hk, rfl, rfl, hcn, hmk, hx, hb⟩ := hrel
      have HCN := Lib.hid hcn; have HX := Lib.hid hx; have HB := Lib.hid hb
      clear hcn hx hb
      by_cases hlt : k < l.length
      · obtain ⟨e, he⟩ : ∃ e, l[k]? = some e := ⟨_, List.getElem?_eq_getElem hlt⟩
        have HE := Lib.hid he
        obtain ⟨bl, off, rfl, hbB, x0, x1⟩ := ens_cells (H8.out.below HB.out) he
        have hlt2 : (k : Int) < (l.length : Int) := Int.ofNat_lt.2 hlt
        have hb2 := below_two wr (.cells #[.string e.s, .int .i64 e.n] 32) (.cells #[.string e.s] 9)
        have HX2 := Lib.hid (own_at HX.out hb2)
        have HZ := Lib.hid (Nat.le_trans HB.out.size hb2.size)
        have hr1 := row_one (wr.alloc (.cells #[.string e.s, .int .i64 e.n] 32)) (.string e.s) 9
        rw [show (wr.alloc (.cells #[.string e.s, .int .i64 e.n] 32)).heap.size = wr.heap.size + 1 by simp] at hr1
        have HR := Lib.hid hr1
        have HB2 := Lib.hid hb2
        have HTS := Lib.hid (textsV_snoc he)
        have HCS := Lib.hid (countN_snoc (n := n) he)
        clear he hb2 hr1
        by_cases hq : e.n = n
        · have q0 : (e.n == n) = true := by simpa using hq
          have HN := Lib.hid (show countN n (l.take (k + 1)) = m + 1 by rw [HCS.out, if_pos hq, HCN.out])
          clear hq
          go_wp2_with (at_builtin; refine wpList_append_row _ rfl (.tmp 77) (.tmp 80) 30 rfl w8.heap.size 9 (.string ByteArray.empty) 16 Try.underlying30 infoStr rfl _ _ _ rfl HX2.out _ _ 1 1 [.string e.s] rfl HR.out (oneSt _) (by unfold maxLen; omega) (by omega) HZ.out ?_; intro v5 w5' hown5 hgr5 hat5; have HO5 := Lib.hid hown5; have HG5 := Lib.hid hgr5; obtain ⟨y0, y1⟩ := keptS HX.out hgr5; clear hown5 hgr5 hat5)
          go_roundw
          case rel => exact ⟨k + 1, m + 1, by omega, by go_num, by go_num, HN.out, by omega, by rw [HTS.out]; exact HO5.out, (HB.out.trans (HB2.out.mono HB.out.size)).grown HG5.out HZ.out (own_base HX2.out)⟩
          case measure => simp [intOf]; omega
        · have q0 : (e.n == n) = false := by simpa using hq
          have HN := Lib.hid (show countN n (l.take (k + 1)) = m by rw [HCS.out, if_neg hq, HCN.out]; rfl)
          clear hq
          go_wp2_with (at_builtin; refine wpList_append_row _ rfl (.tmp 77) (.tmp 80) 30 rfl w8.heap.size 9 (.string ByteArray.empty) 16 Try.underlying30 infoStr rfl _ _ _ rfl HX2.out _ _ 1 1 [.string e.s] rfl HR.out (oneSt _) (by unfold maxLen; omega) (by omega) HZ.out ?_; intro v5 w5' hown5 hgr5 hat5; have HO5 := Lib.hid hown5; have HG5 := Lib.hid hgr5; obtain ⟨y0, y1⟩ := keptS HX.out hgr5; clear hown5 hgr5 hat5)
          go_roundw
          case rel => exact ⟨k + 1, m, by omega, by go_num, rfl, HN.out, by omega, by rw [HTS.out]; exact HO5.out, (HB.out.trans (HB2.out.mono HB.out.size)).grown HG5.out HZ.out (own_base HX2.out)⟩
          case measure => simp [intOf]; omega
      · obtain rfl : k = l.length := by omega
        have hcn := HCN.out
        have hx := HX.out
        rw [List.take_length] at hcn hx
        obtain ⟨AN, cN, rfl, hrn⟩ := Row.of_own hx
        have HRN := Lib.hid hrn
        have B9 := Lib.hid (B8.out.trans (HB.out.mono B8.out.size))
        have U9 := Lib.hid (U8.out.at_ HB.out)
        have X9 := Lib.hid (X8.out.at_ HB.out)
        have Y9 := Lib.hid (Y8.out.at_ HB.out)
        have Z9 := Lib.hid (Z8.out.at_ HB.out)
        have KS1 := Lib.hid (sameEs_any Q Q Q.length Q.length rfl rfl (by have := HQl.out; omega) A5 A6 c5 c6 wr.heap.size wr.heap.size wr Y9.out Z9.out)
        rw [decide_eq_true rfl] at KS1
        have HCC := Lib.hid hcn
        clear hcn hx hrn HX HCN HB U8 X8 Y8 Z8 hlt
        go_wp2_with fail
        refine KS1.out.mono ?_
        rintro e1 w10 hg
        obtain ⟨rfl, b⟩ := hg.below
        have B10 := Lib.hid (B9.out.trans (b.mono B9.out.size))
        have HRN1 := Lib.hid (hrn_at HRN.out b)
        have KS2 := Lib.hid (sameEs_any D D D.length D.length rfl rfl (by have := HDl.out; omega) A7 A8 c7 c8 w10.heap.size w10.heap.size w10 (X9.out.at_ b) (U9.out.at_ b))
        rw [decide_eq_true rfl] at KS2
        clear hg b KS1
        go_wp2_with fail
        refine KS2.out.mono ?_
        rintro e1 w11 hg
        obtain ⟨rfl, b⟩ := hg.below
        have B11 := Lib.hid (B10.out.trans (b.mono B10.out.size))
        have HRN2 := Lib.hid (hrn_at HRN1.out b)
        obtain ⟨R, hR⟩ : ∃ R, decide (RightN l) = R := ⟨_, rfl⟩
        have KR1 := Lib.hid (dRight (c := c) (H.out.at_ B11.out) (Nat.le_refl _) (by omega) HSM.out)
        rw [hR] at KR1
        clear hg b KS2
        go_wp2_with fail
        refine KR1.out.mono ?_
        rintro e1 w12 hg
        obtain ⟨rfl, b⟩ := hg.below
        have B12 := Lib.hid (B11.out.trans (b.mono B11.out.size))
        have HRN3 := Lib.hid (hrn_at HRN2.out b)
        have KR2 := Lib.hid (rRightE (c := c) (H.out.at_ B12.out) (Nat.le_refl _) (by omega) HSM.out)
        rw [hR] at KR2
        clear hg b KR1 hR
        go_wp2_with fail
        refine KR2.out.mono ?_
        rintro e1 w13 hg
        obtain ⟨rfl, b⟩ := hg.below
        have B13 := Lib.hid (B12.out.trans (b.mono B12.out.size))
        have HRN4 := Lib.hid (hrn_at HRN3.out b)
        have KN := Lib.hid (dNames (c := c) (H.out.at_ B13.out) (Nat.le_refl _) (by omega) HSM.out)
        clear hg b KR2
        go_wp2_with fail
        refine KN.out.mono ?_
        rintro e1 w14 ⟨v14, rfl, o14, b⟩
        obtain ⟨A14, c14, rfl, r14⟩ := Row.of_own o14
        have B14 := Lib.hid (B13.out.trans (b.mono B13.out.size))
        have KT := Lib.hid (sameTexts_any (l.map Ent.s) (l.map Ent.s) l.length l.length (by simp) (by simp) (by omega) A14 AN c14 cN w14.heap.size w14 r14 (hrn_at HRN4.out b))
        rw [decide_eq_true rfl] at KT
        clear o14 r14 b KN
        go_wp2_with fail
        refine KT.out.mono ?_
        rintro e1 w15 hg
        obtain ⟨rfl, b⟩ := hg.below
        have B15 := Lib.hid (B14.out.trans (b.mono B14.out.size))
        have KC := Lib.hid (dCount (c := c) (H.out.at_ B15.out) (Nat.le_refl _) (by omega) n)
        rw [HCC.out] at KC
        clear hg b KT
        go_wp2_with fail
        refine KC.out.mono ?_
        rintro e1 w16 hg
        obtain ⟨rfl, b⟩ := hg.below
        have B16 := Lib.hid (B15.out.trans (b.mono B15.out.size))
        clear hg b KC
        go_wp2
        go_ret
        exact ⟨rfl, B16.out⟩
end Go.Proofs.Ytbegnnohmahglaa
