import Derived.Test.YtcimmfhbffofjaaRcRd
import Derived.Test.YtcimmfhbffofjaaRcPut
namespace Go.Proofs.Ytcimmfhbffofjaa
open Wd U Go.ChangeShapes Go.WideShapes Go.RowKit Go.Sort
set_option linter.unusedVariables false
set_option linter.unusedSimpArgs false

/-! Of of the project's own -/
def zE : Eff := ⟨0, 0, 0, 0, 0, 0, ⟨#[]⟩, ⟨#[]⟩, none, 0, []⟩
def OfR (l : List Nat) (W : World) (e : Ending) (w : World) : Prop := Below W.heap.size W w ∧
  ((∃ (x : Eff) (r : Int) (t : List Nat), recB x r = true ∧ x.data = zer x.kind ∧ l = recW x r ++ t ∧ x.Ok w w.heap.size ∧ x.Ty w ∧ e = .returned (.tuple #[x.val, .int .i64 r, .int .i64 (manyR x), .int .i64 0])) ∨
   ((∀ (x : Eff) (r : Int) (t : List Nat), recB x r = true → x.data = zer x.kind → l ≠ recW x r ++ t) ∧ e = .returned (.tuple #[zE.val, .int .i64 0, .int .i64 0, .int .i64 74])))
theorem zer_len (k : Int) : (zer k).length ≤ 256 := by
  unfold zer
  split
  · rw [List.length_replicate]; exact Nat.le_refl _
  · exact Nat.zero_le _
theorem rdE_few {x : Eff} {xs : List Nat} (h : core x = rdE xs) (hd : x.data = zer x.kind) : x.few := by
  have h6 : x.name = (rdE xs).name := by rw [← h]; rfl
  have h7 : x.other = (rdE xs).other := by rw [← h]; rfl
  have s6 : (rdE xs).name.size ≤ 24 := textV_size 24 _
  have s7 : (rdE xs).other.size ≤ 24 := textV_size 24 _
  have := zer_len x.kind
  exact ⟨by rw [hd]; omega, by rw [h6]; omega, by rw [h7]; omega⟩
/-- what is told is told just if it was Put -/
theorem of_yes {l : List Nat} {x : Eff} {r : Int} (hc : core x = rdE (fst1 l)) (hr : r = rdRef (fst1 l)) (hb : recB x r = true) (he : recW x r = fst1 l) : ∃ t, l = recW x r ++ t := by
  obtain ⟨t, ht⟩ := fst1_prefix l
  exact ⟨t, by rw [he]; exact ht⟩
theorem of_no {l : List Nat} {x : Eff} {r : Int} (hc : core x = rdE (fst1 l)) (hd : x.data = zer x.kind) (hr : r = rdRef (fst1 l)) (hb : recB x r = true → recW x r ≠ fst1 l) : ∀ (y : Eff) (q : Int) (t : List Nat), recB y q = true → y.data = zer y.kind → l ≠ recW y q ++ t := by
  intro y q t hy hyd he
  have hf := fst1_rec he
  have hb2 := rd_back hy ([] : List Nat)
  rw [List.append_nil] at hb2
  rw [hf] at hc hr hb
  have e1 : core x = core y := hc.trans hb2.1
  have e2 : r = q := hr.trans hb2.2
  have e3 : x.data = y.data := by rw [hd, hyd, core_kind e1]
  have e4 : recB x r = true := by rw [e2, recB_core e1 (by rw [e3])]; exact hy
  exact hb e4 (by rw [e2]; exact recW_core q e1)
theorem row_fill9 {w : World} {B n g : Nat} {A : Option Addr} {xs : List Value} (h : Row w B A n xs) (hne : ∀ b off, A = some ⟨b, off, none⟩ → 0 < n → b ≠ g) (v0 v1 v2 v3 v4 v5 v6 v7 v8 : Value) : Row (((((((((w.setCell ⟨g, 0, none⟩ v0).setCell ⟨g, 1, none⟩ v1).setCell ⟨g, 2, none⟩ v2).setCell ⟨g, 3, none⟩ v3).setCell ⟨g, 4, none⟩ v4).setCell ⟨g, 5, none⟩ v5).setCell ⟨g, 6, none⟩ v6).setCell ⟨g, 7, none⟩ v7).setCell ⟨g, 8, none⟩ v8) B A n xs := (row_store (row_store (row_store (row_store (row_store (row_store (row_store (row_store (row_store h hne) hne) hne) hne) hne) hne) hne) hne) hne)
theorem byte_ne {w : World} {B n g : Nat} {A : Option Addr} {l : List Nat} {e : Eff} (hc : Cells w g 24 (effCells e)) (h : Row w B A n (l.map bt)) : ∀ b off, A = some ⟨b, off, none⟩ → 0 < n → b ≠ g := by
  intro b off e1 hn heq
  obtain ⟨b', off', e2, _, hx⟩ := h.2 hn
  rw [e1] at e2
  cases e2
  have hl := h.1
  have h0 := hx 0 (by omega)
  rw [Nat.add_zero, heq, hc.cell off] at h0
  obtain ⟨y, hy⟩ : ∃ y : Nat, (l.map bt)[0]'(by omega) = bt y := ⟨_, by rw [List.getElem_map]⟩
  rw [hy] at h0
  unfold effCells bt at h0
  match off with
  | 0 => simp at h0
  | 1 => simp at h0
  | 2 => simp at h0
  | 3 => simp at h0
  | 4 => simp at h0
  | 5 => simp at h0
  | 6 => simp at h0
  | 7 => simp at h0
  | 8 => simp at h0
  | k + 9 => simp at h0
def OfPre (l : List Nat) (W : World) (w2 : World) (x : Eff) : Prop := core x = rdE (fst1 l) ∧ x.data = zer x.kind ∧ x.Ok w2 w2.heap.size ∧ Below W.heap.size W w2
set_option maxRecDepth 100000 in
set_option maxHeartbeats 4000000 in
theorem rOf (l : List Nat) (L : Nat) (hL : l.length = L) (hl : Small l) (hle : L ≤ 1000) (A : Option Addr) (c B : Nat) (hc : L ≤ c) (w : World) (hB : B ≤ w.heap.size) (hr : Row w B A L (l.map wd)) : Calls Try.prog 10 #[.slice A L c] w (OfR l w) := by
  have hz := Cells.new w 24 zl.toArray
  have hb1 : Below w.heap.size w (w.alloc (.cells zl.toArray 24)) := (Below.refl _ _).alloc (Nat.le_refl _) _
  have hr1 := hr.below (hb1.mono hB)
  have KF := Lib.hid (fun w hr => rFirst l L hL hl hle A c B hc w hr)
  have HS := Lib.hid (fst1_small hl)
  have hfl : (fst1 l).length ≤ L := by obtain ⟨t, ht⟩ := fst1_prefix l; rw [← hL]; conv => rhs; rw [ht]
                                       rw [List.length_append]; omega
  obtain ⟨w1, hw1⟩ : ∃ w1, w.alloc (.cells zl.toArray 24) = w1 := ⟨_, rfl⟩
  obtain ⟨gZ, hgZ⟩ : ∃ gZ, w.heap.size = gZ := ⟨_, rfl⟩
  rw [hw1] at hz hb1 hr1
  have hB1 : B ≤ w1.heap.size := Nat.le_trans hB hb1.size
  rw [hgZ] at hz
  have HZ := Lib.hid hz; have HB1 := Lib.hid hb1; have HR1 := Lib.hid hr1; have HGZ := Lib.hid hgZ
  clear hz hb1 hr1 hr hL hl
  go_enter Try.func10, Try.ntmps10
  go_upto_region 1 with fail
  unfold zl at hw1
  rw [hw1]
  clear hw1 hgZ
  go_upto_region 3 with (first
    | (go_at_call 29; (with_reducible refine (KF.out _ HR1.out).mono ?_); rintro e' w' ⟨rfl, A2, c2, rfl, hr2, hc2⟩; have HR2 := Lib.hid hr2; clear hr2)
    | (go_at_call 31; (with_reducible refine (new_r (Below.refl _ _) rfl HS.out HR2.out hB1 (by omega)).mono ?_); rintro e' w2 ⟨gR, rfl, h2⟩; have H2 := Lib.hid h2; clear h2)
    | (go_at_call 30; (with_reducible refine (rRead H2.out).mono ?_); rintro e' w3 ⟨x, rfl, x1, x2, x3, x4, x5⟩; have X5 := Lib.hid x5; have X1 := Lib.hid x1; have X2 := Lib.hid x2; have X3 := Lib.hid x3; have X4 := Lib.hid x4; clear x1 x2 x3 x4 x5; unfold Eff.val))
  obtain ⟨w4, hw4⟩ : ∃ w4, w3.alloc (.cells (effCells x) 24) = w4 := ⟨_, rfl⟩
  have hcx := Cells.new w3 24 (effCells x)
  have hb4 : Below w3.heap.size w3 (w3.alloc (.cells (effCells x) 24)) := (Below.refl _ _).alloc (Nat.le_refl _) _
  rw [hw4] at hcx hb4
  unfold effCells at hw4
  rw [hw4]
  obtain ⟨c0, c1, c2, c3, c4, c5, c6, c7, c8⟩ := cells9 hcx
  have HCX := Lib.hid hcx
  have OK4 := Lib.hid (X3.out.at_ hb4)
  have TY4 := Lib.hid (X5.out.below hb4)
  have HB4 := Lib.hid (HB1.out.trans ((X4.out.trans (hb4.mono X4.out.size)).mono HB1.out.size))
  have hzx := (HZ.out.below' X4.out).below' hb4
  have HZ4 := Lib.hid hzx
  have HR4 := Lib.hid ((HR2.out.below (X4.out.mono hB1)).below (hb4.mono (Nat.le_trans hB1 X4.out.size)))
  have hB4 : B ≤ w4.heap.size := Nat.le_trans hB HB4.out.size
  obtain ⟨gE, hgE⟩ : ∃ gE, w3.heap.size = gE := ⟨_, rfl⟩
  have hzE : gZ < gE := by rw [← hgE]; exact (HZ.out.below' X4.out).lt
  rw [hgE] at c0 c1 c2 c3 c4 c5 c6 c7 c8 HCX ⊢
  clear hw4 hcx hb4 hzx hgE
  have KP := Lib.hid (fun w ok => rPut x (rdRef (fst1 l)) w ok (rdE_few X1.out X2.out))
  obtain ⟨r, hr⟩ : ∃ r, rdRef (fst1 l) = r := ⟨_, rfl⟩
  rw [hr] at KP ⊢
  have HRR := Lib.hid hr
  obtain ⟨n, hn⟩ : ∃ n, (fst1 l).length = n := ⟨_, rfl⟩
  rw [hn] at HR4 hfl hc2 ⊢
  have HN := Lib.hid hn
  clear hr hn
  unfold Eff.val at KP
  cases hb : recB x r
  · have HNO := Lib.hid (of_no X1.out X2.out HRR.out.symm (fun h => by rw [hb] at h; cases h))
    have HB := Lib.hid hb
    clear hb
    go_wp2_with (go_at_call 8; (with_reducible refine (KP.out _ OK4.out).mono ?_); rintro e' w5 ⟨hb5, A5, k5, rfl, hr5, hk5⟩; have hpl : putL x r = [] := (by unfold putL; rw [HB.out]; rfl); rw [hpl, HB.out, show errB false 92 = 92 from rfl]; have HZX := Lib.hid (HZ4.out.below' hb5); have HBX := Lib.hid (HB4.out.trans (hb5.mono HB4.out.size)); clear hb5 hr5 hk5 hpl; have hzx := HZX.out; have d0 : w5.cell? ⟨gZ, 0, none⟩ = some (Value.int .i64 0) := hzx.cell 0; have d1 : w5.cell? ⟨gZ, 1, none⟩ = some (Value.int .i64 0) := hzx.cell 1; have d2 : w5.cell? ⟨gZ, 2, none⟩ = some (Value.int .i64 0) := hzx.cell 2; have d3 : w5.cell? ⟨gZ, 3, none⟩ = some (Value.int .i64 0) := hzx.cell 3; have d4 : w5.cell? ⟨gZ, 4, none⟩ = some (Value.int .i64 0) := hzx.cell 4; have d5 : w5.cell? ⟨gZ, 5, none⟩ = some (Value.int .i64 0) := hzx.cell 5; have d6 : w5.cell? ⟨gZ, 6, none⟩ = some (.string ⟨#[]⟩) := hzx.cell 6; have d7 : w5.cell? ⟨gZ, 7, none⟩ = some (.string ⟨#[]⟩) := hzx.cell 7; have d8 : w5.cell? ⟨gZ, 8, none⟩ = some (.slice none 0 0) := hzx.cell 8; have fz : ∀ k, w5.frozen? ⟨gZ, k, none⟩ = false := (fun k => hzx.free k); clear hzx)
    obtain ⟨w6, hw6, hc6, hb6, hk6⟩ := fill9k (w0 := w) HZX.out HBX.out (Nat.le_of_eq HGZ.out) (.int .i64 0) (.int .i64 0) (.int .i64 0) (.int .i64 0) (.int .i64 0) (.int .i64 0) (.string ⟨#[]⟩) (.string ⟨#[]⟩) (.slice none 0 0)
    rw [hw6]
    clear hw6 d0 d1 d2 d3 d4 d5 d6 d7 d8 fz c0 c1 c2 c3 c4 c5 c6 c7 c8
    obtain ⟨d0, d1, d2, d3, d4, d5, d6, d7, d8⟩ := cells9 (e := zE) hc6
    refine bodyPost_ret (v := .tuple #[Eff.val zE, .int .i64 0, .int .i64 0, .int .i64 74]) (by simp [results, Try.results10, go_sem, Eff.val, zE, d0, d1, d2, d3, d4, d5, d6, d7, d8]) rfl ?_
    exact ⟨hb6, .inr ⟨HNO.out, rfl⟩⟩
  · have HY := Lib.hid hb
    have hpl : putL x r = recW x r := by unfold putL; rw [hb]; rfl
    have hm3 := manyR_le (check_in (recB_parts hb).1)
    obtain ⟨m, hm⟩ : ∃ m, manyR x = m := ⟨_, rfl⟩
    have HM := Lib.hid ((recW_len x r).trans hm)
    rw [hm] at hm3
    have HMM := Lib.hid hm
    clear hb hm
    by_cases he : recW x r = fst1 l
    · have hd1 : decide (recW x r = fst1 l) = true := decide_eq_true he
      have HE := Lib.hid he; have HD1 := Lib.hid hd1
      have hnm : n = m := by rw [← HN.out, ← HM.out, he]
      have HNM := Lib.hid hnm
      clear he hd1 hnm
      go_wp2_with (first
        | (go_at_call 8; (with_reducible refine (KP.out _ OK4.out).mono ?_); rintro e' w5 ⟨hb5, A5, k5, rfl, hr5, hk5⟩; rw [hpl] at hr5 hk5; rw [hpl, HY.out, show errB true 92 = 0 from rfl, HM.out]; rw [HM.out] at hr5; have HR5 := Lib.hid hr5; have HB5 := Lib.hid hb5; clear c0 c1 c2 c3 c4 c5 c6 c7 c8 hpl hb5 hr5 hk5)
        | (go_at_call 32; (with_reducible refine (equal_any (recW x r) (fst1 l) m n HM.out HN.out (by omega) _ _ _ _ w5.heap.size _ HR5.out ((HR4.out.below (HB5.out.mono hB4)).more (Nat.le_trans hB4 HB5.out.size))).mono ?_); rintro e' w7 h7; obtain ⟨rfl, b7⟩ := h7.below; rw [HD1.out]; have b7' := HB5.out.trans (b7.mono HB5.out.size); have hzx := HZ4.out.below' b7'; have HZX := Lib.hid hzx; have HCX7 := Lib.hid (HCX.out.below' b7'); have HBX := Lib.hid (HB4.out.trans (b7'.mono HB4.out.size)); have HB7 := Lib.hid b7'; clear h7 b7 b7'; have d0 : w7.cell? ⟨gZ, 0, none⟩ = some (Value.int .i64 0) := hzx.cell 0; have d1 : w7.cell? ⟨gZ, 1, none⟩ = some (Value.int .i64 0) := hzx.cell 1; have d2 : w7.cell? ⟨gZ, 2, none⟩ = some (Value.int .i64 0) := hzx.cell 2; have d3 : w7.cell? ⟨gZ, 3, none⟩ = some (Value.int .i64 0) := hzx.cell 3; have d4 : w7.cell? ⟨gZ, 4, none⟩ = some (Value.int .i64 0) := hzx.cell 4; have d5 : w7.cell? ⟨gZ, 5, none⟩ = some (Value.int .i64 0) := hzx.cell 5; have d6 : w7.cell? ⟨gZ, 6, none⟩ = some (.string ⟨#[]⟩) := hzx.cell 6; have d7 : w7.cell? ⟨gZ, 7, none⟩ = some (.string ⟨#[]⟩) := hzx.cell 7; have d8 : w7.cell? ⟨gZ, 8, none⟩ = some (.slice none 0 0) := hzx.cell 8; have fz : ∀ k, w7.frozen? ⟨gZ, k, none⟩ = false := (fun k => hzx.free k); clear hzx; obtain ⟨c0, c1, c2, c3, c4, c5, c6, c7, c8⟩ := cells9 HCX7.out))
      obtain ⟨w6, hw6, hc6, hb6, hk6⟩ := fill9k (w0 := w) HZX.out HBX.out (Nat.le_of_eq HGZ.out) (.int .i64 x.kind) (.int .i64 x.ino) (.int .i64 x.dir) (.int .i64 x.dst) (.int .i64 x.page) (.int .i64 x.size) (.string x.name) (.string x.other) (.slice x.A x.data.length x.cp)
      have hrow := row_fill9 (OK4.out.row.below HB7.out) (byte_ne (e := zE) HZX.out (OK4.out.row.below HB7.out)) (.int .i64 x.kind) (.int .i64 x.ino) (.int .i64 x.dir) (.int .i64 x.dst) (.int .i64 x.page) (.int .i64 x.size) (.string x.name) (.string x.other) (.slice x.A x.data.length x.cp)
      rw [hw6] at hrow
      have hs6 : w4.heap.size ≤ w6.heap.size := by
        rw [← hw6]
        have := HB7.out.size
        simpa using this
      rw [hw6]
      clear hw6 d0 d1 d2 d3 d4 d5 d6 d7 d8 fz c0 c1 c2 c3 c4 c5 c6 c7 c8
      obtain ⟨d0, d1, d2, d3, d4, d5, d6, d7, d8⟩ := cells9 (e := x) hc6
      refine bodyPost_ret (v := .tuple #[Eff.val x, .int .i64 r, .int .i64 n, .int .i64 0]) (by simp [results, Try.results10, go_sem, Eff.val, zE, d0, d1, d2, d3, d4, d5, d6, d7, d8]) rfl ?_
      obtain ⟨t, ht⟩ := of_yes X1.out HRR.out.symm HY.out HE.out
      have OKX := X3.out
      refine ⟨hb6, .inl ⟨x, r, t, HY.out, X2.out, ht, ⟨OKX.kind, OKX.ino, OKX.dir, OKX.dst, OKX.page, OKX.size, OKX.name, OKX.other, OKX.bytes, hrow.more hs6, OKX.le, OKX.cap⟩, (TY4.out.below HB7.out).kept HZX.out hk6, ?_⟩⟩
      rw [HNM.out, HMM.out]
    · have HNO := Lib.hid (of_no X1.out X2.out HRR.out.symm (fun _ => he))
      have hd1 : decide (recW x r = fst1 l) = false := decide_eq_false he
      have HD1 := Lib.hid hd1
      clear he hd1
      go_wp2_with (first
        | (go_at_call 8; (with_reducible refine (KP.out _ OK4.out).mono ?_); rintro e' w5 ⟨hb5, A5, k5, rfl, hr5, hk5⟩; rw [hpl] at hr5 hk5; rw [hpl, HY.out, show errB true 92 = 0 from rfl, HM.out]; rw [HM.out] at hr5; have HR5 := Lib.hid hr5; have HB5 := Lib.hid hb5; clear c0 c1 c2 c3 c4 c5 c6 c7 c8 hpl hb5 hr5 hk5)
        | (go_at_call 32; (with_reducible refine (equal_any (recW x r) (fst1 l) m n HM.out HN.out (by omega) _ _ _ _ w5.heap.size _ HR5.out ((HR4.out.below (HB5.out.mono hB4)).more (Nat.le_trans hB4 HB5.out.size))).mono ?_); rintro e' w7 h7; obtain ⟨rfl, b7⟩ := h7.below; rw [HD1.out]; have b7' := HB5.out.trans (b7.mono HB5.out.size); have hzx := HZ4.out.below' b7'; have HZX := Lib.hid hzx; have HCX7 := Lib.hid (HCX.out.below' b7'); have HBX := Lib.hid (HB4.out.trans (b7'.mono HB4.out.size)); have HB7 := Lib.hid b7'; clear h7 b7 b7'; have d0 : w7.cell? ⟨gZ, 0, none⟩ = some (Value.int .i64 0) := hzx.cell 0; have d1 : w7.cell? ⟨gZ, 1, none⟩ = some (Value.int .i64 0) := hzx.cell 1; have d2 : w7.cell? ⟨gZ, 2, none⟩ = some (Value.int .i64 0) := hzx.cell 2; have d3 : w7.cell? ⟨gZ, 3, none⟩ = some (Value.int .i64 0) := hzx.cell 3; have d4 : w7.cell? ⟨gZ, 4, none⟩ = some (Value.int .i64 0) := hzx.cell 4; have d5 : w7.cell? ⟨gZ, 5, none⟩ = some (Value.int .i64 0) := hzx.cell 5; have d6 : w7.cell? ⟨gZ, 6, none⟩ = some (.string ⟨#[]⟩) := hzx.cell 6; have d7 : w7.cell? ⟨gZ, 7, none⟩ = some (.string ⟨#[]⟩) := hzx.cell 7; have d8 : w7.cell? ⟨gZ, 8, none⟩ = some (.slice none 0 0) := hzx.cell 8; have fz : ∀ k, w7.frozen? ⟨gZ, k, none⟩ = false := (fun k => hzx.free k); clear hzx; obtain ⟨c0, c1, c2, c3, c4, c5, c6, c7, c8⟩ := cells9 HCX7.out))
      obtain ⟨w6, hw6, hc6, hb6, hk6⟩ := fill9k (w0 := w) HZX.out HBX.out (Nat.le_of_eq HGZ.out) (.int .i64 0) (.int .i64 0) (.int .i64 0) (.int .i64 0) (.int .i64 0) (.int .i64 0) (.string ⟨#[]⟩) (.string ⟨#[]⟩) (.slice none 0 0)
      rw [hw6]
      clear hw6 d0 d1 d2 d3 d4 d5 d6 d7 d8 fz c0 c1 c2 c3 c4 c5 c6 c7 c8
      obtain ⟨d0, d1, d2, d3, d4, d5, d6, d7, d8⟩ := cells9 (e := zE) hc6
      refine bodyPost_ret (v := .tuple #[Eff.val zE, .int .i64 0, .int .i64 0, .int .i64 74]) (by simp [results, Try.results10, go_sem, Eff.val, zE, d0, d1, d2, d3, d4, d5, d6, d7, d8]) rfl ?_
      exact ⟨hb6, .inr ⟨HNO.out, rfl⟩⟩
end Go.Proofs.Ytcimmfhbffofjaa
