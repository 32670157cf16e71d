import Derived.Test.YtcimmfhbffofjaaRcDs
import Derived.Test.YtcimmfhbffofjaaRcAw
namespace Go.Proofs.Ytcimmfhbffofjaa
open Wd U Go.ChangeShapes Go.WideShapes Go.RowKit Go.Sort
set_option linter.unusedVariables false
set_option linter.unusedSimpArgs false

/-! RecordBack -/
theorem check_empty' {e : Eff} (h : e.check = true) (h7 : e.kind ≠ 7) : e.data = [] := by
  have h1 := (Bool.and_eq_true_iff.1 h).1
  unfold Eff.mayBe at h1
  simp only [h7, if_false] at h1
  apply List.eq_nil_of_length_eq_zero
  split at h1
  · simp [Eff.noData] at h1; simp [h1]
  · split at h1
    · simp [Eff.noData] at h1; simp [h1]
    · split at h1
      · simp [Eff.noData] at h1; simp [h1]
      · split at h1
        · simp [Eff.noData] at h1; simp [h1]
        · split at h1
          · simp [Eff.noData] at h1; simp [h1]
          · cases h1
theorem check_write' {e : Eff} (h : e.check = true) (h7 : e.kind = 7) : e.data.length = 256 := by
  have h1 := (Bool.and_eq_true_iff.1 h).1
  unfold Eff.mayBe at h1
  simp [h7] at h1
  exact h1.1.1.1.1.2
theorem rec_check (e : Eff) {ref : Int} (h1 : 1 ≤ ref) (h2 : ref ≤ 1048576) : (e.kind = 7 → recB e ref = e.check) ∧ (e.kind ≠ 7 → recB e 0 = e.check) := by
  refine ⟨fun h => ?_, fun h => ?_⟩
  · rw [recB_is]
    unfold mrB
    simp [h]
    intro _
    right
    exact ⟨by omega, h2⟩
  · rw [recB_is]
    unfold mrB
    simp
theorem allW_le {ps : List (Eff × Int)} (hp : ∀ p ∈ ps, goodP p) : (allW ps).length ≤ 17 * ps.length := by
  induction ps with
  | nil => exact Nat.zero_le _
  | cons p ps ih =>
    rw [allW_cons, List.length_append, recW_len]
    have := manyR_le (check_in (recB_parts (hp p (List.mem_cons_self)).1).1)
    have := ih (fun x hx => hp x (List.mem_cons_of_mem _ hx))
    simp only [List.length_cons]
    omega
theorem allW_small {ps : List (Eff × Int)} (hp : ∀ p ∈ ps, goodP p) : Small (allW ps) := by
  induction ps with
  | nil => intro x hx; cases hx
  | cons p ps ih =>
    rw [allW_cons]
    exact (rec_small (hp p (List.mem_cons_self)).1).append (ih (fun x hx => hp x (List.mem_cons_of_mem _ hx)))
/-- a word less is none's -/
theorem less_no {ps : List (Eff × Int)} (hp : ∀ p ∈ ps, goodP p) (h0 : ps ≠ []) {l : List Nat} {y : Nat} (h : allW ps = l ++ [y]) : ∀ qs : List (Eff × Int), (∀ p ∈ qs, goodP p) → l ≠ allW qs := by
  intro qs hq he
  obtain ⟨rs, hr, h2⟩ := all_strip (ps := qs) (qs := ps) (rest := [y]) hq hp (by rw [h, he])
  cases rs with
  | nil => cases h2
  | cons r rs =>
    rw [allW_cons] at h2
    have h3 := congrArg List.length h2
    rw [List.length_append, recW_len] at h3
    have := manyR_le (check_in (recB_parts (hr r (List.mem_cons_self)).1).1)
    simp at h3
    omega
theorem word_ne {w : World} {B n g : Nat} {A : Option Addr} {l : List Nat} {e : Eff} (hc : Cells w g 24 (effCells e)) (h : Row w B A n (l.map wd)) : ∀ b off, A = some ⟨b, off, none⟩ → 0 < n → b ≠ g := by
  intro b off e1 hn heq
  obtain ⟨b', off', e2, _, hx⟩ := h.2 hn
  rw [e1] at e2
  cases e2
  have hl := h.1
  have h0 := hx 0 (by omega)
  rw [Nat.add_zero, heq, hc.cell off] at h0
  obtain ⟨y, hy⟩ : ∃ y : Nat, (l.map wd)[0]'(by omega) = wd y := ⟨_, by rw [List.getElem_map]⟩
  rw [hy] at h0
  unfold effCells wd at h0
  match off with
  | 0 => simp at h0
  | 1 => simp at h0
  | 2 => simp at h0
  | 3 => simp at h0
  | 4 => simp at h0
  | 5 => simp at h0
  | 6 => simp at h0
  | 7 => simp at h0
  | 8 => simp at h0
  | k + 9 => simp at h0
theorem own_row1 {w : World} {base n : Nat} {e : TypeId} {v : Value} {xs : List Value} (h : w.ownsRow base e 1 v n xs) : ∃ A c, v = .slice A n c ∧ n ≤ c ∧ c ≤ maxLen ∧ Row w w.heap.size A n xs := by
  obtain ⟨A, c, rfl, hr⟩ := Row.of_own h
  refine ⟨A, c, rfl, ?_, ?_, hr⟩
  · rcases h.2 with ⟨e1, h0⟩ | ⟨g, cap, cur, e1, _, _, hc, _⟩
    · omega
    · injection e1 with _ e2 e3; omega
  · rcases h.2 with ⟨e1, h0⟩ | ⟨g, cap, cur, e1, _, _, _, hc, _⟩
    · injection e1 with _ e2 e3; rw [e3]; exact Nat.zero_le _
    · injection e1 with _ e2 e3; rw [e3]; exact hc
theorem eff0_of_own {w : World} {base : Nat} {g c : Nat} {p : Eff × Int} {ps : List (Eff × Int)} (h : w.ownsRow base 24 9 (.slice (some ⟨g, 0, none⟩) (p :: ps).length c) (p :: ps).length (effVals (p :: ps))) : g < w.heap.size ∧ ∀ (k : Nat) (x : Value), p.1.vals[k]? = some x → w.cell? ⟨g, k, none⟩ = some x := by
  rcases h.2 with ⟨e1, h0⟩ | ⟨g', cap, cur, e1, _, hh, hc, hm, _, ht⟩
  · cases e1
  · injection e1 with e2 _ _
    obtain rfl : g = g' := by simpa using e2
    refine ⟨lt_of_block hh, fun k x hk => ?_⟩
    have hx := effVals_at (p :: ps) 0 k p x rfl hk
    rw [← ht] at hx
    rw [cell_of_row w g _ cur _ (0, 0) hh, ← Array.getElem?_toList]
    rw [List.getElem?_take] at hx
    split at hx
    · simpa using hx
    · cases hx
theorem allv_less {ps qs : List (Eff × Int)} {l : List Nat} {y : Nat} {e : Int} (hp : ∀ p ∈ ps, goodP p) (h0 : ps ≠ []) (h : allW ps = l ++ [y]) (hv : AllV l qs e) : e = 74 := by
  rcases hv with ⟨v1, v2, _⟩ | ⟨_, _, rfl⟩
  · exact absurd v2 (less_no hp h0 h _ v1)
  · rfl
theorem sameB_flip {a b : Eff} (h : sameB a b = true) : sameB b a = true := by
  unfold sameB at h ⊢
  simp only [Bool.and_eq_true, decide_eq_true_eq, beq_iff_eq] at h ⊢
  obtain ⟨⟨⟨⟨⟨⟨⟨⟨h1, h2⟩, h3⟩, h4⟩, h5⟩, h6⟩, h7⟩, h8⟩, h9⟩ := h
  exact ⟨⟨⟨⟨⟨⟨⟨⟨h1.symm, h2.symm⟩, h3.symm⟩, h4.symm⟩, h5.symm⟩, h6.symm⟩, h7.symm⟩, h8.symm⟩, h9.symm⟩
def BackRel (w : World) (n : Nat) (k : Nat) (v7 v8 i : Value) (wr : World) : Prop :=
  ∃ (j : Nat) (ps : List (Eff × Int)), j ≤ n ∧ k = n - j ∧ i = .int .i64 (j : Int) ∧ (∀ p ∈ ps, goodP p) ∧ ps.length ≤ j ∧ wr.ownsRow w.heap.size 61 1 v7 (allW ps).length ((allW ps).map wd) ∧
    wr.ownsRow w.heap.size 24 9 v8 ps.length (effVals ps) ∧ (∀ p ∈ ps, p.1.Ok wr wr.heap.size ∧ p.1.Ty wr) ∧ Below w.heap.size w wr
set_option maxRecDepth 100000 in
set_option maxHeartbeats 8000000 in
theorem back_walk {w : World} (l : List Eff) (A : Option Addr) (c : Nat) (ref : Int) (more : List Nat) (D : Option Addr) (d : Nat) (hx : Effs w w.heap.size A l) (hlm : l.length ≤ maxLen) (hs : Small more) (hd : more.length ≤ d) (hdm : d ≤ maxLen) (hr : Row w w.heap.size D more.length (more.map wd)) :
    Calls Try.prog 4 #[.slice A l.length c, .int .i64 ref, .slice D more.length d] w (TrueB w) := by
  have hfol : Try.prog.follows Departure.mixedOrders = true := by kernel_rfl
  have HX := Lib.hid hx; have HS := Lib.hid hs; have HR := Lib.hid hr; have HDM := Lib.hid hdm
  obtain ⟨n, hn⟩ : ∃ n, l.length = n := ⟨_, rfl⟩
  obtain ⟨m, hm⟩ : ∃ m, more.length = m := ⟨_, rfl⟩
  have HN := Lib.hid hn; have HM := Lib.hid hm
  rw [hm] at hd HR
  have KF := Lib.hid (fun w hx => few_any (w := w) (A := A) (c := c) (l := l) hx hlm)
  rw [hn] at hlm KF
  have hmm : m ≤ 9223372036854775807 := by have := Nat.le_trans hd hdm; unfold maxLen at this; omega
  have hnn : n ≤ 9223372036854775807 := by unfold maxLen at hlm; omega
  rw [hn, hm]
  clear hx hs hr hdm hn hm
  go_enter Try.func4, Try.ntmps4
  go_wp2_with fail
  refine (recAwake_true _).mono ?_
  rintro e' w1 ⟨rfl, b1⟩
  have HB1 := Lib.hid b1
  clear b1
  go_wp2_with fail
  refine (KF.out _ ((HX.out.below HB1.out).more HB1.out.size)).mono ?_
  rintro e' w2 ⟨rfl, b2⟩
  have HB2 := Lib.hid (HB1.out.trans (b2.mono HB1.out.size))
  clear b2
  cases hf : fewE l
  · clear hf
    go_wp2
    go_ret
    exact ⟨rfl, HB2.out⟩
  · have HF := Lib.hid (fewE_iff.1 hf)
    have hn30 : n ≤ 30 := by have := (fewE_iff.1 hf).2; rw [HN.out] at this; exact this
    clear hf
    by_cases h60 : 60 < m
    · have q1 : decide ((m : Int) > 60) = true := decide_eq_true (by omega)
      clear h60
      go_wp2
      go_ret
      exact ⟨rfl, HB2.out⟩
    · have q1 : decide ((m : Int) > 60) = false := decide_eq_false (by omega)
      by_cases h1 : ref < 1
      · have q2 : decide (ref < 1) = true := decide_eq_true h1
        clear h60 h1
        go_wp2
        go_ret
        exact ⟨rfl, HB2.out⟩
      · have q2 : decide (ref < 1) = false := decide_eq_false h1
        by_cases h20 : 1048576 < ref
        · have q3 : decide (ref > 1048576) = true := decide_eq_true h20
          clear h60 h1 h20
          go_wp2
          go_ret
          exact ⟨rfl, HB2.out⟩
        · have q3 : decide (ref > 1048576) = false := decide_eq_false h20
          have hm60 : m ≤ 60 := by omega
          have HREF := Lib.hid (show 1 ≤ ref ∧ ref ≤ 1048576 from by omega)
          have HRC := Lib.hid (fun e : Eff => rec_check e (ref := ref) (by omega) (by omega))
          clear h60 h1 h20
          go_wp2
          go_loopg [7, 8, 44] n (fun k v7 v8 i wr => BackRel w n k v7 v8 i wr)
          case atStart => exact ⟨0, [], by omega, by omega, rfl, (fun p hp => by cases hp), Nat.le_refl _, ⟨rfl, .inl ⟨rfl, rfl⟩⟩, ⟨rfl, .inl ⟨rfl, rfl⟩⟩, (fun p hp => by cases hp), HB2.out⟩
          case round =>
            obtain ⟨j, ps, hj, rfl, rfl, hps, hpj, ho7, ho8, hok, hb⟩ := hrel
            have HPS := Lib.hid hps; have HO7 := Lib.hid ho7; have HO8 := Lib.hid ho8; have HOK := Lib.hid hok; have HB := Lib.hid hb
            have hsr := hb.size
            have hal := allW_le hps
            clear hps ho7 ho8 hok
            by_cases hlt : j < n
            · obtain ⟨e, he⟩ : ∃ e, l[j]? = some e := ⟨_, List.getElem?_eq_getElem (by rw [HN.out]; exact hlt)⟩
              obtain ⟨b, off, rfl, hbl, x0, x1, x2, x3, x4, x5, x6, x7, x8⟩ := effs_cells (HX.out.below hb) he
              have OE := Lib.hid ((HX.out.ok e (List.mem_of_getElem? he)).at_ hb)
              have FE := Lib.hid (HF.out.1 e (List.mem_of_getElem? he))
              have hjl : (j : Int) < (n : Int) := by omega
              have HCE := Lib.hid (Cells.new wr 24 (effCells e))
              have HB3 := Lib.hid ((Below.refl wr.heap.size wr).alloc (Nat.le_refl _) (.cells (effCells e) 24))
              have HRE := Lib.hid (HRC.out e)
              clear he hbl hb
              go_upto_region 10 with fail
              obtain ⟨w3, hw3⟩ : ∃ w3, wr.alloc (.cells (effCells e) 24) = w3 := ⟨_, rfl⟩
              rw [hw3] at HCE HB3
              unfold effCells at hw3
              rw [hw3]
              clear hw3 x0 x1 x2 x3 x4 x5 x6 x7 x8
              obtain ⟨gE, hgE⟩ : ∃ gE, wr.heap.size = gE := ⟨_, rfl⟩
              have HGE := Lib.hid hgE
              rw [hgE] at HCE ⊢
              clear hgE
              have OE3 := Lib.hid (OE.out.at_ HB3.out)
              obtain ⟨c0, c1, c2, c3, c4, c5, c6, c7, c8⟩ := cells9 HCE.out
              have KC := Lib.hid (fun w ok => eCheck e w ok FE.out)
              have KN := Lib.hid (fun w ok => rNeed e w ok FE.out)
              by_cases h7 : e.kind = 7
              · have q7 : (e.kind == 7) = true := by simpa using h7
                have H7 := Lib.hid h7
                have hrec := HRE.out.1 h7
                have KP := Lib.hid (fun w ok => rPut e ref w ok FE.out)
                unfold PutR putL at KP
                rw [hrec] at KP
                have HREC := Lib.hid hrec
                unfold Eff.val at KP KC KN
                clear h7 hrec
                cases hck : e.check
                · have hnb : needB e = 0 := by unfold needB; rw [hck]; rfl
                  rw [hck] at KP
                  rw [hck, show errB false 92 = 92 from rfl] at KC
                  rw [show errB false 92 = 92 from rfl] at KP
                  rw [hnb] at KN
                  clear hck hnb
                  go_wp2_with (first
                    | (go_at_call 8; (with_reducible refine (KP.out _ (OE3.out)).mono ?_); rintro e' w4 ⟨b4, A4, k4, rfl, r4, l4⟩; rw [show (if false = true then recW e ref else []) = [] from rfl]; rw [show (if false = true then recW e ref else []) = [] from rfl] at r4; clear c0 c1 c2 c3 c4 c5 c6 c7 c8; have HB4 := Lib.hid (HB3.out.trans (b4.mono HB3.out.size)); have HCE4 := Lib.hid (HCE.out.below' b4); have OE4 := Lib.hid (OE3.out.at_ b4); obtain ⟨c0, c1, c2, c3, c4, c5, c6, c7, c8⟩ := cells9 HCE4.out; clear b4 r4 l4)
                    | (go_at_call 18; (with_reducible refine (KC.out _ OE4.out).mono ?_); rintro e' w5 h5; obtain ⟨rfl, b5⟩ := h5.below; clear c0 c1 c2 c3 c4 c5 c6 c7 c8; have HB5 := Lib.hid (HB4.out.trans (b5.mono HB4.out.size)); have HCE5 := Lib.hid (HCE4.out.below' b5); have OE5 := Lib.hid (OE4.out.at_ b5); obtain ⟨c0, c1, c2, c3, c4, c5, c6, c7, c8⟩ := cells9 HCE5.out; clear h5 b5)
                    | (go_at_call 19; (with_reducible refine (KN.out _ OE5.out).mono ?_); rintro e' w6 h6; obtain ⟨rfl, b6⟩ := h6.below; clear c0 c1 c2 c3 c4 c5 c6 c7 c8; have HB6 := Lib.hid (HB5.out.trans (b6.mono HB5.out.size)); clear h6 b6))
                  go_roundg (n - (j + 1))
                  case measure => omega
                  case rel =>
                    exact ⟨j + 1, ps, by omega, rfl, by go_num, HPS.out, by omega, own_below HO7.out HB6.out, own_below HO8.out HB6.out, (fun p hp => ⟨(HOK.out p hp).1.at_ HB6.out, (HOK.out p hp).2.below HB6.out⟩), HB.out.trans (HB6.out.mono HB.out.size)⟩
                · have hrt : recB e ref = true := by rw [HREC.out, hck]
                  have hm1 := manyR_le (check_in hck)
                  obtain ⟨mr, hmr⟩ : ∃ k, manyR e = k := ⟨_, rfl⟩
                  have HMR := Lib.hid hmr
                  have hnb : needB e = (mr : Int) := by unfold needB; rw [hck, ← hmr]; rfl
                  have HRL := Lib.hid ((recW_len e ref).trans hmr)
                  have HRT := Lib.hid hrt; have HCK := Lib.hid hck
                  rw [hck, show errB true 92 = 0 from rfl] at KP
                  rw [hnb] at KN
                  rw [hmr] at hm1
                  clear hck hnb hrt hmr
                  go_upto_region 20 with (first
                    | (go_at_call 8; (with_reducible refine (KP.out _ (OE3.out)).mono ?_); rintro e' w4 ⟨b4, A4, k4, rfl, r4, l4⟩; rw [show (if true = true then recW e ref else []) = recW e ref from rfl, HRL.out]; rw [show (if true = true then recW e ref else []) = recW e ref from rfl, HRL.out] at r4; have HR4 := Lib.hid r4; clear c0 c1 c2 c3 c4 c5 c6 c7 c8; have HB4 := Lib.hid (HB3.out.trans (b4.mono HB3.out.size)); have HCE4 := Lib.hid (HCE.out.below' b4); have OE4 := Lib.hid (OE3.out.at_ b4); obtain ⟨c0, c1, c2, c3, c4, c5, c6, c7, c8⟩ := cells9 HCE4.out; clear b4 r4 l4)
                    | (go_at_call 19; (with_reducible refine (KN.out _ OE4.out).mono ?_); rintro e' w6 h6; obtain ⟨rfl, b6⟩ := h6.below; clear c0 c1 c2 c3 c4 c5 c6 c7 c8; have HB6 := Lib.hid (HB4.out.trans (b6.mono HB4.out.size)); have HCE6 := Lib.hid (HCE4.out.below' b6); have OE6 := Lib.hid (OE4.out.at_ b6); have HR6 := Lib.hid ((HR4.out.below b6).more b6.size); obtain ⟨c0, c1, c2, c3, c4, c5, c6, c7, c8⟩ := cells9 HCE6.out; clear h6 b6))
                  have hmk : ∀ W : World, (Instr.makeSlice 22 (.int .i64 256) (.int .i64 256)).run Try.prog W = .ok (.slice (some ⟨W.heap.size, 0, none⟩) 256 256) (W.alloc (.cells (Array.replicate 256 (Value.int .u8 0)) 5)) := fun W => by
                    have h := make_row (P := Try.prog) 22 5 (.int .u8 0) 1 Try.underlying22 infoU8 rfl 256 (by omega) (by omega) W
                    rw [List.toArray_replicate] at h
                    exact h
                  have hal6 := HCE6.out.alloc (.cells (Array.replicate 256 (Value.int .u8 0)) 5)
                  have g8 : (w6.alloc (.cells (Array.replicate 256 (Value.int .u8 0)) 5)).cell? ⟨gE, 8, none⟩ = some (.slice e.A e.data.length e.cp) := hal6.cell 8
                  have gf : (w6.alloc (.cells (Array.replicate 256 (Value.int .u8 0)) 5)).frozen? ⟨gE, 8, none⟩ = false := hal6.free 8
                  have HAL6 := Lib.hid hal6
                  clear hal6
                  go_upto_region 21 with fail
                  have hlt6 := HCE6.out.lt
                  have hdt := (Cells.new w6 5 (Array.replicate 256 (Value.int .u8 0))).far (p := ⟨gE, 8, none⟩) (by simp; omega) (.slice (some ⟨w6.heap.size, 0, none⟩) 256 256)
                  have hst : Cells ((w6.alloc (.cells (Array.replicate 256 (Value.int .u8 0)) 5)).setCell ⟨gE, 8, none⟩ (.slice (some ⟨w6.heap.size, 0, none⟩) 256 256)) gE 24 (effCells ⟨e.kind, e.ino, e.dir, e.dst, e.page, e.size, e.name, e.other, some ⟨w6.heap.size, 0, none⟩, 256, List.replicate 256 0⟩) := by
                    have := HAL6.out.set 8 (.slice (some ⟨w6.heap.size, 0, none⟩) 256 256)
                    unfold effCells at this ⊢
                    simpa using this
                  have hb7 := (HB6.out.alloc HB6.out.size (.cells (Array.replicate 256 (Value.int .u8 0)) 5)).setCell (p := ⟨gE, 8, none⟩) (Nat.le_of_eq HGE.out) (.slice (some ⟨w6.heap.size, 0, none⟩) 256 256)
                  have hr7 := row_store (i := 8) (u := (.slice (some ⟨w6.heap.size, 0, none⟩) 256 256)) ((HR6.out.below ((Below.refl w6.heap.size w6).alloc (Nat.le_refl _) (.cells (Array.replicate 256 (Value.int .u8 0)) 5))).more (Nat.le_succ _)) (word_ne HAL6.out (HR6.out.below ((Below.refl w6.heap.size w6).alloc (Nat.le_refl _) (.cells (Array.replicate 256 (Value.int .u8 0)) 5))))
                  obtain ⟨x, hx⟩ : ∃ x : Eff, (⟨e.kind, e.ino, e.dir, e.dst, e.page, e.size, e.name, e.other, some ⟨w6.heap.size, 0, none⟩, 256, List.replicate 256 0⟩ : Eff) = x := ⟨_, rfl⟩
                  have hcore : core x = core e := by rw [← hx]; rfl
                  have hdl : x.data.length = e.data.length := by rw [← hx, check_write' HCK.out H7.out]; show (List.replicate 256 0).length = 256; rw [List.length_replicate]
                  have hzer : x.data = zer x.kind := by rw [← hx]; show List.replicate 256 0 = zer e.kind; unfold zer; rw [if_pos H7.out]
                  have OE6' := OE6.out
                  obtain ⟨w7, hw7⟩ : ∃ w7, (w6.alloc (.cells (Array.replicate 256 (Value.int .u8 0)) 5)).setCell ⟨gE, 8, none⟩ (.slice (some ⟨w6.heap.size, 0, none⟩) 256 256) = w7 := ⟨_, rfl⟩
                  have hok7 : x.Ok w7 w7.heap.size := by
                    rw [← hx, ← hw7]
                    have hrow := Row.of_cells (B := ((w6.alloc (.cells (Array.replicate 256 (Value.int .u8 0)) 5)).setCell ⟨gE, 8, none⟩ (.slice (some ⟨w6.heap.size, 0, none⟩) 256 256)).heap.size) hdt hdt.lt
                    exact ⟨OE6'.kind, OE6'.ino, OE6'.dir, OE6'.dst, OE6'.page, OE6'.size, OE6'.name, OE6'.other, (fun y hy => by rw [List.eq_of_mem_replicate hy]; decide), by simpa [bt] using hrow, by show 256 ≤ maxLen; decide, Nat.le_refl _⟩
                  have hty7 : x.Ty w7 := by
                    rw [← hx, ← hw7]
                    exact fun b off e' _ => by cases e'; exact ⟨_, hdt⟩
                  have hs7 : w6.heap.size + 1 = w7.heap.size := by rw [← hw7]; simp
                  rw [hx, hw7] at hst
                  rw [hw7] at hb7 hr7 ⊢
                  have hr7 : Row w7 w7.heap.size A4 mr ((recW e ref).map wd) := hr7.more (by omega)
                  clear hx hw7 hdt g8 gf hmk OE6' hlt6 c0 c1 c2 c3 c4 c5 c6 c7 c8 hs7
                  have hgp : goodP (x, ref) := ⟨by show recB x ref = true; rw [recB_core hcore hdl]; exact HRT.out, hzer⟩
                  have hrw : recW e ref = recW x ref := (recW_core _ hcore).symm
                  rw [hrw] at hr7
                  have hrl : (recW x ref).length = mr := by rw [← hrw]; exact HRL.out
                  have HCX := Lib.hid hst; have HB7 := Lib.hid hb7; have HR7 := Lib.hid hr7; have OX := Lib.hid hok7; have TX := Lib.hid hty7; have HGP := Lib.hid hgp; have HRX := Lib.hid hrl
                  have hs7 := HB.out.size
                  have hs77 := hb7.size
                  have HO77 := Lib.hid (own_below HO7.out hb7); have HO88 := Lib.hid (own_below HO8.out hb7)
                  have HOK7 := Lib.hid (fun p hp => (⟨(HOK.out p hp).1.at_ hb7, (HOK.out p hp).2.below hb7⟩ : p.1.Ok w7 w7.heap.size ∧ p.1.Ty w7))
                  obtain ⟨a, ha⟩ : ∃ a, (allW ps).length = a := ⟨_, rfl⟩
                  obtain ⟨N, hN⟩ : ∃ N, ps.length = N := ⟨_, rfl⟩
                  have HA := Lib.hid ha; have HNN := Lib.hid hN
                  rw [ha] at HO77 hal
                  rw [hN] at HO88 hal hpj
                  obtain ⟨ie, i1, i2, i3, i4⟩ := info_parts infoEff
                  have I1 := Lib.hid i1; have I2 := Lib.hid i2; have I3 := Lib.hid i3; have I4 := Lib.hid i4
                  clear i1 i2 i3 i4 hst hb7 hr7 hok7 hty7 hgp hrl hrw hcore hdl hzer ha hN KP KC KN q7
                  obtain ⟨c0, c1, c2, c3, c4, c5, c6, c7, c8⟩ := cells9 HCX.out
                  go_wp2_with (first
                    | (at_builtin; refine wpList_append_row _ rfl (.tmp 88) (.tmp 89) 25 rfl w.heap.size 61 (.int .u64 0) 8 Try.underlying25 infoU64' rfl u7 a ((allW ps).map wd) rfl HO77.out _ A4 mr k4 ((recW x ref).map wd) rfl HR7.out (oneW _) (by unfold maxLen; omega) (by omega) (by omega) ?_; intro v9 w8 hown9 hgr9 hat9; have hk9 := keep_own HO77.out hgr9; have hs9 := hgr9.size; have HO9 := Lib.hid hown9; have HO98 := Lib.hid (hk9.own HO88.out (by decide)); have HCX8 := Lib.hid (hk9 _ _ _ (by decide) HCX.out); have OX8 := Lib.hid (hk9.ok OX.out TX.out (by decide) hs9); have TX8 := Lib.hid (hk9.ty TX.out (by decide)); have HOK8 := Lib.hid (fun p hp => (⟨hk9.ok (HOK7.out p hp).1 (HOK7.out p hp).2 (by decide) hs9, hk9.ty (HOK7.out p hp).2 (by decide)⟩ : p.1.Ok w8 w8.heap.size ∧ p.1.Ty w8)); have HB8 := Lib.hid ((HB.out.trans (HB7.out.mono hs7)).grown hgr9 (Nat.le_trans hs7 hs77) (own_base HO77.out)); clear hown9 hgr9 hat9 hk9 hs9 c0 c1 c2 c3 c4 c5 c6 c7 c8; obtain ⟨c0, c1, c2, c3, c4, c5, c6, c7, c8⟩ := cells9 HCX8.out)
                    | (at_builtin; refine wpList_append_own_at _ rfl (.tmp 91) (.tmp 93) 28 rfl w.heap.size 24 ie zE.val 9 104 Try.underlying28 I1.out I2.out I3.out I4.out rfl (by decide) u8 N (effVals ps) rfl (own_below HO98.out ((Below.refl _ _).alloc (Nat.le_refl _) _)) ⟨w8.heap.size, 0, none⟩ 1 1 x.vals rfl rfl (cells_of_eff (Cells.new w8 24 (effCells x))) (oneE x) (by unfold maxLen; omega) (by omega) (by have := HB8.out.size; simp; omega) ?_; intro v10 w9 hown10 hgr10 _ hat10; have hb9 : Below w8.heap.size w8 (w8.alloc (.cells (effCells x) 24)) := (Below.refl _ _).alloc (Nat.le_refl _) _; have hk10 := keep_own (own_below HO98.out hb9) hgr10; have hs10 := hgr10.size; have HO10 := Lib.hid hown10; have HO109 := Lib.hid (hk10.own (own_below HO9.out hb9) (by decide)); have OX9 := Lib.hid (hk10.ok (OX8.out.at_ hb9) (TX8.out.below hb9) (by decide) hs10); have TX9 := Lib.hid (hk10.ty (TX8.out.below hb9) (by decide)); have HOK9 := Lib.hid (fun p hp => (⟨hk10.ok ((HOK8.out p hp).1.at_ hb9) ((HOK8.out p hp).2.below hb9) (by decide) hs10, hk10.ty ((HOK8.out p hp).2.below hb9) (by decide)⟩ : p.1.Ok w9 w9.heap.size ∧ p.1.Ty w9)); have HB9 := Lib.hid ((HB8.out.trans (hb9.mono HB8.out.size)).grown hgr10 (Nat.le_trans HB8.out.size hb9.size) (own_base HO98.out)); clear hown10 hgr10 hat10 hk10 hb9 hs10))
                  go_roundg (n - (j + 1))
                  case measure => omega
                  case rel =>
                    refine ⟨j + 1, ps ++ [(x, ref)], by omega, rfl, by go_num, fun p hp => ?_, ?_, ?_, ?_, fun p hp => ?_, HB9.out⟩
                    · rcases List.mem_append.1 hp with hp | hp
                      · exact HPS.out p hp
                      · rw [List.mem_singleton] at hp; subst hp; exact HGP.out
                    · rw [List.length_append, HNN.out]; show N + 1 ≤ j + 1; omega
                    · rw [allW_snoc, List.length_append, List.map_append, HA.out, HRX.out]; exact HO109.out
                    · rw [List.length_append, HNN.out, effVals_snoc]; exact HO10.out
                    · rcases List.mem_append.1 hp with hp | hp
                      · exact HOK9.out p hp
                      · rw [List.mem_singleton] at hp; subst hp; exact ⟨OX9.out, TX9.out⟩
              · have q7 : (e.kind == 7) = false := by simpa using h7
                have H7 := Lib.hid h7
                have hrec := HRE.out.2 h7
                have KP := Lib.hid (fun w ok => rPut e 0 w ok FE.out)
                unfold PutR putL at KP
                rw [hrec] at KP
                have HREC := Lib.hid hrec
                unfold Eff.val at KP KC KN
                clear h7 hrec
                cases hck : e.check
                · have hnb : needB e = 0 := by unfold needB; rw [hck]; rfl
                  rw [hck] at KP
                  rw [hck, show errB false 92 = 92 from rfl] at KC
                  rw [show errB false 92 = 92 from rfl] at KP
                  rw [hnb] at KN
                  clear hck hnb
                  go_wp2_with (first
                    | (go_at_call 8; (with_reducible refine (KP.out _ (OE3.out)).mono ?_); rintro e' w4 ⟨b4, A4, k4, rfl, r4, l4⟩; rw [show (if false = true then recW e 0 else []) = [] from rfl]; rw [show (if false = true then recW e 0 else []) = [] from rfl] at r4; clear c0 c1 c2 c3 c4 c5 c6 c7 c8; have HB4 := Lib.hid (HB3.out.trans (b4.mono HB3.out.size)); have HCE4 := Lib.hid (HCE.out.below' b4); have OE4 := Lib.hid (OE3.out.at_ b4); obtain ⟨c0, c1, c2, c3, c4, c5, c6, c7, c8⟩ := cells9 HCE4.out; clear b4 r4 l4)
                    | (go_at_call 18; (with_reducible refine (KC.out _ OE4.out).mono ?_); rintro e' w5 h5; obtain ⟨rfl, b5⟩ := h5.below; clear c0 c1 c2 c3 c4 c5 c6 c7 c8; have HB5 := Lib.hid (HB4.out.trans (b5.mono HB4.out.size)); have HCE5 := Lib.hid (HCE4.out.below' b5); have OE5 := Lib.hid (OE4.out.at_ b5); obtain ⟨c0, c1, c2, c3, c4, c5, c6, c7, c8⟩ := cells9 HCE5.out; clear h5 b5)
                    | (go_at_call 19; (with_reducible refine (KN.out _ OE5.out).mono ?_); rintro e' w6 h6; obtain ⟨rfl, b6⟩ := h6.below; clear c0 c1 c2 c3 c4 c5 c6 c7 c8; have HB6 := Lib.hid (HB5.out.trans (b6.mono HB5.out.size)); clear h6 b6))
                  go_roundg (n - (j + 1))
                  case measure => omega
                  case rel =>
                    exact ⟨j + 1, ps, by omega, rfl, by go_num, HPS.out, by omega, own_below HO7.out HB6.out, own_below HO8.out HB6.out, (fun p hp => ⟨(HOK.out p hp).1.at_ HB6.out, (HOK.out p hp).2.below HB6.out⟩), HB.out.trans (HB6.out.mono HB.out.size)⟩
                · have hrt : recB e 0 = true := by rw [HREC.out, hck]
                  have hm1 := manyR_le (check_in hck)
                  obtain ⟨mr, hmr⟩ : ∃ k, manyR e = k := ⟨_, rfl⟩
                  have HMR := Lib.hid hmr
                  have hnb : needB e = (mr : Int) := by unfold needB; rw [hck, ← hmr]; rfl
                  have HRL := Lib.hid ((recW_len e 0).trans hmr)
                  have HRT := Lib.hid hrt; have HCK := Lib.hid hck
                  rw [hck, show errB true 92 = 0 from rfl] at KP
                  rw [hnb] at KN
                  rw [hmr] at hm1
                  clear hck hnb hrt hmr
                  go_upto_region 21 with (first
                    | (go_at_call 8; (with_reducible refine (KP.out _ (OE3.out)).mono ?_); rintro e' w4 ⟨b4, A4, k4, rfl, r4, l4⟩; rw [show (if true = true then recW e 0 else []) = recW e 0 from rfl, HRL.out]; rw [show (if true = true then recW e 0 else []) = recW e 0 from rfl, HRL.out] at r4; have HR4 := Lib.hid r4; clear c0 c1 c2 c3 c4 c5 c6 c7 c8; have HB4 := Lib.hid (HB3.out.trans (b4.mono HB3.out.size)); have HCE4 := Lib.hid (HCE.out.below' b4); have OE4 := Lib.hid (OE3.out.at_ b4); obtain ⟨c0, c1, c2, c3, c4, c5, c6, c7, c8⟩ := cells9 HCE4.out; clear b4 r4 l4)
                    | (go_at_call 19; (with_reducible refine (KN.out _ OE4.out).mono ?_); rintro e' w6 h6; obtain ⟨rfl, b6⟩ := h6.below; clear c0 c1 c2 c3 c4 c5 c6 c7 c8; have HB6 := Lib.hid (HB4.out.trans (b6.mono HB4.out.size)); have HCE6 := Lib.hid (HCE4.out.below' b6); have OE6 := Lib.hid (OE4.out.at_ b6); have HR6 := Lib.hid ((HR4.out.below b6).more b6.size); obtain ⟨c0, c1, c2, c3, c4, c5, c6, c7, c8⟩ := cells9 HCE6.out; clear h6 b6))
                  obtain ⟨x, hx⟩ : ∃ x : Eff, e = x := ⟨_, rfl⟩
                  have hnil : e.data = [] := check_empty' HCK.out H7.out
                  have hcore : core x = core e := by rw [← hx]
                  have hdl : x.data.length = e.data.length := by rw [← hx]
                  have hzer : x.data = zer x.kind := by rw [← hx, hnil]; unfold zer; rw [if_neg H7.out]
                  obtain ⟨w7, hw7⟩ : ∃ w7, w6 = w7 := ⟨_, rfl⟩
                  have hok7 : x.Ok w7 w7.heap.size := by rw [← hx, ← hw7]; exact OE6.out
                  have hty7 : x.Ty w7 := by rw [← hx]; exact fun b off _ hn => by rw [hnil] at hn; exact absurd hn (by simp)
                  have hst := HCE6.out
                  have hb7 := HB6.out
                  have hr7 := HR6.out
                  rw [hx, hw7] at hst
                  rw [hw7] at hb7 hr7 ⊢
                  have hr7 : Row w7 w7.heap.size A4 mr ((recW e 0).map wd) := hr7
                  clear hx hw7 hnil c0 c1 c2 c3 c4 c5 c6 c7 c8
                  have hgp : goodP (x, 0) := ⟨by show recB x 0 = true; rw [recB_core hcore hdl]; exact HRT.out, hzer⟩
                  have hrw : recW e 0 = recW x 0 := (recW_core _ hcore).symm
                  rw [hrw] at hr7
                  have hrl : (recW x 0).length = mr := by rw [← hrw]; exact HRL.out
                  have HCX := Lib.hid hst; have HB7 := Lib.hid hb7; have HR7 := Lib.hid hr7; have OX := Lib.hid hok7; have TX := Lib.hid hty7; have HGP := Lib.hid hgp; have HRX := Lib.hid hrl
                  have hs7 := HB.out.size
                  have hs77 := hb7.size
                  have HO77 := Lib.hid (own_below HO7.out hb7); have HO88 := Lib.hid (own_below HO8.out hb7)
                  have HOK7 := Lib.hid (fun p hp => (⟨(HOK.out p hp).1.at_ hb7, (HOK.out p hp).2.below hb7⟩ : p.1.Ok w7 w7.heap.size ∧ p.1.Ty w7))
                  obtain ⟨a, ha⟩ : ∃ a, (allW ps).length = a := ⟨_, rfl⟩
                  obtain ⟨N, hN⟩ : ∃ N, ps.length = N := ⟨_, rfl⟩
                  have HA := Lib.hid ha; have HNN := Lib.hid hN
                  rw [ha] at HO77 hal
                  rw [hN] at HO88 hal hpj
                  obtain ⟨ie, i1, i2, i3, i4⟩ := info_parts infoEff
                  have I1 := Lib.hid i1; have I2 := Lib.hid i2; have I3 := Lib.hid i3; have I4 := Lib.hid i4
                  clear i1 i2 i3 i4 hst hb7 hr7 hok7 hty7 hgp hrl hrw hcore hdl hzer ha hN KP KC KN q7
                  obtain ⟨c0, c1, c2, c3, c4, c5, c6, c7, c8⟩ := cells9 HCX.out
                  go_wp2_with (first
                    | (at_builtin; refine wpList_append_row _ rfl (.tmp 88) (.tmp 89) 25 rfl w.heap.size 61 (.int .u64 0) 8 Try.underlying25 infoU64' rfl u7 a ((allW ps).map wd) rfl HO77.out _ A4 mr k4 ((recW x 0).map wd) rfl HR7.out (oneW _) (by unfold maxLen; omega) (by omega) (by omega) ?_; intro v9 w8 hown9 hgr9 hat9; have hk9 := keep_own HO77.out hgr9; have hs9 := hgr9.size; have HO9 := Lib.hid hown9; have HO98 := Lib.hid (hk9.own HO88.out (by decide)); have HCX8 := Lib.hid (hk9 _ _ _ (by decide) HCX.out); have OX8 := Lib.hid (hk9.ok OX.out TX.out (by decide) hs9); have TX8 := Lib.hid (hk9.ty TX.out (by decide)); have HOK8 := Lib.hid (fun p hp => (⟨hk9.ok (HOK7.out p hp).1 (HOK7.out p hp).2 (by decide) hs9, hk9.ty (HOK7.out p hp).2 (by decide)⟩ : p.1.Ok w8 w8.heap.size ∧ p.1.Ty w8)); have HB8 := Lib.hid ((HB.out.trans (HB7.out.mono hs7)).grown hgr9 (Nat.le_trans hs7 hs77) (own_base HO77.out)); clear hown9 hgr9 hat9 hk9 hs9 c0 c1 c2 c3 c4 c5 c6 c7 c8; obtain ⟨c0, c1, c2, c3, c4, c5, c6, c7, c8⟩ := cells9 HCX8.out)
                    | (at_builtin; refine wpList_append_own_at _ rfl (.tmp 91) (.tmp 93) 28 rfl w.heap.size 24 ie zE.val 9 104 Try.underlying28 I1.out I2.out I3.out I4.out rfl (by decide) u8 N (effVals ps) rfl (own_below HO98.out ((Below.refl _ _).alloc (Nat.le_refl _) _)) ⟨w8.heap.size, 0, none⟩ 1 1 x.vals rfl rfl (cells_of_eff (Cells.new w8 24 (effCells x))) (oneE x) (by unfold maxLen; omega) (by omega) (by have := HB8.out.size; simp; omega) ?_; intro v10 w9 hown10 hgr10 _ hat10; have hb9 : Below w8.heap.size w8 (w8.alloc (.cells (effCells x) 24)) := (Below.refl _ _).alloc (Nat.le_refl _) _; have hk10 := keep_own (own_below HO98.out hb9) hgr10; have hs10 := hgr10.size; have HO10 := Lib.hid hown10; have HO109 := Lib.hid (hk10.own (own_below HO9.out hb9) (by decide)); have OX9 := Lib.hid (hk10.ok (OX8.out.at_ hb9) (TX8.out.below hb9) (by decide) hs10); have TX9 := Lib.hid (hk10.ty (TX8.out.below hb9) (by decide)); have HOK9 := Lib.hid (fun p hp => (⟨hk10.ok ((HOK8.out p hp).1.at_ hb9) ((HOK8.out p hp).2.below hb9) (by decide) hs10, hk10.ty ((HOK8.out p hp).2.below hb9) (by decide)⟩ : p.1.Ok w9 w9.heap.size ∧ p.1.Ty w9)); have HB9 := Lib.hid ((HB8.out.trans (hb9.mono HB8.out.size)).grown hgr10 (Nat.le_trans HB8.out.size hb9.size) (own_base HO98.out)); clear hown10 hgr10 hat10 hk10 hb9 hs10))
                  go_roundg (n - (j + 1))
                  case measure => omega
                  case rel =>
                    refine ⟨j + 1, ps ++ [(x, 0)], by omega, rfl, by go_num, fun p hp => ?_, ?_, ?_, ?_, fun p hp => ?_, HB9.out⟩
                    · rcases List.mem_append.1 hp with hp | hp
                      · exact HPS.out p hp
                      · rw [List.mem_singleton] at hp; subst hp; exact HGP.out
                    · rw [List.length_append, HNN.out]; show N + 1 ≤ j + 1; omega
                    · rw [allW_snoc, List.length_append, List.map_append, HA.out, HRX.out]; exact HO109.out
                    · rw [List.length_append, HNN.out, effVals_snoc]; exact HO10.out
                    · rcases List.mem_append.1 hp with hp | hp
                      · exact HOK9.out p hp
                      · rw [List.mem_singleton] at hp; subst hp; exact ⟨OX9.out, TX9.out⟩
            · obtain rfl : j = n := by omega
              have hsm := allW_small HPS.out
              obtain ⟨A7, c7, rfl, h71, h72, hr7⟩ := own_row1 HO7.out
              obtain ⟨A8, c8, rfl, h81, h82, he8⟩ := effs_of_own HO8.out (fun p hp => (HOK.out p hp).1)
              obtain ⟨a, ha⟩ : ∃ a, (allW ps).length = a := ⟨_, rfl⟩
              obtain ⟨N, hN⟩ : ∃ N, ps.length = N := ⟨_, rfl⟩
              have HA := Lib.hid ha; have HNN := Lib.hid hN; have HSM := Lib.hid hsm; have HE8 := Lib.hid he8; have HH72 := Lib.hid h72
              rw [ha] at hr7 h71 hal
              rw [hN] at h81 hal hpj
              have HR7 := Lib.hid hr7
              have hc7 : c7 ≤ 9223372036854775807 := by unfold maxLen at h72; omega
              rw [ha, hN]
              clear hb ha hN hsm hr7 he8 h72 h82 hlt
              go_upto_region 25 with (first
                | (go_at_call 12; (with_reducible refine (rAll (allW ps) a HA.out HSM.out (by omega) A7 c7 wr.heap.size h71 HH72.out _ (Nat.le_refl _) HR7.out).mono ?_); rintro e' w4 h4; obtain ⟨gs, GA, GD, gc, gd, ge, rfl, eg, rg, b4, vg⟩ := allr_form h4; obtain ⟨s1, s2, s3, s4⟩ := allv_same vg (.inl ⟨HPS.out, rfl, rfl⟩ : AllV (allW ps) ps 0); subst s1; rw [s2, HNN.out]; have hgl : (gs.map (·.1)).length = N := (by rw [List.length_map, s2]; exact HNN.out); have HGL := Lib.hid hgl; have S4 := Lib.hid s4; have EG := Lib.hid eg; have HB4 := Lib.hid b4; clear h4 eg rg b4 vg s2 s3 s4 hgl))
              have HPL := Lib.hid (show (ps.map (·.1)).length = N from by rw [List.length_map]; exact HNN.out)
              by_cases hN0 : N = 0
              · have q0 : ((N : Int) == 0) = true := by rw [hN0]; rfl
                clear hN0
                go_wp2_with (first
                  | (go_at_call 16; (with_reducible refine (sameAll_eq (gs.map (·.1)) (ps.map (·.1)) N HGL.out HPL.out (by omega) S4.out GA A8 gc c8 _ EG.out ((HE8.out.below HB4.out).more HB4.out.size)).mono ?_); rintro e' w5 h5; obtain ⟨rfl, b5⟩ := h5.below; have HB5 := Lib.hid (HB4.out.trans (b5.mono HB4.out.size)); clear h5 b5))
                go_ret
                exact ⟨rfl, HB.out.trans (HB5.out.mono HB.out.size)⟩
              · have q0 : ((N : Int) == 0) = false := by rw [beq_eq_false_iff_ne]; omega
                obtain ⟨p, ps', hpp⟩ : ∃ p ps', ps = p :: ps' := by
                  cases ps with
                  | nil => exact absurd HNN.out.symm hN0
                  | cons p ps' => exact ⟨p, ps', rfl⟩
                have hgp := HPS.out p (by rw [hpp]; exact List.mem_cons_self)
                have hma := manyR_le (check_in (recB_parts hgp.1).1)
                have haw : allW ps = recW p.1 p.2 ++ allW ps' := by rw [hpp, allW_cons]
                have ha11 : 11 ≤ a := by
                  rw [← HA.out, haw, List.length_append, recW_len]
                  omega
                have q1' : ((a : Int) == 0) = false := by rw [beq_eq_false_iff_ne]; omega
                have hN1 : (0 : Int) < (N : Int) := by omega
                have HPP := Lib.hid hpp; have HGP := Lib.hid hgp; have HAW := Lib.hid haw
                obtain ⟨g8, rfl⟩ : ∃ g8, A8 = some ⟨g8, 0, none⟩ := by
                  rcases HO8.out.2 with ⟨e1, h0⟩ | ⟨g, cap, cur, e1, _⟩
                  · exact absurd (HNN.out.symm.trans h0) hN0
                  · injection e1 with e2; exact ⟨g, e2⟩
                have h0c := eff0_of_own (p := p) (ps := ps') (g := g8) (c := c8) (by have := HO8.out; rw [hpp] at this; exact this)
                have H0C := Lib.hid h0c
                have OP := Lib.hid (HOK.out p (by rw [hpp]; exact List.mem_cons_self)).1
                clear hN0 hpp hgp hma haw h0c
                go_upto_region 29 with (first
                  | (go_at_call 16; (with_reducible refine (sameAll_eq (gs.map (·.1)) (ps.map (·.1)) N HGL.out HPL.out (by omega) S4.out GA (some ⟨g8, 0, none⟩) gc c8 _ EG.out ((HE8.out.below HB4.out).more HB4.out.size)).mono ?_); rintro e' w5 h5; obtain ⟨rfl, b5⟩ := h5.below; have HB5 := Lib.hid (HB4.out.trans (b5.mono HB4.out.size)); clear h5 b5))
                have HW5 := Lib.hid (HB.out.trans (HB5.out.mono HB.out.size))
                have HR75 := Lib.hid ((HR7.out.below HB5.out).more HB5.out.size)
                have hs5 := HW5.out.size
                have HMR := Lib.hid ((HR.out.below HW5.out).more hs5)
                have HCAT := Lib.hid (fun (X : List Value) (h : X = [] ++ (allW ps).map wd ++ more.map wd) => (by rw [h, List.nil_append, ← List.map_append] : X = (allW ps ++ more).map wd))
                have HL2 := Lib.hid (show (allW ps ++ more).length = a + m from by rw [List.length_append, HA.out, HM.out])
                have HS2 := Lib.hid (show Small (allW ps ++ more) from (HSM.out).append HS.out)
                have HOV := Lib.hid (show OfV (allW ps ++ more) p.1 p.2 (manyR p.1) 0 from .inl ⟨allW ps' ++ more, HGP.out.1, HGP.out.2, by rw [HAW.out, List.append_assoc], rfl, rfl⟩)
                obtain ⟨mp, hmp⟩ : ∃ k, manyR p.1 = k := ⟨_, rfl⟩
                have HMP := Lib.hid hmp
                rw [hmp] at HOV
                clear hmp
                go_upto_region 30 with (first
                  | (at_builtin; refine wpList_append_row _ rfl (.const (.slice none 0 0)) (.tmp 129) 25 rfl w5.heap.size 61 (.int .u64 0) 8 Try.underlying25 infoU64' rfl (.slice none 0 0) 0 [] rfl (own_nil _ _ _) _ A7 a c7 ((allW ps).map wd) rfl HR75.out (oneW _) (by unfold maxLen; omega) (by omega) (Nat.le_refl _) ?_; intro v9 w6 hown6 hgr6 hat6; have HO6 := Lib.hid hown6; have HB56 := Lib.hid (below_of_grown hgr6); have hs56 := HB56.out.size; clear hown6 hgr6 hat6)
                  | (at_builtin; refine wpList_append_row _ rfl (.tmp 130) (.tmp 131) 25 rfl w5.heap.size 61 (.int .u64 0) 8 Try.underlying25 infoU64' rfl v9 (0 + a) ([] ++ (allW ps).map wd) rfl HO6.out _ D m d (more.map wd) rfl (HR.out.below (HW5.out.trans (HB56.out.mono hs5))) (oneW _) (by unfold maxLen; omega) (by omega) hs56 ?_; intro v10 w7 hown7 hgr7 hat7; rw [Nat.zero_add] at hown7; obtain ⟨A10, c10, rfl, h10, h10m, hr10⟩ := own_row1 hown7; rw [HCAT.out _ rfl] at hr10; have HR10 := Lib.hid hr10; have HB57 := Lib.hid (HB56.out.grown hgr7 hs56 (own_base HO6.out)); clear hown7 hgr7 hat7 hr10)
                  | (go_at_call 10; (with_reducible refine (rOf (allW ps ++ more) (a + m) HL2.out HS2.out (by omega) A10 c10 _ h10 _ (Nat.le_refl _) HR10.out).mono ?_); rintro e' w8 h8; obtain ⟨x, xr, xn, xe, rfl, ox, b8, vx⟩ := ofr_form h8; obtain ⟨sxp, s1, s2, s3⟩ := ofv_same vx HOV.out; subst s1; subst s2; subst s3; unfold Eff.val; have OX := Lib.hid ox; have SXP := Lib.hid sxp; have B8 := Lib.hid b8; clear h8 ox vx b8 sxp))
                obtain ⟨w9, hw9⟩ : ∃ w9, w8.alloc (.cells (effCells x) 24) = w9 := ⟨_, rfl⟩
                have hcx := Cells.new w8 24 (effCells x)
                have hb9 : Below w8.heap.size w8 (w8.alloc (.cells (effCells x) 24)) := (Below.refl _ _).alloc (Nat.le_refl _) _
                rw [hw9] at hcx hb9
                unfold effCells at hw9
                rw [hw9]
                have HCX := Lib.hid hcx
                have OX9 := Lib.hid (OX.out.at_ hb9)
                obtain ⟨gX, hgX⟩ : ∃ gX, w8.heap.size = gX := ⟨_, rfl⟩
                rw [hgX] at HCX ⊢
                have HB59 := Lib.hid (HB57.out.trans ((B8.out.trans (hb9.mono B8.out.size)).mono HB57.out.size))
                have hs59 := HB59.out.size
                clear hw9 hcx hb9 hgX
                obtain ⟨a', rfl⟩ : ∃ a', a = a' + 1 := ⟨a - 1, by omega⟩
                obtain ⟨b7, off7, rfl⟩ : ∃ b off, A7 = some ⟨b, off, none⟩ := by
                  obtain ⟨b, off, e, _⟩ := HR7.out.2 (by omega)
                  exact ⟨b, off, e⟩
                have HTL := Lib.hid (show ((allW ps).take a').length = a' from by rw [List.length_take, HA.out]; omega)
                have HTS := Lib.hid (HSM.out.take a')
                have HTR := Lib.hid (row_take (k := a') (HR75.out.below HB59.out) (by omega))
                have h7a : a' ≤ c7 := by omega
                have HLS := Lib.hid (show ∃ y, allW ps = (allW ps).take a' ++ [y] from by
                  have h1 : ((allW ps).drop a').length = 1 := by rw [List.length_drop, HA.out]; omega
                  obtain ⟨y, hy⟩ := List.length_eq_one_iff.1 h1
                  exact ⟨y, by rw [← hy, List.take_append_drop]⟩)
                have HNE := Lib.hid (show ps ≠ [] from by rw [HPP.out]; simp)
                go_upto_region 31 with (first
                  | (go_at_call 12; (with_reducible refine (rAll ((allW ps).take a') a' HTL.out HTS.out (by omega) (some ⟨b7, off7, none⟩) c7 w5.heap.size h7a HH72.out _ hs59 HTR.out).mono ?_); rintro e' w10 h10'; obtain ⟨ts, TA, TD, tc, td, te, rfl, et, rt, b10, vt⟩ := allr_form h10'; obtain ⟨y, hy⟩ := HLS.out; have hte := allv_less HPS.out HNE.out hy vt; subst hte; have B10 := Lib.hid b10; clear h10' et rt b10 vt hy))
                have HX10 := HCX.out.below' B10.out
                have HB510 := HB59.out.trans (B10.out.mono hs59)
                have OX10 := Lib.hid (OX9.out.at_ B10.out)
                have HR510 := HB5.out.trans (HB510.mono HB5.out.size)
                have OP10 := Lib.hid (OP.out.at_ HR510)
                have xlt := HX10.lt
                have ylt : g8 < w10.heap.size := Nat.lt_of_lt_of_le H0C.out.1 HR510.size
                obtain ⟨xc0, xc1, xc2, xc3, xc4, xc5, xc6, xc7, xc8⟩ := cells9 HX10
                have yc0 : w10.cell? ⟨g8, 0, none⟩ = some (.int .i64 p.1.kind) := (HR510.cell (p := ⟨g8, 0, none⟩) H0C.out.1).trans (H0C.out.2 0 _ rfl)
                have yc1 : w10.cell? ⟨g8, 1, none⟩ = some (.int .i64 p.1.ino) := (HR510.cell (p := ⟨g8, 1, none⟩) H0C.out.1).trans (H0C.out.2 1 _ rfl)
                have yc2 : w10.cell? ⟨g8, 2, none⟩ = some (.int .i64 p.1.dir) := (HR510.cell (p := ⟨g8, 2, none⟩) H0C.out.1).trans (H0C.out.2 2 _ rfl)
                have yc3 : w10.cell? ⟨g8, 3, none⟩ = some (.int .i64 p.1.dst) := (HR510.cell (p := ⟨g8, 3, none⟩) H0C.out.1).trans (H0C.out.2 3 _ rfl)
                have yc4 : w10.cell? ⟨g8, 4, none⟩ = some (.int .i64 p.1.page) := (HR510.cell (p := ⟨g8, 4, none⟩) H0C.out.1).trans (H0C.out.2 4 _ rfl)
                have yc5 : w10.cell? ⟨g8, 5, none⟩ = some (.int .i64 p.1.size) := (HR510.cell (p := ⟨g8, 5, none⟩) H0C.out.1).trans (H0C.out.2 5 _ rfl)
                have yc6 : w10.cell? ⟨g8, 6, none⟩ = some (.string p.1.name) := (HR510.cell (p := ⟨g8, 6, none⟩) H0C.out.1).trans (H0C.out.2 6 _ rfl)
                have yc7 : w10.cell? ⟨g8, 7, none⟩ = some (.string p.1.other) := (HR510.cell (p := ⟨g8, 7, none⟩) H0C.out.1).trans (H0C.out.2 7 _ rfl)
                have yc8 : w10.cell? ⟨g8, 8, none⟩ = some (.slice p.1.A p.1.data.length p.1.cp) := (HR510.cell (p := ⟨g8, 8, none⟩) H0C.out.1).trans (H0C.out.2 8 _ rfl)
                have x0 := cell_grown (a := ⟨gX, 0, none⟩) xlt xc0
                have x1 := cell_grown (a := ⟨gX, 1, none⟩) xlt xc1
                have x2 := cell_grown (a := ⟨gX, 2, none⟩) xlt xc2
                have x3 := cell_grown (a := ⟨gX, 3, none⟩) xlt xc3
                have x4 := cell_grown (a := ⟨gX, 4, none⟩) xlt xc4
                have x5 := cell_grown (a := ⟨gX, 5, none⟩) xlt xc5
                have x6 := cell_grown (a := ⟨gX, 6, none⟩) xlt xc6
                have x7 := cell_grown (a := ⟨gX, 7, none⟩) xlt xc7
                have x8 := cell_grown (a := ⟨gX, 8, none⟩) xlt xc8
                have y0 := cell_grown (a := ⟨g8, 0, none⟩) ylt yc0
                have y1 := cell_grown (a := ⟨g8, 1, none⟩) ylt yc1
                have y2 := cell_grown (a := ⟨g8, 2, none⟩) ylt yc2
                have y3 := cell_grown (a := ⟨g8, 3, none⟩) ylt yc3
                have y4 := cell_grown (a := ⟨g8, 4, none⟩) ylt yc4
                have y5 := cell_grown (a := ⟨g8, 5, none⟩) ylt yc5
                have y6 := cell_grown (a := ⟨g8, 6, none⟩) ylt yc6
                have y7 := cell_grown (a := ⟨g8, 7, none⟩) ylt yc7
                have y8 := cell_grown (a := ⟨g8, 8, none⟩) ylt yc8
                have FP : p.1.few := ⟨by rw [HGP.out.2]; have := zer_len p.1.kind; omega, by have := (check_in (recB_parts HGP.out.1).1).name; omega, by have := (check_in (recB_parts HGP.out.1).1).other; omega⟩
                have gb := fun n os => below_grow' w10 n os
                have K0 := Lib.hid (fun n os => refSame_any x p.1 (grow (w10.drewN n) os) (OX10.out.at_ (gb n os)) (OP10.out.at_ (gb n os)))
                have K1 := Lib.hid (fun n os => rNeed p.1 (grow (w10.drewN n) os) (OP10.out.at_ (gb n os)) FP)
                have hnb : needB p.1 = (manyR p.1 : Int) := by unfold needB; rw [(recB_parts HGP.out.1).1]; rfl
                rw [SXP.out] at K0
                rw [hnb, HMP.out] at K1
                have HW10 := Lib.hid (HW5.out.trans (HB510.mono hs5))
                clear HX10 HB510 HR510 xlt ylt FP gb hnb xc0 yc0 xc1 yc1 xc2 yc2 xc3 yc3 xc4 yc4 xc5 yc5 xc6 yc6 xc7 yc7 xc8 yc8
                unfold Eff.val at K0 K1
                refine wp_region_quiet_grown hfol (by kernel_rfl) ?_
                repeat (go_big_quiet_step (first
                  | (go_at_call 15; (with_reducible exact Grows.inAt K0.out _ _))
                  | (go_at_call 19; (with_reducible exact Grows.inAt K1.out _ _))))
                refine wpQuiet_nil ?_
                intro _ hw'
                obtain ⟨⟨nr, osr⟩, hw''⟩ := hw'
                subst hw''
                go_wp2
                go_ret
                exact ⟨rfl, HW10.out.trans ((below_grow' w10 nr osr).mono HW10.out.size)⟩
end Go.Proofs.Ytcimmfhbffofjaa
