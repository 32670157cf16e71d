import Derived.Test.YtcimmfhbffofjaaRcDt
import Derived.Test.YtcimmfhbffofjaaEfRef
import Derived.Deep.RegionHeld3
namespace Go.Proofs.Ytcimmfhbffofjaa
open Wd U Go.ChangeShapes Go.WideShapes Go.RowKit Go.Sort
set_option linter.unusedVariables false

/-! Put of the document's own -/
set_option maxRecDepth 100000 in
set_option maxHeartbeats 4000000 in
theorem dPut_no (e : Eff) (r : Int) (w : World) (ok : e.Ok w w.heap.size) (hf : e.few) (hno : recB e r = false) : Calls Try.prog 9 #[e.val, .int .i64 r] w (PutR e r w) := by
  have hc0 := Cells.new w 24 (effCells e)
  have HC0 := Lib.hid hc0
  have HB0 := Lib.hid ((Below.refl w.heap.size w).alloc (Nat.le_refl _) (.cells (effCells e) 24))
  have OK := Lib.hid ok
  have HF := Lib.hid hf
  have HNO := Lib.hid hno
  have K0 := Lib.hid (fun w ok => refCheck_any e w ok HF.out.2.1 HF.out.2.2 HF.out.1)
  have hcase : e.check = false ∨ e.check = true ∧ (r < 0 ∨ ¬ r < 0 ∧ (1048576 < r ∨ ¬ 1048576 < r ∧ e.kind ≠ 7 ∧ r ≠ 0)) := by
    unfold recB at hno
    cases hC : e.check
    · exact .inl rfl
    · rw [hC] at hno
      refine .inr ⟨rfl, ?_⟩
      by_cases h1 : r < 0
      · exact .inl h1
      · refine .inr ⟨h1, ?_⟩
        by_cases h2 : 1048576 < r
        · exact .inl h2
        · refine .inr ⟨h2, ?_⟩
          simp only [Bool.true_and, Bool.and_eq_false_iff, Bool.or_eq_false_iff, decide_eq_false_iff_not] at hno
          omega
  clear hc0 ok hf hno
  unfold Eff.val at K0 ⊢
  go_enter Try.func9, Try.ntmps9
  go_upto_region 1 with fail
  obtain ⟨w2, hw2⟩ : ∃ w2, w.alloc (.cells (effCells e) 24) = w2 := ⟨_, rfl⟩
  rw [hw2] at HC0 HB0
  unfold effCells at hw2
  rw [hw2]
  clear hw2
  have OK2 := Lib.hid (OK.out.at_ HB0.out)
  obtain ⟨c0, c1, c2, c3, c4, c5, c6, c7, c8⟩ := cells9 HC0.out
  rcases hcase with hC | ⟨hC, h1 | ⟨h1, h2 | ⟨h2, h3, h4⟩⟩⟩
  · rw [hC, show errB false 92 = 92 from rfl] at K0
    clear hC
    go_wp2_with (go_at_call 26; (with_reducible refine (K0.out _ OK2.out).mono ?_); rintro e' w3 h3; obtain ⟨rfl, b3⟩ := h3.below)
    go_ret2
    exact PutR.no HNO.out (HB0.out.trans (b3.mono HB0.out.size))
  · rw [hC, show errB true 92 = 0 from rfl] at K0
    have q1 : decide (r < 0) = true := decide_eq_true h1
    clear hC h1
    go_wp2_with (go_at_call 26; (with_reducible refine (K0.out _ OK2.out).mono ?_); rintro e' w3 h3; obtain ⟨rfl, b3⟩ := h3.below)
    go_ret2
    exact PutR.no HNO.out (HB0.out.trans (b3.mono HB0.out.size))
  · rw [hC, show errB true 92 = 0 from rfl] at K0
    have q1 : decide (r < 0) = false := decide_eq_false h1
    have q2 : decide (r > 1048576) = true := decide_eq_true h2
    clear hC h1 h2
    go_wp2_with (go_at_call 26; (with_reducible refine (K0.out _ OK2.out).mono ?_); rintro e' w3 h3; obtain ⟨rfl, b3⟩ := h3.below)
    go_ret2
    exact PutR.no HNO.out (HB0.out.trans (b3.mono HB0.out.size))
  · rw [hC, show errB true 92 = 0 from rfl] at K0
    have q1 : decide (r < 0) = false := decide_eq_false h1
    have q2 : decide (r > 1048576) = false := decide_eq_false h2
    have q3 : (e.kind != 7) = true := by simpa using h3
    have q4 : (r != 0) = true := by simpa using h4
    clear hC h1 h2 h3 h4
    go_wp2_with (go_at_call 26; (with_reducible refine (K0.out _ OK2.out).mono ?_); rintro e' w3 h3; clear c0 c1 c2 c3 c4 c5 c6 c7 c8; obtain ⟨rfl, b3⟩ := h3.below; obtain ⟨c0, c1, c2, c3, c4, c5, c6, c7, c8⟩ := cells9 (HC0.out.below' b3))
    go_ret2
    exact PutR.no HNO.out (HB0.out.trans (b3.mono HB0.out.size))
set_option maxRecDepth 100000 in
set_option maxHeartbeats 4000000 in
theorem dPut_yes (e : Eff) (r : Int) (w : World) (ok : e.Ok w w.heap.size) (hf : e.few) (hyes : recB e r = true) : Calls Try.prog 9 #[e.val, .int .i64 r] w (PutR e r w) := by
  have hc0 := Cells.new w 24 (effCells e)
  have HC0 := Lib.hid hc0
  have HB0 := Lib.hid ((Below.refl w.heap.size w).alloc (Nat.le_refl _) (.cells (effCells e) 24))
  have OK := Lib.hid ok
  have HF := Lib.hid hf
  have HY := Lib.hid hyes
  obtain ⟨hC, h1, h2, h3⟩ := recB_parts hyes
  have K0 := Lib.hid (fun w ok => refCheck_any e w ok HF.out.2.1 HF.out.2.2 HF.out.1)
  have KN := Lib.hid (fun w => refText_any e.name (by have := HF.out.2.1; omega) w)
  have KO := Lib.hid (fun w => refText_any e.other (by have := HF.out.2.2; omega) w)
  rw [hC, show errB true 92 = 0 from rfl] at K0
  clear hc0 ok hf hyes hC
  have q1 : decide (r < 0) = false := decide_eq_false (by omega)
  have q2 : decide (r > 1048576) = false := decide_eq_false (by omega)
  obtain ⟨b3, hb3⟩ : ∃ b, (e.kind != 7) = b := ⟨_, rfl⟩
  have q4 : b3 = true → (r != 0) = false := by
    intro h
    rw [h] at hb3
    have : e.kind ≠ 7 := by simpa using hb3
    have : r = 0 := by omega
    rw [this]; rfl
  have R := check_in (recB_parts HY.out).1
  have m := manyR_le R
  unfold Eff.val at K0 ⊢
  go_enter Try.func9, Try.ntmps9
  go_upto_region 1 with fail
  obtain ⟨w2, hw2⟩ : ∃ w2, w.alloc (.cells (effCells e) 24) = w2 := ⟨_, rfl⟩
  rw [hw2] at HC0 HB0
  unfold effCells at hw2
  rw [hw2]
  clear hw2
  have OK2 := Lib.hid (OK.out.at_ HB0.out)
  obtain ⟨c0, c1, c2, c3, c4, c5, c6, c7, c8⟩ := cells9 HC0.out
  have RR := Lib.hid R
  clear R h1 h2 h3 m
  go_cut [28] from 8 to 28 (fun t wx => t = .bool false ∧ Below w2.heap.size w2 wx)
  case first =>
    cases b3
    · go_wp2_with (go_at_call 26; (with_reducible refine (K0.out _ OK2.out).mono ?_); rintro e' w3 h3; clear c0 c1 c2 c3 c4 c5 c6 c7 c8; obtain ⟨rfl, b3⟩ := h3.below; obtain ⟨c0, c1, c2, c3, c4, c5, c6, c7, c8⟩ := cells9 (HC0.out.below' b3))
      go_meet
      exact ⟨rfl, b3⟩
    · have q5 := q4 rfl
      clear q4
      go_wp2_with (go_at_call 26; (with_reducible refine (K0.out _ OK2.out).mono ?_); rintro e' w3 h3; clear c0 c1 c2 c3 c4 c5 c6 c7 c8; obtain ⟨rfl, b3⟩ := h3.below; obtain ⟨c0, c1, c2, c3, c4, c5, c6, c7, c8⟩ := cells9 (HC0.out.below' b3))
      go_meet
      exact ⟨rfl, b3⟩
  case rest =>
  obtain ⟨rfl, hbx⟩ := hcut
  obtain ⟨w3, hw3, hbx⟩ : ∃ w3, w3 = _ ∧ Below w2.heap.size w2 w3 := ⟨_, rfl, hbx⟩
  subst hw3
  have HC3 := Lib.hid (HC0.out.below' hbx)
  have HB3 := Lib.hid (HB0.out.trans (hbx.mono HB0.out.size))
  clear hbx c0 c1 c2 c3 c4 c5 c6 c7 c8 q1 q2 q4 hb3
  go_upto_region 3 with fail
  go_cut [6, 7] from 29 to 34 (fun x y wx => ∃ (A1 A2 : Option Addr) (k1 k2 : Nat), x = .slice A1 (encT e.name).length k1 ∧ y = .slice A2 (encT e.other).length k2 ∧ Row wx wx.heap.size A1 (encT e.name).length ((encT e.name).map wd) ∧ Row wx wx.heap.size A2 (encT e.other).length ((encT e.other).map wd) ∧ Below w3.heap.size w3 wx)
  case first =>
    have hb0 : Below w3.heap.size w3 w3.drew := below_drewN (Below.refl _ _) 1
    go_region_held3 (fun w' => Below w3.heap.size w3 w' ∧ w'.cell? ⟨w.heap.size, 0, none⟩ = some (.int .i64 e.kind) ∧ w'.cell? ⟨w.heap.size, 1, none⟩ = some (.int .i64 e.ino) ∧ w'.cell? ⟨w.heap.size, 2, none⟩ = some (.int .i64 e.dir) ∧ w'.cell? ⟨w.heap.size, 3, none⟩ = some (.int .i64 e.dst) ∧ w'.cell? ⟨w.heap.size, 4, none⟩ = some (.int .i64 e.page) ∧ w'.cell? ⟨w.heap.size, 5, none⟩ = some (.int .i64 e.size) ∧ w'.cell? ⟨w.heap.size, 6, none⟩ = some (.string e.name) ∧ w'.cell? ⟨w.heap.size, 7, none⟩ = some (.string e.other) ∧ w'.cell? ⟨w.heap.size, 8, none⟩ = some (.slice e.A e.data.length e.cp))
      (first | exact s9 HC3.out hb0 | exact s9 HC3.out kN | exact s9 HC3.out kO)
      (first
        | (go_at_call 27; (with_reducible refine (KN.out _).mono ?_); rintro e' wN ⟨vN, rfl, oN, bN⟩; obtain ⟨A1, k1, rfl, r1⟩ := Row.of_own oN; have kN : Below w3.heap.size w3 wN := (by first | exact hb0.trans (bN.mono hb0.size) | exact kO.trans (bN.mono kO.size)); clear oN)
        | (go_at_call 27; (with_reducible refine (KO.out _).mono ?_); rintro e' wO ⟨vO, rfl, oO, bO⟩; obtain ⟨A2, k2, rfl, r2⟩ := Row.of_own oO; have kO : Below w3.heap.size w3 wO := (by first | exact hb0.trans (bO.mono hb0.size) | exact kN.trans (bO.mono kN.size)); clear oO))
    all_goals
      go_wp2_with fail
      go_meet
      first
        | exact ⟨A1, A2, k1, k2, rfl, rfl, (r1.below bO).more bO.size, r2, kO⟩
        | exact ⟨A1, A2, k1, k2, rfl, rfl, r1, (r2.below bN).more bN.size, kN⟩
  case rest =>
  obtain ⟨A1, A2, k1, k2, rfl, rfl, r1, r2, hbx⟩ := hcut
  obtain ⟨w4, hw4, r1, r2, hbx⟩ : ∃ w4, w4 = _ ∧ Row w4 w4.heap.size A1 (encT e.name).length ((encT e.name).map wd) ∧ Row w4 w4.heap.size A2 (encT e.other).length ((encT e.other).map wd) ∧ Below w3.heap.size w3 w4 := ⟨_, rfl, r1, r2, hbx⟩
  subst hw4
  have HR1 := Lib.hid r1; have HR2 := Lib.hid r2; have HB4 := Lib.hid (HB3.out.trans (hbx.mono HB3.out.size))
  obtain ⟨c0, c1, c2, c3, c4, c5, c6, c7, c8⟩ := cells9 (HC3.out.below' hbx)
  clear r1 r2 hbx
  obtain ⟨n1, hn1⟩ : ∃ n, (encT e.name).length = n := ⟨_, rfl⟩
  obtain ⟨n2, hn2⟩ : ∃ n, (encT e.other).length = n := ⟨_, rfl⟩
  have l1 : n1 ≤ 4 := by rw [← hn1, encT_length]; have := RR.out.name; unfold need; omega
  have l2 : n2 ≤ 4 := by rw [← hn2, encT_length]; have := RR.out.other; unfold need; omega
  rw [hn1] at HR1 ⊢
  rw [hn2] at HR2 ⊢
  have hwr : ∀ y : Int, 0 ≤ y → y ≤ 1048576 → Value.int .u64 (IntKind.u64.wrap y) = wd y.toNat := fun y h1 h2 => by
    unfold wd
    rw [IntKind.wrap_u64]
    congr 1
    omega
  have har : #[Value.int .u64 (9 + (n1 : Int) + (n2 : Int)), .int .u64 (IntKind.u64.wrap e.kind), .int .u64 (IntKind.u64.wrap e.ino), .int .u64 (IntKind.u64.wrap e.dir), .int .u64 (IntKind.u64.wrap e.dst), .int .u64 (IntKind.u64.wrap e.page), .int .u64 (IntKind.u64.wrap e.size), .int .u64 (IntKind.u64.wrap r)] = ((hdrR e r).map wd).toArray := by
    have e1 : manyR e = 9 + n1 + n2 := by unfold manyR; rw [← hn1, ← hn2, encT_length, encT_length]; omega
    rw [hwr _ (by have := RR.out.kind; omega) (by have := RR.out.kind; omega), hwr _ (by have := RR.out.ino; omega) (by have := RR.out.ino; omega), hwr _ RR.out.dir.1 RR.out.dir.2, hwr _ RR.out.dst.1 RR.out.dst.2, hwr _ RR.out.page.1 (by have := RR.out.page; omega), hwr _ RR.out.size.1 (by have := RR.out.size; omega), hwr r (recB_parts HY.out).2.1 (recB_parts HY.out).2.2.1]
    unfold hdrR
    rw [e1]
    rfl
  have HAR := Lib.hid har; have HN1 := Lib.hid hn1; have HN2 := Lib.hid hn2
  clear har hwr hn1 hn2
  go_upto_region 5 with fail
  rw [HAR.out]
  have ho5 : (w4.alloc (.cells ((hdrR e r).map wd).toArray 61)).ownsRow w4.heap.size 61 1 (.slice (some ⟨w4.heap.size, 0, none⟩) 8 8) 8 ((hdrR e r).map wd) :=
    ⟨rfl, .inr ⟨w4.heap.size, 8, ((hdrR e r).map wd).toArray, rfl, Nat.le_refl _, Cells.new w4 _ _, Nat.le_refl _, by decide, rfl, rfl⟩⟩
  have hb5 : Below w4.heap.size w4 (w4.alloc (.cells ((hdrR e r).map wd).toArray 61)) := (Below.refl _ _).alloc (Nat.le_refl _) _
  obtain ⟨w5, hw5⟩ : ∃ w5, w4.alloc (.cells ((hdrR e r).map wd).toArray 61) = w5 := ⟨_, rfl⟩
  rw [hw5] at ho5 hb5 ⊢
  have HO5 := Lib.hid ho5; have HB5 := Lib.hid hb5
  have hsz5 := hb5.size
  have HR1' := Lib.hid (HR1.out.below hb5)
  clear ho5 hb5 hw5 c0 c1 c2 c3 c4 c5 c6 c7 c8
  go_cut [8] from 63 to 67 (fun v wx => wx.ownsRow w4.heap.size 61 1 v (bodyR e r).length ((bodyR e r).map wd) ∧ Below w4.heap.size w4 wx)
  case first =>
    go_wp2_with (first
      | (at_builtin; refine wpList_append_row _ rfl (.tmp 63) (.tmp 64) 25 rfl w4.heap.size 61 (.int .u64 0) 8 Try.underlying25 infoU64' rfl (.slice (some ⟨w4.heap.size, 0, none⟩) 8 8) 8 ((hdrR e r).map wd) rfl HO5.out _ A1 n1 k1 ((encT e.name).map wd) rfl HR1'.out (oneW _) (by unfold maxLen; omega) (by omega) hsz5 ?_; intro v6 w6 hown6 hgr6 hat6; have HO6 := Lib.hid hown6; have HG6 := Lib.hid (HB5.out.grown hgr6 hsz5 (own_base HO5.out)); clear hown6 hgr6 hat6)
      | (at_builtin; refine wpList_append_row _ rfl (.tmp 65) (.tmp 66) 25 rfl w4.heap.size 61 (.int .u64 0) 8 Try.underlying25 infoU64' rfl v6 (8 + n1) ((hdrR e r).map wd ++ (encT e.name).map wd) rfl HO6.out _ A2 n2 k2 ((encT e.other).map wd) rfl (HR2.out.below HG6.out) (oneW _) (by unfold maxLen; omega) (by omega) HG6.out.size ?_; intro v7 w7 hown7 hgr7 hat7; have HO7 := Lib.hid hown7; have HG7 := Lib.hid (HG6.out.grown hgr7 HG6.out.size (own_base HO6.out)); clear hown7 hgr7 hat7))
    go_meet
    have e1 : (bodyR e r).length = 8 + n1 + n2 := by unfold bodyR; rw [List.length_append, List.length_append, HN1.out, HN2.out]; rfl
    refine ⟨?_, HG7.out⟩
    rw [e1]
    have e2 : (bodyR e r).map wd = (hdrR e r).map wd ++ (encT e.name).map wd ++ (encT e.other).map wd := by unfold bodyR hdrR; rw [List.map_append, List.map_append]
    rw [e2]
    exact HO7.out
  case rest =>
  obtain ⟨ho, hbx⟩ := hcut
  have hbl := bodyR_len e r
  have hm := manyR_le RR.out
  obtain ⟨g6, cap6, rfl, _, hc6, _, _⟩ := own_open ho (by omega)
  obtain ⟨A6, c6, he6, hr6⟩ := Row.of_own ho
  cases he6
  have HO6 := Lib.hid ho; have HR6 := Lib.hid hr6; have HB6 := Lib.hid hbx
  have hs6 := hbx.size
  clear ho hbx hr6
  obtain ⟨nb, hnb⟩ : ∃ nb, (bodyR e r).length = nb := ⟨_, rfl⟩
  rw [hnb] at HO6 HR6 hbl hc6 ⊢
  have HNB := Lib.hid hnb
  clear hnb
  go_wp2_with (first
    | (go_at_call 28; (with_reducible refine (refSum64_any (bodyR e r) nb HNB.out (body_small HY.out) _ _ _ _ (by omega) HR6.out).mono ?_); rintro e' w' ⟨rfl, rfl⟩)
    | (at_builtin; refine wpList_append_row _ rfl (.tmp 68) (.tmp 71) 25 rfl w4.heap.size 61 (.int .u64 0) 8 Try.underlying25 infoU64' rfl (.slice (some ⟨g6, 0, none⟩) nb cap6) nb ((bodyR e r).map wd) rfl (own_below HO6.out ((Below.refl _ _).alloc (Nat.le_refl _) _)) _ (some ⟨wc.heap.size, 0, none⟩) 1 1 [wd (sum (bodyR e r))] rfl (Row.one _ _ _) (oneW [sum (bodyR e r)]) (by unfold maxLen; omega) (by omega) (by simp; omega) ?_; intro v7 w7 hown7 hgr7 hat7; have HO7 := Lib.hid hown7; have HG7 := Lib.hid (HB6.out.grown (grow_alloc' hgr7) hs6 (own_base HO6.out)); clear hown7 hgr7 hat7))
  go_ret2
  have hl : (recW e r).length = nb + 1 := by rw [recW_len]; omega
  have hv : (recW e r).map wd = (bodyR e r).map wd ++ [wd (sum (bodyR e r))] := by unfold recW; rw [List.map_append]; rfl
  obtain ⟨g7, cap7, rfl, _, hc7, _, _⟩ := own_open HO7.out (by omega)
  obtain ⟨A7, c7, he7, hr7⟩ := Row.of_own HO7.out
  cases he7
  have := PutR.yes (c := cap7) HY.out (HB4.out.trans (HG7.out.mono HB4.out.size)) (by rw [hl, hv]; exact hr7) (by rw [hl]; exact hc7)
  rw [hl] at this
  exact this
theorem dPut (e : Eff) (r : Int) (w : World) (ok : e.Ok w w.heap.size) (hf : e.few) : Calls Try.prog 9 #[e.val, .int .i64 r] w (PutR e r w) := by
  cases h : recB e r
  · exact dPut_no e r w ok hf h
  · exact dPut_yes e r w ok hf h
end Go.Proofs.Ytcimmfhbffofjaa
