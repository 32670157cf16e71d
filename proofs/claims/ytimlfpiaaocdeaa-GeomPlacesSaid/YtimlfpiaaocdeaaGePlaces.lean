import Derived.Test.YtimlfpiaaocdeaaGeApart
namespace Go.Proofs.Ytimlfpiaaocdeaa
open Wd Go.ChangeShapes Go.WideShapes Go.RowKit Go.Sort
set_option linter.unusedVariables false

theorem neq5 (a b c d e : Int) (w : World) : Sem.run Try.prog (binOp .neq 25 (.agg #[.int .i64 a, .int .i64 b, .int .i64 c, .int .i64 d, .int .i64 e]) (.agg #[.int .i64 a, .int .i64 b, .int .i64 c, .int .i64 d, .int .i64 e])) w = .ok (.bool false) w := by
  simp [binOp, Op.equal, Op.maxDepth, go_sem]

/-- both answers, whatever is asked -/
theorem geom_both (P : Int) : ∃ (a B I L D : Int) (may : Bool), (∀ w, Calls Try.prog 7 #[.int .i64 P] w (Grows (.tuple #[.agg #[.int .i64 a, .int .i64 B, .int .i64 I, .int .i64 L, .int .i64 D], .bool may]) w)) ∧
    (∀ w, Calls Try.prog 8 #[.int .i64 P] w (Grows (.tuple #[.agg #[.int .i64 a, .int .i64 B, .int .i64 I, .int .i64 L, .int .i64 D], .bool may]) w)) ∧ (may = true → a = P ∧ Geo P B I L D) := by
  by_cases h : 64 ≤ P ∧ P ≤ 1048576
  · obtain ⟨B, I, L, D, hv, g⟩ := geo_of P h.1 h.2
    refine ⟨P, B, I, L, D, true, fun w => ?_, fun w => ?_, fun _ => ⟨rfl, g⟩⟩
    · rw [← hv]; exact geomOf_yes P h.1 h.2 w
    · rw [← hv]; exact refGeom_yes P h.1 h.2 w
  · exact ⟨0, 0, 0, 0, 0, false, fun w => geomOf_no P (by omega) w, fun w => refGeom_no P (by omega) w, fun h => by cases h⟩

/-- the epoch of any root -/
theorem epoch_both (r : Int) (h0 : 0 ≤ r) (h1 : r < 18446744073709551616) : ∃ (e b : Int) (ok : Bool), (∀ w, Calls Try.prog 9 #[.int .u64 r] w (Grows (.tuple #[.int .i64 e, .int .i64 b, .bool ok]) w)) ∧ (ok = true ∧ r / 2 ≤ 1099511627776 ∧ e = r / 2 ∧ b = r % 2 ∨ ok = false ∧ 1099511627776 < r / 2 ∧ e = 0 ∧ b = 0) := by
  by_cases h : r / 2 ≤ 1099511627776
  · exact ⟨r / 2, r % 2, true, fun w => gEpoch_yes r h0 h w, .inl ⟨rfl, h, rfl, rfl⟩⟩
  · exact ⟨0, 0, false, fun w => gEpoch_no r h0 h1 (by omega) w, .inr ⟨rfl, by omega, rfl, rfl⟩⟩

def Later (w w' : World) : Prop := Below w.heap.size w w'

set_option maxRecDepth 100000 in
set_option maxHeartbeats 4000000 in
theorem places_any (P k p ep r : Int) (hk : 0 ≤ r) (hr : r < 18446744073709551616) (w : World) : Calls Try.prog 3 #[.int .i64 P, .int .i64 k, .int .i64 p, .int .i64 ep, .int .u64 r] w (TrueB w) := by
  obtain ⟨a, B, I, L, D, may, ho, hrf, hg⟩ := geom_both P
  obtain ⟨e1, b1, ok, he, hcase⟩ := epoch_both r hk hr
  obtain ⟨bad, e0, hbad⟩ : ∃ (bad : Bool) (e0 : Int), (bad = true ∧ e0 = 0 ∧ (ep < 0 ∨ 0 ≤ ep ∧ 1099511627776 < ep)) ∨ (bad = false ∧ e0 = ep ∧ 0 ≤ ep ∧ ep ≤ 1099511627776) := by
    by_cases h : 0 ≤ ep ∧ ep ≤ 1099511627776
    · exact ⟨false, ep, .inr ⟨rfl, rfl, h.1, h.2⟩⟩
    · exact ⟨true, 0, .inl ⟨rfl, rfl, by omega⟩⟩
  have e00 : 0 ≤ e0 := by omega
  have e01 : e0 ≤ 1099511627776 := by omega
  have HBAD := Lib.hid hbad
  clear hbad
  have HO := Lib.hid ho; have HRF := Lib.hid hrf; have HG := Lib.hid hg; have HE := Lib.hid he; have HC := Lib.hid hcase
  have n5 := fun w => neq5 a B I L D w
  have hfol : Try.prog.follows Departure.mixedOrders = true := by kernel_rfl
  clear ho hrf hg he hcase
  go_enter Try.func3, Try.ntmps3
  go_wp2_with fail
  refine (geomAwake_true _).mono ?_
  rintro e' w2 ⟨rfl, hb⟩
  have HB := Lib.hid hb
  clear hb
  go_wp2_with fail
  refine (HO.out _).mono ?_
  rintro e' w3 h
  obtain ⟨rfl, hb⟩ := h.below
  have HB3 := Lib.hid (HB.out.trans (hb.mono HB.out.size))
  clear hb h
  go_wp2_with fail
  refine (HRF.out _).mono ?_
  rintro e' w4 h
  obtain ⟨rfl, hb⟩ := h.below
  have hc : Cells w4 w3.heap.size 25 #[.int .i64 a, .int .i64 B, .int .i64 I, .int .i64 L, .int .i64 D] := (Cells.new w3 _ _).below' hb
  have hb4 : Below w.heap.size w w4 := (HB3.out.alloc HB3.out.size _).trans (hb.mono (by have := HB3.out.size; simp; omega))
  have HB4 := Lib.hid hb4
  have HCE := Lib.hid hc
  have hz := hc.lt
  have c0 := hc.cell 0
  have c1 := hc.cell 1
  have c2 := hc.cell 2
  have c3 := hc.cell 3
  have c4 := hc.cell 4
  simp only [List.getElem?_toArray, List.getElem?_cons_zero, List.getElem?_cons_succ] at c0 c1 c2 c3 c4
  clear hb h hc hb4
  go_upto_region 7 with fail
  obtain ⟨W1, hW⟩ : ∃ W1, w4.alloc (.cells #[.int .i64 a, .int .i64 B, .int .i64 I, .int .i64 L, .int .i64 D] 25) = W1 := ⟨_, rfl⟩
  have hc1 : Cells W1 w3.heap.size 25 #[.int .i64 a, .int .i64 B, .int .i64 I, .int .i64 L, .int .i64 D] := by rw [← hW]; exact HCE.out.alloc _
  have hb1 : Below w.heap.size w W1 := by rw [← hW]; exact HB4.out.alloc HB4.out.size _
  have HB5 := Lib.hid hb1; have HC1 := Lib.hid hc1
  clear hb1 hc1
  rw [hW]
  clear hW c0 c1 c2 c3 c4 hz
  go_cut [45] from 40 to 44 (fun c wx => c = .bool bad ∧ wx = W1)
  case first =>
    rcases HBAD.out with ⟨rfl, _, q1 | ⟨q1, q2⟩⟩ | ⟨rfl, _, q1, q2⟩
    all_goals
      go_wp2_with fail
      go_meet
      exact ⟨by first | rfl | (simp; omega), rfl⟩
  case rest =>
  obtain ⟨rfl, rfl⟩ := hcut
  go_upto_if 45 with fail
  go_cut [3] (fun c wx => c = .int .i64 e0 ∧ wx = wc)
  case first =>
    rcases HBAD.out with ⟨rfl, q1, _⟩ | ⟨rfl, q1, _⟩
    · obtain rfl := q1
      go_wp2_with fail
      go_meet
      exact ⟨rfl, rfl⟩
    · obtain rfl := q1
      go_wp2_with fail
      go_meet
      exact ⟨rfl, rfl⟩
  case rest =>
  obtain ⟨rfl, rfl⟩ := hcut
  go_upto_if 50 with fail
  go_cut [15] (fun c wx => c = .int .u64 (rootV e0 k) ∧ wx = wc)
  case first =>
    by_cases h1 : k = 1
    · have hr1 : rootV e0 k = 2 * e0 + 1 := by unfold rootV; rw [if_pos h1]
      have hk1 : (k == 1) = true := by simpa using h1
      have HR1 := Lib.hid hr1
      clear hr1 h1
      go_wp2_with fail
      go_meet
      exact ⟨by rw [HR1.out], rfl⟩
    · have hr1 : rootV e0 k = 2 * e0 := by unfold rootV; rw [if_neg h1]; omega
      have hk1 : (k == 1) = false := by simpa using h1
      have HR1 := Lib.hid hr1
      clear hr1 h1
      go_wp2_with fail
      go_meet
      exact ⟨by rw [HR1.out], rfl⟩
  case rest =>
  obtain ⟨rfl, rfl⟩ := hcut
  go_wp2_with fail
  refine (HE.out _).mono ?_
  rintro e' w5 h
  obtain ⟨rfl, hb⟩ := h.below
  have HB6 := Lib.hid (HB5.out.trans (hb.mono HB5.out.size))
  have HC6 := Lib.hid (HC1.out.below' hb)
  clear hb h
  go_upto_region 13 with fail
  go_cut [19] from 59 to 61 (fun c wx => c = .bool ok ∧ wx = w5)
  case first =>
    rcases HC.out with ⟨rfl, q1, -⟩ | ⟨rfl, q1, -⟩
    all_goals
      go_wp2_with fail
      go_meet
      exact ⟨by first | rfl | (simp; omega), rfl⟩
  case rest =>
  obtain ⟨rfl, rfl⟩ := hcut
  go_upto_region 14 with fail
  go_cut [98] from 62 to 97 (fun c wx => c = .bool false ∧ Later wc wx)
  case first =>
    rcases HC.out with ⟨rfl, q1, rfl, rfl⟩ | ⟨rfl, q1, rfl, rfl⟩
    all_goals
      go_wp2_with fail
      refine (gRoot e0 k e00 e01 _).mono ?_
      rintro e' w6 h
      obtain ⟨rfl, hb⟩ := h.below
      have HB7 := Lib.hid hb
      clear hb h
      go_wp2_with fail
      go_meet
      exact ⟨by first | rfl | (simp; omega), HB7.out⟩
  case rest =>
  obtain ⟨rfl, hlt⟩ := hcut
  have HB8 := Lib.hid (HB6.out.trans (hlt.mono HB6.out.size))
  have HC8 := Lib.hid (HC6.out.below' hlt)
  clear hlt
  go_upto_region 16 with fail
  have hc := HC8.out
  have hz := hc.lt
  have c0 := cell_grown hz (hc.cell 0)
  have c1 := cell_grown hz (hc.cell 1)
  have c2 := cell_grown hz (hc.cell 2)
  have c3 := cell_grown hz (hc.cell 3)
  have c4 := cell_grown hz (hc.cell 4)
  clear hc hz
  cases may
  · refine wp_region_quiet_grown hfol (by kernel_rfl) ?_
    repeat (go_big_quiet_step (fail))
    refine wpQuiet_nil ?_
    intro _ hw'
    obtain ⟨⟨nr, osr⟩, hw''⟩ := hw'
    subst hw''
    go_wp2
    go_ret
    exact ⟨rfl, HB8.out.trans ((below_grow' wc nr osr).mono HB8.out.size)⟩
  · obtain ⟨ha, g⟩ := HG.out rfl
    subst ha
    have B0 : 0 ≤ B := by have := g.b2; have := g.lo; omega
    have B1 : B ≤ 200000 := by have := g.b1; have := g.hi; omega
    have I0 : 0 ≤ I := by have := g.i2; have := g.b2; have := g.lo; omega
    have I1 : I ≤ 10000000 := by have := g.i1; have := g.b1; have := g.hi; omega
    have D1 : D ≤ 10000000 := by have := g.d; have := g.hi; have := g.b2; omega
    have w1 : IntKind.i64.wrap (32 * a) = 32 * a := IntWalk.i64_in _ (by have := g.lo; have := g.hi; omega)
    have k0 := Lib.hid (fun w => gBankAt a B I L D k B0 B1 w)
    have k1 := Lib.hid (fun w => refBankAt_any a B I L D k B0 B1 w)
    have k2 := Lib.hid (fun w => gImageAt a B I L D k B0 B1 w)
    have k3 := Lib.hid (fun w => refImageAt_any a B I L D k B0 B1 w)
    have k4 := Lib.hid (fun w => gLogAt a B I L D k B0 B1 I0 I1 w)
    have k5 := Lib.hid (fun w => refLogAt_any a B I L D k B0 B1 I0 I1 w)
    have k6 := Lib.hid (fun w => gPageAt a B I L D p B0 B1 D1 w)
    have k7 := Lib.hid (fun w => refPageAt_any a B I L D p B0 B1 D1 w)
    have k8 := Lib.hid (fun w => gWords a B I L D (by have := g.lo; omega) g.hi w)
    clear g B0 B1 I0 I1 D1
    refine wp_region_quiet_grown hfol (by kernel_rfl) ?_
    repeat (go_big_quiet_step (first
      | (go_at_call 11; (with_reducible exact Grows.in k0.out _ _ _)) | (go_at_call 12; (with_reducible exact Grows.in k1.out _ _ _))
      | (go_at_call 13; (with_reducible exact Grows.in k2.out _ _ _)) | (go_at_call 14; (with_reducible exact Grows.in k3.out _ _ _))
      | (go_at_call 15; (with_reducible exact Grows.in k4.out _ _ _)) | (go_at_call 16; (with_reducible exact Grows.in k5.out _ _ _))
      | (go_at_call 17; (with_reducible exact Grows.in k6.out _ _ _)) | (go_at_call 18; (with_reducible exact Grows.in k7.out _ _ _))
      | (go_at_call 19; (with_reducible exact Grows.in k8.out _ _ _))))
    refine wpQuiet_nil ?_
    intro _ hw'
    obtain ⟨⟨nr, osr⟩, hw''⟩ := hw'
    subst hw''
    go_wp2
    go_ret
    exact ⟨by first | rfl | simp, HB8.out.trans ((below_grow' wc nr osr).mono HB8.out.size)⟩

theorem geomPlaces_walk (P : Int) (_ : (Lit.int .i64 P).wf = true) (k : Int) (_ : (Lit.int .i64 k).wf = true) (p : Int) (_ : (Lit.int .i64 p).wf = true) (ep : Int) (_ : (Lit.int .i64 ep).wf = true) (r : Int) (hr : (Lit.int .u64 r).wf = true) (w : World) :
    Calls Try.prog 3 #[.int .i64 P, .int .i64 k, .int .i64 p, .int .i64 ep, .int .u64 r] w (TrueB w) := by
  have h : IntKind.u64.min ≤ r ∧ r ≤ IntKind.u64.max := by simpa [Lit.wf] using hr
  have m1 : IntKind.u64.min = 0 := by decide
  have m2 : IntKind.u64.max = 18446744073709551615 := by decide
  exact places_any P k p ep r (by omega) (by omega) w
end Go.Proofs.Ytimlfpiaaocdeaa
