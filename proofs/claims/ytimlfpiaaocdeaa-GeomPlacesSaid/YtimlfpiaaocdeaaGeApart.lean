import Derived.Test.YtimlfpiaaocdeaaGeLaw
namespace Go.Proofs.Ytimlfpiaaocdeaa
open Wd Go.ChangeShapes Go.WideShapes Go.RowKit Go.Sort
set_option linter.unusedVariables false

/-- a device's numbers -/
structure Geo (P B I L D : Int) : Prop where
  lo : 64 ≤ P
  hi : P ≤ 1048576
  b1 : 8 * B ≤ P
  b2 : P < 8 * B + 8
  i1 : 2 * I ≤ 32 * B - 2
  i2 : 32 * B - 2 < 2 * I + 2
  l : L = 32 * B - 2 - I
  d : D = P - 1 - 2 * B
theorem geo_of (P : Int) (h1 : 64 ≤ P) (h2 : P ≤ 1048576) : ∃ B I L D, geomV P = .agg #[.int .i64 P, .int .i64 B, .int .i64 I, .int .i64 L, .int .i64 D] ∧ Geo P B I L D := by
  refine ⟨bankG P, imageG P, logG P, dataG P, rfl, h1, h2, ?_, ?_, ?_, ?_, ?_, ?_⟩ <;> unfold bankG <;> (try unfold imageG) <;> (try unfold logG) <;> (try unfold dataG) <;> (try unfold imageG) <;> omega
theorem geomOf_geo (P : Int) (h1 : 64 ≤ P) (h2 : P ≤ 1048576) : ∃ B I L D, Geo P B I L D ∧ ∀ w, Calls Try.prog 7 #[.int .i64 P] w (Grows (.tuple #[.agg #[.int .i64 P, .int .i64 B, .int .i64 I, .int .i64 L, .int .i64 D], .bool true]) w) := by
  obtain ⟨B, I, L, D, h, g⟩ := geo_of P h1 h2
  refine ⟨B, I, L, D, g, fun w => ?_⟩
  rw [← h]
  exact geomOf_yes P h1 h2 w

theorem bank0 {P B I L D : Int} (g : Geo P B I L D) (w : World) : Calls Try.prog 11 #[.agg #[.int .i64 P, .int .i64 B, .int .i64 I, .int .i64 L, .int .i64 D], .int .i64 0] w (Grows (.int .i64 32) w) :=
  gBankAt P B I L D 0 (by have := g.b2; have := g.lo; omega) (by have := g.b1; have := g.hi; omega) w
theorem bank1 {P B I L D b : Int} (g : Geo P B I L D) (h : b = 32 * (1 + B)) (w : World) : Calls Try.prog 11 #[.agg #[.int .i64 P, .int .i64 B, .int .i64 I, .int .i64 L, .int .i64 D], .int .i64 1] w (Grows (.int .i64 b) w) := by
  subst h
  exact gBankAt P B I L D 1 (by have := g.b2; have := g.lo; omega) (by have := g.b1; have := g.hi; omega) w
theorem image0 {P B I L D : Int} (g : Geo P B I L D) (w : World) : Calls Try.prog 13 #[.agg #[.int .i64 P, .int .i64 B, .int .i64 I, .int .i64 L, .int .i64 D], .int .i64 0] w (Grows (.int .i64 34) w) :=
  gImageAt P B I L D 0 (by have := g.b2; have := g.lo; omega) (by have := g.b1; have := g.hi; omega) w
theorem log0 {P B I L D v : Int} (g : Geo P B I L D) (h : v = 34 + I) (w : World) : Calls Try.prog 15 #[.agg #[.int .i64 P, .int .i64 B, .int .i64 I, .int .i64 L, .int .i64 D], .int .i64 0] w (Grows (.int .i64 v) w) := by
  have := gLogAt P B I L D 0 (by have := g.b2; have := g.lo; omega) (by have := g.b1; have := g.hi; omega) (by have := g.i2; have := g.b2; have := g.lo; omega) (by have := g.i1; have := g.b1; have := g.hi; omega) w
  rw [show bankP B 0 + 2 + I = v by rw [show bankP B 0 = 32 from rfl]; omega] at this
  exact this
theorem log1 {P B I L D v : Int} (g : Geo P B I L D) (h : v = 32 * (1 + B) + 2 + I) (w : World) : Calls Try.prog 15 #[.agg #[.int .i64 P, .int .i64 B, .int .i64 I, .int .i64 L, .int .i64 D], .int .i64 1] w (Grows (.int .i64 v) w) := by
  subst h
  exact gLogAt P B I L D 1 (by have := g.b2; have := g.lo; omega) (by have := g.b1; have := g.hi; omega) (by have := g.i2; have := g.b2; have := g.lo; omega) (by have := g.i1; have := g.b1; have := g.hi; omega) w
theorem page_ {P B I L D p v : Int} (g : Geo P B I L D) (h1 : 1 ≤ p) (h2 : p ≤ D) (h : v = 32 * (2 * B + p)) (w : World) : Calls Try.prog 17 #[.agg #[.int .i64 P, .int .i64 B, .int .i64 I, .int .i64 L, .int .i64 D], .int .i64 p] w (Grows (.int .i64 v) w) := by
  have := gPageAt P B I L D p (by have := g.b2; have := g.lo; omega) (by have := g.b1; have := g.hi; omega) (by have := g.d; have := g.hi; have := g.b2; omega) w
  rw [show pageP B D p = v by unfold pageP; rw [if_pos ⟨h1, h2⟩]; exact h.symm] at this
  exact this
theorem words_ {P B I L D v : Int} (g : Geo P B I L D) (h : v = 32 * P) (w : World) : Calls Try.prog 19 #[.agg #[.int .i64 P, .int .i64 B, .int .i64 I, .int .i64 L, .int .i64 D]] w (Grows (.int .i64 v) w) := by
  subst h
  exact gWords P B I L D (by have := g.lo; omega) g.hi w

set_option maxRecDepth 100000 in
theorem apart_none (P p q : Int) (w : World) (h : P < 64 ∨ 1048576 < P) : Calls Try.prog 4 #[.int .i64 P, .int .i64 p, .int .i64 q] w (TrueB w) := by
  have hn := geomOf_no P h
  unfold noneV at hn
  have HN := Lib.hid hn
  clear hn h
  go_enter Try.func4, Try.ntmps4
  go_wp2_with fail
  refine (geomAwake_true _).mono ?_
  rintro e' w2 ⟨rfl, hb⟩
  have HB := Lib.hid hb
  clear hb
  go_wp2_with fail
  refine (HN.out _).mono ?_
  rintro e' w3 h
  obtain ⟨rfl, hb⟩ := h.below
  have HB3 := Lib.hid (HB.out.trans (hb.mono HB.out.size))
  clear hb h
  go_wp2
  go_ret
  exact ⟨rfl, HB3.out.alloc HB3.out.size _⟩

set_option maxRecDepth 100000 in
theorem apart_far (P p q : Int) (w : World) (h1 : 64 ≤ P) (h2 : P ≤ 1048576) (h : ∀ B I L D, Geo P B I L D → p < 1 ∨ 1 ≤ p ∧ D < p ∨ 1 ≤ p ∧ p ≤ D ∧ q < 1 ∨ 1 ≤ p ∧ p ≤ D ∧ 1 ≤ q ∧ D < q) : Calls Try.prog 4 #[.int .i64 P, .int .i64 p, .int .i64 q] w (TrueB w) := by
  obtain ⟨B, I, L, D, g, hn⟩ := geomOf_geo P h1 h2
  have HN := Lib.hid hn
  have hc := h B I L D g
  clear hn h g h1 h2
  rcases hc with c1 | ⟨c1, c2⟩ | ⟨c1, c2, c3⟩ | ⟨c1, c2, c3, c4⟩
  all_goals
    go_enter Try.func4, Try.ntmps4
    go_wp2_with fail
    refine (geomAwake_true _).mono ?_
    rintro e' w2 ⟨rfl, hb⟩
    have HB := Lib.hid hb
    clear hb
    go_wp2_with fail
    refine (HN.out _).mono ?_
    rintro e' w3 h
    obtain ⟨rfl, hb⟩ := h.below
    have HB3 := Lib.hid (HB.out.trans (hb.mono HB.out.size))
    clear hb h
    go_wp2
    go_ret
    exact ⟨rfl, HB3.out.alloc HB3.out.size _⟩

set_option maxRecDepth 100000 in
set_option maxHeartbeats 2000000 in
theorem apart_any (P p q : Int) (w : World) (h1 : 64 ≤ P) (h2 : P ≤ 1048576) (B I L D : Int) (g : Geo P B I L D) (hn : ∀ w, Calls Try.prog 7 #[.int .i64 P] w (Grows (.tuple #[.agg #[.int .i64 P, .int .i64 B, .int .i64 I, .int .i64 L, .int .i64 D], .bool true]) w))
    (c1 : 1 ≤ p) (c2 : p ≤ D) (c3 : 1 ≤ q) (c4 : q ≤ D) : Calls Try.prog 4 #[.int .i64 P, .int .i64 p, .int .i64 q] w (TrueB w) := by
  have HN := Lib.hid hn; have HG := Lib.hid g
  clear hn
  obtain ⟨g1, g2, g3, g4, g5, g6, g7, g8⟩ := g
  obtain ⟨b, hb⟩ : ∃ b, b = 32 * (1 + B) := ⟨_, rfl⟩
  obtain ⟨l0, hl0⟩ : ∃ v, v = 34 + I := ⟨_, rfl⟩
  obtain ⟨l1, hl1⟩ : ∃ v, v = 32 * (1 + B) + 2 + I := ⟨_, rfl⟩
  obtain ⟨p1, hp1⟩ : ∃ v, v = 32 * (2 * B + 1) := ⟨_, rfl⟩
  obtain ⟨x, hx⟩ : ∃ v, v = 32 * (2 * B + p) := ⟨_, rfl⟩
  obtain ⟨y, hy⟩ : ∃ v, v = 32 * (2 * B + q) := ⟨_, rfl⟩
  obtain ⟨x2, hx2⟩ : ∃ v, v = x + 32 := ⟨_, rfl⟩
  obtain ⟨y2, hy2⟩ : ∃ v, v = y + 32 := ⟨_, rfl⟩
  obtain ⟨W, hW⟩ : ∃ v, v = 32 * P := ⟨_, rfl⟩
  have e1 : IntKind.i64.wrap (l0 + L) = b := by rw [show l0 + L = b by omega]; exact IntWalk.i64_in _ (by omega)
  have e2 : IntKind.i64.wrap (34 + I) = l0 := by rw [← hl0]; exact IntWalk.i64_in _ (by omega)
  have e3 : IntKind.i64.wrap (l1 + L) = p1 := by rw [show l1 + L = p1 by omega]; exact IntWalk.i64_in _ (by omega)
  have e4 : IntKind.i64.wrap (x + 32) = x2 := by rw [← hx2]; exact IntWalk.i64_in _ (by omega)
  have d1 : decide (W < x2) = false := decide_eq_false (by omega)
  have d2 : decide (L < 17) = false := decide_eq_false (by omega)
  have d3 : decide (I < 20) = false := decide_eq_false (by omega)
  have hcase : p = q ∧ x = y ∨ p < q ∧ x2 ≤ y ∨ q < p ∧ y2 ≤ x := by omega
  have k0 := Lib.hid (fun w => bank0 HG.out w)
  have k1 := Lib.hid (fun w => bank1 HG.out hb w)
  have k2 := Lib.hid (fun w => image0 HG.out w)
  have k3 := Lib.hid (fun w => log0 HG.out hl0 w)
  have k4 := Lib.hid (fun w => log1 HG.out hl1 w)
  have k5 := Lib.hid (fun w => page_ HG.out (by omega) (by omega) hp1 w)
  have k6 := Lib.hid (fun w => page_ HG.out c1 c2 hx w)
  have k7 := Lib.hid (fun w => page_ HG.out c3 c4 hy w)
  have k8 := Lib.hid (fun w => words_ HG.out hW w)
  have E1 := Lib.hid e1; have E2 := Lib.hid e2; have E3 := Lib.hid e3; have E4 := Lib.hid e4; have D1 := Lib.hid d1; have D2 := Lib.hid d2; have D3 := Lib.hid d3; have HC := Lib.hid hcase; have HX2 := Lib.hid hx2; have HY2 := Lib.hid hy2
  have xb : x ≤ 100000000 := by omega
  have xa : 0 ≤ x := by omega
  have yb : y ≤ 100000000 := by omega
  have ya : 0 ≤ y := by omega
  have hfol : Try.prog.follows Departure.mixedOrders = true := by kernel_rfl
  clear g1 g2 g3 g4 g5 g6 g7 g8 hb hl0 hl1 hp1 hx hy hx2 hy2 hW e1 e2 e3 e4 d1 d2 d3 hcase h1 h2
  go_enter Try.func4, Try.ntmps4
  go_wp2_with fail
  refine (geomAwake_true _).mono ?_
  rintro e' w2 ⟨rfl, hb⟩
  have HB := Lib.hid hb
  clear hb
  go_wp2_with fail
  refine (HN.out _).mono ?_
  rintro e' w3 h
  obtain ⟨rfl, hb⟩ := h.below
  have HB3 := Lib.hid (HB.out.trans (hb.mono HB.out.size))
  clear hb h
  go_upto_region 6 with fail
  obtain ⟨W1, hW⟩ : ∃ W1, w3.alloc (.cells #[.int .i64 P, .int .i64 B, .int .i64 I, .int .i64 L, .int .i64 D] 25) = W1 := ⟨_, rfl⟩
  have hc := fun i => (Cells.new w3 25 #[.int .i64 P, .int .i64 B, .int .i64 I, .int .i64 L, .int .i64 D]).cell i
  have hz : w3.heap.size < W1.heap.size := by rw [← hW]; simp
  have hb1 : Below w.heap.size w W1 := by rw [← hW]; exact HB3.out.alloc HB3.out.size _
  rw [hW] at hc ⊢
  have HB4 := Lib.hid hb1; have HZ := Lib.hid hz
  have c0 := cell_grown hz (hc 0)
  have c1 := cell_grown hz (hc 1)
  have c2 := cell_grown hz (hc 2)
  have c3 := cell_grown hz (hc 3)
  have c4 := cell_grown hz (hc 4)
  clear hc hW hb1 hz
  refine wp_region_quiet_grown hfol (by kernel_rfl) ?_
  repeat (go_big_quiet_step (first | (go_at_call 11; first | (with_reducible exact Grows.in k0.out _ _ _) | (with_reducible exact Grows.in k1.out _ _ _)) | (go_at_call 17; first | (with_reducible exact Grows.in k6.out _ _ _) | (with_reducible exact Grows.in k7.out _ _ _))))
  refine wpQuiet_nil ?_
  intro _ hw'
  obtain ⟨⟨nq, osq⟩, hw''⟩ := hw'
  subst hw''
  have b0 := c0 nq osq
  have b1 := c1 nq osq
  have b2 := c2 nq osq
  have b3 := c3 nq osq
  have b4 := c4 nq osq
  have hb5 := HB4.out.trans ((below_grow' W1 nq osq).mono HB4.out.size)
  have hz5 : w3.heap.size < (grow (W1.drewN nq) osq).heap.size := Nat.lt_of_lt_of_le HZ.out (below_grow' W1 nq osq).size
  obtain ⟨W2, hW⟩ : ∃ W2, grow (W1.drewN nq) osq = W2 := ⟨_, rfl⟩
  clear c0 c1 c2 c3 c4
  rw [hW] at b0 b1 b2 b3 b4 hb5 hz5 ⊢
  have HB5 := Lib.hid hb5
  have c0 := cell_grown hz5 b0
  have c1 := cell_grown hz5 b1
  have c2 := cell_grown hz5 b2
  have c3 := cell_grown hz5 b3
  have c4 := cell_grown hz5 b4
  clear hW b0 b1 b2 b3 b4 hb5 hz5
  have e1 := E1.out; have e2 := E2.out; have e3 := E3.out; have e4 := E4.out; have d1 := D1.out; have d2 := D2.out; have d3 := D3.out
  go_upto_region 7 with fail
  refine wp_region_quiet_grown hfol (by kernel_rfl) ?_
  repeat (go_big_quiet_step (first | (go_at_call 15; first | (with_reducible exact Grows.in k3.out _ _ _) | (with_reducible exact Grows.in k4.out _ _ _)) | (go_at_call 13; exact Grows.in k2.out _ _ _) | (go_at_call 17; exact Grows.in k5.out _ _ _) | (go_at_call 19; exact Grows.in k8.out _ _ _)))
  refine wpQuiet_nil ?_
  intro _ hw'
  obtain ⟨⟨nr, osr⟩, hw''⟩ := hw'
  subst hw''
  have HB6 := Lib.hid (HB5.out.trans ((below_grow' W2 nr osr).mono HB5.out.size))
  clear e1 e2 e3 e4 d1 d2 d3 c0 c1 c2 c3 c4
  rcases HC.out with ⟨n1, n2⟩ | ⟨n1, n2⟩ | ⟨n1, n2⟩
  · subst n1 n2
    go_wp2
    go_ret
    exact ⟨rfl, HB6.out⟩
  · have n3 : x + 32 ≤ y := by have := HX2.out; omega
    go_wp2
    go_ret
    exact ⟨rfl, HB6.out⟩
  · have n3 : y + 32 ≤ x := by have := HY2.out; omega
    go_wp2
    go_ret
    exact ⟨rfl, HB6.out⟩

theorem geomApart_walk (P : Int) (_ : (Lit.int .i64 P).wf = true) (p : Int) (_ : (Lit.int .i64 p).wf = true) (q : Int) (_ : (Lit.int .i64 q).wf = true) (w : World) :
    Calls Try.prog 4 #[.int .i64 P, .int .i64 p, .int .i64 q] w (TrueB w) := by
  by_cases h1 : 64 ≤ P ∧ P ≤ 1048576
  · obtain ⟨B, I, L, D, g, hn⟩ := geomOf_geo P h1.1 h1.2
    by_cases h2 : 1 ≤ p ∧ p ≤ D ∧ 1 ≤ q ∧ q ≤ D
    · exact apart_any P p q w h1.1 h1.2 B I L D g hn h2.1 h2.2.1 h2.2.2.1 h2.2.2.2
    · refine apart_far P p q w h1.1 h1.2 (fun B' I' L' D' g' => ?_)
      have e : D' = D := by have := g.d; have := g'.d; have := g.b1; have := g'.b1; have := g.b2; have := g'.b2; omega
      rw [e]
      omega
  · exact apart_none P p q w (by omega)
end Go.Proofs.Ytimlfpiaaocdeaa
