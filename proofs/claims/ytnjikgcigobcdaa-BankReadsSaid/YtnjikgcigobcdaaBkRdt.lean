import Derived.Test.YtnjikgcigobcdaaBkRds
import Derived.Test.YtnjikgcigobcdaaLaw
import Derived.Deep.Slices
namespace Go.Proofs.Ytnjikgcigobcdaa
open Wd Pm Go.Maps Go.ChangeShapes Go.WideShapes Go.RowKit Go.Sort
set_option linter.unusedVariables false

set_option maxRecDepth 100000 in
set_option maxHeartbeats 8000000 in
theorem reads_true (p : Int) (A1 : Option Addr) (c1 : Nat) (image : List Int) (A2 : Option Addr) (c2 : Nat) (L : List WS) (w : World) (r1 : RowB w A1 image) (u1 : ∀ v ∈ image, U64 v) (r2 : Row w w.heap.size A2 L.length (L.map wsV)) (u2 : ∀ y ∈ L, RowB w y.1 y.2.2 ∧ ∀ v ∈ y.2.2, U64 v) :
    Calls Try.prog 3 #[.int .i64 p, .slice A1 image.length c1, .slice A2 L.length c2] w (TrueB w) := by
  by_cases hall : good p ∧ image.length ≤ 200 ∧ L.length ≤ 20 ∧ (image.length : Int) ≤ imageG p
  · obtain ⟨hg, f1, f2, t1⟩ := hall
    exact reads_go p A1 c1 image A2 c2 L w r1 u1 r2 u2 hg f1 f2 t1
  have R1 := Lib.hid r1; have U1 := Lib.hid u1; have HALL := Lib.hid hall
  obtain ⟨n1, hn1⟩ : ∃ n, image.length = n := ⟨_, rfl⟩
  obtain ⟨N, hN⟩ : ∃ n, L.length = n := ⟨_, rfl⟩
  have N1 := Lib.hid hn1; have NN := Lib.hid hN
  rw [hn1, hN]
  clear r1 r2 u1 u2 hn1 hN hall
  go_enter Try.func3, Try.ntmps3
  go_wp2_with fail
  refine (awake_bank w).mono ?_
  rintro e w1 ⟨rfl, b1⟩
  have B1 := Lib.hid b1
  clear b1
  go_wp2_with fail
  refine (few_is _ _ _ _).mono ?_
  rintro e w' ⟨rfl, rfl⟩
  by_cases f1 : n1 ≤ 200
  rotate_left
  · rw [decide_eq_false f1]
    clear f1
    go_wp2
    go_ret
    exact ⟨rfl, B1.out⟩
  rw [decide_eq_true f1]
  by_cases f2 : (N : Int) > 20
  · have q2 : decide ((N : Int) > 20) = true := by simpa using f2
    go_wp2
    go_ret
    exact ⟨rfl, B1.out⟩
  have q2 : decide ((N : Int) > 20) = false := by simpa using f2
  by_cases hg : good p
  rotate_left
  · have KN : ∀ (v1 v2 : Value) (w : World), Calls Try.prog 8 #[.int .i64 p, v1, v2] w (MadeNo w) := fun v1 v2 w => by
      by_cases h : p < 64 ∨ 1048576 < p
      · exact made_low p h _ _ w
      · exact made_high p (by unfold good at hg; omega) _ _ w
    have KNH := Lib.hid KN
    clear KN hg
    go_wp2_with fail
    refine (KNH.out _ _ w1).mono ?_
    rintro e w2 ⟨⟨a0, a1, a2, a3, a4, rfl⟩, b2⟩
    have B2 := Lib.hid (B1.out.trans (b2.mono B1.out.size))
    clear b2 KNH
    go_wp2
    go_ret
    exact ⟨rfl, B2.out.alloc B2.out.size _⟩
  have t1 : ¬ (n1 : Int) ≤ imageG p := fun h => HALL.out ⟨hg, by have := N1.out; omega, by have := NN.out; omega, by have := N1.out; omega⟩
  have KM := made_ok p hg A1 c1 image none 0 [] w1 ((Row.below R1.out B1.out).more B1.out.size) U1.out (by have := N1.out; omega) (row_none w1) (fun v hv => by cases hv) (by simp)
  rw [N1.out] at KM
  have q3 : decide ((n1 : Int) ≤ imageG p) = false := decide_eq_false t1
  have NF := Lib.hid (decide_eq_false (fun h : (n1 : Int) ≤ imageG p ∧ (([] : List Int).length : Int) ≤ logG p => t1 h.1))
  have KMH := Lib.hid KM
  clear KM hg t1
  go_wp2_with fail
  refine (KMH.out).mono ?_
  rintro e w2 ⟨f, rfl, b2, _⟩
  rw [N1.out, NF.out]
  have B2 := Lib.hid ((B1.out.trans (b2.mono B1.out.size)).alloc (Nat.le_trans B1.out.size b2.size) (.cells #[.int .i64 p, .int .i64 (bankG p), .int .i64 (imageG p), .int .i64 (logG p), .int .i64 (dataG p)] 28))
  unfold Fp.ptr
  have CN := Lib.hid (Cells.new w2 28 #[.int .i64 p, .int .i64 (bankG p), .int .i64 (imageG p), .int .i64 (logG p), .int .i64 (dataG p)])
  clear b2 KMH
  go_upto_region 8 with fail
  obtain ⟨w3, hw3⟩ : ∃ w3, w2.alloc (.cells #[.int .i64 p, .int .i64 (bankG p), .int .i64 (imageG p), .int .i64 (logG p), .int .i64 (dataG p)] 28) = w3 := ⟨_, rfl⟩
  rw [hw3] at CN B2 ⊢
  clear hw3
  have k2 := CN.out.cell 2
  go_wp2
  go_ret
  exact ⟨rfl, B2.out⟩

section
variable {H : Type} {enc : TypeId × Value → H} {P : Program} {W : World} {base : Nat} {spare : Nat → Bool} {held : Bool}
/-- words, opened by what is told of their cells alone -/
theorem open_ws {t e : TypeId} {fuel : Nat} {v : Value} {x : DataW H × List MemPlace} (ht : P.underlying t = some (.slice e)) (hc : P.cellsOf e = 1) (he : P.underlying e = some (.int .u64))
    (hf : DataW.trod enc P W base spare held fuel t [v] = some x) : ∃ y : WS, v = wsV y ∧ RowB W y.1 y.2.2 ∧ ∀ v ∈ y.2.2, U64 v := by
  rcases Go.Deep.open_slice1 ht hc hf with ⟨hcs, _⟩ | ⟨a, len, cap, m, n, V, D, Pl, hcs, _, hl, hm, hmm, _, hx⟩
  · simp at hcs
    exact ⟨(none, 0, []), hcs, row_none W, fun v hv => by cases hv⟩
  · simp at hcs
    have hle : len ≤ m := by rw [hmm]; split <;> omega
    have each : ∀ i, i < len → ∃ y : Int, V i = VU64 y ∧ U64 y := fun i hi => by
      obtain ⟨b, hb, _, hw⟩ := DataW.trod_int he (hx i (by omega)).2
      exact ⟨b, (List.cons.inj hb).1, hw⟩
    obtain ⟨Y, hY⟩ := Go.Deep.choose_lt (n := len) (p := fun i y => V i = VU64 y ∧ U64 y) each
    refine ⟨(some a, cap, (List.range len).map Y), by rw [hcs]; simp [wsV], ⟨by simp, fun hn => ?_⟩, fun y hy => ?_⟩
    · simp only [List.length_map, List.length_range] at hn
      obtain ⟨b, off, spot⟩ := a
      have hc0 := (hx 0 (by omega)).1
      have hs : spot = none := by simpa [Addr.add] using World.cell?_spot hc0
      subst hs
      refine ⟨b, off, rfl, ?_, fun j hj => ?_⟩
      · simpa [Addr.add] using World.block_lt_of_cell? _ _ hc0
      · simp at hj
        have := (hx j (by omega)).1
        rw [(hY j hj).1] at this
        have e : (⟨b, off, none⟩ : Addr).add j = ⟨b, off + j, none⟩ := by unfold Addr.add; split <;> simp_all
        rw [e] at this
        simpa using this
    · obtain ⟨i, hi, rfl⟩ := List.mem_map.1 hy
      exact (hY i (List.mem_range.1 hi)).2
end
end Go.Proofs.Ytnjikgcigobcdaa
