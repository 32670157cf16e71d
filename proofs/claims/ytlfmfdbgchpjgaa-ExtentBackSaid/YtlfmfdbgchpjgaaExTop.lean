import Derived.Test.YtlfmfdbgchpjgaaExJoin
namespace Go.Proofs.Ytlfmfdbgchpjgaa
open Wd Ex Go.RowKit Go.ChangeShapes Go.WideShapes Go.Sort
set_option linter.unusedVariables false
set_option maxRecDepth 100000

theorem grows_b {v : Value} {w : World} {e : Ending} {w' : World} (h : Grows v w e w') : e = .returned v ∧ Below w.heap.size w w' := h.below
def pageE (l : List Ext) (i : Int) : Int := if rightB l = true then pg l i else 0
theorem page_yes {l : List Ext} (h : rightB l = true) (i : Int) : pageE l i = pg l i := by unfold pageE; rw [if_pos h]
theorem page_no {l : List Ext} (h : rightB l = false) (i : Int) : pageE l i = 0 := by unfold pageE; rw [h]; rfl
theorem one_place {l : List Ext} (h : Right l) {i : Int} (h0 : 0 ≤ i) : (btw l i (i + 1) = [] ∧ pg l i = 0) ∨ ∃ e t, btw l i (i + 1) = e :: t ∧ e.p = pg l i := by
  have hs : Span i (i + 1) := ⟨h0, .inl (by omega)⟩
  have h1 := btw_pg h.up hs i
  rw [if_pos (by omega)] at h1
  cases hb : btw l i (i + 1) with
  | nil => rw [hb] at h1; exact .inl ⟨rfl, h1.symm⟩
  | cons e t =>
    have hr := btw_right h hs
    have hi := @btw_in l i (i + 1) e (by rw [hb]; exact List.mem_cons_self)
    have hn := (hr.fits e (by rw [hb]; exact List.mem_cons_self)).n
    rw [hb, pg, if_pos (by omega)] at h1
    exact .inr ⟨e, t, rfl, by omega⟩
section
variable {w : World} {lo hi : Nat} {A : Option Addr} {c : Nat} {l : List Ext}
set_option maxHeartbeats 2000000 in
theorem xAt (h : Exs w lo hi A l) (hh : hi ≤ w.heap.size) (hs : Small l) (hm : l.length ≤ 1000) (i : Int) : Calls Try.prog 15 #[.slice A l.length c, .int .i64 i] w (Tells (.int .i64 (pageE l i)) w) := by
  have KR := Lib.hid (xRight (c := c) h hh hs (by omega))
  have H := Lib.hid h
  clear h hs
  cases hr : rightB l
  · rw [hr] at KR
    rw [page_no hr]
    clear hr
    go_enter Try.func15, Try.ntmps15
    go_wp2_with fail
    refine KR.out.mono ?_
    rintro e w1 hg
    obtain ⟨rfl, b1⟩ := grows_b hg
    clear hg KR
    go_wp2
    go_ret
    exact ⟨rfl, b1⟩
  · rw [hr] at KR
    rw [page_yes hr]
    have hR := rightB_iff.1 hr
    have KM := Lib.hid (fun w => xMay i w)
    by_cases hi' : 0 ≤ i ∧ i < 1048576
    · rw [decide_eq_true hi'] at KM
      have KB := Lib.hid (fun (w1 : World) (b1 : Below w.heap.size w w1) => xBtw (c := c) (a := i) (b := i + 1) (H.out.below (b1.mono hh)) (Nat.le_trans hh b1.size) hR.fits hm ⟨hi'.1, .inl (by omega)⟩ (by omega))
      have hop := one_place hR hi'.1
      obtain ⟨R, hRR⟩ : ∃ R, pg l i = R := ⟨_, rfl⟩
      rw [hRR] at hop ⊢
      have HOP := Lib.hid hop
      have q : wrap64 (i + 1) = i + 1 := by unfold wrap64; omega
      clear hr hR hi' hop hRR
      go_enter Try.func15, Try.ntmps15
      go_wp2_with fail
      refine KR.out.mono ?_
      rintro e w1 hg
      obtain ⟨rfl, b1⟩ := grows_b hg
      have B1 := Lib.hid b1
      clear hg KR b1
      go_wp2_with (go_at_call 27; refine (KM.out _).mono ?_; rintro e w2 ⟨rfl, rfl⟩)
      refine (KB.out _ B1.out).mono ?_
      rintro e w3 ⟨v, rfl, hown, b3⟩
      have B3 := Lib.hid (B1.out.trans (b3.mono B1.out.size))
      obtain ⟨A2, c2, rfl, hc2, hx⟩ := hown.form
      clear b3 KB KM q hown
      rcases HOP.out with ⟨h1, h2⟩ | ⟨e, t, h1, h2⟩
      · rw [h1]
        subst h2
        clear h1 hx hc2
        go_wp2
        go_ret
        exact ⟨rfl, B3.out⟩
      · rw [h1] at hx ⊢
        obtain ⟨b, off, rfl, _, _, x0, x1, x2⟩ := exs_cells hx (k := 0) (e := e) rfl
        rw [Nat.zero_mul, Nat.add_zero] at x0 x1 x2
        subst h2
        have hl : (e :: t).length = t.length + 1 := rfl
        rw [hl]
        obtain ⟨N, hN⟩ : ∃ N, t.length + 1 = N := ⟨_, rfl⟩
        rw [hN]
        have t1 : ((N : Int) == 0) = false := by simp; omega
        have t2 : (0 : Int) < (N : Int) := by omega
        clear h1 hx hc2 hl hN
        go_wp2
        go_ret
        exact ⟨rfl, B3.out⟩
    · have hz : pg l i = 0 := by
        by_cases h0 : i < 0
        · exact hR.low h0
        · exact hR.high (by omega)
      rw [hz]
      rw [decide_eq_false hi'] at KM
      clear hr hR hi' hz
      go_enter Try.func15, Try.ntmps15
      go_wp2_with fail
      refine KR.out.mono ?_
      rintro e w1 hg
      obtain ⟨rfl, b1⟩ := grows_b hg
      have B1 := Lib.hid b1
      clear hg KR b1
      go_wp2_with (go_at_call 27; refine (KM.out _).mono ?_; rintro e w2 ⟨rfl, rfl⟩)
      go_ret
      exact ⟨rfl, B1.out⟩
set_option maxHeartbeats 2000000 in
theorem xCut (h : Exs w lo hi A l) (hh : hi ≤ w.heap.size) (hr : rightB l = true) (hm : l.length ≤ 1000) (n : Int) (h0 : 0 ≤ n) (h1 : n < 1048576) : Calls Try.prog 19 #[.slice A l.length c, .int .i64 n] w (MadeX (btw l 0 n) w) := by
  have hR := rightB_iff.1 hr
  have KR := Lib.hid (xRight (c := c) h hh (fun e he => by have := (hR.fits e he).fn; have := (hR.fits e he).f; omega) (by omega))
  have H := Lib.hid h
  rw [hr] at KR
  have KM := Lib.hid (fun w => xMay n w)
  rw [decide_eq_true (And.intro h0 h1)] at KM
  have KB := Lib.hid (fun (w1 : World) (b1 : Below w.heap.size w w1) => xBtw (c := c) (a := 0) (b := n) (H.out.below (b1.mono hh)) (Nat.le_trans hh b1.size) hR.fits hm ⟨Int.le_refl _, by omega⟩ (by omega))
  clear h hr hR h0 h1
  go_enter Try.func19, Try.ntmps19
  go_wp2_with fail
  refine KR.out.mono ?_
  rintro e w1 hg
  obtain ⟨rfl, b1⟩ := grows_b hg
  have B1 := Lib.hid b1
  clear hg KR b1
  go_wp2_with (go_at_call 27; refine (KM.out _).mono ?_; rintro e w2 ⟨rfl, rfl⟩)
  refine (KB.out _ B1.out).mono ?_
  rintro e w3 ⟨v, rfl, hown, b3⟩
  have B3 := Lib.hid (B1.out.trans (b3.mono B1.out.size))
  have HO := Lib.hid (hown.mono B1.out.size)
  clear hown b3
  go_wp2
  go_ret
  exact ⟨_, rfl, HO.out, B3.out⟩
end
end Go.Proofs.Ytlfmfdbgchpjgaa
