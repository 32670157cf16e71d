import Derived.Test.YtlfmfdbgchpjgaaExLen
namespace Go.Proofs.Ytlfmfdbgchpjgaa
open Wd Ex Go.RowKit Go.ChangeShapes Go.WideShapes Go.Sort
set_option linter.unusedVariables false
set_option maxRecDepth 100000

def HolRel (m : List Ext) (n : Int) (w2 : World) (v at_ i : Value) (wr : World) : Prop := ∃ (k : Nat) (acc : List Ext) (a : Int), k ≤ m.length ∧ acc.length ≤ k ∧ i = .int .i64 k ∧ at_ = .int .i64 a ∧ 0 ≤ a ∧ a ≤ 1048576 ∧ holesE 0 m n = acc ++ holesE a (m.drop k) n ∧ OwnX wr w2.heap.size v acc ∧ Below w2.heap.size w2 wr
def holesOf (l : List Ext) (n : Int) : List Ext := if rightB l = true then holesE 0 (btw l 0 n) n else []
theorem hole_len (a b : Int) : (holeE a b).length ≤ 1 := by unfold holeE; split <;> simp
section
variable {w : World} {lo hi : Nat} {A : Option Addr} {c : Nat} {l : List Ext}
set_option maxHeartbeats 4000000 in
theorem xHoles (h : Exs w lo hi A l) (hh : hi ≤ w.heap.size) (hs : Small l) (hm : l.length ≤ 1000) (n : Int) (hn : n ≤ 1048576) : Calls Try.prog 18 #[.slice A l.length c, .int .i64 n] w (MadeX (holesOf l n) w) := by
  have KR := Lib.hid (xRight (c := c) h hh hs (by omega))
  have H := Lib.hid h
  clear h hs
  unfold holesOf
  cases hr : rightB l
  · rw [hr] at KR
    rw [if_neg (by simp)]
    clear hr
    go_enter Try.func18, Try.ntmps18
    go_wp2_with fail
    refine KR.out.mono ?_
    rintro e w1 hg
    obtain ⟨rfl, b1⟩ := grows_b hg
    clear hg KR
    go_wp2
    go_ret
    exact ⟨_, rfl, own_nilX _ _, b1⟩
  · rw [hr] at KR
    rw [if_pos rfl]
    have hR := rightB_iff.1 hr
    have s1 : Span 0 n := ⟨Int.le_refl _, by omega⟩
    have KB := Lib.hid (fun (w1 : World) (b1 : Below w.heap.size w w1) => xBtw (c := c) (a := 0) (b := n) (H.out.below (b1.mono hh)) (Nat.le_trans hh b1.size) hR.fits hm s1 hn)
    have hf := (btw_right hR s1).fits
    have hln := @btw_len l 0 n
    obtain ⟨m, hm'⟩ : ∃ m, btw l 0 n = m := ⟨_, rfl⟩
    rw [hm'] at hf KB hln ⊢
    have HF := Lib.hid hf
    clear hr hR s1 hf hm'
    go_enter Try.func18, Try.ntmps18
    go_wp2_with fail
    refine KR.out.mono ?_
    rintro e w1 hg
    obtain ⟨rfl, b1⟩ := grows_b hg
    have B1 := Lib.hid b1
    clear hg KR b1
    go_wp2_with fail
    refine (KB.out _ B1.out).mono ?_
    rintro e w2 ⟨v2, rfl, own2, b2⟩
    have B2 := Lib.hid (B1.out.trans (b2.mono B1.out.size))
    obtain ⟨A2, c2, rfl, _, hx2⟩ := own2.form
    have X2 := Lib.hid hx2
    clear own2 b2 hx2 KB
    go_wp2
    go_loopw [5, 6, 16] (fun v a i wr => HolRel m n w2 v a i wr) (fun _ _ i _ => m.length - (intOf i).toNat)
    case atStart => exact ⟨0, [], 0, Nat.zero_le _, Nat.le_refl _, rfl, rfl, Int.le_refl _, by omega, rfl, own_nilX _ _, Below.refl _ _⟩
    case round =>
      obtain ⟨k, acc, a, hk, hacc, rfl, rfl, a0, a1, hho, hown, hb⟩ := hrel
      have HHO := Lib.hid hho; have HO := Lib.hid hown; have HB := Lib.hid hb
      have hsz := hb.size
      by_cases hlt : k < m.length
      · obtain ⟨e, he⟩ : ∃ e, m[k]? = some e := ⟨_, List.getElem?_eq_getElem hlt⟩
        obtain ⟨bl, off, rfl, _, hbB, x0, x1, x2⟩ := exs_cells (X2.out.below hb) he
        have hlt2 : (k : Int) < (m.length : Int) := Int.ofNat_lt.2 hlt
        have fe := HF.out e (List.mem_of_getElem? he)
        have KH := Lib.hid (fun w => xHole a e.f (by have := fe.f; have := fe.fn; have := fe.n; omega) w)
        have KA := Lib.hid (fun w => xAfter e (by have := fe.f; have := fe.n; omega) (by have := fe.fn; omega) w)
        have hho' := HHO.out
        rw [drop_at he, holesE] at hho'
        have T0 := Lib.hid (show 0 ≤ e.f + e.n ∧ e.f + e.n ≤ 1048576 by have := fe.f; have := fe.fn; have := fe.n; omega)
        have hl1 := hole_len a e.f
        obtain ⟨hm1, hhm⟩ : ∃ x, holeE a e.f = x := ⟨_, rfl⟩
        obtain ⟨t, ht⟩ : ∃ x, e.f + e.n = x := ⟨_, rfl⟩
        rw [hhm] at hho' KH hl1
        rw [ht] at hho' KA T0
        have HH2 := Lib.hid hho'
        have C1 := Lib.hid (Cells.new wr 29 (xc e))
        have HB1 := Lib.hid (HB.out.alloc HB.out.size (.cells (xc e) 29))
        have HO1 := Lib.hid (HO.out.below ((Below.refl _ _).alloc (Nat.le_refl _) (.cells (xc e) 29)))
        unfold Ext.val at KA
        clear he fe hho hho' hb hown hhm ht
        go_wp2_with fail
        refine (KH.out _).mono ?_
        rintro e3 w3 ⟨v3, rfl, own3, b3⟩
        have B3 := Lib.hid (HB1.out.trans (b3.mono HB1.out.size))
        have O3 := Lib.hid (HO1.out.below b3)
        have C3 := Lib.hid (C1.out.below' b3)
        obtain ⟨A3, c3, rfl, _, hx3⟩ := own3.form
        have X3 := Lib.hid hx3
        have hs3 := B3.out.size
        have hl3 : acc.length + hm1.length ≤ 100000 := by omega
        clear own3 b3 hx3 KH x0 x1 x2
        go_wp2_with (at_builtin; refine wpList_append_exs rfl (.tmp 20) (.tmp 24) rfl rfl rfl O3.out X3.out hl3 hs3 ?_; intro v7 w7 hown7 hgr7 hat7; have HO7 := Lib.hid hown7; have B7 := Lib.hid (show Below w2.heap.size w2 w7 from B3.out.grown hgr7 hs3 (own_base O3.out)); have C7 := Lib.hid (C3.out.grown hgr7 (fun e => by have h1 := (HO.out.blk _ e.symm).2; omega)); have c0 : w7.cell? ⟨wr.heap.size, 0, none⟩ = some (.int .i64 e.f) := C7.out.cell 0; have c1 : w7.cell? ⟨wr.heap.size, 1, none⟩ = some (.int .i64 e.n) := C7.out.cell 1; have c2' : w7.cell? ⟨wr.heap.size, 2, none⟩ = some (.int .i64 e.p) := C7.out.cell 2; clear hown7 hgr7 hat7)
        refine (KA.out _).mono ?_
        rintro e4 w4 hg
        obtain ⟨rfl, b4⟩ := grows_b hg
        have B4 := Lib.hid (B7.out.trans (b4.mono B7.out.size))
        have O4 := Lib.hid (HO7.out.below b4)
        clear hg b4 KA c0 c1 c2'
        go_wp2
        go_roundw
        case rel => exact ⟨k + 1, acc ++ hm1, t, by omega, by rw [List.length_append]; omega, by go_num, rfl, T0.out.1, T0.out.2, by rw [HH2.out, List.append_assoc], O4.out, B4.out⟩
        case measure => simp [intOf]; omega
      · obtain rfl : k = m.length := by omega
        have hho' := HHO.out
        rw [List.drop_length, holesE] at hho'
        have KH := Lib.hid (fun w => xHole a n (by omega) w)
        have hl1 := hole_len a n
        obtain ⟨hm1, hhm⟩ : ∃ x, holeE a n = x := ⟨_, rfl⟩
        rw [hhm] at hho' KH hl1
        have HH2 := Lib.hid hho'
        clear hho hho' hb hown hhm
        go_wp2_with fail
        refine (KH.out _).mono ?_
        rintro e3 w3 ⟨v3, rfl, own3, b3⟩
        have B3 := Lib.hid (HB.out.trans (b3.mono HB.out.size))
        have O3 := Lib.hid (HO.out.below b3)
        obtain ⟨A3, c3, rfl, _, hx3⟩ := own3.form
        have X3 := Lib.hid hx3
        have hs3 := B3.out.size
        have hl3 : acc.length + hm1.length ≤ 100000 := by omega
        clear own3 b3 hx3 KH
        go_wp2_with (at_builtin; refine wpList_append_exs rfl (.tmp 29) (.tmp 32) rfl rfl rfl O3.out X3.out hl3 hs3 ?_; intro v7 w7 hown7 hgr7 hat7; have HO7 := Lib.hid hown7; have B7 := Lib.hid (show Below w2.heap.size w2 w7 from B3.out.grown hgr7 hs3 (own_base O3.out)); clear hown7 hgr7 hat7)
        go_ret
        exact ⟨_, rfl, by rw [HH2.out]; exact HO7.out.mono B2.out.size, B2.out.trans (B7.out.mono B2.out.size)⟩
end
end Go.Proofs.Ytlfmfdbgchpjgaa
