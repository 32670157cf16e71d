import Derived.Test.YtlfmfdbgchpjgaaExTop
namespace Go.Proofs.Ytlfmfdbgchpjgaa
open Wd Ex Go.RowKit Go.ChangeShapes Go.WideShapes Go.Sort
set_option linter.unusedVariables false
set_option maxRecDepth 100000

theorem joins_tame : ∀ {m l : List Ext}, (∀ x ∈ l, Tame x) → (∀ x ∈ m, Tame x) → ∀ x ∈ m.foldl joinE l, Tame x := by
  intro m
  induction m with
  | nil => intro l h _; exact h
  | cons e m ih => intro l h hm; exact ih (join_tame h (hm e List.mem_cons_self)) (fun x hx => hm x (List.mem_cons_of_mem _ hx))
theorem small_right {l : List Ext} (h : Right l) : Small l := fun e he => by have := (h.fits e he).fn; have := (h.fits e he).f; omega
section
variable {w : World} {lo hi : Nat} {A : Option Addr} {c : Nat} {l : List Ext}
set_option maxHeartbeats 2000000 in
theorem xPut (h : Exs w lo hi A l) (hh : hi ≤ w.heap.size) (hr : rightB l = true) (hm : l.length ≤ 1000) (i p : Int) (h0 : 0 ≤ i) (h1 : i < 1048576) (p0 : 0 ≤ p) (p1 : p < 1048576) : Calls Try.prog 20 #[.slice A l.length c, .int .i64 i, .int .i64 p] w (MadeX (putE l i p) w) := by
  have hR := rightB_iff.1 hr
  have KR := Lib.hid (xRight (c := c) h hh (small_right hR) (by omega))
  have H := Lib.hid h
  rw [hr] at KR
  have KM := Lib.hid (fun w => xMay i w)
  rw [decide_eq_true (And.intro h0 h1)] at KM
  have KP := Lib.hid (fun w => xMay p w)
  rw [decide_eq_true (And.intro p0 p1)] at KP
  have s1 : Span 0 i := ⟨Int.le_refl _, by omega⟩
  have s2 : Span (i + 1) 1048576 := ⟨by omega, by omega⟩
  have KB1 := Lib.hid (fun (w1 : World) (b1 : Below w.heap.size w w1) => xBtw (c := c) (a := 0) (b := i) (H.out.below (b1.mono hh)) (Nat.le_trans hh b1.size) hR.fits hm s1 (by omega))
  have KB2 := Lib.hid (fun (w1 : World) (b1 : Below w.heap.size w w1) => xBtw (c := c) (a := i + 1) (b := 1048576) (H.out.below (b1.mono hh)) (Nat.le_trans hh b1.size) hR.fits hm s2 (by omega))
  have KO := Lib.hid (fun w => xOne i p w)
  have t1 : ∀ x ∈ btw l 0 i, Tame x := fun x hx => ((btw_right hR s1).fits x hx).tame
  have t2 : ∀ x ∈ btw l (i + 1) 1048576, Tame x := fun x hx => ((btw_right hR s2).fits x hx).tame
  have t3 : ∀ x ∈ oneE i p, Tame x := one_tame h0 (by omega) (by omega)
  have l1 := @btw_len l 0 i
  have l2 := @btw_len l (i + 1) 1048576
  have l3 := one_len i p
  have hput : putE l i p = (btw l (i + 1) 1048576).foldl joinE ((oneE i p).foldl joinE (btw l 0 i)) := rfl
  rw [hput]
  obtain ⟨m1, hm1⟩ : ∃ m, btw l 0 i = m := ⟨_, rfl⟩
  obtain ⟨m2, hm2⟩ : ∃ m, btw l (i + 1) 1048576 = m := ⟨_, rfl⟩
  obtain ⟨m3, hm3⟩ : ∃ m, oneE i p = m := ⟨_, rfl⟩
  rw [hm1] at KB1 t1 l1 ⊢
  rw [hm2] at KB2 t2 l2 ⊢
  rw [hm3] at KO t3 l3 ⊢
  have l4 := joins_len m3 m1
  have T1 := Lib.hid t1; have T2 := Lib.hid t2; have T3 := Lib.hid t3
  have T4 := Lib.hid (joins_tame t1 t3)
  have q : wrap64 (i + 1) = i + 1 := by unfold wrap64; omega
  clear h hr hR h0 h1 p0 p1 s1 s2 hput hm1 hm2 hm3 t1 t2 t3
  go_enter Try.func20, Try.ntmps20
  go_wp2_with fail
  refine KR.out.mono ?_
  rintro e w1 hg
  obtain ⟨rfl, b1⟩ := grows_b hg
  have B1 := Lib.hid b1
  clear hg KR b1
  go_wp2_with (first | (go_at_call 27; (with_reducible refine (KM.out _).mono ?_); rintro e w2 ⟨rfl, rfl⟩) | (go_at_call 27; (with_reducible refine (KP.out _).mono ?_); rintro e w2 ⟨rfl, rfl⟩))
  refine (KB1.out _ B1.out).mono ?_
  rintro e w2 ⟨v1, rfl, own1, b2⟩
  have B2 := Lib.hid (B1.out.trans (b2.mono B1.out.size))
  have O1 := Lib.hid (own1.mono B1.out.size)
  have F1 := Lib.hid own1.blk
  clear own1 b2 KB1
  go_wp2_with fail
  refine (KB2.out _ B2.out).mono ?_
  rintro e w3 ⟨v2, rfl, own2, b3⟩
  have B3 := Lib.hid (B2.out.trans (b3.mono B2.out.size))
  have O1' := Lib.hid (O1.out.below b3)
  have s23 := b3.size
  obtain ⟨A2, c2, rfl, _, hx2⟩ := own2.form
  have X2 := Lib.hid hx2
  clear own2 b3 hx2 KB2
  go_wp2_with fail
  refine (KO.out _).mono ?_
  rintro e w4 ⟨v3, rfl, own3, b4⟩
  have B4 := Lib.hid (B3.out.trans (b4.mono B3.out.size))
  have O1'' := Lib.hid (O1'.out.below b4)
  have X2' := Lib.hid (X2.out.below b4)
  have s34 := b4.size
  obtain ⟨A3, c3, rfl, _, hx3⟩ := own3.form
  have X3 := Lib.hid hx3
  have hs4 := B4.out.size
  clear own3 b4 hx3 KO
  go_wp2_with fail
  refine (xJoin (base := w.heap.size) O1''.out X3.out (Nat.le_refl _) hs4 (fun g hg => by have := (F1.out g hg).2; omega) T1.out T3.out (by omega) (by omega)).mono ?_
  rintro e w5 ⟨v5, rfl, own5, g5, k5⟩
  have O5 := Lib.hid own5
  have B5 := Lib.hid (B4.out.grown g5 hs4 (own_base O1''.out))
  have X5 := Lib.hid (X2'.out.keep (w' := w5) (fun b h1 h2 => g5.block b (by omega) (fun e => by have := (F1.out b e.symm).2; omega)))
  have s45 := g5.size
  have K5 := Lib.hid (show ∀ g, v5.ownBlock = some g → g < w2.heap.size ∨ w3.heap.size ≤ g from fun g hg => by
    rcases k5 g hg with h | h
    · exact .inl (F1.out g h).2
    · exact .inr (by omega))
  clear own5 g5 k5
  go_wp2_with fail
  refine (xJoin (base := w.heap.size) O5.out X5.out (by omega) B5.out.size K5.out T4.out T2.out (by omega) (by omega)).mono ?_
  rintro e w6 ⟨v6, rfl, own6, g6, k6⟩
  have O6 := Lib.hid own6
  have B6 := Lib.hid (B5.out.grown g6 B5.out.size (own_base O5.out))
  clear own6 g6 k6
  go_wp2
  go_ret
  exact ⟨_, rfl, O6.out, B6.out⟩
end
def iv (x : Int) : Value := .int .i64 x
def OfRel (ps : List Int) (w : World) (v i : Value) (wr : World) : Prop := ∃ k : Nat, k ≤ ps.length ∧ i = .int .i64 k ∧ OwnX wr w.heap.size v (exts (ps.take k)) ∧ Below w.heap.size w wr
set_option maxHeartbeats 2000000 in
theorem xOf {w : World} {A : Option Addr} {c : Nat} {ps : List Int} {B : Nat} (hr : Row w B A ps.length (ps.map iv)) (hB : B ≤ w.heap.size) (hp : ∀ p ∈ ps, p ≤ 9223372036854775807) (hm : ps.length ≤ 1000) : Calls Try.prog 12 #[.slice A ps.length c] w (MadeX (exts ps) w) := by
  have HR := Lib.hid hr
  have HT := Lib.hid (exts_tame ps hp (by omega))
  have HP := Lib.hid hp
  clear hr hp
  go_enter Try.func12, Try.ntmps12
  go_wp2
  go_loopw [3, 8] (fun v i wr => OfRel ps w v i wr) (fun _ i _ => ps.length - (intOf i).toNat)
  case atStart => exact ⟨0, Nat.zero_le _, rfl, own_nilX _ _, Below.refl _ _⟩
  case round =>
    obtain ⟨k, hk, rfl, hown, hb⟩ := hrel
    have HO := Lib.hid hown; have HB := Lib.hid hb
    by_cases hlt : k < ps.length
    · obtain ⟨b, off, p, rfl, hbb, hx, cx⟩ := (HR.out.below (hb.mono hB)).get hlt
      unfold iv at cx
      have hlt2 : (k : Int) < (ps.length : Int) := Int.ofNat_lt.2 hlt
      have he := exts_take hx
      obtain ⟨t1, t2⟩ := HT.out k hk
      have t3 := one_tame (i := k) (p := p) (by omega) (by omega) (HP.out p (List.mem_of_getElem? hx))
      have l3 := one_len k p
      have KO := Lib.hid (fun w => xOne k p w)
      obtain ⟨m, hm3⟩ : ∃ m, oneE k p = m := ⟨_, rfl⟩
      rw [hm3] at he t3 l3 KO
      have HE := Lib.hid he; have T1 := Lib.hid t1; have T3 := Lib.hid t3
      clear he t1 t3 hm3 hx hbb hown hb
      go_wp2_with fail
      refine (KO.out _).mono ?_
      rintro e w2 ⟨v2, rfl, own2, b2⟩
      have O1 := Lib.hid (HO.out.below b2)
      have F1 := Lib.hid HO.out.blk
      have B2 := Lib.hid (HB.out.trans (b2.mono HB.out.size))
      obtain ⟨A2, c2, rfl, _, hx2⟩ := own2.form
      have X2 := Lib.hid hx2
      have hs2 := B2.out.size
      have s12 := b2.size
      clear own2 b2 hx2 KO
      go_wp2_with fail
      refine (xJoin (base := w.heap.size) O1.out X2.out (Nat.le_refl _) hs2 (fun g hg => .inl (F1.out g hg).2) T1.out T3.out (by omega) (by omega)).mono ?_
      rintro e w5 ⟨v5, rfl, own5, g5, k5⟩
      have O5 := Lib.hid own5
      have B5 := Lib.hid (B2.out.grown g5 hs2 (own_base O1.out))
      clear own5 g5 k5
      go_wp2
      go_roundw
      case rel => exact ⟨k + 1, by omega, by go_num, by rw [HE.out]; exact O5.out, B5.out⟩
      case measure => simp [intOf]; omega
    · obtain rfl : k = ps.length := by omega
      rw [List.take_length] at hown
      have HO2 := Lib.hid hown
      clear hown hb
      go_wp2
      go_ret
      exact ⟨_, rfl, HO2.out, HB.out⟩
end Go.Proofs.Ytlfmfdbgchpjgaa
