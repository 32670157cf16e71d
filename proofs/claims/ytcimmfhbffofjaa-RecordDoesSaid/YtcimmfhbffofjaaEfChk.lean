import Derived.Test.YtcimmfhbffofjaaEfMay
import Derived.Test.YtcimmfhbffofjaaEfFew
/-
  The project's Check of an effect.
-/
namespace Go.Proofs.Ytcimmfhbffofjaa
open Wd U Go.RowKit Go.ChangeShapes Go.WideShapes Go.Sort
set_option linter.unusedVariables false
set_option maxRecDepth 100000
set_option linter.unusedSimpArgs false

theorem i64R_0 : i64R 0 := by unfold i64R; omega
theorem Eff.Ok.just {e : Eff} {w : World} (h : e.Ok w w.heap.size) : e.just.Ok w w.heap.size := by
  have h0 : (⟨#[]⟩ : ByteArray).size ≤ maxLen := Nat.zero_le _
  have hb : Bytes ([] : List Nat) := fun x hx => by cases hx
  have hr : Row w w.heap.size none ([] : List Nat).length (([] : List Nat).map bt) := Row.nil
  unfold Eff.just
  split
  · exact ⟨h.kind, h.ino, h.dir, i64R_0, h.page, i64R_0, h.name, h0, hb, hr, Nat.zero_le _, Nat.zero_le _⟩
  · split
    · exact ⟨h.kind, h.ino, h.dir, i64R_0, i64R_0, i64R_0, h.name, h0, hb, hr, Nat.zero_le _, Nat.zero_le _⟩
    · split
      · exact ⟨h.kind, h.ino, h.dir, h.dst, i64R_0, i64R_0, h.name, h.other, hb, hr, Nat.zero_le _, Nat.zero_le _⟩
      · split
        · exact ⟨h.kind, h.ino, i64R_0, i64R_0, i64R_0, h.size, h0, h0, hb, hr, Nat.zero_le _, Nat.zero_le _⟩
        · split
          · exact ⟨h.kind, h.ino, i64R_0, i64R_0, h.page, h.size, h0, h0, h.bytes, h.row, h.le, h.cap⟩
          · exact ⟨h.kind, h.ino, i64R_0, i64R_0, i64R_0, i64R_0, h0, h0, hb, hr, Nat.zero_le _, Nat.zero_le _⟩
theorem em_eq (s : ByteArray) : (s.toList == (⟨#[]⟩ : ByteArray).toList) = emB s := by
  unfold emB
  rw [show (⟨#[]⟩ : ByteArray).toList = [] by rw [Lib.toList_data]]
  cases s.toList <;> rfl
theorem push_list (b : ByteArray) (c : UInt8) : (b.push c).toList = b.toList ++ [c] := by rw [Lib.toList_data, Lib.toList_data]; simp [ByteArray.push]
theorem strOf_len (l : List Nat) : (strOf l).toList.length = l.length := by
  unfold strOf
  have : ∀ (m : List Int) (r : ByteArray), (m.foldl (fun r n => r.push (UInt8.ofNat n.toNat)) r).toList.length = r.toList.length + m.length := by
    intro m
    induction m with
    | nil => intro r; simp
    | cons a t ih => intro r; rw [List.foldl_cons, ih, push_list]; simp; omega
  rw [this]
  rw [show (ByteArray.empty).toList = [] by rw [Lib.toList_data]; rfl]
  simp
theorem nodata_eq (l : List Nat) : ((strOf l).toList == (strOf []).toList) = decide (l.length = 0) := by
  have h0 : (strOf []).toList = [] := List.eq_nil_of_length_eq_zero (by rw [strOf_len]; rfl)
  rw [h0]
  cases hl : l with
  | nil => rw [h0]; rfl
  | cons a t =>
    have : (strOf (a :: t)).toList.length = t.length + 1 := by rw [strOf_len]; rfl
    cases hs : (strOf (a :: t)).toList with
    | nil => rw [hs] at this; simp at this
    | cons b u => simp
theorem check_is (e : Eff) : e.check = (e.mayP && sameB e e.just) := by
  obtain ⟨kind, ino, dir, dst, page, size, name, other, A, cp, data⟩ := e
  unfold Eff.check Eff.mayBe Eff.mayP Eff.just Eff.place Eff.noPlace Eff.noOther Eff.noData sameB
  dsimp only
  have hn := em_eq name
  have ho := em_eq other
  have hd := nodata_eq data
  generalize ndB ino = ni
  generalize ndB dir = nd
  generalize ndB dst = ns
  generalize nmB name = nn
  generalize nmB other = no
  generalize emB name = en at hn ⊢
  generalize emB other = eo at ho ⊢
  have hda : ((strOf data).toList == (strOf data).toList) = true := beq_self_eq_true _
  have hna : (name.toList == name.toList) = true := beq_self_eq_true _
  have hoa : (other.toList == other.toList) = true := beq_self_eq_true _
  by_cases h1 : kind = 1
  · simp only [h1, if_true, hn, ho, hd, hna]
    generalize decide (data.length = 0) = x
    cases ni <;> cases nd <;> cases nn <;> cases eo <;> cases x <;> simp <;> (rw [Bool.eq_iff_iff]; simp; omega)
  · simp only [h1, if_false]
    by_cases h2 : kind = 2 ∨ kind = 3 ∨ kind = 4
    · simp only [h2, if_true, hn, ho, hd, hna]
      generalize decide (data.length = 0) = x
      cases ni <;> cases nd <;> cases nn <;> cases eo <;> cases x <;> simp <;> (rw [Bool.eq_iff_iff]; simp; omega)
    · simp only [h2, if_false]
      by_cases h5 : kind = 5
      · simp only [h5, if_true, hn, ho, hd, hna, hoa]
        generalize decide (data.length = 0) = x
        cases ni <;> cases nd <;> cases nn <;> cases ns <;> cases no <;> cases x <;> simp <;> (rw [Bool.eq_iff_iff]; simp; omega)
      · simp only [h5, if_false]
        by_cases h6 : kind = 6
        · simp only [h6, if_true, hn, ho, hd]
          generalize decide (data.length = 0) = x
          cases ni <;> cases en <;> cases eo <;> cases x <;> simp <;> (rw [Bool.eq_iff_iff]; simp; omega)
        · simp only [h6, if_false]
          by_cases h7 : kind = 7
          · simp only [h7, if_true, hn, ho, hda, rcB]
            generalize decide (data.length = 256) = x
            cases ni <;> cases en <;> cases eo <;> cases x <;> simp <;> (rw [Bool.eq_iff_iff]; simp; omega)
          · simp only [h7, if_false]
            by_cases h8 : kind = 8
            · simp only [h8, if_true, hn, ho, hd]
              generalize decide (data.length = 0) = x
              cases ni <;> cases en <;> cases eo <;> cases x <;> simp <;> (rw [Bool.eq_iff_iff]; simp; omega)
            · simp only [h8, if_false, Bool.false_and]

set_option maxRecDepth 100000 in
set_option maxHeartbeats 4000000 in
theorem eCheck (e : Eff) (w : World) (ok : e.Ok w w.heap.size) (hf : e.few) : Calls Try.prog 18 #[e.val] w (Grows (.int .i64 (errB e.check 92)) w) := by
  have hfol : Try.prog.follows Departure.mixedOrders = true := by kernel_rfl
  rw [check_is]
  have hc0 := Cells.new w 24 (effCells e)
  have HC0 := Lib.hid hc0
  have HG0 := Lib.hid (grow_one w (.cells (effCells e) 24))
  have HB0 := Lib.hid ((Below.refl w.heap.size w).alloc (Nat.le_refl _) (.cells (effCells e) 24))
  have OK := Lib.hid ok
  clear hc0 ok
  obtain ⟨M, hM⟩ : ∃ M, e.mayP = M := ⟨_, rfl⟩
  obtain ⟨S, hS⟩ : ∃ S, sameB e e.just = S := ⟨_, rfl⟩
  have K0 := Lib.hid (fun w => eMay e w (by have := hf.2.1; omega) (by have := hf.2.2; omega))
  have K1 := Lib.hid (fun w => eJust e w)
  rw [hM] at K0
  obtain ⟨j, hj⟩ : ∃ j, e.just = j := ⟨_, rfl⟩
  have OJ := Lib.hid OK.out.just
  rw [hj] at OJ K1 hS
  have HM := Lib.hid hM; have HS := Lib.hid hS; have HJ := Lib.hid hj
  clear hM hS hj hf
  unfold Eff.val
  go_enter Try.func18, Try.ntmps18
  go_upto_region 1 with fail
  obtain ⟨w2, hw2⟩ : ∃ w2, w.alloc (.cells (effCells e) 24) = w2 := ⟨_, rfl⟩
  rw [hw2] at HC0 HG0 HB0
  unfold effCells at hw2
  rw [hw2]
  clear hw2
  have xa := effAt HC0.out
  unfold EffAt at xa
  have gb := fun n os => below_grow' w2 n os
  have a0 := fun n os => (xa n os).1
  have a1 := fun n os => (xa n os).2.1
  have a2 := fun n os => (xa n os).2.2.1
  have a3 := fun n os => (xa n os).2.2.2.1
  have a4 := fun n os => (xa n os).2.2.2.2.1
  have a5 := fun n os => (xa n os).2.2.2.2.2.1
  have a6 := fun n os => (xa n os).2.2.2.2.2.2.1
  have a7 := fun n os => (xa n os).2.2.2.2.2.2.2.1
  have a8 := fun n os => (xa n os).2.2.2.2.2.2.2.2
  clear xa
  have K2 := Lib.hid (fun n os => eSame e j (grow (w2.drewN n) os) (OK.out.at_ (HB0.out.trans ((gb n os).mono HB0.out.size))) (OJ.out.at_ (HB0.out.trans ((gb n os).mono HB0.out.size))))
  rw [HS.out] at K2
  clear gb
  unfold Eff.val at K0 K1 K2
  cases M
  · refine wp_region_quiet_grown hfol (by kernel_rfl) ?_
    repeat (go_big_quiet_step (first
      | (go_at_call 34; (with_reducible exact Grows.in K0.out _ _ _))
      | (go_at_call 36; (with_reducible exact Grows.in K1.out _ _ _))
      | (go_at_call 35; (with_reducible exact Grows.inAt K2.out _ _))))
    refine wpQuiet_nil ?_
    intro _ hw'
    obtain ⟨⟨nr, osr⟩, hw''⟩ := hw'
    subst hw''
    go_wp2
    go_ret
    exact ⟨by rw [HM.out]; rfl, grow_trans HG0.out ⟨nr, osr, rfl⟩⟩
  · cases S
    · refine wp_region_quiet_grown hfol (by kernel_rfl) ?_
      repeat (go_big_quiet_step (first
        | (go_at_call 34; (with_reducible exact Grows.in K0.out _ _ _))
        | (go_at_call 36; (with_reducible exact Grows.in K1.out _ _ _))
        | (go_at_call 35; (with_reducible exact Grows.inAt K2.out _ _))))
      refine wpQuiet_nil ?_
      intro _ hw'
      obtain ⟨⟨nr, osr⟩, hw''⟩ := hw'
      subst hw''
      go_wp2
      go_ret
      exact ⟨by rw [HM.out, HJ.out, HS.out]; rfl, grow_trans HG0.out ⟨nr, osr, rfl⟩⟩
    · refine wp_region_quiet_grown hfol (by kernel_rfl) ?_
      repeat (go_big_quiet_step (first
        | (go_at_call 34; (with_reducible exact Grows.in K0.out _ _ _))
        | (go_at_call 36; (with_reducible exact Grows.in K1.out _ _ _))
        | (go_at_call 35; (with_reducible exact Grows.inAt K2.out _ _))))
      refine wpQuiet_nil ?_
      intro _ hw'
      obtain ⟨⟨nr, osr⟩, hw''⟩ := hw'
      subst hw''
      go_wp2
      go_ret
      exact ⟨by rw [HM.out, HJ.out, HS.out]; rfl, grow_trans HG0.out ⟨nr, osr, rfl⟩⟩
end Go.Proofs.Ytcimmfhbffofjaa
