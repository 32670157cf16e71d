import Derived.Test.YtbejbiogabpmfaaGreatG16
import Derived.Test.YtbejbiogabpmfaaGreatG14
import Derived.Test.YtbejbiogabpmfaaGreatG20
import Derived.Test.YtbejbiogabpmfaaGreatG21
import Derived.Test.YtbejbiogabpmfaaGreatG17
import Derived.Deep.RegionLaw

/-
  The project's Check of an effect.
-/
namespace Go.Proofs.YtbejbiogabpmfaaGreat
open Wd U Go.RowKit Go.ChangeShapes Go.WideShapes Go.Sort
set_option linter.unusedVariables false
set_option maxRecDepth 100000
set_option linter.unusedSimpArgs false

theorem i64R_0 : i64R 0 := by unfold i64R; omega
theorem Eff.Ok.just {e : Eff} {w : World} (h : e.Ok w w.heap.size) : e.just.Ok w w.heap.size := by
  have h0 : (⟨#[]⟩ : ByteArray).size ≤ maxLen := Nat.zero_le _
  have hb : Bytes ([] : List Nat) := fun x hx => by cases hx
  have hr : Row w w.heap.size none ([] : List Nat).length (([] : List Nat).map bt) := Row.nil
  unfold Eff.just
  split
  · exact ⟨h.kind, h.ino, h.dir, i64R_0, h.page, i64R_0, h.name, h0, hb, hr, Nat.zero_le _, Nat.zero_le _⟩
  · split
    · exact ⟨h.kind, h.ino, h.dir, i64R_0, i64R_0, i64R_0, h.name, h0, hb, hr, Nat.zero_le _, Nat.zero_le _⟩
    · split
      · exact ⟨h.kind, h.ino, h.dir, h.dst, i64R_0, i64R_0, h.name, h.other, hb, hr, Nat.zero_le _, Nat.zero_le _⟩
      · split
        · exact ⟨h.kind, h.ino, i64R_0, i64R_0, i64R_0, h.size, h0, h0, hb, hr, Nat.zero_le _, Nat.zero_le _⟩
        · split
          · exact ⟨h.kind, h.ino, i64R_0, i64R_0, h.page, h.size, h0, h0, h.bytes, h.row, h.le, h.cap⟩
          · exact ⟨h.kind, h.ino, i64R_0, i64R_0, i64R_0, i64R_0, h0, h0, hb, hr, Nat.zero_le _, Nat.zero_le _⟩
theorem em_eq (s : ByteArray) : (s.toList == (⟨#[]⟩ : ByteArray).toList) = emB s := by
  unfold emB
  rw [show (⟨#[]⟩ : ByteArray).toList = [] by rw [Lib.toList_data]]
  cases s.toList <;> rfl
theorem push_list (b : ByteArray) (c : UInt8) : (b.push c).toList = b.toList ++ [c] := by rw [Lib.toList_data, Lib.toList_data]; simp [ByteArray.push]
theorem strOf_len (l : List Nat) : (strOf l).toList.length = l.length := by
  unfold strOf
  have : ∀ (m : List Int) (r : ByteArray), (m.foldl (fun r n => r.push (UInt8.ofNat n.toNat)) r).toList.length = r.toList.length + m.length := by
    intro m
    induction m with
    | nil => intro r; simp
    | cons a t ih => intro r; rw [List.foldl_cons, ih, push_list]; simp; omega
  rw [this]
  rw [show (ByteArray.empty).toList = [] by rw [Lib.toList_data]; rfl]
  simp
theorem nodata_eq (l : List Nat) : ((strOf l).toList == (strOf []).toList) = decide (l.length = 0) := by
  have h0 : (strOf []).toList = [] := List.eq_nil_of_length_eq_zero (by rw [strOf_len]; rfl)
  rw [h0]
  cases hl : l with
  | nil => rw [h0]; rfl
  | cons a t =>
    have : (strOf (a :: t)).toList.length = t.length + 1 := by rw [strOf_len]; rfl
    cases hs : (strOf (a :: t)).toList with
    | nil => rw [hs] at this; simp at this
    | cons b u => simp
theorem check_is (e : Eff) : e.check = (e.mayP && sameB e e.just) := by
  obtain ⟨kind, ino, dir, dst, page, size, name, other, A, cp, data⟩ := e
  unfold Eff.check Eff.mayBe Eff.mayP Eff.just Eff.place Eff.noPlace Eff.noOther Eff.noData sameB
  dsimp only
  have hn := em_eq name
  have ho := em_eq other
  have hd := nodata_eq data
  generalize ndB ino = ni
  generalize ndB dir = nd
  generalize ndB dst = ns
  generalize nmB name = nn
  generalize nmB other = no
  generalize emB name = en at hn ⊢
  generalize emB other = eo at ho ⊢
  have hda : ((strOf data).toList == (strOf data).toList) = true := beq_self_eq_true _
  have hna : (name.toList == name.toList) = true := beq_self_eq_true _
  have hoa : (other.toList == other.toList) = true := beq_self_eq_true _
  by_cases h1 : kind = 1
  · simp only [h1, if_true, hn, ho, hd, hna]
    generalize decide (data.length = 0) = x
    cases ni <;> cases nd <;> cases nn <;> cases eo <;> cases x <;> simp <;> (rw [Bool.eq_iff_iff]; simp; omega)
  · simp only [h1, if_false]
    by_cases h2 : kind = 2 ∨ kind = 3 ∨ kind = 4
    · simp only [h2, if_true, hn, ho, hd, hna]
      generalize decide (data.length = 0) = x
      cases ni <;> cases nd <;> cases nn <;> cases eo <;> cases x <;> simp <;> (rw [Bool.eq_iff_iff]; simp; omega)
    · simp only [h2, if_false]
      by_cases h5 : kind = 5
      · simp only [h5, if_true, hn, ho, hd, hna, hoa]
        generalize decide (data.length = 0) = x
        cases ni <;> cases nd <;> cases nn <;> cases ns <;> cases no <;> cases x <;> simp <;> (rw [Bool.eq_iff_iff]; simp; omega)
      · simp only [h5, if_false]
        by_cases h6 : kind = 6
        · simp only [h6, if_true, hn, ho, hd]
          generalize decide (data.length = 0) = x
          cases ni <;> cases en <;> cases eo <;> cases x <;> simp <;> (rw [Bool.eq_iff_iff]; simp; omega)
        · simp only [h6, if_false]
          by_cases h7 : kind = 7
          · simp only [h7, if_true, hn, ho, hda, rcB]
            generalize decide (data.length = 256) = x
            cases ni <;> cases en <;> cases eo <;> cases x <;> simp <;> (rw [Bool.eq_iff_iff]; simp; omega)
          · simp only [h7, if_false]
            by_cases h8 : kind = 8
            · simp only [h8, if_true, hn, ho, hd]
              generalize decide (data.length = 0) = x
              cases ni <;> cases en <;> cases eo <;> cases x <;> simp <;> (rw [Bool.eq_iff_iff]; simp; omega)
            · simp only [h8, if_false, Bool.false_and]

set_option maxRecDepth 100000 in
set_option maxHeartbeats 4000000 in
theorem eCheck (e : Eff) (w : World) (ok : e.Ok w w.heap.size) (hf : e.few) : Calls Tryz.prog 60 #[e.val] w (Grows (.int .i64 (errB e.check 92)) w) := by
  have hfol : Tryz.prog.follows Departure.mixedOrders = true := by kernel_rfl
  rw [check_is]
  have hc0 := Cells.new w 64 (effCells e)
  have HC0 := Lib.hid hc0
  have HG0 := Lib.hid (grow_one w (.cells (effCells e) 64))
  have HB0 := Lib.hid ((Below.refl w.heap.size w).alloc (Nat.le_refl _) (.cells (effCells e) 64))
  have OK := Lib.hid ok
  clear hc0 ok
  obtain ⟨M, hM⟩ : ∃ M, e.mayP = M := ⟨_, rfl⟩
  obtain ⟨S, hS⟩ : ∃ S, sameB e e.just = S := ⟨_, rfl⟩
  have K0 := Lib.hid (fun w => eMay e w (by have := hf.2.1; omega) (by have := hf.2.2; omega))
  have K1 := Lib.hid (fun w => eJust e w)
  rw [hM] at K0
  obtain ⟨j, hj⟩ : ∃ j, e.just = j := ⟨_, rfl⟩
  have OJ := Lib.hid OK.out.just
  rw [hj] at OJ K1 hS
  have HM := Lib.hid hM; have HS := Lib.hid hS; have HJ := Lib.hid hj
  clear hM hS hj hf
  unfold Eff.val
  go_enter Tryz.func60, Tryz.ntmps60
  go_upto_region 1 with fail
  obtain ⟨w2, hw2⟩ : ∃ w2, w.alloc (.cells (effCells e) 64) = w2 := ⟨_, rfl⟩
  rw [hw2] at HC0 HG0 HB0
  unfold effCells at hw2
  rw [hw2]
  clear hw2
  have xa := effAt HC0.out
  unfold EffAt at xa
  have gb := fun n os => below_grow' w2 n os
  have a0 := fun n os => (xa n os).1
  have a1 := fun n os => (xa n os).2.1
  have a2 := fun n os => (xa n os).2.2.1
  have a3 := fun n os => (xa n os).2.2.2.1
  have a4 := fun n os => (xa n os).2.2.2.2.1
  have a5 := fun n os => (xa n os).2.2.2.2.2.1
  have a6 := fun n os => (xa n os).2.2.2.2.2.2.1
  have a7 := fun n os => (xa n os).2.2.2.2.2.2.2.1
  have a8 := fun n os => (xa n os).2.2.2.2.2.2.2.2
  clear xa
  have K2 := Lib.hid (fun n os => eSame e j (grow (w2.drewN n) os) (OK.out.at_ (HB0.out.trans ((gb n os).mono HB0.out.size))) (OJ.out.at_ (HB0.out.trans ((gb n os).mono HB0.out.size))))
  rw [HS.out] at K2
  clear gb
  unfold Eff.val at K0 K1 K2
  cases M
  · refine wp_region_quiet_grown hfol (by kernel_rfl) ?_
    repeat (go_big_quiet_step (first
      | (go_at_call 87; (with_reducible exact Grows.in K0.out _ _ _))
      | (go_at_call 89; (with_reducible exact Grows.in K1.out _ _ _))
      | (go_at_call 88; (with_reducible exact Grows.inAt K2.out _ _))))
    refine wpQuiet_nil ?_
    intro _ hw'
    obtain ⟨⟨nr, osr⟩, hw''⟩ := hw'
    subst hw''
    go_wp2
    go_ret
    exact ⟨by rw [HM.out]; rfl, grow_trans HG0.out ⟨nr, osr, rfl⟩⟩
  · cases S
    · refine wp_region_quiet_grown hfol (by kernel_rfl) ?_
      repeat (go_big_quiet_step (first
        | (go_at_call 87; (with_reducible exact Grows.in K0.out _ _ _))
        | (go_at_call 89; (with_reducible exact Grows.in K1.out _ _ _))
        | (go_at_call 88; (with_reducible exact Grows.inAt K2.out _ _))))
      refine wpQuiet_nil ?_
      intro _ hw'
      obtain ⟨⟨nr, osr⟩, hw''⟩ := hw'
      subst hw''
      go_wp2
      go_ret
      exact ⟨by rw [HM.out, HJ.out, HS.out]; rfl, grow_trans HG0.out ⟨nr, osr, rfl⟩⟩
    · refine wp_region_quiet_grown hfol (by kernel_rfl) ?_
      repeat (go_big_quiet_step (first
        | (go_at_call 87; (with_reducible exact Grows.in K0.out _ _ _))
        | (go_at_call 89; (with_reducible exact Grows.in K1.out _ _ _))
        | (go_at_call 88; (with_reducible exact Grows.inAt K2.out _ _))))
      refine wpQuiet_nil ?_
      intro _ hw'
      obtain ⟨⟨nr, osr⟩, hw''⟩ := hw'
      subst hw''
      go_wp2
      go_ret
      exact ⟨by rw [HM.out, HJ.out, HS.out]; rfl, grow_trans HG0.out ⟨nr, osr, rfl⟩⟩
end Go.Proofs.YtbejbiogabpmfaaGreat

/-! The project's State: an effect is done. -/
namespace Go.Proofs.YtbejbiogabpmfaaGreat
open Wd Ino Sm Go.RowKit Go.ChangeShapes Go.WideShapes Go.Sort
set_option linter.unusedVariables false
set_option maxRecDepth 100000
/-- what every state that effects come to has -/
structure Fit (S : Stt) : Prop extends Bas S where
  th : ∀ d s i, hasS S.l d s i = true → ∃ n, atS S.l i = some n
  kz : ∀ n ∈ S.l, n.kind ≠ 0
/-- an effect that may be -/
structure EfC (e : Eff) : Prop extends EfB e where
  kinds : e.kind = 1 ∨ e.kind = 2 ∨ e.kind = 3 ∨ e.kind = 4 ∨ e.kind = 5 ∨ e.kind = 6 ∨ e.kind = 7 ∨ e.kind = 8
  cut : e.kind = 6 → inB e.size 0 16384 = true
  put : e.kind = 7 → putOk e.page e.size = true
section
variable {w : World} {base m g b : Nat} {S : Stt}
theorem RGo.bare {o : Option Stt} {w w1 w' : World} {en : Ending} (h : PSt w' base (m + 8) g b (o.getD S)) (t : Trn w w' [g, b]) : RGo (bareS o) S base m g b w (.returned (.tuple #[.slice none 0 0, .bool o.isSome])) w' := by
  cases o with
  | none => exact ⟨_, rfl, OwnI.nil _ _, h, t⟩
  | some s => exact ⟨_, rfl, OwnI.nil _ _, h, t⟩
set_option maxHeartbeats 8000000 in
theorem pDo (h : PSt w base m g b S) (ft : Fit S) (hm : m < 999900) (e : Eff) (ec : EfC e) (ref : Int) :
    Calls Tryz.prog 61 #[SPtr g, e.val, .int .i64 ref] w (RGo (stepS S e ref) S base m g b w) := by
  obtain ⟨w1, hw1⟩ : ∃ w1, w.alloc (.cells (effCells e) 64) = w1 := ⟨_, rfl⟩
  have hg1 : Below w.heap.size w w1 := by rw [← hw1]; exact below_of_grown (World.grownBy_alloc w (.cells (effCells e) 64) none)
  have hc1 : Cells w1 w.heap.size 64 (effCells e) := by rw [← hw1]; exact Cells.new w 64 (effCells e)
  have h1 := h.below hg1
  obtain ⟨x0, x1, x2, x3, x4, x5, x6, x7, x8⟩ := cells9 hc1
  have T1 := Lib.hid (Trn.of (S := [g, b]) hg1)
  obtain ⟨kind, ino, dir, dst, page, size, name, other, A, cp, data⟩ := e
  rcases ec.kinds with hk | hk | hk | hk | hk | hk | hk | hk
  · dsimp only at hk
    subst hk
    have HS := Lib.hid (show stepS S ⟨1, ino, dir, dst, page, size, name, other, A, cp, data⟩ ref = bareS (makeS S ⟨1, ino, dir, dst, page, size, name, other, A, cp, data⟩) by unfold stepS; simp)
    have KC := Lib.hid (pCreate h1 ft.sm hm ft.last ft.lr ⟨1, ino, dir, dst, page, size, name, other, A, cp, data⟩ ec.toEfB)
    unfold Eff.val at KC ⊢
    unfold effCells at hw1
    dsimp only at KC hw1 x0 x1 x2 x3 x4 x5 x6 x7 x8 ⊢
    unfold SPtr at KC ⊢
    clear h h1 ft ec hc1 hg1 hm
    go_enter Tryz.func61, Tryz.ntmps61
    go_wp2_with fail
    refine (KC.out).mono ?_
    rintro e' w2 ⟨rfl, h2, t2⟩
    have H2 := Lib.hid h2; have T2 := Lib.hid (T1.out.trans t2)
    clear h2 t2 hw1 x0 x1 x2 x3 x4 x5 x6 x7 x8 KC
    go_wp2
    go_ret2
    rw [HS.out]
    exact RGo.bare (w1 := w) (en := .returned (.bool true)) H2.out T2.out
  · dsimp only at hk
    subst hk
    have HS := Lib.hid (show stepS S ⟨2, ino, dir, dst, page, size, name, other, A, cp, data⟩ ref = bareS (linkS S ⟨2, ino, dir, dst, page, size, name, other, A, cp, data⟩) by unfold stepS; simp)
    have KC := Lib.hid (pLink h1 ft.toBas hm ⟨2, ino, dir, dst, page, size, name, other, A, cp, data⟩ ec.toEfB)
    unfold Eff.val at KC ⊢
    unfold effCells at hw1
    dsimp only at KC hw1 x0 x1 x2 x3 x4 x5 x6 x7 x8 ⊢
    unfold SPtr at KC ⊢
    clear h h1 ft ec hc1 hg1 hm
    go_enter Tryz.func61, Tryz.ntmps61
    go_wp2_with fail
    refine (KC.out).mono ?_
    rintro e' w2 ⟨rfl, h2, t2⟩
    have H2 := Lib.hid h2; have T2 := Lib.hid (T1.out.trans t2)
    clear h2 t2 hw1 x0 x1 x2 x3 x4 x5 x6 x7 x8 KC
    go_wp2
    go_ret2
    rw [HS.out]
    exact RGo.bare (w1 := w) (en := .returned (.bool true)) H2.out T2.out
  · dsimp only at hk
    subst hk
    have HS := Lib.hid (show stepS S ⟨3, ino, dir, dst, page, size, name, other, A, cp, data⟩ ref = bareS (removeS S ⟨3, ino, dir, dst, page, size, name, other, A, cp, data⟩ 1) by unfold stepS; simp)
    have KC := Lib.hid (pRemove h1 ft.toBas hm ⟨3, ino, dir, dst, page, size, name, other, A, cp, data⟩ ec.toEfB 1 (by decide))
    unfold Eff.val at KC ⊢
    unfold effCells at hw1
    dsimp only at KC hw1 x0 x1 x2 x3 x4 x5 x6 x7 x8 ⊢
    unfold SPtr at KC ⊢
    clear h h1 ft ec hc1 hg1 hm
    go_enter Tryz.func61, Tryz.ntmps61
    go_wp2_with fail
    refine (KC.out).mono ?_
    rintro e' w2 ⟨rfl, h2, t2⟩
    have H2 := Lib.hid h2; have T2 := Lib.hid (T1.out.trans t2)
    clear h2 t2 hw1 x0 x1 x2 x3 x4 x5 x6 x7 x8 KC
    go_wp2
    go_ret2
    rw [HS.out]
    exact RGo.bare (w1 := w) (en := .returned (.bool true)) H2.out T2.out
  · dsimp only at hk
    subst hk
    have HS := Lib.hid (show stepS S ⟨4, ino, dir, dst, page, size, name, other, A, cp, data⟩ ref = bareS (removeS S ⟨4, ino, dir, dst, page, size, name, other, A, cp, data⟩ 2) by unfold stepS; simp)
    have KC := Lib.hid (pRemove h1 ft.toBas hm ⟨4, ino, dir, dst, page, size, name, other, A, cp, data⟩ ec.toEfB 2 (by decide))
    unfold Eff.val at KC ⊢
    unfold effCells at hw1
    dsimp only at KC hw1 x0 x1 x2 x3 x4 x5 x6 x7 x8 ⊢
    unfold SPtr at KC ⊢
    clear h h1 ft ec hc1 hg1 hm
    go_enter Tryz.func61, Tryz.ntmps61
    go_wp2_with fail
    refine (KC.out).mono ?_
    rintro e' w2 ⟨rfl, h2, t2⟩
    have H2 := Lib.hid h2; have T2 := Lib.hid (T1.out.trans t2)
    clear h2 t2 hw1 x0 x1 x2 x3 x4 x5 x6 x7 x8 KC
    go_wp2
    go_ret2
    rw [HS.out]
    exact RGo.bare (w1 := w) (en := .returned (.bool true)) H2.out T2.out
  · dsimp only at hk
    subst hk
    have HS := Lib.hid (show stepS S ⟨5, ino, dir, dst, page, size, name, other, A, cp, data⟩ ref = bareS (renameS S ⟨5, ino, dir, dst, page, size, name, other, A, cp, data⟩) by unfold stepS; simp)
    have KC := Lib.hid (pRename h1 ft.toBas hm ⟨5, ino, dir, dst, page, size, name, other, A, cp, data⟩ ec.toEfB ft.th ft.kz)
    unfold Eff.val at KC ⊢
    unfold effCells at hw1
    dsimp only at KC hw1 x0 x1 x2 x3 x4 x5 x6 x7 x8 ⊢
    unfold SPtr at KC ⊢
    clear h h1 ft ec hc1 hg1 hm
    go_enter Tryz.func61, Tryz.ntmps61
    go_wp2_with fail
    refine (KC.out).mono ?_
    rintro e' w2 ⟨rfl, h2, t2⟩
    have H2 := Lib.hid h2; have T2 := Lib.hid (T1.out.trans t2)
    clear h2 t2 hw1 x0 x1 x2 x3 x4 x5 x6 x7 x8 KC
    go_wp2
    go_ret2
    rw [HS.out]
    exact RGo.bare (w1 := w) (en := .returned (.bool true)) H2.out T2.out
  · dsimp only at hk
    subst hk
    have HS := Lib.hid (show stepS S ⟨6, ino, dir, dst, page, size, name, other, A, cp, data⟩ ref = truncS S ⟨6, ino, dir, dst, page, size, name, other, A, cp, data⟩ by unfold stepS; simp)
    have KC := Lib.hid (pTrunc h1 ft.toBas hm ⟨6, ino, dir, dst, page, size, name, other, A, cp, data⟩ ec.toEfB (ec.cut rfl))
    unfold Eff.val at KC ⊢
    unfold effCells at hw1
    dsimp only at KC hw1 x0 x1 x2 x3 x4 x5 x6 x7 x8 ⊢
    unfold SPtr at KC ⊢
    clear h h1 ft ec hc1 hg1 hm
    go_enter Tryz.func61, Tryz.ntmps61
    go_wp2_with fail
    refine (KC.out).mono ?_
    rintro e' w2 ⟨v, rfl, ho, h2, t2⟩
    obtain ⟨A2, c2, rfl, _⟩ := ho.row
    have HO := Lib.hid ho; have H2 := Lib.hid h2; have T2 := Lib.hid (T1.out.trans t2); have TS := Lib.hid t2.size
    clear ho h2 t2 hw1 x0 x1 x2 x3 x4 x5 x6 x7 x8 KC
    go_wp2
    go_ret2
    rw [HS.out]
    exact ⟨_, rfl, HO.out.mono T1.out.size, H2.out, T2.out⟩
  · dsimp only at hk
    subst hk
    have HS := Lib.hid (show stepS S ⟨7, ino, dir, dst, page, size, name, other, A, cp, data⟩ ref = writeS S ⟨7, ino, dir, dst, page, size, name, other, A, cp, data⟩ ref by unfold stepS; simp)
    have KC := Lib.hid (pWrite h1 ft.toBas hm ⟨7, ino, dir, dst, page, size, name, other, A, cp, data⟩ ec.toEfB ref (ec.put rfl))
    unfold Eff.val at KC ⊢
    unfold effCells at hw1
    dsimp only at KC hw1 x0 x1 x2 x3 x4 x5 x6 x7 x8 ⊢
    unfold SPtr at KC ⊢
    clear h h1 ft ec hc1 hg1 hm
    go_enter Tryz.func61, Tryz.ntmps61
    go_wp2_with fail
    refine (KC.out).mono ?_
    rintro e' w2 ⟨v, rfl, ho, h2, t2⟩
    obtain ⟨A2, c2, rfl, _⟩ := ho.row
    have HO := Lib.hid ho; have H2 := Lib.hid h2; have T2 := Lib.hid (T1.out.trans t2); have TS := Lib.hid t2.size
    clear ho h2 t2 hw1 x0 x1 x2 x3 x4 x5 x6 x7 x8 KC
    go_wp2
    go_ret2
    rw [HS.out]
    exact ⟨_, rfl, HO.out.mono T1.out.size, H2.out, T2.out⟩
  · dsimp only at hk
    subst hk
    have HS := Lib.hid (show stepS S ⟨8, ino, dir, dst, page, size, name, other, A, cp, data⟩ ref = dropS S ⟨8, ino, dir, dst, page, size, name, other, A, cp, data⟩ by unfold stepS; simp)
    have KC := Lib.hid (pDrop h1 ft.toBas hm ⟨8, ino, dir, dst, page, size, name, other, A, cp, data⟩ ec.toEfB)
    unfold Eff.val at KC ⊢
    unfold effCells at hw1
    dsimp only at KC hw1 x0 x1 x2 x3 x4 x5 x6 x7 x8 ⊢
    unfold SPtr at KC ⊢
    clear h h1 ft ec hc1 hg1 hm
    go_enter Tryz.func61, Tryz.ntmps61
    go_wp2_with fail
    refine (KC.out).mono ?_
    rintro e' w2 ⟨v, rfl, ho, h2, t2⟩
    obtain ⟨A2, c2, rfl, _⟩ := ho.row
    have HO := Lib.hid ho; have H2 := Lib.hid h2; have T2 := Lib.hid (T1.out.trans t2); have TS := Lib.hid t2.size
    clear ho h2 t2 hw1 x0 x1 x2 x3 x4 x5 x6 x7 x8 KC
    go_wp2
    go_ret2
    rw [HS.out]
    exact ⟨_, rfl, HO.out.mono T1.out.size, H2.out, T2.out⟩
end
end Go.Proofs.YtbejbiogabpmfaaGreat

/-! The document's State: Copy. -/
namespace Go.Proofs.YtbejbiogabpmfaaGreat
open Wd Ino Sm Go.RowKit Go.ChangeShapes Go.WideShapes Go.Sort
set_option linter.unusedVariables false
set_option maxRecDepth 100000
theorem step_append_nds {ops : Array Oper} {o : Oper} {a : Act} {K : Act → World → Prop} {Q : Exit → Act → World → Prop} {w : World} {E : Prop} (hg : o.guard = none) (s x : Operand)
    (ho : o.op = .call { callee := .builtin .append, args := #[s, x], argTypes := #[73, 73] })
    {base hi : Nat} {v : Value} {l m : List Nd} {A : Option Addr} {c : Nat} (hs : a.eval s = v) (hx' : a.eval x = .slice A m.length c) (hown : OwnNs w base v l) (hx : Nds w hi A m) (hl : l.length + m.length ≤ 100000) (hb : base ≤ w.heap.size)
    (h : ∀ v' w', OwnNs w' base v' (l ++ m) → w.grownBy w' v.ownBlock → (v'.ownBlock = v.ownBlock ∨ v'.ownBlock = some w.heap.size) → K (a.put o.dst v') w') : if Region.wanted o (yielded ops a.tmps) = true then Oper.wp Tryz.prog o a w K Q else E := by
  have hw : Region.wanted o (yielded ops a.tmps) = true := by simp [Region.wanted, hg]
  rw [if_pos hw]
  obtain ⟨v', w', hrun, h2, h3, h4⟩ := run_append_nds (c := c) o.type hown hx hl hb
  unfold Oper.wp execOp
  simp only [ho, resolve, invoke, builtin, Sem.run_bind, Sem.run_pure, Result.andThen_ok, List.map_toArray, List.map_cons, List.map_nil, hs, hx', hrun]
  exact h v' w' h2 h3 h4
theorem ne_own {w : World} {g base sz n : Nat} {T e : TypeId} {cs : Array Value} {v : Value} {xs : List Value} (hc : Cells w g T cs) (ho : w.ownsRow base e sz v n xs) (hne : T ≠ e) : some g ≠ v.ownBlock := by
  rcases ho.2 with ⟨rfl, _⟩ | ⟨g', cap, cur, rfl, _, hh, _⟩
  · intro h; cases h
  · intro h
    have : g = g' := by simpa [Value.ownBlock] using h
    exact hc.ne (show Cells w g' e cur from hh) hne this
theorem KeepC.grown {w w' : World} {base sz n : Nat} {e : TypeId} {v : Value} {xs : List Value} (ho : w.ownsRow base e sz v n xs) (hg : w.grownBy w' v.ownBlock) : KeepC [e] w w' := fun q t cs ht hc =>
  hc.grown hg (ne_own hc ho (fun h => ht (List.mem_singleton.2 h)))
theorem KeepC.set {w : World} {g : Nat} {T : TypeId} {cs : Array Value} (hc : Cells w g T cs) (i : Nat) (u : Value) : KeepC [T] w (w.setCell ⟨g, i, none⟩ u) := fun q t cs' ht hc' => hc'.far (fun e => ht (by
    have e' : q = g := e
    subst e'
    have : t = T := Decidable.byContradiction fun hne => hc'.ne hc hne rfl
    rw [this]; exact List.mem_singleton.2 rfl)) _
section
variable {w w' : World} {base g : Nat} {Ls : List Nd} {v : Value} {S : Stt}
def CpRel (S : Stt) (w : World) (i : Value) (wr : World) : Prop := ∃ (k : Nat) (Lk : List Nd) (vk : Value), k ≤ S.l.length ∧ i = .int .i64 k ∧ DSx wr w.heap.size w.heap.size Lk vk ⟨S.l.take k, S.last⟩ ∧ OwnNs wr w.heap.size vk Lk ∧ Below w.heap.size w wr
/-- a state of its own -/
def NewS (S : Stt) (w : World) (e : Ending) (w' : World) : Prop := ∃ Ls' v' g', e = .returned (SPtr g') ∧ w.heap.size ≤ g' ∧ DSx w' w.heap.size g' Ls' v' S ∧ OwnNs w' w.heap.size v' Ls' ∧ Below w.heap.size w w'
set_option maxHeartbeats 8000000 in
theorem rCopyS (h : DSx w base g Ls v S) (hlen : Ls.length ≤ 1000) (hs : SmS S.l) : Calls Tryz.prog 38 #[SPtr g] w (NewS S w) := by
  have H := Lib.hid h; have HL := Lib.hid h.len; have HS := Lib.hid hs; have HLE := Lib.hid hlen
  obtain ⟨A, cp, rfl, hc, _⟩ := h.form
  have c0 := h.c0
  have c1 := h.c1
  have hlt := h.cells.lt
  have hg1 := below_of_grown (World.grownBy_alloc w (.cells #[.slice none 0 0, .int .i64 S.last] 75) none)
  have c01 := (h.below hg1).c0
  have h0 : DSx (w.alloc (.cells #[.slice none 0 0, .int .i64 S.last] 75)) w.heap.size w.heap.size [] (.slice none 0 0) ⟨S.l.take 0, S.last⟩ :=
    ⟨Nat.le_refl _, Cells.new _ _ _, RowP.of (World.ownsRow_nil _ _ _ _), (fun n hn => (by simp at hn)), rfl⟩
  have H0 := Lib.hid h0; have HG1 := Lib.hid hg1
  clear h h0 hg1 hs hlen hc
  unfold SPtr
  go_enter Tryz.func38, Tryz.ntmps38
  go_wp2
  go_loopw [17] (fun i wr => CpRel S w i wr) (fun i _ => Ls.length - (intOf i).toNat)
  case atStart => exact ⟨0, [], _, Nat.zero_le _, rfl, H0.out, World.ownsRow_nil _ _ _ _, HG1.out⟩
  case round =>
    obtain ⟨k, Lk, vk, hk, rfl, hd, hro, hb⟩ := hrel
    have HRO := Lib.hid hro
    have h2 := H.out.below hb
    have HD := Lib.hid hd; have HB := Lib.hid hb
    rw [HL.out] at hk
    by_cases hlt : k < Ls.length
    · obtain ⟨n, hn⟩ : ∃ n, Ls[k]? = some n := ⟨_, List.getElem?_eq_getElem hlt⟩
      have hSk : S.l[k]? = some n.plain := by rw [← H.out.eq, List.getElem?_map, hn]; rfl
      have HSK := Lib.hid hSk
      have hsm := HS.out n.plain (List.mem_of_getElem? hSk)
      obtain ⟨A', c', hv, _, hF⟩ := h2.form
      injection hv with hv1 hv2 hv3
      obtain ⟨gL, hA, _, hx⟩ := hF k n hn
      have hA2 : A = some ⟨gL, 0, none⟩ := hv1.trans hA
      subst hA2
      have how := h2.own n (List.mem_of_getElem? hn)
      obtain ⟨j, ki, l, t, u, A0, ac, P, B, bc, N⟩ := n
      have x0 := (hx 0 _ rfl).1; have x1 := (hx 1 _ rfl).1; have x2 := (hx 2 _ rfl).1; have x3 := (hx 3 _ rfl).1; have x4 := (hx 4 _ rfl).1; have x5 := (hx 5 _ rfl).1; have x6 := (hx 6 _ rfl).1
      have hlt2 : (k : Int) < (Ls.length : Int) := Int.ofNat_lt.2 hlt
      have hkb : k < 1000 := by have := HLE.out; omega
      dsimp only at x0 x1 x2 x3 x4 x5 x6 hsm
      rw [Nat.add_zero] at x0
      obtain ⟨w1, hw1⟩ : ∃ w1, wr.alloc (.cells (ncells j ki l t u (.slice A0 P.length ac) (.slice B N.length bc)) 51) = w1 := ⟨_, rfl⟩
      have hb1 : Below wr.heap.size wr w1 := by rw [← hw1]; exact below_of_grown (World.grownBy_alloc wr _ none)
      have hcb : Cells w1 wr.heap.size 51 (ncells j ki l t u (.slice A0 P.length ac) (.slice B N.length bc)) := by rw [← hw1]; exact Cells.new _ _ _
      have hd1 := hd.below hb1
      have how1 := how.below hb1
      have KC := Lib.hid (fun wx (b : Below w1.heap.size w1 wx) => rCopy ⟨j, ki, l, t, u, A0, ac, P, B, bc, N⟩ wx (how1.below b).in_ hsm.p (Nat.le_trans hsm.q (by decide)))
      obtain ⟨z0, z1, z2, z3, z4, z5, z6⟩ := cells7 hcb
      have y0 := hd1.c0
      obtain ⟨Ak, ck, rfl, _, _⟩ := hd.form
      have HD1 := Lib.hid hd1
      have HO1 := Lib.hid (show OwnNs w1 w.heap.size (.slice Ak Lk.length ck) Lk from (KeepC.of (Ts := []) hb1).own (by simp) hro)
      have HB1 := Lib.hid (hb.trans (hb1.mono hb.size))
      have HSZ := Lib.hid (show w.heap.size < w1.heap.size from hd1.cells.lt)
      have b0 : Below w1.heap.size w1 w1.drew := below_drewN (Below.refl _ _) 1
      have HLK := Lib.hid (show Lk.length ≤ 1000 by have := hd.len; rw [List.length_take] at this; omega)
      unfold ncells at hw1
      unfold Nd.val at KC
      dsimp only at KC
      clear hro HRO hd hb h2 hd1 hb1 hcb how how1 hn hSk hsm hx hF hv1 hv2 hv3 hA hk
      go_wp2_with fail
      go_region_law (first
        | (go_simp; go_at_call 69; (with_reducible refine (KC.out _ b0).mono ?_); rintro e' w3 ⟨V, A5, ac5, B5, bc5, rfl, ho5, hb5⟩; obtain ⟨rfl, ow5⟩ := ho5.nd
           have b3 : Below w1.heap.size w1 w3 := b0.trans (hb5.mono b0.size)
           have y3 := (HD1.out.below b3).c0
           have y4 : (w3.alloc (.cells #[.int .i64 j, .int .i64 ki, .int .i64 l, .int .i64 t, .int .i64 u, .slice A5 P.length ac5, .slice B5 N.length bc5] 51)).cell? ⟨w.heap.size, 0, none⟩ = some (.slice Ak Lk.length ck) := ((HD1.out.below b3).below (below_of_grown (World.grownBy_alloc w3 _ none))).c0
           unfold Nd.val; dsimp only)
        | (refine step_append_nds (by rfl) (.tmp 25) (.tmp 28) (by rfl) (m := [(Nd.mk j ki l t u A5 ac5 P B5 bc5 N)]) (by rfl) (by rfl) ((KeepC.of (Ts := []) (below_of_grown (World.grownBy_alloc w3 _ none))).own (by simp) ((KeepC.of (Ts := []) b3).own (by simp) HO1.out)) (nds_one w3 (Nd.mk j ki l t u A5 ac5 P B5 bc5 N)) (by have := HLK.out; simp; omega) (Nat.le_trans (Nat.le_of_lt HSZ.out) (Nat.le_trans b3.size (below_of_grown (World.grownBy_alloc w3 _ none)).size)) ?_; intro v5 w5 hown5 hgr5 hat5
           have hd4 := (HD1.out.below b3).below (below_of_grown (World.grownBy_alloc w3 (.cells #[.int .i64 j, .int .i64 ki, .int .i64 l, .int .i64 t, .int .i64 u, .slice A5 P.length ac5, .slice B5 N.length bc5] 51) none))
           have hr4 : OwnNs _ w.heap.size (.slice Ak Lk.length ck) Lk := (KeepC.of (Ts := []) (below_of_grown (World.grownBy_alloc w3 (.cells #[.int .i64 j, .int .i64 ki, .int .i64 l, .int .i64 t, .int .i64 u, .slice A5 P.length ac5, .slice B5 N.length bc5] 51) none))).own (by simp) ((KeepC.of (Ts := []) b3).own (by simp) HO1.out)
           have hc5 := hd4.cells.grown hgr5 (ne_own hd4.cells hr4 (by decide))
           have hk5 := KeepC.grown hr4 hgr5
           obtain ⟨A6, c6, rfl, _, _⟩ := ownK_form (RowP.of hown5)
           have y5 := hc5.cell 0
           have f5 := hc5.free 0))
      all_goals
        have hb4 := below_of_grown (World.grownBy_alloc w3 (.cells #[.int .i64 j, .int .i64 ki, .int .i64 l, .int .i64 t, .int .i64 u, .slice A5 P.length ac5, .slice B5 N.length bc5] 51) none)
        have hks := KeepC.set hc5 0 (.slice A6 (Lk ++ [Nd.mk j ki l t u A5 ac5 P B5 bc5 N]).length c6)
        have hD := DSx.mk (w := w5.setCell ⟨w.heap.size, 0, none⟩ (.slice A6 (Lk ++ [Nd.mk j ki l t u A5 ac5 P B5 bc5 N]).length c6)) (base := w.heap.size) (g := w.heap.size) (Ls := Lk ++ [(Nd.mk j ki l t u A5 ac5 P B5 bc5 N)]) (v := .slice A6 (Lk ++ [Nd.mk j ki l t u A5 ac5 P B5 bc5 N]).length c6) (S := ⟨S.l.take (k + 1), S.last⟩)
          (Nat.le_refl _) (hc5.set 0 _) (RowP.of (hks.own (by decide) hown5)) (fun m hm => by
            rcases List.mem_append.1 hm with hm | hm
            · exact ((hd4.own m hm).keep hk5 (by decide) (by decide)).keep hks (by decide) (by decide)
            · rw [List.mem_singleton.1 hm]
              exact ((((ow5.mono (by have := HSZ.out; show w.heap.size ≤ w1.heap.size; omega)).below hb4).keep hk5 (by decide) (by decide)).keep hks (by decide) (by decide)))
          (by
            show (Lk ++ [_]).map Nd.plain = S.l.take (k + 1)
            rw [take_snocE HSK.out, List.map_append, show Lk.map Nd.plain = S.l.take k from hd4.eq]; rfl)
        have hln : (Lk ++ [Nd.mk j ki l t u A5 ac5 P B5 bc5 N]).length = Lk.length + 1 := by simp
        have hoz : OwnNs _ w.heap.size (.slice A6 (Lk ++ [Nd.mk j ki l t u A5 ac5 P B5 bc5 N]).length c6) (Lk ++ [Nd.mk j ki l t u A5 ac5 P B5 bc5 N]) := hks.own (by decide) hown5
        rw [hln] at hD hoz
        have HOZ := Lib.hid hoz
        have HD5 := Lib.hid hD
        have hB5 := (show Below w.heap.size w (w5.setCell ⟨w.heap.size, 0, none⟩ (.slice A6 (Lk ++ [Nd.mk j ki l t u A5 ac5 P B5 bc5 N]).length c6)) from
          (((HB1.out.trans (b3.mono (Nat.le_of_lt HSZ.out))).trans (hb4.mono (by have := HSZ.out; have := b3.size; omega))).grown hgr5 (by have := HSZ.out; have := b3.size; have := hb4.size; omega) (fun q hq => own_base hr4 q hq)).setCell (p := ⟨w.heap.size, 0, none⟩) (Nat.le_refl _) _)
        rw [hln] at hB5
        have HB5 := Lib.hid hB5
        have HKL := Lib.hid (show k + 1 ≤ S.l.length by rw [HL.out]; omega)
        clear hln hoz hr4 hB5 hb4 hks hD hd4 hc5 hk5 hown5 hgr5 hat5 y3 y4 y5 f5 ow5 hb5 ho5 b3 z0 z1 z2 z3 z4 z5 z6 y0
        go_wp2
        go_roundw
        case rel => exact ⟨k + 1, _, _, HKL.out, by go_num, HD5.out, HOZ.out, HB5.out⟩
        case measure => simp [intOf]; omega
    · obtain rfl : k = Ls.length := by omega
      have HX := Lib.hid (show DSx wr w.heap.size w.heap.size Lk vk S by
        have h3 := hd
        rw [← HL.out, List.take_length] at h3
        exact h3)
      clear hd hb h2 hk hro
      go_wp2
      go_ret
      exact ⟨Lk, vk, w.heap.size, rfl, Nat.le_refl _, HX.out, HRO.out, HB.out⟩
end
end Go.Proofs.YtbejbiogabpmfaaGreat
