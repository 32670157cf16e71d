import Derived.Test.YtjhchddmbbibpaaDoorPaTk
namespace Go.Proofs.YtjhchddmbbibpaaDoor
open Wd Pa Go.ChangeShapes Go.WideShapes Go.RowKit Go.Sort
set_option linter.unusedVariables false
/-- it tells b, and nothing but draws -/
def Tells (b : Bool) (w : World) (e : Ending) (w' : World) : Prop := e = .returned (.bool b) ∧ ∃ d, w' = w.drewN d
def GiveR (B : Nat) (f : Pp) (n : Nat) (U : Nat → Bool) (i : Int) (w : World) (e : Ending) (w' : World) : Prop :=
  (U i.toNat = true ∧ e = .returned (.bool true) ∧ (∃ ws', PgAt w' B f n (put U i.toNat false) ws') ∧ w.grownBy w' (some f.h)) ∨ (U i.toNat = false ∧ Tells false w e w')
section
variable {w : World} {B n : Nat} {f : Pp} {U : Nat → Bool} {ws : List Nat}
set_option maxRecDepth 100000 in
set_option maxHeartbeats 400000 in
theorem has_is (h : PgAt w B f n U ws) (i : Int) : Calls Tryd.prog 14 #[f.ptr, .int .i64 i] w (Tells (U i.toNat) w) := by
  have hfew := h.few
  by_cases hi : 1 ≤ i ∧ i ≤ n
  · obtain ⟨j, hj⟩ : ∃ j : Nat, i = (j : Int) + 1 := ⟨(i - 1).toNat, by omega⟩
    have hjn : j < n := by omega
    have e : i.toNat = j + 1 := by omega
    rw [e]
    obtain ⟨v, hv⟩ : ∃ v, v = j / 64 := ⟨_, rfl⟩
    obtain ⟨k, hk⟩ : ∃ k, k = j % 64 := ⟨_, rfl⟩
    obtain ⟨m, hm⟩ : ∃ m, m = 2 ^ k := ⟨_, rfl⟩
    obtain ⟨b, hb⟩ : ∃ b, U (j + 1) = b := ⟨_, rfl⟩
    have KM := Lib.hid (fun q => may_is (h.drewN q) i true (by rw [eq_comm, decide_eq_true_eq]; exact hi))
    have KV := Lib.hid (fun W => word_is j v i hj (by omega) hv W)
    have KB := Lib.hid (fun W => bit_is j k m i hj (by omega) hk hm W)
    obtain ⟨x, y, z, cx, i1, hvl, -, -, -, -, ht⟩ := h.page hjn hv hk hm
    rw [hb] at ht ⊢
    obtain ⟨t, hand⟩ : ∃ t, bits .and .u64 (x : Int) (m : Int) = t := ⟨_, rfl⟩
    rw [hand] at ht
    have cW := h.cW
    unfold Pp.ptr at KM ⊢
    clear h hv hk hm hi hj hjn e hb hvl
    go_enter Tryd.func14, Tryd.ntmps14
    go_wp2_with fail
    go_quiet (first
      | (go_at_call 21; exact quiet_eq (KM.out _))
      | (go_at_call 22; exact quiet_eq (KV.out _))
      | (go_at_call 23; exact quiet_eq (KB.out _)))
    go_wp2
    go_ret
    exact ⟨rfl, _, rfl⟩
  · have hu : U i.toNat = false := h.wds.off (by omega)
    rw [hu]
    have KM := Lib.hid (fun q => may_is (h.drewN q) i false (by rw [eq_comm, decide_eq_false_iff_not]; exact hi))
    unfold Pp.ptr at KM ⊢
    clear h hi hu
    go_enter Tryd.func14, Tryd.ntmps14
    go_wp2_with fail
    go_quiet (first
      | (go_at_call 21; exact quiet_eq (KM.out _)))
    go_wp2
    go_ret
    exact ⟨rfl, _, rfl⟩
set_option maxRecDepth 100000 in
set_option maxHeartbeats 400000 in
theorem give_is (h : PgAt w B f n U ws) (i : Int) : Calls Tryd.prog 12 #[f.ptr, .int .i64 i] w (GiveR B f n U i w) := by
  have hfew := h.few
  have KH := Lib.hid (has_is h i)
  have HW := Lib.hid h
  cases hu : U i.toNat with
  | true =>
    obtain ⟨h1, h2⟩ := h.wds.dom _ hu
    obtain ⟨j, hj⟩ : ∃ j : Nat, i = (j : Int) + 1 := ⟨(i - 1).toNat, by omega⟩
    have hjn : j < n := by omega
    have e : i.toNat = j + 1 := by omega
    obtain ⟨v, hv⟩ : ∃ v, v = j / 64 := ⟨_, rfl⟩
    obtain ⟨k, hk⟩ : ∃ k, k = j % 64 := ⟨_, rfl⟩
    obtain ⟨m, hm⟩ : ∃ m, m = 2 ^ k := ⟨_, rfl⟩
    have KV := Lib.hid (fun W => word_is j v i hj (by omega) hv W)
    have KB := Lib.hid (fun W => bit_is j k m i hj (by omega) hk hm W)
    obtain ⟨x, y, z, cx, i1, hvl, -, hor, -, hw, -⟩ := h.page hjn hv hk hm
    rw [← e] at hw
    have HD := Lib.hid hw; have HVL := Lib.hid hvl; have HU := Lib.hid hu
    rw [hu] at KH
    clear hu hw hvl hv hk hm hj hjn e h1 h2 h
    have CX := Lib.hid cx
    unfold Pp.ptr at KH ⊢
    go_enter Tryd.func12, Tryd.ntmps12
    go_wp2_with fail
    refine KH.out.mono ?_
    rintro e w1 ⟨rfl, d, hw1⟩
    have HG := Lib.hid (show ∀ v u, w.grownBy ((w.drewN d).drew.setCell ⟨f.h, v, none⟩ u) (some f.h) from fun v u => set_grown w f.h v u (d + 1))
    have cx : (w.drewN d).cell? ⟨f.h, v, none⟩ = some (.int .u64 x) := CX.out
    rw [← hw1] at HG cx
    have HW1 := Lib.hid (show PgAt w1 B f n U ws by rw [hw1]; exact HW.out.drewN d)
    have cW := HW1.out.cW
    have fz := HW1.out.words.free v
    clear hw1 HW CX
    go_wp2_with fail
    go_upto_region 3 with fail
    refine wp_region_still_tail 12 (by kernel_rfl) (by kernel_rfl) ?_
    simp only [List.take_succ_cons, List.take_zero, List.drop_succ_cons, List.drop_zero]
    repeat (first | still_step | still_call (still_eq (KV.out _)) | still_call (still_eq (KB.out _)))
    try refine wpStill_nil ?_
    change wpList _ _ _ _ _ w1.drew
    have HW2 := Lib.hid (show PgAt w1.drew B f n U ws from HW1.out.drewN 1)
    have HG2 := Lib.hid (show ∀ v u, w.grownBy (w1.drew.setCell ⟨f.h, v, none⟩ u) (some f.h) from HG.out)
    obtain ⟨w2, hw2⟩ : ∃ w2, w1.drew = w2 := ⟨_, rfl⟩
    rw [hw2] at HW2 HG2 ⊢
    have fz := HW2.out.words.free v
    have cx2 : w2.cell? ⟨f.h, v, none⟩ = some (.int .u64 x) := by rw [← hw2]; exact cx
    clear cx cW hw2
    go_wp2
    go_ret
    exact .inl ⟨HU.out, rfl, ⟨_, HW2.out.set HD.out HVL.out⟩, HG2.out _ _⟩
  | false =>
    rw [hu] at KH
    have HU := Lib.hid hu
    clear hu h HW
    unfold Pp.ptr at KH ⊢
    go_enter Tryd.func12, Tryd.ntmps12
    go_wp2_with fail
    refine KH.out.mono ?_
    rintro e w1 ⟨rfl, d, rfl⟩
    go_wp2
    go_ret
    exact .inr ⟨HU.out, rfl, d, rfl⟩
end
end Go.Proofs.YtjhchddmbbibpaaDoor
