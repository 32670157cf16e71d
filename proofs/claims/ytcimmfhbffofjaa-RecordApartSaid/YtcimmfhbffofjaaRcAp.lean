import Derived.Test.YtcimmfhbffofjaaRcEq
import Derived.Test.YtcimmfhbffofjaaTrue
namespace Go.Proofs.Ytcimmfhbffofjaa
open Wd U Go.ChangeShapes Go.WideShapes Go.RowKit Go.Sort
set_option linter.unusedVariables false
set_option linter.unusedSimpArgs false

/-! RecordApart -/
theorem bytes_eq {a b : ByteArray} (h : a.toList = b.toList) : a = b := by
  rw [Lib.toList_data, Lib.toList_data] at h
  exact ByteArray.ext (Array.toList_inj.1 h)
theorem same_cores {a b : Eff} (h : sameB (core a) (core b) = true) : core a = core b := by
  unfold sameB core at h
  simp only [Bool.and_eq_true, decide_eq_true_eq, beq_iff_eq] at h
  obtain ⟨⟨⟨⟨⟨⟨⟨⟨h1, h2⟩, h3⟩, h4⟩, h5⟩, h6⟩, h7⟩, h8⟩, _⟩ := h
  unfold core
  rw [h1, h2, h3, h4, h5, h6, bytes_eq h7, bytes_eq h8]
theorem apart_is {a b : Eff} {r q : Int} (ha : recB a r = true) (hb : recB b q = true) : (decide (recW a r = recW b q) == (decide (r = q) && sameB (core a) (core b))) = true := by
  by_cases h : recW a r = recW b q
  · have h2 : recW a r ++ [] = recW b q ++ [] := by rw [h]
    obtain ⟨e1, e2, _⟩ := rec_inj ha hb h2
    have e3 : sameB (core a) (core b) = true := same_core (by rw [e1]) rfl
    rw [decide_eq_true h, decide_eq_true e2, e3]
    rfl
  · rw [decide_eq_false h]
    by_cases e2 : r = q
    · cases e3 : sameB (core a) (core b)
      · simp
      · exact absurd (by rw [e2]; exact recW_core q (same_cores e3)) h
    · rw [decide_eq_false e2]
      rfl
theorem Eff.Ok.core {e : Eff} {w : World} {B : Nat} (h : e.Ok w B) : (core e).Ok w B := ⟨h.kind, h.ino, h.dir, h.dst, h.page, h.size, h.name, h.other, (fun x hx => by cases hx), Row.nil, Nat.zero_le _, Nat.zero_le _⟩
set_option maxRecDepth 100000 in
set_option maxHeartbeats 8000000 in
theorem apart_walk (hAw : ∀ w : World, Calls Try.prog 6 #[] w (TrueB w)) {w : World} (a b : Eff) (r q : Int) (oa : a.Ok w w.heap.size) (ob : b.Ok w w.heap.size) : Calls Try.prog 5 #[a.val, b.val, .int .i64 r, .int .i64 q] w (TrueB w) := by
  have hfol : Try.prog.follows Departure.mixedOrders = true := by kernel_rfl
  have k1 : Below w.heap.size w (w.alloc (.cells (effCells a) 24)) := (Below.refl _ _).alloc (Nat.le_refl _) _
  have k2 : Below (w.alloc (.cells (effCells a) 24)).heap.size (w.alloc (.cells (effCells a) 24)) ((w.alloc (.cells (effCells a) 24)).alloc (.cells (effCells b) 24)) := (Below.refl _ _).alloc (Nat.le_refl _) _
  have HCA := Lib.hid ((Cells.new w 24 (effCells a)).below' k2)
  have hcb := Cells.new (w.alloc (.cells (effCells a) 24)) 24 (effCells b)
  have hsz : (w.alloc (.cells (effCells a) 24)).heap.size = w.heap.size + 1 := by simp
  rw [hsz] at hcb
  have HCB := Lib.hid hcb
  have kb := k1.trans (k2.mono k1.size)
  have HB0 := Lib.hid kb
  have OA := Lib.hid oa; have OB := Lib.hid ob
  have HAW := Lib.hid hAw
  clear k1 k2 hcb hsz kb oa ob hAw
  unfold Eff.val
  go_enter Try.func5, Try.ntmps5
  go_wp2_with fail
  refine (HAW.out _).mono ?_
  rintro e' w1 ⟨rfl, b1⟩
  have HB1 := Lib.hid (HB0.out.trans (b1.mono HB0.out.size))
  have HCA1 := Lib.hid (HCA.out.below' b1)
  have HCB1 := Lib.hid (HCB.out.below' b1)
  clear b1
  obtain ⟨c0, c1, c2, c3, c4, c5, c6, c7, c8⟩ := cells9 HCA1.out
  obtain ⟨d0, d1, d2, d3, d4, d5, d6, d7, d8⟩ := cells9 HCB1.out
  go_wp2_with fail
  refine (few_any (l := [a, b]) (effs_two (OA.out.at_ HB1.out) (OB.out.at_ HB1.out)) (by show 2 ≤ maxLen; unfold maxLen; omega)).mono ?_
  rintro e' w2 ⟨rfl, b2'⟩
  have b2 : Below w1.heap.size w1 w2 := ((Below.refl w1.heap.size w1).alloc (Nat.le_refl _) _).trans (b2'.mono (by simp))
  have HB2 := Lib.hid (HB1.out.trans (b2.mono HB1.out.size))
  have HCA2 := Lib.hid (HCA1.out.below' b2)
  have HCB2 := Lib.hid (HCB1.out.below' b2)
  clear b2 b2' c0 c1 c2 c3 c4 c5 c6 c7 c8 d0 d1 d2 d3 d4 d5 d6 d7 d8
  cases hf : fewE [a, b]
  · clear hf
    go_wp2
    go_ret
    exact ⟨rfl, HB2.out⟩
  · have FA := Lib.hid ((fewE_iff.1 hf).1 a (by simp))
    have FB := Lib.hid ((fewE_iff.1 hf).1 b (by simp))
    clear hf
    have KA := Lib.hid (fun w ok => rPut a r w ok FA.out)
    have KB := Lib.hid (fun w ok => rPut b q w ok FB.out)
    unfold Eff.val at KA KB
    obtain ⟨c0, c1, c2, c3, c4, c5, c6, c7, c8⟩ := cells9 HCA2.out
    go_upto_region 7 with (first
      | (go_at_call 8; (with_reducible refine (KA.out _ (OA.out.at_ HB2.out)).mono ?_); rintro e' w3 ⟨b3, A3, k3, rfl, r3, l3⟩; have HR3 := Lib.hid r3; have HB3 := Lib.hid (HB2.out.trans (b3.mono HB2.out.size)); have HCA3 := Lib.hid (HCA2.out.below' b3); have HCB3 := Lib.hid (HCB2.out.below' b3); clear b3 r3 l3 c0 c1 c2 c3 c4 c5 c6 c7 c8; obtain ⟨d0, d1, d2, d3, d4, d5, d6, d7, d8⟩ := cells9 HCB3.out)
      | (go_at_call 8; (with_reducible refine (KB.out _ (OB.out.at_ HB3.out)).mono ?_); rintro e' w4 ⟨b4, A4, k4, rfl, r4, l4⟩; have HR4 := Lib.hid r4; have HB4 := Lib.hid (HB3.out.trans (b4.mono HB3.out.size)); have HCA4 := Lib.hid (HCA3.out.below' b4); have HCB4 := Lib.hid (HCB3.out.below' b4); have HR34 := Lib.hid ((HR3.out.below b4).more b4.size); clear b4 r4 l4 d0 d1 d2 d3 d4 d5 d6 d7 d8))
    cases ha : recB a r
    · clear ha
      rw [show errB false 92 = 92 from rfl]
      go_wp2
      go_ret
      exact ⟨rfl, HB4.out⟩
    · rw [show errB true 92 = 0 from rfl]
      cases hb : recB b q
      · clear ha hb
        rw [show errB false 92 = 92 from rfl]
        go_wp2
        go_ret
        exact ⟨rfl, HB4.out⟩
      · rw [show errB true 92 = 0 from rfl]
        have hpa : putL a r = recW a r := by unfold putL; rw [ha]; rfl
        have hpb : putL b q = recW b q := by unfold putL; rw [hb]; rfl
        have HAP := Lib.hid (apart_is ha hb)
        have m1 := manyR_le (check_in (recB_parts ha).1)
        have l1 := recW_len a r
        rw [hpa] at HR34 ⊢
        rw [hpb] at HR4 ⊢
        clear ha hb hpa hpb
        go_upto_region 9 with fail
        have xa := effAt HCA4.out
        have xb := effAt HCB4.out
        unfold EffAt at xa xb
        have a0 := fun n os => (xa n os).1
        have a1 := fun n os => (xa n os).2.1
        have a2 := fun n os => (xa n os).2.2.1
        have a3 := fun n os => (xa n os).2.2.2.1
        have a4 := fun n os => (xa n os).2.2.2.2.1
        have a5 := fun n os => (xa n os).2.2.2.2.2.1
        have a6 := fun n os => (xa n os).2.2.2.2.2.2.1
        have a7 := fun n os => (xa n os).2.2.2.2.2.2.2.1
        have a8 := fun n os => (xa n os).2.2.2.2.2.2.2.2
        have b0 := fun n os => (xb n os).1
        have b1 := fun n os => (xb n os).2.1
        have b2 := fun n os => (xb n os).2.2.1
        have b3 := fun n os => (xb n os).2.2.2.1
        have b4 := fun n os => (xb n os).2.2.2.2.1
        have b5 := fun n os => (xb n os).2.2.2.2.2.1
        have b6 := fun n os => (xb n os).2.2.2.2.2.2.1
        have b7 := fun n os => (xb n os).2.2.2.2.2.2.2.1
        have b8 := fun n os => (xb n os).2.2.2.2.2.2.2.2
        clear xa xb
        have gb := fun n os => below_grow' w4 n os
        have K0 := Lib.hid (fun n os => sameWords_any (recW a r) (recW b q) _ _ rfl rfl (by omega) A3 A4 k3 k4 w4.heap.size (grow (w4.drewN n) os) (HR34.out.below (gb n os)) (HR4.out.below (gb n os)))
        have K1 := Lib.hid (fun w => eBare a w FA.out.2.1 FA.out.2.2)
        have K2 := Lib.hid (fun w => eBare b w FB.out.2.1 FB.out.2.2)
        have K3 := Lib.hid (fun n os => refSame_any a.bare b.bare (grow (w4.drewN n) os) (OA.out.core.at_ (HB4.out.trans ((gb n os).mono HB4.out.size))) (OB.out.core.at_ (HB4.out.trans ((gb n os).mono HB4.out.size))))
        obtain ⟨n1, hn1⟩ : ∃ n, (recW a r).length = n := ⟨_, rfl⟩
        obtain ⟨n2, hn2⟩ : ∃ n, (recW b q).length = n := ⟨_, rfl⟩
        obtain ⟨S, hS⟩ : ∃ S, sameB a.bare b.bare = S := ⟨_, rfl⟩
        obtain ⟨D, hD⟩ : ∃ D, decide (recW a r = recW b q) = D := ⟨_, rfl⟩
        have hap := HAP.out
        rw [← core_bare, ← core_bare, hS, hD] at hap
        rw [hn1, hn2, hD] at K0
        rw [hn1, hn2]
        rw [hS] at K3
        clear gb hn1 hn2 hS hD m1 l1
        unfold Eff.val Eff.bare at K1 K2 K3
        dsimp only [List.length_nil] at K1 K2 K3
        by_cases hrq : r = q
        · have q5 : (r == q) = true := by simpa using hrq
          have e5 : decide (r = q) = true := decide_eq_true hrq
          rw [e5, Bool.true_and] at hap
          obtain rfl : D = S := by revert hap; cases D <;> cases S <;> simp
          clear hrq e5 hap
          cases D
          · skip
            refine wp_region_quiet_grown hfol (by kernel_rfl) ?_
            repeat (go_big_quiet_step (first
              | (go_at_call 14; (with_reducible exact Grows.inAt K0.out _ _))
              | (go_at_call 20; (with_reducible exact Grows.in K1.out _ _ _))
              | (go_at_call 20; (with_reducible exact Grows.in K2.out _ _ _))
              | (go_at_call 15; (with_reducible exact Grows.inAt K3.out _ _))))
            refine wpQuiet_nil ?_
            intro _ hw'
            obtain ⟨⟨nr, osr⟩, hw''⟩ := hw'
            subst hw''
            go_wp2
            go_ret
            exact ⟨rfl, HB4.out.trans ((below_grow' w4 nr osr).mono HB4.out.size)⟩
          · skip
            refine wp_region_quiet_grown hfol (by kernel_rfl) ?_
            repeat (go_big_quiet_step (first
              | (go_at_call 14; (with_reducible exact Grows.inAt K0.out _ _))
              | (go_at_call 20; (with_reducible exact Grows.in K1.out _ _ _))
              | (go_at_call 20; (with_reducible exact Grows.in K2.out _ _ _))
              | (go_at_call 15; (with_reducible exact Grows.inAt K3.out _ _))))
            refine wpQuiet_nil ?_
            intro _ hw'
            obtain ⟨⟨nr, osr⟩, hw''⟩ := hw'
            subst hw''
            go_wp2
            go_ret
            exact ⟨rfl, HB4.out.trans ((below_grow' w4 nr osr).mono HB4.out.size)⟩
        · have q5 : (r == q) = false := by simpa using hrq
          have e5 : decide (r = q) = false := decide_eq_false hrq
          rw [e5, Bool.false_and] at hap
          obtain rfl : D = false := by revert hap; cases D <;> simp
          clear hrq e5 hap
          refine wp_region_quiet_grown hfol (by kernel_rfl) ?_
          repeat (go_big_quiet_step (first
            | (go_at_call 14; (with_reducible exact Grows.inAt K0.out _ _))
            | (go_at_call 20; (with_reducible exact Grows.in K1.out _ _ _))
            | (go_at_call 20; (with_reducible exact Grows.in K2.out _ _ _))
            | (go_at_call 15; (with_reducible exact Grows.inAt K3.out _ _))))
          refine wpQuiet_nil ?_
          intro _ hw'
          obtain ⟨⟨nr, osr⟩, hw''⟩ := hw'
          subst hw''
          go_wp2
          go_ret
          exact ⟨rfl, HB4.out.trans ((below_grow' w4 nr osr).mono HB4.out.size)⟩
end Go.Proofs.Ytcimmfhbffofjaa
