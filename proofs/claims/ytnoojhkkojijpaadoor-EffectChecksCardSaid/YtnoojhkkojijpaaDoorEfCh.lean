import Derived.Test.YtnoojhkkojijpaaDoorEfSh
import Derived.Test.YtnoojhkkojijpaaDoorEfFld
namespace Go.Proofs.YtnoojhkkojijpaaDoor
open Wd U Go.RowKit Go.ChangeShapes Go.WideShapes Go.Sort
set_option linter.unusedVariables false


theorem effs_two {w : World} {a b : Eff} (oa : a.Ok w w.heap.size) (ob : b.Ok w w.heap.size) : Effs (w.alloc (.cells (effCells a ++ effCells b) 24)) (w.alloc (.cells (effCells a ++ effCells b) 24)).heap.size (some ⟨w.heap.size, 0, none⟩) [a, b] := by
  have hc := Cells.new w 24 (effCells a ++ effCells b)
  refine ⟨fun _ => ⟨w.heap.size, 0, rfl, by simp, fun j e' hj k x hk => ?_⟩, fun e' he => ?_⟩
  · have hk9 : k < 9 := by have := (List.getElem?_eq_some_iff.1 hk).1; simpa [Eff.vals] using this
    match j, hj with
    | 0, hj =>
      cases hj
      rw [Nat.zero_mul, Nat.zero_add, Nat.zero_add, hc.cell k, Array.getElem?_append_left (by show k < 9; exact hk9), ← Array.getElem?_toList]
      exact hk
    | 1, hj =>
      cases hj
      rw [Nat.zero_add, hc.cell, Array.getElem?_append_right (by show 9 ≤ _; omega), ← Array.getElem?_toList]
      show (effCells b).toList[1 * 9 + k - 9]? = some x
      rw [show 1 * 9 + k - 9 = k by omega]
      exact hk
    | j + 2, hj => simp at hj
  · have hb : Below w.heap.size w (w.alloc (.cells (effCells a ++ effCells b) 24)) := (Below.refl _ _).alloc (Nat.le_refl _) _
    simp at he
    rcases he with rfl | rfl
    · exact oa.at_ hb
    · exact ob.at_ hb
set_option maxRecDepth 100000 in
set_option maxHeartbeats 4000000 in
theorem checks_any {w : World} (a b : Eff) (kind : Int) (hT : Tabs w) (oa : a.Ok w w.heap.size) (ob : b.Ok w w.heap.size) : Calls Tryd.prog 3 #[a.val, b.val, .int .i64 kind] w (TrueB w) := by
  have hfol : Tryd.prog.follows Departure.mixedOrders = true := by kernel_rfl
  have k1 : Below w.heap.size w (w.alloc (.cells (effCells a) 24)) := (Below.refl _ _).alloc (Nat.le_refl _) _
  have k2 : Below (w.alloc (.cells (effCells a) 24)).heap.size (w.alloc (.cells (effCells a) 24)) ((w.alloc (.cells (effCells a) 24)).alloc (.cells (effCells b) 24)) := (Below.refl _ _).alloc (Nat.le_refl _) _
  have HCA := Lib.hid ((Cells.new w 24 (effCells a)).below' k2)
  have hcb := Cells.new (w.alloc (.cells (effCells a) 24)) 24 (effCells b)
  have hsz : (w.alloc (.cells (effCells a) 24)).heap.size = w.heap.size + 1 := by simp
  rw [hsz] at hcb
  have HCB := Lib.hid hcb
  have kb := k1.trans (k2.mono k1.size)
  have HB0 := Lib.hid kb
  have HT0 := Lib.hid (Tabs.below hT kb)
  have OA := Lib.hid oa; have OB := Lib.hid ob
  clear k1 k2 hcb hsz kb hT oa ob
  unfold Eff.val
  go_enter Tryd.func3, Tryd.ntmps3
  go_wp2_with fail
  refine (effAwake_true HT0.out).mono ?_
  rintro e' w1 ⟨rfl, b1⟩
  have HB1 := Lib.hid (HB0.out.trans (b1.mono HB0.out.size))
  have HT1 := Lib.hid (Tabs.below HT0.out b1)
  have HCA1 := Lib.hid (HCA.out.below' b1)
  have HCB1 := Lib.hid (HCB.out.below' b1)
  clear b1
  obtain ⟨c0, c1, c2, c3, c4, c5, c6, c7, c8⟩ := cells9 HCA1.out
  obtain ⟨d0, d1, d2, d3, d4, d5, d6, d7, d8⟩ := cells9 HCB1.out
  go_wp2_with fail
  refine (few_any (l := [a, b]) (effs_two (OA.out.at_ HB1.out) (OB.out.at_ HB1.out)) (by show 2 ≤ maxLen; unfold maxLen; omega)).mono ?_
  rintro e' w2 ⟨rfl, b2'⟩
  have b2 : Below w1.heap.size w1 w2 := ((Below.refl w1.heap.size w1).alloc (Nat.le_refl _) _).trans (b2'.mono (by simp))
  have HB2 := Lib.hid (HB1.out.trans (b2.mono HB1.out.size))
  have HT2 := Lib.hid (Tabs.below HT1.out b2)
  have HCA2 := Lib.hid (HCA1.out.below' b2)
  have HCB2 := Lib.hid (HCB1.out.below' b2)
  clear b2 b2' c0 c1 c2 c3 c4 c5 c6 c7 c8 d0 d1 d2 d3 d4 d5 d6 d7 d8
  cases hf : fewE [a, b]
  · clear hf
    go_wp2
    go_ret
    exact ⟨rfl, HB2.out⟩
  · have FA := Lib.hid ((fewE_iff.1 hf).1 a (by simp))
    have FB := Lib.hid ((fewE_iff.1 hf).1 b (by simp))
    clear hf
    go_upto_region 5 with fail
    have xa := effAt HCA2.out
    have xb := effAt HCB2.out
    have a0 := fun n os => (xa n os).1
    have a1 := fun n os => (xa n os).2.1
    have a2 := fun n os => (xa n os).2.2.1
    have a3 := fun n os => (xa n os).2.2.2.1
    have a4 := fun n os => (xa n os).2.2.2.2.1
    have a5 := fun n os => (xa n os).2.2.2.2.2.1
    have a6 := fun n os => (xa n os).2.2.2.2.2.2.1
    have a7 := fun n os => (xa n os).2.2.2.2.2.2.2.1
    have a8 := fun n os => (xa n os).2.2.2.2.2.2.2.2
    have b0 := fun n os => (xb n os).1
    have b1 := fun n os => (xb n os).2.1
    have b2 := fun n os => (xb n os).2.2.1
    have b3 := fun n os => (xb n os).2.2.2.1
    have b4 := fun n os => (xb n os).2.2.2.2.1
    have b5 := fun n os => (xb n os).2.2.2.2.2.1
    have b6 := fun n os => (xb n os).2.2.2.2.2.2.1
    have b7 := fun n os => (xb n os).2.2.2.2.2.2.2.1
    have b8 := fun n os => (xb n os).2.2.2.2.2.2.2.2
    clear xa xb
    have gb := fun n os => below_grow' w2 n os
    have ka := fun n os => OA.out.at_ (HB2.out.trans ((gb n os).mono HB2.out.size))
    have kb := fun n os => OB.out.at_ (HB2.out.trans ((gb n os).mono HB2.out.size))
    have kT := fun n os => Tabs.below HT2.out (gb n os)
    have K0 := Lib.hid (fun n os => eCheck a _ (ka n os) FA.out)
    have K1 := Lib.hid (fun n os => refCheck_any a _ (ka n os) FA.out.2.1 FA.out.2.2 FA.out.1)
    have K2 := Lib.hid (fun n os => eSame a b _ (ka n os) (kb n os))
    have K3 := Lib.hid (fun n os => refSame_any a b _ (ka n os) (kb n os))
    have K4 := Lib.hid (fun n os => eWord kind (kT n os))
    have K5 := Lib.hid (fun n os => eWord a.kind (kT n os))
    have K6 := Lib.hid (fun w => eBare a w FA.out.2.1 FA.out.2.2)
    clear ka kb kT gb
    obtain ⟨E, hE⟩ : ∃ E, errB a.check 92 = E := ⟨_, rfl⟩
    obtain ⟨S, hS⟩ : ∃ S, sameB a b = S := ⟨_, rfl⟩
    obtain ⟨sk, hsk⟩ : ∃ sk, wordS kind = sk := ⟨_, rfl⟩
    obtain ⟨sa, hsa⟩ : ∃ sa, wordS a.kind = sa := ⟨_, rfl⟩
    have qk := wordS_empty kind
    have qa := wordS_empty a.kind
    rw [hsk] at qk
    rw [hsa] at qa
    have hEa : a.kind < 1 ∨ 8 < a.kind → E = 92 := by
      intro h
      rw [← hE]
      cases hc : a.check
      · rfl
      · have := check_kind hc
        omega
    rw [hE] at K0 K1
    rw [hS] at K2 K3
    rw [hsk] at K4
    rw [hsa] at K5
    have e1 : (E == E) = true := by simp
    have e2 : (S == S) = true := by simp
    clear hE hS hsk hsa
    have hf8 := fld8
    have k6 : ∀ w, Calls Tryd.prog 13 #[a.val] w (Grows (.agg #[.int .i64 a.kind, .int .i64 a.ino, .int .i64 a.dir, .int .i64 a.dst, .int .i64 a.page, .int .i64 a.size, .string a.name, .string a.other, .slice none 0 0]) w) := K6.out
    unfold Eff.val at K0 K1 K2 K3 k6
    have K7 := Lib.hid k6
    clear k6 K6
    have fin : ∀ (nr : Nat) (osr : Array Obj), TrueB w (.returned (.bool true)) (grow (w2.drewN nr) osr) := fun nr osr => ⟨rfl, HB2.out.trans ((below_grow' w2 nr osr).mono HB2.out.size)⟩
    have FIN := Lib.hid fin
    clear fin
    by_cases hk1 : kind < 1
    · have q1 : decide (kind < 1) = true := decide_eq_true hk1
      have qk1 : sk.toList.isEmpty = true := by rw [qk, q1]; rfl
      clear qk hk1
      by_cases ha1 : a.kind < 1 ∨ 8 < a.kind
      · have ea := hEa ha1
        subst ea
        have qa1 : sa.toList.isEmpty = true := by
          rw [qa]
          rcases ha1 with h | h
          · rw [decide_eq_true h]; rfl
          · rw [decide_eq_true h, Bool.or_true]
        clear qa hEa ha1
        refine wp_region_quiet_grown hfol (by kernel_rfl) ?_
        repeat (go_big_quiet_step (first
          | (go_at_call 8; (with_reducible exact Grows.inAt K0.out _ _))
          | (go_at_call 9; (with_reducible exact Grows.inAt K1.out _ _))
          | (go_at_call 10; (with_reducible exact Grows.inAt K2.out _ _))
          | (go_at_call 11; (with_reducible exact Grows.inAt K3.out _ _))
          | (go_at_call 12; (with_reducible exact Grows.inAt K4.out _ _))
          | (go_at_call 12; (with_reducible exact Grows.inAt K5.out _ _))
          | (go_at_call 13; (with_reducible exact Grows.in K7.out _ _ _))))
        refine wpQuiet_nil ?_
        intro _ hw'
        obtain ⟨⟨nr, osr⟩, hw''⟩ := hw'
        subst hw''
        go_wp2
        go_ret
        exact FIN.out nr osr
      · have qa1 : sa.toList.isEmpty = false := by rw [qa, decide_eq_false (fun h => ha1 (.inl h)), decide_eq_false (fun h => ha1 (.inr h))]; rfl
        clear qa hEa ha1
        refine wp_region_quiet_grown hfol (by kernel_rfl) ?_
        repeat (go_big_quiet_step (first
          | (go_at_call 8; (with_reducible exact Grows.inAt K0.out _ _))
          | (go_at_call 9; (with_reducible exact Grows.inAt K1.out _ _))
          | (go_at_call 10; (with_reducible exact Grows.inAt K2.out _ _))
          | (go_at_call 11; (with_reducible exact Grows.inAt K3.out _ _))
          | (go_at_call 12; (with_reducible exact Grows.inAt K4.out _ _))
          | (go_at_call 12; (with_reducible exact Grows.inAt K5.out _ _))
          | (go_at_call 13; (with_reducible exact Grows.in K7.out _ _ _))))
        refine wpQuiet_nil ?_
        intro _ hw'
        obtain ⟨⟨nr, osr⟩, hw''⟩ := hw'
        subst hw''
        go_wp2
        go_ret
        exact FIN.out nr osr
    · have q1 : decide (kind < 1) = false := decide_eq_false hk1
      by_cases hk8 : kind > 8
      · have q2 : decide (kind > 8) = true := decide_eq_true hk8
        have qk1 : sk.toList.isEmpty = true := by rw [qk, q1, show decide (8 < kind) = true from q2]; rfl
        clear qk hk1 hk8
        by_cases ha1 : a.kind < 1 ∨ 8 < a.kind
        · have ea := hEa ha1
          subst ea
          have qa1 : sa.toList.isEmpty = true := by
            rw [qa]
            rcases ha1 with h | h
            · rw [decide_eq_true h]; rfl
            · rw [decide_eq_true h, Bool.or_true]
          clear qa hEa ha1
          refine wp_region_quiet_grown hfol (by kernel_rfl) ?_
          repeat (go_big_quiet_step (first
            | (go_at_call 8; (with_reducible exact Grows.inAt K0.out _ _))
            | (go_at_call 9; (with_reducible exact Grows.inAt K1.out _ _))
            | (go_at_call 10; (with_reducible exact Grows.inAt K2.out _ _))
            | (go_at_call 11; (with_reducible exact Grows.inAt K3.out _ _))
            | (go_at_call 12; (with_reducible exact Grows.inAt K4.out _ _))
            | (go_at_call 12; (with_reducible exact Grows.inAt K5.out _ _))
            | (go_at_call 13; (with_reducible exact Grows.in K7.out _ _ _))))
          refine wpQuiet_nil ?_
          intro _ hw'
          obtain ⟨⟨nr, osr⟩, hw''⟩ := hw'
          subst hw''
          go_wp2
          go_ret
          exact FIN.out nr osr
        · have qa1 : sa.toList.isEmpty = false := by rw [qa, decide_eq_false (fun h => ha1 (.inl h)), decide_eq_false (fun h => ha1 (.inr h))]; rfl
          clear qa hEa ha1
          refine wp_region_quiet_grown hfol (by kernel_rfl) ?_
          repeat (go_big_quiet_step (first
            | (go_at_call 8; (with_reducible exact Grows.inAt K0.out _ _))
            | (go_at_call 9; (with_reducible exact Grows.inAt K1.out _ _))
            | (go_at_call 10; (with_reducible exact Grows.inAt K2.out _ _))
            | (go_at_call 11; (with_reducible exact Grows.inAt K3.out _ _))
            | (go_at_call 12; (with_reducible exact Grows.inAt K4.out _ _))
            | (go_at_call 12; (with_reducible exact Grows.inAt K5.out _ _))
            | (go_at_call 13; (with_reducible exact Grows.in K7.out _ _ _))))
          refine wpQuiet_nil ?_
          intro _ hw'
          obtain ⟨⟨nr, osr⟩, hw''⟩ := hw'
          subst hw''
          go_wp2
          go_ret
          exact FIN.out nr osr
      · have q2 : decide (kind > 8) = false := decide_eq_false hk8
        have qk1 : sk.toList.isEmpty = false := by rw [qk, q1, show decide (8 < kind) = false from q2]; rfl
        clear qk hk1 hk8
        by_cases ha1 : a.kind < 1 ∨ 8 < a.kind
        · have ea := hEa ha1
          subst ea
          have qa1 : sa.toList.isEmpty = true := by
            rw [qa]
            rcases ha1 with h | h
            · rw [decide_eq_true h]; rfl
            · rw [decide_eq_true h, Bool.or_true]
          clear qa hEa ha1
          refine wp_region_quiet_grown hfol (by kernel_rfl) ?_
          repeat (go_big_quiet_step (first
            | (go_at_call 8; (with_reducible exact Grows.inAt K0.out _ _))
            | (go_at_call 9; (with_reducible exact Grows.inAt K1.out _ _))
            | (go_at_call 10; (with_reducible exact Grows.inAt K2.out _ _))
            | (go_at_call 11; (with_reducible exact Grows.inAt K3.out _ _))
            | (go_at_call 12; (with_reducible exact Grows.inAt K4.out _ _))
            | (go_at_call 12; (with_reducible exact Grows.inAt K5.out _ _))
            | (go_at_call 13; (with_reducible exact Grows.in K7.out _ _ _))))
          refine wpQuiet_nil ?_
          intro _ hw'
          obtain ⟨⟨nr, osr⟩, hw''⟩ := hw'
          subst hw''
          go_wp2
          go_ret
          exact FIN.out nr osr
        · have qa1 : sa.toList.isEmpty = false := by rw [qa, decide_eq_false (fun h => ha1 (.inl h)), decide_eq_false (fun h => ha1 (.inr h))]; rfl
          clear qa hEa ha1
          refine wp_region_quiet_grown hfol (by kernel_rfl) ?_
          repeat (go_big_quiet_step (first
            | (go_at_call 8; (with_reducible exact Grows.inAt K0.out _ _))
            | (go_at_call 9; (with_reducible exact Grows.inAt K1.out _ _))
            | (go_at_call 10; (with_reducible exact Grows.inAt K2.out _ _))
            | (go_at_call 11; (with_reducible exact Grows.inAt K3.out _ _))
            | (go_at_call 12; (with_reducible exact Grows.inAt K4.out _ _))
            | (go_at_call 12; (with_reducible exact Grows.inAt K5.out _ _))
            | (go_at_call 13; (with_reducible exact Grows.in K7.out _ _ _))))
          refine wpQuiet_nil ?_
          intro _ hw'
          obtain ⟨⟨nr, osr⟩, hw''⟩ := hw'
          subst hw''
          go_wp2
          go_ret
          exact FIN.out nr osr
end Go.Proofs.YtnoojhkkojijpaaDoor
