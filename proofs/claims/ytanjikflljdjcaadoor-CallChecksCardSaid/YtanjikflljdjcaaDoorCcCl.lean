import Derived.Test.YtanjikflljdjcaaDoorCcAw
import Derived.Test.YtanjikflljdjcaaDoorCcRck
import Derived.Test.YtanjikflljdjcaaDoorCcSam
import Derived.Test.YtanjikflljdjcaaDoorCcHas
import Derived.Deep.DeepCutAuto
import Derived.Deep.CutBlock
/-
  The law CallChecks.
-/
namespace Go.Proofs.YtanjikflljdjcaaDoor
open Wd U Go.RowKit Go.ChangeShapes Go.WideShapes Go.Sort
set_option linter.unusedVariables false
set_option linter.unusedSimpArgs false
set_option maxRecDepth 100000
def Cal.m1 (c : Cal) : Int := if c.wrB = true ∧ 0 < c.data.length then (((c.data.length + 255) / 256 + 2 : Nat) : Int) else 0
theorem m1_num (L : Nat) : ((L : Int) + 255) / 256 + 2 = (((L + 255) / 256 + 2 : Nat) : Int) := by omega
set_option maxHeartbeats 4000000 in
theorem calls_any {w : World} (a b : Cal) (kind flag : Int) (hT : Tabs w) (oa : a.Ok w w.heap.size) (ob : b.Ok w w.heap.size) : Calls Tryd.prog 3 #[a.val, b.val, .int .i64 kind, .int .i64 flag] w (TrueB w) := by
  have hfol : Tryd.prog.follows Departure.mixedOrders = true := by kernel_rfl
  have k1 : Below w.heap.size w (w.alloc (.cells (calCells a) 24)) := (Below.refl _ _).alloc (Nat.le_refl _) _
  have k2 : Below (w.alloc (.cells (calCells a) 24)).heap.size (w.alloc (.cells (calCells a) 24)) ((w.alloc (.cells (calCells a) 24)).alloc (.cells (calCells b) 24)) := (Below.refl _ _).alloc (Nat.le_refl _) _
  have HCA := Lib.hid ((Cells.new w 24 (calCells a)).below' k2)
  have hcb := Cells.new (w.alloc (.cells (calCells a) 24)) 24 (calCells b)
  have hsz : (w.alloc (.cells (calCells a) 24)).heap.size = w.heap.size + 1 := by simp
  rw [hsz] at hcb
  have HCB := Lib.hid hcb
  have kb := k1.trans (k2.mono k1.size)
  have HB0 := Lib.hid kb
  have HT0 := Lib.hid (Tabs.below hT kb)
  have OA := Lib.hid oa; have OB := Lib.hid ob
  have lea := oa.le
  unfold maxLen at lea
  clear k1 k2 hcb hsz kb hT oa ob
  unfold Cal.val
  go_enter Tryd.func3, Tryd.ntmps3
  go_wp2_with fail
  refine (callAwake HT0.out).mono ?_
  rintro e' w1 ⟨rfl, b1⟩
  have HB1 := Lib.hid (HB0.out.trans (b1.mono HB0.out.size))
  have HT1 := Lib.hid (Tabs.below HT0.out b1)
  have HCA1 := Lib.hid (HCA.out.below' b1)
  have HCB1 := Lib.hid (HCB.out.below' b1)
  clear b1
  obtain ⟨c0, c1, c2, c3, c4, c5, c6, c7⟩ := ccells HCA1.out
  go_wp2_with fail
  refine (few_call a w1 (OA.out.at_ HB1.out)).mono ?_
  rintro e' w2 h2
  obtain ⟨rfl, b2⟩ := h2.below
  have HB2 := Lib.hid (HB1.out.trans (b2.mono HB1.out.size))
  have HT2 := Lib.hid (Tabs.below HT1.out b2)
  have HCA2 := Lib.hid (HCA1.out.below' b2)
  have HCB2 := Lib.hid (HCB1.out.below' b2)
  clear b2 h2 c0 c1 c2 c3 c4 c5 c6 c7
  cases hfa : decide a.few
  · clear hfa
    go_wp2
    go_ret
    exact ⟨rfl, HB2.out⟩
  · have FA := Lib.hid (of_decide_eq_true hfa)
    clear hfa
    obtain ⟨d0, d1, d2, d3, d4, d5, d6, d7⟩ := ccells HCB2.out
    go_wp2_with fail
    refine (few_call b w2 (OB.out.at_ HB2.out)).mono ?_
    rintro e' w3 h3
    obtain ⟨rfl, b3⟩ := h3.below
    have HB3 := Lib.hid (HB2.out.trans (b3.mono HB2.out.size))
    have HT3 := Lib.hid (Tabs.below HT2.out b3)
    have HCA3 := Lib.hid (HCA2.out.below' b3)
    have HCB3 := Lib.hid (HCB2.out.below' b3)
    clear b3 h3 d0 d1 d2 d3 d4 d5 d6 d7
    cases hfb : decide b.few
    · clear hfb
      go_wp2
      go_ret
      exact ⟨rfl, HB3.out⟩
    · clear hfb
      obtain ⟨c0, c1, c2, c3, c4, c5, c6, c7⟩ := ccells HCA3.out
      go_upto_region 6 with fail
      go_cut [34] from 21 to 34 (fun v wx => v = .bool (a.wrB && decide (0 < a.data.length)) ∧ wx = w3)
      case first => as_aux_lemma =>
        have z : decide ((a.data.length : Int) > 0) = decide (0 < a.data.length) := by simp
        have z3 : decide (0 < (a.data.length : Int)) = decide (0 < a.data.length) := by simp
        cases q1 : (a.kind == 4) <;> cases q2 : (a.kind == 6) <;> cases q3 : decide (0 < a.data.length) <;> rw [q3] at z z3 <;>
        · go_wp2
          go_meet
          exact ⟨by simp only [Cal.wrB, q1, q2, q3]; rfl, rfl⟩
      case rest =>
      obtain ⟨rfl, hcw0⟩ := hcut
      have hcw := hcw0.symm
      subst hcw
      go_upto_if 34 with fail
      go_cut [9] from 34 to 40 (fun v wx => v = .int .i64 a.m1 ∧ wx = w3)
      case first => as_aux_lemma =>
        cases q : (a.wrB && decide (0 < a.data.length))
        · have e : a.m1 = 0 := by
            unfold Cal.m1
            rw [if_neg]
            rintro ⟨h1, h2⟩
            rw [h1, decide_eq_true h2] at q
            cases q
          have HE := Lib.hid e
          clear e
          go_wp2
          go_meet
          exact ⟨by rw [HE.out], rfl⟩
        · have hL : a.data.length ≤ 2000 := FA.out.1
          have e : a.m1 = ((a.data.length : Int) + 255) / 256 + 2 := by
            rw [m1_num]
            unfold Cal.m1
            rw [if_pos]
            simpa using q
          have HE := Lib.hid e
          clear e
          go_wp2
          go_meet
          exact ⟨by rw [HE.out], rfl⟩
      case rest =>
      obtain ⟨rfl, hcw0⟩ := hcut
      have hcw := hcw0.symm
      subst hcw
      go_upto_if 43 with fail
      go_cut [9] from 43 to 43 (fun v wx => v = .int .i64 a.most ∧ wx = w3)
      case first => as_aux_lemma =>
        by_cases h : a.kind = 15
        · have q : (a.kind == 15) = true := by simpa using h
          have e : a.most = 1 := by unfold Cal.most; rw [if_pos h]
          have HE := Lib.hid e
          clear h e
          go_wp2
          go_meet
          exact ⟨by rw [HE.out], rfl⟩
        · have q : (a.kind == 15) = false := by simpa using h
          have e : a.most = a.m1 := by unfold Cal.most Cal.m1; rw [if_neg h]
          have HE := Lib.hid e
          clear h e
          go_wp2
          go_meet
          exact ⟨by rw [HE.out], rfl⟩
      case rest =>
      obtain ⟨rfl, hcw0⟩ := hcut
      have hcw := hcw0.symm
      subst hcw
      go_upto_region 11 with fail
      go_cut [61] from 44 to 61 (fun v wx => v = .bool (flagB flag) ∧ wx = w3)
      case first => as_aux_lemma =>
        cases q1 : (flag == 1)
        · skip
          cases q2 : (flag == 2)
          · skip
            cases q4 : (flag == 4)
            · skip
              cases q8 : (flag == 8)
              · skip
                cases q16 : (flag == 16)
                · skip
                  go_wp2
                  go_meet
                  exact ⟨by simp only [flagB, q1, q2, q4, q8, q16]; rfl, rfl⟩
                · skip
                  go_wp2
                  go_meet
                  exact ⟨by simp only [flagB, q1, q2, q4, q8, q16]; rfl, rfl⟩
              · skip
                go_wp2
                go_meet
                exact ⟨by simp only [flagB, q1, q2, q4, q8]; rfl, rfl⟩
            · skip
              go_wp2
              go_meet
              exact ⟨by simp only [flagB, q1, q2, q4]; rfl, rfl⟩
          · skip
            go_wp2
            go_meet
            exact ⟨by simp only [flagB, q1, q2]; rfl, rfl⟩
        · skip
          go_wp2
          go_meet
          exact ⟨by simp only [flagB, q1]; rfl, rfl⟩
      case rest =>
      obtain ⟨rfl, hcw0⟩ := hcut
      have hcw := hcw0.symm
      subst hcw
      go_upto_if 61 with fail
      go_cut [10] from 61 to 71 (fun v wx => v = .bool (a.hasB flag) ∧ wx = w3)
      case first => as_aux_lemma =>
        obtain ⟨v, hv⟩ : ∃ v, bits .and .i64 a.flags flag = v := ⟨_, rfl⟩
        cases q : flagB flag <;> cases q1 : (a.kind == 1) <;> cases q2 : (v != 0) <;>
        · go_wp2
          go_meet
          exact ⟨by simp only [Cal.hasB, q, q1, hv, q2]; rfl, rfl⟩
      case rest =>
      obtain ⟨rfl, hcw0⟩ := hcut
      have hcw := hcw0.symm
      subst hcw
      go_upto_region 13 with fail
      clear c0 c1 c2 c3 c4 c5 c6 c7
      have xa := calAt HCA3.out
      have xb := calAt HCB3.out
      have a0 := fun n os => (xa n os).1
      have a1 := fun n os => (xa n os).2.1
      have a2 := fun n os => (xa n os).2.2.1
      have a3 := fun n os => (xa n os).2.2.2.1
      have a4 := fun n os => (xa n os).2.2.2.2.1
      have a5 := fun n os => (xa n os).2.2.2.2.2.1
      have a6 := fun n os => (xa n os).2.2.2.2.2.2.1
      have a7 := fun n os => (xa n os).2.2.2.2.2.2.2
      have b0 := fun n os => (xb n os).1
      have b1 := fun n os => (xb n os).2.1
      have b2 := fun n os => (xb n os).2.2.1
      have b3 := fun n os => (xb n os).2.2.2.1
      have b4 := fun n os => (xb n os).2.2.2.2.1
      have b5 := fun n os => (xb n os).2.2.2.2.2.1
      have b6 := fun n os => (xb n os).2.2.2.2.2.2.1
      have b7 := fun n os => (xb n os).2.2.2.2.2.2.2
      clear xa xb
      have gb := fun n os => below_grow' w3 n os
      have ka := fun n os => OA.out.at_ (HB3.out.trans ((gb n os).mono HB3.out.size))
      have kb := fun n os => OB.out.at_ (HB3.out.trans ((gb n os).mono HB3.out.size))
      have kT := fun n os => Tabs.below HT3.out (gb n os)
      have K0 := Lib.hid (fun n os => cCheck a _ (kT n os))
      have K1 := Lib.hid (fun w => rCheck a w)
      have K2 := Lib.hid (fun n os => cWord kind (kT n os))
      have K3 := Lib.hid (fun w => rWord kind w)
      have K4 := Lib.hid (fun n os => cSame a b _ (ka n os) (kb n os))
      have K5 := Lib.hid (fun n os => rSame a b _ (ka n os) (kb n os))
      have K6 := Lib.hid (fun w => cMost a w FA.out.1)
      have K7 := Lib.hid (fun w => cFds a w)
      have K8 := Lib.hid (fun w => cWrites a w)
      have K9 := Lib.hid (fun w => cHas a flag w)
      clear ka kb kT gb
      obtain ⟨E, hE⟩ : ∃ E, a.err = E := ⟨_, rfl⟩
      obtain ⟨S, hS⟩ : ∃ S, sameC a b = S := ⟨_, rfl⟩
      obtain ⟨sk, hsk⟩ : ∃ sk, wordS kind = sk := ⟨_, rfl⟩
      obtain ⟨M, hM⟩ : ∃ M, a.most = M := ⟨_, rfl⟩
      obtain ⟨H, hH⟩ : ∃ H, a.hasB flag = H := ⟨_, rfl⟩
      rw [hE] at K0 K1
      rw [hS] at K4 K5
      rw [hsk] at K2 K3
      rw [hM] at K6 ⊢
      rw [hH] at K9 ⊢
      have e1 : (E == E) = true := by simp
      have e2 : (S == S) = true := by simp
      have e3 : (sk.toList == sk.toList) = true := by simp
      have e4 : (M == M) = true := by simp
      have e5 : (H == H) = true := by simp
      unfold Cal.fdB at K7
      unfold Cal.wrB at K8
      unfold Cal.val at K0 K1 K4 K5 K6 K7 K8 K9
      have fin : ∀ (nr : Nat) (osr : Array Obj), TrueB w (.returned (.bool true)) (grow (w3.drewN nr) osr) := fun nr osr => ⟨rfl, HB3.out.trans ((below_grow' w3 nr osr).mono HB3.out.size)⟩
      have FIN := Lib.hid fin
      clear hE hS hsk hM hH fin lea
      cases q1 : decide (2 ≤ a.kind) <;> cases q2 : decide (a.kind ≤ 8) <;> cases q3 : (a.kind == 4) <;> cases q4 : (a.kind == 6) <;> rw [q1, q2] at K7 <;> rw [q3, q4] at K8 <;>
      · have q5 := (show decide (a.kind ≥ 2) = decide (2 ≤ a.kind) from rfl).trans q1
        refine wp_region_quiet_grown hfol (by kernel_rfl) ?_
        repeat (go_big_quiet_step (first
          | (go_at_call 7; (with_reducible exact Grows.inAt K0.out _ _))
          | (go_at_call 8; (with_reducible exact Grows.in K1.out _ _ _))
          | (go_at_call 9; (with_reducible exact Grows.inAt K2.out _ _))
          | (go_at_call 10; (with_reducible exact Grows.in K3.out _ _ _))
          | (go_at_call 11; (with_reducible exact Grows.inAt K4.out _ _))
          | (go_at_call 12; (with_reducible exact Grows.inAt K5.out _ _))
          | (go_at_call 13; (with_reducible exact Grows.in K6.out _ _ _))
          | (go_at_call 14; (with_reducible exact Grows.in K7.out _ _ _))
          | (go_at_call 15; (with_reducible exact Grows.in K8.out _ _ _))
          | (go_at_call 16; (with_reducible exact Grows.in K9.out _ _ _))))
        refine wpQuiet_nil ?_
        intro _ hw'
        obtain ⟨⟨nr, osr⟩, hw''⟩ := hw'
        subst hw''
        go_wp2
        go_ret
        exact FIN.out nr osr
end Go.Proofs.YtanjikflljdjcaaDoor
