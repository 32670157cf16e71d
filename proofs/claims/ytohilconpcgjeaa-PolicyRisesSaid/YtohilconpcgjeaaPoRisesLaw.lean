/-
  PolicyRises: of plain numbers, syncs more make no score less, and no eager file lazy. No condition.
-/
import Derived.Test.YtohilconpcgjeaaPoRises
namespace Go.Proofs.Ytohilconpcgjeaa.policyRises
open Wd Go.ChangeShapes Go.WideShapes Go.ChangeAt Go.RowKit
set_option linter.unusedVariables false

theorem own : ownKnob Try.prog.godebug = none := by kernel_rfl
theorem laidOut : laidOutB Try.prog = true := by kernel_rfl
theorem readable : ∀ t ∈ Try.f5.params.toList, Try.prog.readableRec t = true ∧ t < Try.prog.types.size := by
  intro t ht
  rw [Try.params5] at ht
  simp only [List.mem_cons, List.not_mem_nil, or_false] at ht
  rcases ht with rfl | rfl | rfl <;> exact ⟨by kernel_rfl, of_decide_eq_true (by kernel_rfl)⟩

set_option maxRecDepth 100000 in
theorem lifted (os : Os) (started : os.Started) (H : Type) (enc : TypeId × Value → H) :
    ReturnsInHanded {} Try.checked os 5 .any (Rows.policyRisesSpec.pre6 enc Try.prog Try.f5 Rows.policyRisesRow.domain false) (Rows.policyRisesSpec.post enc Try.prog Try.f5 false true false false) := by
  refine returnsInHanded_of_change (C := Try.checked) own started (by kernel_rfl) Try.func5
    (ChangeSpec.witness6 (enc := enc) (C := Try.checked) false ⟨#[], #[.agg #[.float .f64 0, .float .f64 0, .float .f64 0], .slice none 0 0, .slice none 0 0], []⟩ 8 (by kernel_rfl) (by kernel_rfl) (by kernel_rfl) (by kernel_rfl)) ?_
  intro W base args ds gs before hval0 hW hcnd _
  have hval : ∀ (j : Nat) t v, Try.f5.params[j]? = some t → args[j]? = some v → Value.okWide Try.prog W .any base t v := hval0
  have hW' := hW
  obtain ⟨p, q, hA0, hV, rfl, hfz, hnd⟩ := hW
  have hA : DataW.TrodAll enc Try.prog W 0 (fun _ => true) true Try.f5.params.toList args.toList ds p := hA0
  rw [Try.params5] at hA hval
  obtain ⟨v0, vs0, d0, ds0, p0, q0, hargs, rfl, rfl, h0, r0⟩ := trodAll_cons hA
  obtain ⟨v1, vs1, d1, ds1, p1, q1, rfl, rfl, rfl, h1, r1⟩ := trodAll_cons r0
  obtain ⟨v2, vs2, d2, ds2, p2, q2, rfl, rfl, rfl, h2, r2⟩ := trodAll_cons r1
  obtain ⟨rfl, rfl, rfl⟩ := trodAll_nil r2
  obtain rfl : args = #[v0, v1, v2] := by cases args; simp_all
  obtain ⟨rfl, rfl⟩ := trodVars_none hV
  clear hA0 hval0
  obtain ⟨u0_0, u0_1, u0_2, q0_0, q0_1, q0_2, n0, rfl, hd0, hp0, y0_0, y0_1, y0_2⟩ := Go.Joins.open_agg3 Try.underlying32 (by kernel_rfl) (by kernel_rfl) (hval 0 32 v0 rfl rfl) h0
  obtain ⟨a0_0, z0_0, x0_0, w0_0⟩ := trod_float Try.underlying26 y0_0
  obtain rfl := (List.cons.inj z0_0).1
  obtain ⟨a0_1, z0_1, x0_1, w0_1⟩ := trod_float Try.underlying26 y0_1
  obtain rfl := (List.cons.inj z0_1).1
  obtain ⟨a0_2, z0_2, x0_2, w0_2⟩ := trod_float Try.underlying26 y0_2
  obtain rfl := (List.cons.inj z0_2).1
  obtain ⟨A1, c1, l1, rfl, r1w, ok1, lm1⟩ := open_row (f := Value.bool) (ok := (fun _ => True)) Try.underlying33 (by kernel_rfl) (fun n v x h => by obtain ⟨b, hb, _⟩ := DataW.trod_bool Try.underlying4 h; exact ⟨b, (List.cons.inj hb).1, trivial⟩) (hval 1 33 v1 rfl rfl) h1
  obtain ⟨A2, c2, l2, rfl, r2w, ok2, lm2⟩ := open_row (f := Value.bool) (ok := (fun _ => True)) Try.underlying33 (by kernel_rfl) (fun n v x h => by obtain ⟨b, hb, _⟩ := DataW.trod_bool Try.underlying4 h; exact ⟨b, (List.cons.inj hb).1, trivial⟩) (hval 2 33 v2 rfl rfl) h2
  refine (policyRises_walk a0_0 a0_1 a0_2 l1 A1 c1 r1w ok1 lm1 l2 A2 c2 r2w ok2 lm2 W).mono fun e W' ⟨he, hb⟩ => ?_
  subst he
  exact ⟨_, rfl, law_post laidOut readable rfl Try.underlying4 rfl rfl rfl rfl hW' hb⟩

theorem holds : Rows.PolicyRisesSaid :=
  OpenClaim.holds_of_wide 5 Try.f5 rfl rfl rfl rfl rfl rfl rfl ⟨rfl, rfl, rfl, rfl, rfl⟩ rfl rfl rfl rfl rfl (by kernel_rfl) Try.func5 (by kernel_rfl)
    (of_decide_eq_true (by kernel_rfl)) (by unfold Func.isWrapper; first | (rw [if_pos (by decide +kernel)]; kernel_rfl) | (rw [if_neg (by decide +kernel)]; exact ⟨rfl, rfl⟩))
    (fun os started H enc _ => lifted os started H enc)
end Go.Proofs.Ytohilconpcgjeaa.policyRises
