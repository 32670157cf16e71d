/-
  PolicyFirst: whoever is eager first was lazy ahead of it, and without syncs nobody has a score, of plain numbers. No condition.
-/
import Derived.Test.YtohilconpcgjeaaPoFirst
namespace Go.Proofs.Ytohilconpcgjeaa.policyFirst
open Wd Go.ChangeShapes Go.WideShapes Go.ChangeAt Go.RowKit
set_option linter.unusedVariables false

theorem own : ownKnob Try.prog.godebug = none := by kernel_rfl
theorem laidOut : laidOutB Try.prog = true := by kernel_rfl
theorem readable : ∀ t ∈ Try.f7.params.toList, Try.prog.readableRec t = true ∧ t < Try.prog.types.size := by
  intro t ht
  rw [Try.params7] at ht
  simp only [List.mem_cons, List.not_mem_nil, or_false] at ht
  rcases ht with rfl | rfl <;> exact ⟨by kernel_rfl, of_decide_eq_true (by kernel_rfl)⟩

set_option maxRecDepth 100000 in
theorem lifted (os : Os) (started : os.Started) (H : Type) (enc : TypeId × Value → H) :
    ReturnsInHanded {} Try.checked os 7 .any (Rows.policyFirstSpec.pre6 enc Try.prog Try.f7 Rows.policyFirstRow.domain false) (Rows.policyFirstSpec.post enc Try.prog Try.f7 false true false false) := by
  refine returnsInHanded_of_change (C := Try.checked) own started (by kernel_rfl) Try.func7
    (ChangeSpec.witness6 (enc := enc) (C := Try.checked) false ⟨#[], #[.agg #[.float .f64 0, .float .f64 0, .float .f64 0], .slice none 0 0], []⟩ 8 (by kernel_rfl) (by kernel_rfl) (by kernel_rfl) (by kernel_rfl)) ?_
  intro W base args ds gs before hval0 hW hcnd _
  have hval : ∀ (j : Nat) t v, Try.f7.params[j]? = some t → args[j]? = some v → Value.okWide Try.prog W .any base t v := hval0
  have hW' := hW
  obtain ⟨p, q, hA0, hV, rfl, hfz, hnd⟩ := hW
  have hA : DataW.TrodAll enc Try.prog W 0 (fun _ => true) true Try.f7.params.toList args.toList ds p := hA0
  rw [Try.params7] at hA hval
  obtain ⟨v0, vs0, d0, ds0, p0, q0, hargs, rfl, rfl, h0, r0⟩ := trodAll_cons hA
  obtain ⟨v1, vs1, d1, ds1, p1, q1, rfl, rfl, rfl, h1, r1⟩ := trodAll_cons r0
  obtain ⟨rfl, rfl, rfl⟩ := trodAll_nil r1
  obtain rfl : args = #[v0, v1] := by cases args; simp_all
  obtain ⟨rfl, rfl⟩ := trodVars_none hV
  clear hA0 hval0
  obtain ⟨u0_0, u0_1, u0_2, q0_0, q0_1, q0_2, n0, rfl, hd0, hp0, y0_0, y0_1, y0_2⟩ := Go.Joins.open_agg3 Try.underlying32 (by kernel_rfl) (by kernel_rfl) (hval 0 32 v0 rfl rfl) h0
  obtain ⟨a0_0, z0_0, x0_0, w0_0⟩ := trod_float Try.underlying26 y0_0
  obtain rfl := (List.cons.inj z0_0).1
  obtain ⟨a0_1, z0_1, x0_1, w0_1⟩ := trod_float Try.underlying26 y0_1
  obtain rfl := (List.cons.inj z0_1).1
  obtain ⟨a0_2, z0_2, x0_2, w0_2⟩ := trod_float Try.underlying26 y0_2
  obtain rfl := (List.cons.inj z0_2).1
  obtain ⟨A1, c1, l1, rfl, r1w, ok1, lm1⟩ := open_row (f := Value.bool) (ok := (fun _ => True)) Try.underlying33 (by kernel_rfl) (fun n v x h => by obtain ⟨b, hb, _⟩ := DataW.trod_bool Try.underlying4 h; exact ⟨b, (List.cons.inj hb).1, trivial⟩) (hval 1 33 v1 rfl rfl) h1
  refine (policyFirst_walk a0_0 a0_1 a0_2 l1 A1 c1 r1w ok1 lm1 W).mono fun e W' ⟨he, hb⟩ => ?_
  subst he
  exact ⟨_, rfl, law_post laidOut readable rfl Try.underlying4 rfl rfl rfl rfl hW' hb⟩

theorem holds : Rows.PolicyFirstSaid :=
  OpenClaim.holds_of_wide 7 Try.f7 rfl rfl rfl rfl rfl rfl rfl ⟨rfl, rfl, rfl, rfl, rfl⟩ rfl rfl rfl rfl rfl (by kernel_rfl) Try.func7 (by kernel_rfl)
    (of_decide_eq_true (by kernel_rfl)) (by unfold Func.isWrapper; first | (rw [if_pos (by decide +kernel)]; kernel_rfl) | (rw [if_neg (by decide +kernel)]; exact ⟨rfl, rfl⟩))
    (fun os started H enc _ => lifted os started H enc)
end Go.Proofs.Ytohilconpcgjeaa.policyFirst
