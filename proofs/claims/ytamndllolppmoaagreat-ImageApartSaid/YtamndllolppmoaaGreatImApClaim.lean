/-
  States that aren't alike have words that aren't. No condition.
-/
import Derived.Test.YtamndllolppmoaaGreatH07
import Derived.Test.YtamndllolppmoaaGreatRows
namespace Go.Proofs.YtamndllolppmoaaGreat.imageApart
open Wd Go.ChangeShapes Go.WideShapes Go.ChangeAt Go.RowKit
set_option linter.unusedVariables false

theorem own : ownKnob Tryz.prog.godebug = none := by kernel_rfl
theorem laidOut : laidOutB Tryz.prog = true := by kernel_rfl
theorem readable : ∀ t ∈ Tryz.f7.params.toList, Tryz.prog.readableRec t = true ∧ t < Tryz.prog.types.size := by
  intro t ht
  rw [Tryz.params7] at ht
  simp only [List.mem_cons, List.not_mem_nil, or_false] at ht
  rcases ht with rfl | rfl <;> exact ⟨by kernel_rfl, of_decide_eq_true (by kernel_rfl)⟩

set_option maxRecDepth 100000 in
theorem lifted (os : Os) (started : os.Started) (H : Type) (enc : TypeId × Value → H) :
    ReturnsInHanded {} Tryz.checked os 7 .any (Rows.imageApartSpec.pre6 enc Tryz.prog Tryz.f7 Rows.imageApartRow.domain false) (Rows.imageApartSpec.post enc Tryz.prog Tryz.f7 false true false false) := by
  refine returnsInHanded_of_change_sized (C := Tryz.checked) own started (by kernel_rfl) Tryz.func7
    (ChangeSpec.witness6 (enc := enc) (C := Tryz.checked) false ⟨#[], #[.slice none 0 0, .slice none 0 0], []⟩ 8 (by kernel_rfl) (by kernel_rfl) (by kernel_rfl) (by kernel_rfl)) ?_
  intro W base args ds gs before hval0 hW hcnd hsz _
  have hval : ∀ (j : Nat) t v, Tryz.f7.params[j]? = some t → args[j]? = some v → Value.okWide Tryz.prog W .any base t v := hval0
  have hW' := hW
  obtain ⟨p, q, hA0, hV, rfl, hfz, hnd⟩ := hW
  have hA : DataW.TrodAll enc Tryz.prog W 0 (fun _ => true) true Tryz.f7.params.toList args.toList ds p := hA0
  rw [Tryz.params7] at hA hval hsz
  obtain ⟨v0, vs0, d0, ds0, p0, q0, hargs, rfl, rfl, h0, r0⟩ := trodAll_cons hA
  obtain ⟨v1, vs1, d1, ds1, p1, q1, rfl, rfl, rfl, h1, r1⟩ := trodAll_cons r0
  obtain ⟨rfl, rfl, rfl⟩ := trodAll_nil r1
  obtain rfl : args = #[v0, v1] := by cases args; simp_all
  obtain ⟨rfl, rfl⟩ := trodVars_none hV
  clear hA0 hval0
  have hsz0 := fun (A : Option Addr) (n c : Nat) (hh : v0 = .slice A n c) => sized_len (j := 0) (A := A) (len := n) (cap := c) hsz (by rfl) (by rfl) Tryz.underlying22 (by rw [← hh]; exact h0)
  obtain ⟨A0, c0, l0, rfl, x0, _, _⟩ := open_dds (hval 0 22 v0 rfl rfl) h0
  have z0 : l0.length * 112 ≤ 140737488351232 := hsz0 _ _ _ rfl
  have hsz1 := fun (A : Option Addr) (n c : Nat) (hh : v1 = .slice A n c) => sized_len (j := 1) (A := A) (len := n) (cap := c) hsz (by rfl) (by rfl) Tryz.underlying22 (by rw [← hh]; exact h1)
  obtain ⟨A1, c1, l1, rfl, x1, _, _⟩ := open_dds (hval 1 22 v1 rfl rfl) h1
  have z1 : l1.length * 112 ≤ 140737488351232 := hsz1 _ _ _ rfl
  refine (apart_law x0 z0 x1 z1).mono fun e W' ⟨he, hb⟩ => ?_
  subst he
  exact ⟨_, rfl, law_post laidOut readable rfl Tryz.underlying4 rfl rfl rfl rfl hW' hb⟩

theorem holds : Rows.ImageApartSaid :=
  OpenClaim.holds_of_wide 7 Tryz.f7 rfl rfl rfl rfl rfl rfl rfl ⟨rfl, rfl, rfl, rfl, rfl⟩ rfl rfl rfl rfl rfl (by kernel_rfl) Tryz.func7 (by kernel_rfl)
    (of_decide_eq_true (by kernel_rfl)) (by unfold Func.isWrapper; first | (rw [if_pos (by decide +kernel)]; kernel_rfl) | (rw [if_neg (by decide +kernel)]; exact ⟨rfl, rfl⟩))
    (fun os started H enc _ => lifted os started H enc)
end Go.Proofs.YtamndllolppmoaaGreat.imageApart
