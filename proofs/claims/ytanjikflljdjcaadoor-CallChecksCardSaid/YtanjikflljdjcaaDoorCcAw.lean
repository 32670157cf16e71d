import Derived.Test.YtanjikflljdjcaaDoorCcSml
import Derived.Test.YtanjikflljdjcaaDoorCcKnd
/-
  The law's awake.
-/
namespace Go.Proofs.YtanjikflljdjcaaDoor
open Wd U Go.RowKit Go.ChangeShapes Go.WideShapes Go.Sort
set_option linter.unusedVariables false
set_option maxRecDepth 100000
theorem word8 : wordS 8 = ⟨#[102, 115, 121, 110, 99]⟩ := rfl
theorem kind9 : kindS ⟨#[115, 121, 110, 99]⟩ = 9 := by
  have h : ∀ k : Nat, k < 18 → ((wordS k).toList == (⟨#[115, 121, 110, 99]⟩ : ByteArray).toList) = decide (k = 9) := by
    intro k hk
    rw [wordS_list k hk, Lib.toList_data]
    have : ∀ i : Fin 18, ((Words18[i.val]?).getD [] == [115, 121, 110, 99]) = decide (i.val = 9) := by decide +kernel
    exact this ⟨k, hk⟩
  unfold kindS
  rw [kindFrom_no (by decide) (h 0 (by decide)), kindFrom_no (by decide) (h 1 (by decide)), kindFrom_no (by decide) (h 2 (by decide)), kindFrom_no (by decide) (h 3 (by decide)), kindFrom_no (by decide) (h 4 (by decide)), kindFrom_no (by decide) (h 5 (by decide)), kindFrom_no (by decide) (h 6 (by decide)), kindFrom_no (by decide) (h 7 (by decide)), kindFrom_no (by decide) (h 8 (by decide)), kindFrom_yes (by decide) (h 9 (by decide))]
  rfl
theorem callAwake {w : World} (hT : Tabs w) : Calls Tryd.prog 5 #[] w (TrueB w) := by
  have HT := Lib.hid hT
  clear hT
  have K0 := Lib.hid (fun (w : World) (A : Option Addr) => cMost ⟨4, 0, 0, 0, 0, ⟨#[]⟩, ⟨#[]⟩, A, 1, [1]⟩ w (by show 1 ≤ 2000; omega))
  unfold Cal.val at K0
  dsimp only [List.length_cons, List.length_nil] at K0
  have hm : ∀ A, Cal.most ⟨4, 0, 0, 0, 0, ⟨#[]⟩, ⟨#[]⟩, A, 1, [1]⟩ = 3 := fun A => by unfold Cal.most Cal.wrB; simp
  simp only [hm] at K0
  clear hm
  go_enter Tryd.func5, Tryd.ntmps5
  go_wp2_with fail
  refine (K0.out _ _).mono ?_
  rintro e' w1 h1
  obtain ⟨rfl, b1⟩ := h1.below
  have HB1 := Lib.hid (((Below.refl w.heap.size w).alloc (Nat.le_refl _) _).trans (b1.mono (by simp)))
  clear h1 b1
  go_wp2_with fail
  refine (cWord 8 (HT.out.below HB1.out)).mono ?_
  rw [word8]
  rintro e' w2 h2
  obtain ⟨rfl, b2⟩ := h2.below
  have HB2 := Lib.hid (HB1.out.trans (b2.mono HB1.out.size))
  clear h2 b2
  have q : ((⟨#[102, 115, 121, 110, 99]⟩ : ByteArray).toList == (⟨#[102, 115, 121, 110, 99]⟩ : ByteArray).toList) = true := beq_self_eq_true _
  go_wp2_with fail
  refine (cKind _ (HT.out.below HB2.out)).mono ?_
  rw [kind9]
  rintro e' w3 h3
  obtain ⟨rfl, b3⟩ := h3.below
  have HB3 := Lib.hid (HB2.out.trans (b3.mono HB2.out.size))
  clear h3 b3
  go_wp2
  go_ret
  exact ⟨rfl, HB3.out⟩
end Go.Proofs.YtanjikflljdjcaaDoor
