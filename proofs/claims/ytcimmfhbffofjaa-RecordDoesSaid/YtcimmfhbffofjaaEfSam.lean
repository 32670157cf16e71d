import Derived.Test.YtcimmfhbffofjaaEfFla
/-
  The project's Same: two effects are alike where all but their bytes is, and their bytes are.
-/
namespace Go.Proofs.Ytcimmfhbffofjaa
open Wd U Go.RowKit Go.ChangeShapes Go.WideShapes Go.Sort
set_option linter.unusedVariables false
set_option maxRecDepth 100000

/-- an effect's nine cells, in every world that has grown of w -/
def EffAt (w : World) (g : Nat) (e : Eff) : Prop := ∀ n os,
    (grow (w.drewN n) os).cell? ⟨g, 0, none⟩ = some (.int .i64 e.kind) ∧ (grow (w.drewN n) os).cell? ⟨g, 1, none⟩ = some (.int .i64 e.ino) ∧ (grow (w.drewN n) os).cell? ⟨g, 2, none⟩ = some (.int .i64 e.dir) ∧ (grow (w.drewN n) os).cell? ⟨g, 3, none⟩ = some (.int .i64 e.dst) ∧ (grow (w.drewN n) os).cell? ⟨g, 4, none⟩ = some (.int .i64 e.page) ∧
      (grow (w.drewN n) os).cell? ⟨g, 5, none⟩ = some (.int .i64 e.size) ∧ (grow (w.drewN n) os).cell? ⟨g, 6, none⟩ = some (.string e.name) ∧ (grow (w.drewN n) os).cell? ⟨g, 7, none⟩ = some (.string e.other) ∧ (grow (w.drewN n) os).cell? ⟨g, 8, none⟩ = some (.slice e.A e.data.length e.cp)
theorem effAt {w : World} {g : Nat} {e : Eff} (h : Cells w g 24 (effCells e)) : EffAt w g e := fun n os => by
  exact ⟨cell_grown (a := ⟨g, 0, none⟩) h.lt (h.cell 0) n os, cell_grown (a := ⟨g, 1, none⟩) h.lt (h.cell 1) n os, cell_grown (a := ⟨g, 2, none⟩) h.lt (h.cell 2) n os, cell_grown (a := ⟨g, 3, none⟩) h.lt (h.cell 3) n os, cell_grown (a := ⟨g, 4, none⟩) h.lt (h.cell 4) n os, cell_grown (a := ⟨g, 5, none⟩) h.lt (h.cell 5) n os, cell_grown (a := ⟨g, 6, none⟩) h.lt (h.cell 6) n os, cell_grown (a := ⟨g, 7, none⟩) h.lt (h.cell 7) n os, cell_grown (a := ⟨g, 8, none⟩) h.lt (h.cell 8) n os⟩

def datB (a b : Eff) : Bool := (strOf a.data).toList == (strOf b.data).toList
theorem same_is (a b : Eff) : sameB a b = (flatB a b && datB a b) := rfl

set_option maxRecDepth 100000 in
set_option maxHeartbeats 4000000 in
theorem eSame (a b : Eff) (w : World) (oa : a.Ok w w.heap.size) (ob : b.Ok w w.heap.size) : Calls Try.prog 35 #[a.val, b.val] w (Grows (.bool (sameB a b)) w) := by
  have hfol : Try.prog.follows Departure.mixedOrders = true := by kernel_rfl
  rw [same_is]
  have k1 : Below w.heap.size w (w.alloc (.cells (effCells a) 24)) := (Below.refl _ _).alloc (Nat.le_refl _) _
  have k2 : Below (w.alloc (.cells (effCells a) 24)).heap.size (w.alloc (.cells (effCells a) 24)) ((w.alloc (.cells (effCells a) 24)).alloc (.cells (effCells b) 24)) := (Below.refl _ _).alloc (Nat.le_refl _) _
  have hca := (Cells.new w 24 (effCells a)).below' k2
  have hcb := Cells.new (w.alloc (.cells (effCells a) 24)) 24 (effCells b)
  have hsz : (w.alloc (.cells (effCells a) 24)).heap.size = w.heap.size + 1 := by simp
  rw [hsz] at hcb
  have kb := k1.trans (k2.mono k1.size)
  have HC0 := Lib.hid hca; have HC1 := Lib.hid hcb
  have HB0 := Lib.hid kb
  have HG := Lib.hid (grow_alloc (grow_one w (.cells (effCells a) 24)) (.cells (effCells b) 24))
  have OA := Lib.hid oa; have OB := Lib.hid ob
  clear k1 k2 hca hcb hsz kb oa ob
  unfold Eff.val
  go_enter Try.func35, Try.ntmps35
  go_upto_region 1 with fail
  obtain ⟨w2, hw2⟩ : ∃ w2, (w.alloc (.cells (effCells a) 24)).alloc (.cells (effCells b) 24) = w2 := ⟨_, rfl⟩
  rw [hw2] at HC0 HC1 HB0 HG
  unfold effCells at hw2
  rw [hw2]
  clear hw2
  have xa := effAt HC0.out
  have xb := effAt HC1.out
  unfold EffAt at xa xb
  have gb := fun n os => below_grow' w2 n os
  have a0 := fun n os => (xa n os).1
  have a1 := fun n os => (xa n os).2.1
  have a2 := fun n os => (xa n os).2.2.1
  have a3 := fun n os => (xa n os).2.2.2.1
  have a4 := fun n os => (xa n os).2.2.2.2.1
  have a5 := fun n os => (xa n os).2.2.2.2.2.1
  have a6 := fun n os => (xa n os).2.2.2.2.2.2.1
  have a7 := fun n os => (xa n os).2.2.2.2.2.2.2.1
  have a8 := fun n os => (xa n os).2.2.2.2.2.2.2.2
  have b0 := fun n os => (xb n os).1
  have b1 := fun n os => (xb n os).2.1
  have b2 := fun n os => (xb n os).2.2.1
  have b3 := fun n os => (xb n os).2.2.2.1
  have b4 := fun n os => (xb n os).2.2.2.2.1
  have b5 := fun n os => (xb n os).2.2.2.2.2.1
  have b6 := fun n os => (xb n os).2.2.2.2.2.2.1
  have b7 := fun n os => (xb n os).2.2.2.2.2.2.2.1
  have b8 := fun n os => (xb n os).2.2.2.2.2.2.2.2
  clear xa xb
  have K0 := Lib.hid (fun w => eFlatOf a w)
  have K1 := Lib.hid (fun w => eFlatOf b w)
  have ra := fun n os => run_bytes_row (grow (w2.drewN n) os) a.A a.data.length a.cp _ a.data rfl ((OA.out.at_ (HB0.out.trans ((gb n os).mono HB0.out.size))).row)
  have rb := fun n os => run_bytes_row (grow (w2.drewN n) os) b.A b.data.length b.cp _ b.data rfl ((OB.out.at_ (HB0.out.trans ((gb n os).mono HB0.out.size))).row)
  have K2 := Lib.hid (fun n os => (Try.bytes_Equal_strs _ _ _ _ _ (ra n os) (rb n os)).mono (R' := Grows (.bool (datB a b)) (grow (w2.drewN n) os)) (by rintro e w' ⟨rfl, rfl⟩; exact ⟨rfl, grow_none _⟩))
  have hE := fun w => eqf_any a b w
  clear ra rb gb
  obtain ⟨F, hF⟩ : ∃ F, flatB a b = F := ⟨_, rfl⟩
  obtain ⟨D, hD⟩ : ∃ D, datB a b = D := ⟨_, rfl⟩
  rw [hD] at K2
  rw [hF] at hE
  unfold Eff.val at K0 K1
  unfold flatV at K0 K1 hE
  have HF := Lib.hid hF; have HD := Lib.hid hD
  clear hD hF
  cases F
  · refine wp_region_quiet_grown hfol (by kernel_rfl) ?_
    repeat (go_big_quiet_step (first
      | (go_at_call 52; (with_reducible exact Grows.in K0.out _ _ _))
      | (go_at_call 52; (with_reducible exact Grows.in K1.out _ _ _))
      | (go_at_call 53; (with_reducible exact Grows.inAt K2.out _ _))))
    refine wpQuiet_nil ?_
    intro _ hw'
    obtain ⟨⟨nr, osr⟩, hw''⟩ := hw'
    subst hw''
    go_wp2
    go_ret
    exact ⟨by rw [HF.out]; rfl, grow_trans HG.out ⟨nr, osr, rfl⟩⟩
  · refine wp_region_quiet_grown hfol (by kernel_rfl) ?_
    repeat (go_big_quiet_step (first
      | (go_at_call 52; (with_reducible exact Grows.in K0.out _ _ _))
      | (go_at_call 52; (with_reducible exact Grows.in K1.out _ _ _))
      | (go_at_call 53; (with_reducible exact Grows.inAt K2.out _ _))))
    refine wpQuiet_nil ?_
    intro _ hw'
    obtain ⟨⟨nr, osr⟩, hw''⟩ := hw'
    subst hw''
    go_wp2
    go_ret
    exact ⟨by rw [HF.out, HD.out]; rfl, grow_trans HG.out ⟨nr, osr, rfl⟩⟩
end Go.Proofs.Ytcimmfhbffofjaa
