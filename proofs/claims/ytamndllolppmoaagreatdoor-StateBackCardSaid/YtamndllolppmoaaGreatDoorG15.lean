import Derived.Test.YtamndllolppmoaaGreatDoorG14
import Derived.Laws.StructEq
import Derived.RegionTactic
import Derived.BigRegion

/-
  The project's flatOf and Same: two effects are alike where all but their bytes is, and their bytes are.
-/
namespace Go.Proofs.YtamndllolppmoaaGreatDoor
open Wd U Go.RowKit Go.ChangeShapes Go.WideShapes Go.Sort
set_option linter.unusedVariables false
set_option maxRecDepth 100000

def flatV (e : Eff) : Value := .agg #[.int .i64 e.kind, .int .i64 e.ino, .int .i64 e.dir, .int .i64 e.dst, .int .i64 e.page, .int .i64 e.size, .string e.name, .string e.other]
def flatB (a b : Eff) : Bool := decide (a.kind = b.kind) && decide (a.ino = b.ino) && decide (a.dir = b.dir) && decide (a.dst = b.dst) && decide (a.page = b.page) && decide (a.size = b.size) && (a.name.toList == b.name.toList) && (a.other.toList == b.other.toList)

set_option maxRecDepth 100000 in
theorem eFlatOf (e : Eff) (w : World) : Calls Tryz.prog 108 #[e.val] w (Grows (flatV e) w) := by
  obtain ⟨kind, ino, dir, dst, page, size, name, other, A, cp, data⟩ := e
  unfold Eff.val flatV
  go_enter Tryz.func108, Tryz.ntmps108
  go_wp2
  exact bodyPost_ret (v := .agg #[.int .i64 kind, .int .i64 ino, .int .i64 dir, .int .i64 dst, .int .i64 page, .int .i64 size, .string name, .string other]) (by simp [results, Tryz.results108, go_sem]) rfl ⟨rfl, grow_alloc (grow_one _ _) _⟩

def one_eqF (P : Program) (f : Field) (d : Nat) (w : World) (u v : Value) (b : Bool) : Prop := f.name ≠ "_" ∧ (Op.equalIn d f.type u v).run P w = .ok b w
theorem eqF_consF {P : Program} {f : Field} {fs : List Field} {d : Nat} {w : World} {xs ys : Array Value} {u v : Value} {b B : Bool} (hn : (f.name != "_") = true) (hx : ∀ w, (part f.type xs f.offset).run P w = .ok u w) (hy : ∀ w, (part f.type ys f.offset).run P w = .ok v w)
    (he : (Op.equalIn d f.type u v).run P w = .ok b w) (hr : (Op.eqFields d xs ys fs).run P w = .ok B w) : (Op.eqFields d xs ys (f :: fs)).run P w = .ok (b && B) w := by
  have hn' : f.name ≠ "_" := by simpa using hn
  unfold Op.eqFields
  rw [if_pos hn']
  simp only [Sem.run_bind, hx, hy, he, Result.andThen_ok, Sem.run_ite]
  cases b with
  | true => simp [hr]
  | false => simp [Sem.run_pure]
theorem eqF_nilF {P : Program} {d : Nat} {w : World} {xs ys : Array Value} : (Op.eqFields d xs ys []).run P w = .ok true w := by simp [Op.eqFields]

theorem eqf_any (a b : Eff) (w : World) : (binOp .eql 129 (flatV a) (flatV b)).run Tryz.prog w = .ok (.bool (flatB a b)) w := by
  have hu : Tryz.prog.underlying 129 = some (.struct (Tryz.prog.fieldsOf 129)) := by kernel_rfl
  obtain ⟨f0, f1, f2, f3, f4, f5, f6, f7, hf, n0, n1, n2, n3, n4, n5, n6, n7, p0, p1, p2, p3, p4, p5, p6, p7⟩ : ∃ f0 f1 f2 f3 f4 f5 f6 f7 : Field, (Tryz.prog.fieldsOf 129).toList = [f0, f1, f2, f3, f4, f5, f6, f7] ∧ (f0.name != "_") = true ∧ (f1.name != "_") = true ∧ (f2.name != "_") = true ∧ (f3.name != "_") = true ∧ (f4.name != "_") = true ∧ (f5.name != "_") = true ∧ (f6.name != "_") = true ∧ (f7.name != "_") = true ∧
      (f0.type, f0.offset) = (3, 0) ∧ (f1.type, f1.offset) = (3, 1) ∧ (f2.type, f2.offset) = (3, 2) ∧ (f3.type, f3.offset) = (3, 3) ∧ (f4.type, f4.offset) = (3, 4) ∧ (f5.type, f5.offset) = (3, 5) ∧ (f6.type, f6.offset) = (9, 6) ∧ (f7.type, f7.offset) = (9, 7) :=
    ⟨_, _, _, _, _, _, _, _, rfl, by kernel_rfl, by kernel_rfl, by kernel_rfl, by kernel_rfl, by kernel_rfl, by kernel_rfl, by kernel_rfl, by kernel_rfl, by kernel_rfl, by kernel_rfl, by kernel_rfl, by kernel_rfl, by kernel_rfl, by kernel_rfl, by kernel_rfl, by kernel_rfl⟩
  simp only [Prod.mk.injEq] at p0 p1 p2 p3 p4 p5 p6 p7
  have hI : ∀ x y w, (Op.equalIn 9999 3 (.int .i64 x) (.int .i64 y)).run Tryz.prog w = .ok (decide (x = y)) w := fun x y w => run_equalIn_int w 9998 3 .i64 .i64 x y Tryz.underlying3
  have hS : ∀ x y w, (Op.equalIn 9999 9 (.string x) (.string y)).run Tryz.prog w = .ok (x.toList == y.toList) w := fun x y w => run_equalIn_string w 9998 9 x y Tryz.underlying9
  unfold flatV
  rw [run_eql_struct, run_equalIn_struct _ 9999 _ _ _ hu (by kernel_rfl), hf]
  rw [eqF_consF (u := .int .i64 a.kind) (v := .int .i64 b.kind) n0 (fun w => by rw [p0.1, p0.2]; simp [go_sem]) (fun w => by rw [p0.1, p0.2]; simp [go_sem]) (by rw [p0.1]; exact hI _ _ _)
    (eqF_consF (u := .int .i64 a.ino) (v := .int .i64 b.ino) n1 (fun w => by rw [p1.1, p1.2]; simp [go_sem]) (fun w => by rw [p1.1, p1.2]; simp [go_sem]) (by rw [p1.1]; exact hI _ _ _)
    (eqF_consF (u := .int .i64 a.dir) (v := .int .i64 b.dir) n2 (fun w => by rw [p2.1, p2.2]; simp [go_sem]) (fun w => by rw [p2.1, p2.2]; simp [go_sem]) (by rw [p2.1]; exact hI _ _ _)
    (eqF_consF (u := .int .i64 a.dst) (v := .int .i64 b.dst) n3 (fun w => by rw [p3.1, p3.2]; simp [go_sem]) (fun w => by rw [p3.1, p3.2]; simp [go_sem]) (by rw [p3.1]; exact hI _ _ _)
    (eqF_consF (u := .int .i64 a.page) (v := .int .i64 b.page) n4 (fun w => by rw [p4.1, p4.2]; simp [go_sem]) (fun w => by rw [p4.1, p4.2]; simp [go_sem]) (by rw [p4.1]; exact hI _ _ _)
    (eqF_consF (u := .int .i64 a.size) (v := .int .i64 b.size) n5 (fun w => by rw [p5.1, p5.2]; simp [go_sem]) (fun w => by rw [p5.1, p5.2]; simp [go_sem]) (by rw [p5.1]; exact hI _ _ _)
    (eqF_consF (u := .string a.name) (v := .string b.name) n6 (fun w => by rw [p6.1, p6.2]; simp [go_sem]) (fun w => by rw [p6.1, p6.2]; simp [go_sem]) (by rw [p6.1]; exact hS _ _ _)
    (eqF_consF (u := .string a.other) (v := .string b.other) n7 (fun w => by rw [p7.1, p7.2]; simp [go_sem]) (fun w => by rw [p7.1, p7.2]; simp [go_sem]) (by rw [p7.1]; exact hS _ _ _) eqF_nilF)))))))]
  simp only [Result.andThen_ok, Bool.and_true, flatB, Bool.and_assoc]
end Go.Proofs.YtamndllolppmoaaGreatDoor

/-
  The project's Same: two effects are alike where all but their bytes is, and their bytes are.
-/
namespace Go.Proofs.YtamndllolppmoaaGreatDoor
open Wd U Go.RowKit Go.ChangeShapes Go.WideShapes Go.Sort
set_option linter.unusedVariables false
set_option maxRecDepth 100000

/-- an effect's nine cells, in every world that has grown of w -/
def EffAt (w : World) (g : Nat) (e : Eff) : Prop := ∀ n os,
    (grow (w.drewN n) os).cell? ⟨g, 0, none⟩ = some (.int .i64 e.kind) ∧ (grow (w.drewN n) os).cell? ⟨g, 1, none⟩ = some (.int .i64 e.ino) ∧ (grow (w.drewN n) os).cell? ⟨g, 2, none⟩ = some (.int .i64 e.dir) ∧ (grow (w.drewN n) os).cell? ⟨g, 3, none⟩ = some (.int .i64 e.dst) ∧ (grow (w.drewN n) os).cell? ⟨g, 4, none⟩ = some (.int .i64 e.page) ∧
      (grow (w.drewN n) os).cell? ⟨g, 5, none⟩ = some (.int .i64 e.size) ∧ (grow (w.drewN n) os).cell? ⟨g, 6, none⟩ = some (.string e.name) ∧ (grow (w.drewN n) os).cell? ⟨g, 7, none⟩ = some (.string e.other) ∧ (grow (w.drewN n) os).cell? ⟨g, 8, none⟩ = some (.slice e.A e.data.length e.cp)
theorem effAt {w : World} {g : Nat} {e : Eff} (h : Cells w g 50 (effCells e)) : EffAt w g e := fun n os => by
  exact ⟨cell_grown (a := ⟨g, 0, none⟩) h.lt (h.cell 0) n os, cell_grown (a := ⟨g, 1, none⟩) h.lt (h.cell 1) n os, cell_grown (a := ⟨g, 2, none⟩) h.lt (h.cell 2) n os, cell_grown (a := ⟨g, 3, none⟩) h.lt (h.cell 3) n os, cell_grown (a := ⟨g, 4, none⟩) h.lt (h.cell 4) n os, cell_grown (a := ⟨g, 5, none⟩) h.lt (h.cell 5) n os, cell_grown (a := ⟨g, 6, none⟩) h.lt (h.cell 6) n os, cell_grown (a := ⟨g, 7, none⟩) h.lt (h.cell 7) n os, cell_grown (a := ⟨g, 8, none⟩) h.lt (h.cell 8) n os⟩

def datB (a b : Eff) : Bool := (strOf a.data).toList == (strOf b.data).toList
theorem same_is (a b : Eff) : sameB a b = (flatB a b && datB a b) := rfl

set_option maxRecDepth 100000 in
set_option maxHeartbeats 4000000 in
theorem eSame (a b : Eff) (w : World) (oa : a.Ok w w.heap.size) (ob : b.Ok w w.heap.size) : Calls Tryz.prog 72 #[a.val, b.val] w (Grows (.bool (sameB a b)) w) := by
  have hfol : Tryz.prog.follows Departure.mixedOrders = true := by kernel_rfl
  rw [same_is]
  have k1 : Below w.heap.size w (w.alloc (.cells (effCells a) 50)) := (Below.refl _ _).alloc (Nat.le_refl _) _
  have k2 : Below (w.alloc (.cells (effCells a) 50)).heap.size (w.alloc (.cells (effCells a) 50)) ((w.alloc (.cells (effCells a) 50)).alloc (.cells (effCells b) 50)) := (Below.refl _ _).alloc (Nat.le_refl _) _
  have hca := (Cells.new w 50 (effCells a)).below' k2
  have hcb := Cells.new (w.alloc (.cells (effCells a) 50)) 50 (effCells b)
  have hsz : (w.alloc (.cells (effCells a) 50)).heap.size = w.heap.size + 1 := by simp
  rw [hsz] at hcb
  have kb := k1.trans (k2.mono k1.size)
  have HC0 := Lib.hid hca; have HC1 := Lib.hid hcb
  have HB0 := Lib.hid kb
  have HG := Lib.hid (grow_alloc (grow_one w (.cells (effCells a) 50)) (.cells (effCells b) 50))
  have OA := Lib.hid oa; have OB := Lib.hid ob
  clear k1 k2 hca hcb hsz kb oa ob
  unfold Eff.val
  go_enter Tryz.func72, Tryz.ntmps72
  go_upto_region 1 with fail
  obtain ⟨w2, hw2⟩ : ∃ w2, (w.alloc (.cells (effCells a) 50)).alloc (.cells (effCells b) 50) = w2 := ⟨_, rfl⟩
  rw [hw2] at HC0 HC1 HB0 HG
  unfold effCells at hw2
  rw [hw2]
  clear hw2
  have xa := effAt HC0.out
  have xb := effAt HC1.out
  unfold EffAt at xa xb
  have gb := fun n os => below_grow' w2 n os
  have a0 := fun n os => (xa n os).1
  have a1 := fun n os => (xa n os).2.1
  have a2 := fun n os => (xa n os).2.2.1
  have a3 := fun n os => (xa n os).2.2.2.1
  have a4 := fun n os => (xa n os).2.2.2.2.1
  have a5 := fun n os => (xa n os).2.2.2.2.2.1
  have a6 := fun n os => (xa n os).2.2.2.2.2.2.1
  have a7 := fun n os => (xa n os).2.2.2.2.2.2.2.1
  have a8 := fun n os => (xa n os).2.2.2.2.2.2.2.2
  have b0 := fun n os => (xb n os).1
  have b1 := fun n os => (xb n os).2.1
  have b2 := fun n os => (xb n os).2.2.1
  have b3 := fun n os => (xb n os).2.2.2.1
  have b4 := fun n os => (xb n os).2.2.2.2.1
  have b5 := fun n os => (xb n os).2.2.2.2.2.1
  have b6 := fun n os => (xb n os).2.2.2.2.2.2.1
  have b7 := fun n os => (xb n os).2.2.2.2.2.2.2.1
  have b8 := fun n os => (xb n os).2.2.2.2.2.2.2.2
  clear xa xb
  have K0 := Lib.hid (fun w => eFlatOf a w)
  have K1 := Lib.hid (fun w => eFlatOf b w)
  have ra := fun n os => run_bytes_row (grow (w2.drewN n) os) a.A a.data.length a.cp _ a.data rfl ((OA.out.at_ (HB0.out.trans ((gb n os).mono HB0.out.size))).row)
  have rb := fun n os => run_bytes_row (grow (w2.drewN n) os) b.A b.data.length b.cp _ b.data rfl ((OB.out.at_ (HB0.out.trans ((gb n os).mono HB0.out.size))).row)
  have K2 := Lib.hid (fun n os => (Tryz.bytes_Equal_strs _ _ _ _ _ (ra n os) (rb n os)).mono (R' := Grows (.bool (datB a b)) (grow (w2.drewN n) os)) (by rintro e w' ⟨rfl, rfl⟩; exact ⟨rfl, grow_none _⟩))
  have hE := fun w => eqf_any a b w
  clear ra rb gb
  obtain ⟨F, hF⟩ : ∃ F, flatB a b = F := ⟨_, rfl⟩
  obtain ⟨D, hD⟩ : ∃ D, datB a b = D := ⟨_, rfl⟩
  rw [hD] at K2
  rw [hF] at hE
  unfold Eff.val at K0 K1
  unfold flatV at K0 K1 hE
  have HF := Lib.hid hF; have HD := Lib.hid hD
  clear hD hF
  cases F
  · refine wp_region_quiet_grown hfol (by kernel_rfl) ?_
    repeat (go_big_quiet_step (first
      | (go_at_call 108; (with_reducible exact Grows.in K0.out _ _ _))
      | (go_at_call 108; (with_reducible exact Grows.in K1.out _ _ _))
      | (go_at_call 109; (with_reducible exact Grows.inAt K2.out _ _))))
    refine wpQuiet_nil ?_
    intro _ hw'
    obtain ⟨⟨nr, osr⟩, hw''⟩ := hw'
    subst hw''
    go_wp2
    go_ret
    exact ⟨by rw [HF.out]; rfl, grow_trans HG.out ⟨nr, osr, rfl⟩⟩
  · refine wp_region_quiet_grown hfol (by kernel_rfl) ?_
    repeat (go_big_quiet_step (first
      | (go_at_call 108; (with_reducible exact Grows.in K0.out _ _ _))
      | (go_at_call 108; (with_reducible exact Grows.in K1.out _ _ _))
      | (go_at_call 109; (with_reducible exact Grows.inAt K2.out _ _))))
    refine wpQuiet_nil ?_
    intro _ hw'
    obtain ⟨⟨nr, osr⟩, hw''⟩ := hw'
    subst hw''
    go_wp2
    go_ret
    exact ⟨by rw [HF.out, HD.out]; rfl, grow_trans HG.out ⟨nr, osr, rfl⟩⟩
end Go.Proofs.YtamndllolppmoaaGreatDoor

/-
  The project's just: what of an effect its kind has.
-/
namespace Go.Proofs.YtamndllolppmoaaGreatDoor
open Wd U Go.RowKit Go.ChangeShapes Go.WideShapes Go.Sort
set_option linter.unusedVariables false
set_option maxRecDepth 100000
set_option linter.unusedSimpArgs false

def Eff.just (e : Eff) : Eff :=
  if e.kind = 1 then ⟨e.kind, e.ino, e.dir, 0, e.page, 0, e.name, ⟨#[]⟩, none, 0, []⟩
  else if e.kind = 2 ∨ e.kind = 3 ∨ e.kind = 4 then ⟨e.kind, e.ino, e.dir, 0, 0, 0, e.name, ⟨#[]⟩, none, 0, []⟩
  else if e.kind = 5 then ⟨e.kind, e.ino, e.dir, e.dst, 0, 0, e.name, e.other, none, 0, []⟩
  else if e.kind = 6 then ⟨e.kind, e.ino, 0, 0, 0, e.size, ⟨#[]⟩, ⟨#[]⟩, none, 0, []⟩
  else if e.kind = 7 then ⟨e.kind, e.ino, 0, 0, e.page, e.size, ⟨#[]⟩, ⟨#[]⟩, e.A, e.cp, e.data⟩
  else ⟨e.kind, e.ino, 0, 0, 0, 0, ⟨#[]⟩, ⟨#[]⟩, none, 0, []⟩

set_option maxRecDepth 100000 in
set_option maxHeartbeats 4000000 in
theorem eJust (e : Eff) (w : World) : Calls Tryz.prog 73 #[e.val] w (Grows e.just.val w) := by
  obtain ⟨kind, ino, dir, dst, page, size, name, other, A, cp, data⟩ := e
  by_cases h1 : kind = 1
  · have q1 : (kind == 1) = true := by simpa using h1
    have hj : (Eff.just ⟨kind, ino, dir, dst, page, size, name, other, A, cp, data⟩) = ⟨kind, ino, dir, 0, page, 0, name, ⟨#[]⟩, none, 0, []⟩ := by unfold Eff.just; simp [h1]
    rw [hj]
    clear hj h1
    unfold Eff.val
    go_enter Tryz.func73, Tryz.ntmps73
    go_wp2
    go_region
    all_goals go_wp2
    all_goals
      exact bodyPost_ret (v := .agg #[.int .i64 kind, .int .i64 ino, .int .i64 dir, .int .i64 0, .int .i64 page, .int .i64 0, .string name, .string ⟨#[]⟩, .slice none 0 0]) (by simp [results, Tryz.results73, go_sem]) rfl ⟨rfl, grow_drewN (grow_alloc (grow_alloc (grow_one _ _) _) _) 1⟩
  · have q1 : (kind == 1) = false := by simpa using h1
    by_cases h2 : kind = 2
    · have q2 : (kind == 2) = true := by simpa using h2
      have hj : (Eff.just ⟨kind, ino, dir, dst, page, size, name, other, A, cp, data⟩) = ⟨kind, ino, dir, 0, 0, 0, name, ⟨#[]⟩, none, 0, []⟩ := by unfold Eff.just; simp [h1, h2]
      rw [hj]
      clear hj h1 h2
      unfold Eff.val
      go_enter Tryz.func73, Tryz.ntmps73
      go_wp2
      go_region
      all_goals go_wp2
      all_goals
        exact bodyPost_ret (v := .agg #[.int .i64 kind, .int .i64 ino, .int .i64 dir, .int .i64 0, .int .i64 0, .int .i64 0, .string name, .string ⟨#[]⟩, .slice none 0 0]) (by simp [results, Tryz.results73, go_sem]) rfl ⟨rfl, grow_drewN (grow_alloc (grow_alloc (grow_one _ _) _) _) 1⟩
    · have q2 : (kind == 2) = false := by simpa using h2
      by_cases h3 : kind = 3
      · have q3 : (kind == 3) = true := by simpa using h3
        have hj : (Eff.just ⟨kind, ino, dir, dst, page, size, name, other, A, cp, data⟩) = ⟨kind, ino, dir, 0, 0, 0, name, ⟨#[]⟩, none, 0, []⟩ := by unfold Eff.just; simp [h1, h2, h3]
        rw [hj]
        clear hj h1 h2 h3
        unfold Eff.val
        go_enter Tryz.func73, Tryz.ntmps73
        go_wp2
        go_region
        all_goals go_wp2
        all_goals
          exact bodyPost_ret (v := .agg #[.int .i64 kind, .int .i64 ino, .int .i64 dir, .int .i64 0, .int .i64 0, .int .i64 0, .string name, .string ⟨#[]⟩, .slice none 0 0]) (by simp [results, Tryz.results73, go_sem]) rfl ⟨rfl, grow_drewN (grow_alloc (grow_alloc (grow_one _ _) _) _) 1⟩
      · have q3 : (kind == 3) = false := by simpa using h3
        by_cases h4 : kind = 4
        · have q4 : (kind == 4) = true := by simpa using h4
          have hj : (Eff.just ⟨kind, ino, dir, dst, page, size, name, other, A, cp, data⟩) = ⟨kind, ino, dir, 0, 0, 0, name, ⟨#[]⟩, none, 0, []⟩ := by unfold Eff.just; simp [h1, h2, h3, h4]
          rw [hj]
          clear hj h1 h2 h3 h4
          unfold Eff.val
          go_enter Tryz.func73, Tryz.ntmps73
          go_wp2
          go_region
          all_goals go_wp2
          all_goals
            exact bodyPost_ret (v := .agg #[.int .i64 kind, .int .i64 ino, .int .i64 dir, .int .i64 0, .int .i64 0, .int .i64 0, .string name, .string ⟨#[]⟩, .slice none 0 0]) (by simp [results, Tryz.results73, go_sem]) rfl ⟨rfl, grow_drewN (grow_alloc (grow_alloc (grow_one _ _) _) _) 1⟩
        · have q4 : (kind == 4) = false := by simpa using h4
          by_cases h5 : kind = 5
          · have q5 : (kind == 5) = true := by simpa using h5
            have hj : (Eff.just ⟨kind, ino, dir, dst, page, size, name, other, A, cp, data⟩) = ⟨kind, ino, dir, dst, 0, 0, name, other, none, 0, []⟩ := by unfold Eff.just; simp [h1, h2, h3, h4, h5]
            rw [hj]
            clear hj h1 h2 h3 h4 h5
            unfold Eff.val
            go_enter Tryz.func73, Tryz.ntmps73
            go_wp2
            go_region
            all_goals go_wp2
            all_goals
              exact bodyPost_ret (v := .agg #[.int .i64 kind, .int .i64 ino, .int .i64 dir, .int .i64 dst, .int .i64 0, .int .i64 0, .string name, .string other, .slice none 0 0]) (by simp [results, Tryz.results73, go_sem]) rfl ⟨rfl, grow_drewN (grow_alloc (grow_alloc (grow_one _ _) _) _) 1⟩
          · have q5 : (kind == 5) = false := by simpa using h5
            by_cases h6 : kind = 6
            · have q6 : (kind == 6) = true := by simpa using h6
              have hj : (Eff.just ⟨kind, ino, dir, dst, page, size, name, other, A, cp, data⟩) = ⟨kind, ino, 0, 0, 0, size, ⟨#[]⟩, ⟨#[]⟩, none, 0, []⟩ := by unfold Eff.just; simp [h1, h2, h3, h4, h5, h6]
              rw [hj]
              clear hj h1 h2 h3 h4 h5 h6
              unfold Eff.val
              go_enter Tryz.func73, Tryz.ntmps73
              go_wp2
              exact bodyPost_ret (v := .agg #[.int .i64 kind, .int .i64 ino, .int .i64 0, .int .i64 0, .int .i64 0, .int .i64 size, .string ⟨#[]⟩, .string ⟨#[]⟩, .slice none 0 0]) (by simp [results, Tryz.results73, go_sem]) rfl ⟨rfl, grow_alloc (grow_alloc (grow_one _ _) _) _⟩
            · have q6 : (kind == 6) = false := by simpa using h6
              by_cases h7 : kind = 7
              · have q7 : (kind == 7) = true := by simpa using h7
                have hj : (Eff.just ⟨kind, ino, dir, dst, page, size, name, other, A, cp, data⟩) = ⟨kind, ino, 0, 0, page, size, ⟨#[]⟩, ⟨#[]⟩, A, cp, data⟩ := by unfold Eff.just; simp [h1, h2, h3, h4, h5, h6, h7]
                rw [hj]
                clear hj h1 h2 h3 h4 h5 h6 h7
                unfold Eff.val
                go_enter Tryz.func73, Tryz.ntmps73
                go_wp2
                go_region
                all_goals go_wp2
                all_goals
                  exact bodyPost_ret (v := .agg #[.int .i64 kind, .int .i64 ino, .int .i64 0, .int .i64 0, .int .i64 page, .int .i64 size, .string ⟨#[]⟩, .string ⟨#[]⟩, .slice A data.length cp]) (by simp [results, Tryz.results73, go_sem]) rfl ⟨rfl, grow_drewN (grow_alloc (grow_alloc (grow_one _ _) _) _) 1⟩
              · have q7 : (kind == 7) = false := by simpa using h7
                have hj : (Eff.just ⟨kind, ino, dir, dst, page, size, name, other, A, cp, data⟩) = ⟨kind, ino, 0, 0, 0, 0, ⟨#[]⟩, ⟨#[]⟩, none, 0, []⟩ := by unfold Eff.just; simp [h1, h2, h3, h4, h5, h6, h7]
                rw [hj]
                clear hj h1 h2 h3 h4 h5 h6 h7
                unfold Eff.val
                go_enter Tryz.func73, Tryz.ntmps73
                go_wp2
                exact bodyPost_ret (v := .agg #[.int .i64 kind, .int .i64 ino, .int .i64 0, .int .i64 0, .int .i64 0, .int .i64 0, .string ⟨#[]⟩, .string ⟨#[]⟩, .slice none 0 0]) (by simp [results, Tryz.results73, go_sem]) rfl ⟨rfl, grow_alloc (grow_alloc (grow_one _ _) _) _⟩
end Go.Proofs.YtamndllolppmoaaGreatDoor

/-
  The project's may: whether what an effect's kind has is as it may be.
-/
namespace Go.Proofs.YtamndllolppmoaaGreatDoor
open Wd U Go.RowKit Go.ChangeShapes Go.WideShapes Go.Sort
set_option linter.unusedVariables false
set_option maxRecDepth 100000
set_option linter.unusedSimpArgs false

def Eff.mayP (e : Eff) : Bool :=
  if e.kind = 1 then (ndB e.ino && (ndB e.dir && nmB e.name)) && (decide (e.page = 1) || decide (e.page = 2))
  else if e.kind = 2 ∨ e.kind = 3 ∨ e.kind = 4 then ndB e.ino && (ndB e.dir && nmB e.name)
  else if e.kind = 5 then (ndB e.ino && (ndB e.dir && nmB e.name)) && (ndB e.dst && nmB e.other)
  else if e.kind = 6 then ndB e.ino && (decide (0 ≤ e.size) && decide (e.size ≤ 16384))
  else if e.kind = 7 then (ndB e.ino && rcB e.page e.size) && decide (e.data.length = 256)
  else if e.kind = 8 then ndB e.ino
  else false
theorem cells9 {w : World} {g : Nat} {e : Eff} (h : Cells w g 50 (effCells e)) : w.cell? ⟨g, 0, none⟩ = some (.int .i64 e.kind) ∧ w.cell? ⟨g, 1, none⟩ = some (.int .i64 e.ino) ∧ w.cell? ⟨g, 2, none⟩ = some (.int .i64 e.dir) ∧ w.cell? ⟨g, 3, none⟩ = some (.int .i64 e.dst) ∧ w.cell? ⟨g, 4, none⟩ = some (.int .i64 e.page) ∧
      w.cell? ⟨g, 5, none⟩ = some (.int .i64 e.size) ∧ w.cell? ⟨g, 6, none⟩ = some (.string e.name) ∧ w.cell? ⟨g, 7, none⟩ = some (.string e.other) ∧ w.cell? ⟨g, 8, none⟩ = some (.slice e.A e.data.length e.cp) := (s9 h (Below.refl _ _)).2

set_option maxRecDepth 100000 in
set_option maxHeartbeats 4000000 in
theorem eMay (e : Eff) (w : World) (hn : e.name.size ≤ 1000) (ho : e.other.size ≤ 1000) : Calls Tryz.prog 71 #[e.val] w (Grows (.bool e.mayP) w) := by
  obtain ⟨kind, ino, dir, dst, page, size, name, other, A, cp, data⟩ := e
  have hc0 := Cells.new w 50 (effCells ⟨kind, ino, dir, dst, page, size, name, other, A, cp, data⟩)
  have HC0 := Lib.hid hc0
  have HG0 := Lib.hid (grow_one w (.cells (effCells ⟨kind, ino, dir, dst, page, size, name, other, A, cp, data⟩) 50))
  obtain ⟨c0, c1, c2, c3, c4, c5, c6, c7, c8⟩ := cells9 hc0
  clear hc0
  unfold Eff.val
  dsimp only at hn ho ⊢
  by_cases h1 : kind = 1
  · have q1 : (kind == 1) = true := by simpa using h1
    have hj : (Eff.mayP ⟨kind, ino, dir, dst, page, size, name, other, A, cp, data⟩) = ((ndB ino && (ndB dir && nmB name)) && (decide (page = 1) || decide (page = 2))) := by unfold Eff.mayP; simp [h1]
    rw [hj]
    clear hj h1
    go_enter Tryz.func71, Tryz.ntmps71
    go_wp2_with fail
    refine (eNode ino _).mono ?_
    rintro e' w1 h1
    obtain ⟨rfl, b1⟩ := h1.below
    have hc1 := HC0.out.below' b1
    have HC1 := Lib.hid hc1
    have HG1 := Lib.hid (grow_trans HG0.out h1.2)
    clear h1 b1 c0 c1 c2 c3 c4 c5 c6 c7 c8
    obtain ⟨c0, c1, c2, c3, c4, c5, c6, c7, c8⟩ := cells9 hc1
    clear hc1
    cases hx1 : ndB ino
    · have HX1 := Lib.hid hx1
      clear hx1
      go_wp2
      go_ret
      exact ⟨by rw [HX1.out]; rfl, HG1.out⟩
    · have HX1 := Lib.hid hx1
      clear hx1
      go_wp2_with fail
      refine (ePlace dir name hn _).mono ?_
      rintro e' w2 h2
      obtain ⟨rfl, b2⟩ := h2.below
      have hc2 := HC1.out.below' b2
      have HC2 := Lib.hid hc2
      have HG2 := Lib.hid (grow_trans HG1.out h2.2)
      clear h2 b2 c0 c1 c2 c3 c4 c5 c6 c7 c8
      obtain ⟨c0, c1, c2, c3, c4, c5, c6, c7, c8⟩ := cells9 hc2
      clear hc2
      cases hx2 : ndB dir && nmB name
      · have HX2 := Lib.hid hx2
        clear hx2
        go_wp2
        go_ret
        exact ⟨by rw [HX1.out, HX2.out]; rfl, HG2.out⟩
      · have HX2 := Lib.hid hx2
        clear hx2
        by_cases p1 : page = 1
        · have r1 : (page == 1) = true := by simpa using p1
          have r2 : (decide (page = 1) || decide (page = 2)) = true := by simp [p1]
          have R2 := Lib.hid r2
          clear p1 r2
          go_wp2
          go_ret
          exact ⟨by rw [HX1.out, HX2.out, R2.out]; rfl, HG2.out⟩
        · have r1 : (page == 1) = false := by simpa using p1
          by_cases p2 : page = 2
          · have r3 : (page == 2) = true := by simpa using p2
            have r2 : (decide (page = 1) || decide (page = 2)) = true := by simp [p2]
            have R2 := Lib.hid r2
            clear p1 p2 r2
            go_wp2
            go_ret
            exact ⟨by rw [HX1.out, HX2.out, R2.out]; rfl, HG2.out⟩
          · have r3 : (page == 2) = false := by simpa using p2
            have r2 : (decide (page = 1) || decide (page = 2)) = false := by simp [p1, p2]
            have R2 := Lib.hid r2
            clear p1 p2 r2
            go_wp2
            go_ret
            exact ⟨by rw [HX1.out, HX2.out, R2.out]; rfl, HG2.out⟩
  · have q1 : (kind == 1) = false := by simpa using h1
    by_cases h2 : kind = 2
    · have q2 : (kind == 2) = true := by simpa using h2
      have hj : (Eff.mayP ⟨kind, ino, dir, dst, page, size, name, other, A, cp, data⟩) = (ndB ino && (ndB dir && nmB name)) := by unfold Eff.mayP; simp [h1, h2]
      rw [hj]
      clear hj h1 h2
      go_enter Tryz.func71, Tryz.ntmps71
      go_wp2_with fail
      refine (eNode ino _).mono ?_
      rintro e' w1 h1
      obtain ⟨rfl, b1⟩ := h1.below
      have hc1 := HC0.out.below' b1
      have HC1 := Lib.hid hc1
      have HG1 := Lib.hid (grow_trans HG0.out h1.2)
      clear h1 b1 c0 c1 c2 c3 c4 c5 c6 c7 c8
      obtain ⟨c0, c1, c2, c3, c4, c5, c6, c7, c8⟩ := cells9 hc1
      clear hc1
      cases hx1 : ndB ino
      · have HX1 := Lib.hid hx1
        clear hx1
        go_wp2
        go_ret
        exact ⟨by rw [HX1.out]; rfl, HG1.out⟩
      · have HX1 := Lib.hid hx1
        clear hx1
        go_wp2_with fail
        refine (ePlace dir name hn _).mono ?_
        rintro e' w2 h2
        obtain ⟨rfl, b2⟩ := h2.below
        have hc2 := HC1.out.below' b2
        have HC2 := Lib.hid hc2
        have HG2 := Lib.hid (grow_trans HG1.out h2.2)
        clear h2 b2 c0 c1 c2 c3 c4 c5 c6 c7 c8
        obtain ⟨c0, c1, c2, c3, c4, c5, c6, c7, c8⟩ := cells9 hc2
        clear hc2
        go_wp2
        go_ret
        exact ⟨by rw [HX1.out]; rfl, HG2.out⟩
    · have q2 : (kind == 2) = false := by simpa using h2
      by_cases h3 : kind = 3
      · have q3 : (kind == 3) = true := by simpa using h3
        have hj : (Eff.mayP ⟨kind, ino, dir, dst, page, size, name, other, A, cp, data⟩) = (ndB ino && (ndB dir && nmB name)) := by unfold Eff.mayP; simp [h1, h2, h3]
        rw [hj]
        clear hj h1 h2 h3
        go_enter Tryz.func71, Tryz.ntmps71
        go_wp2_with fail
        refine (eNode ino _).mono ?_
        rintro e' w1 h1
        obtain ⟨rfl, b1⟩ := h1.below
        have hc1 := HC0.out.below' b1
        have HC1 := Lib.hid hc1
        have HG1 := Lib.hid (grow_trans HG0.out h1.2)
        clear h1 b1 c0 c1 c2 c3 c4 c5 c6 c7 c8
        obtain ⟨c0, c1, c2, c3, c4, c5, c6, c7, c8⟩ := cells9 hc1
        clear hc1
        cases hx1 : ndB ino
        · have HX1 := Lib.hid hx1
          clear hx1
          go_wp2
          go_ret
          exact ⟨by rw [HX1.out]; rfl, HG1.out⟩
        · have HX1 := Lib.hid hx1
          clear hx1
          go_wp2_with fail
          refine (ePlace dir name hn _).mono ?_
          rintro e' w2 h2
          obtain ⟨rfl, b2⟩ := h2.below
          have hc2 := HC1.out.below' b2
          have HC2 := Lib.hid hc2
          have HG2 := Lib.hid (grow_trans HG1.out h2.2)
          clear h2 b2 c0 c1 c2 c3 c4 c5 c6 c7 c8
          obtain ⟨c0, c1, c2, c3, c4, c5, c6, c7, c8⟩ := cells9 hc2
          clear hc2
          go_wp2
          go_ret
          exact ⟨by rw [HX1.out]; rfl, HG2.out⟩
      · have q3 : (kind == 3) = false := by simpa using h3
        by_cases h4 : kind = 4
        · have q4 : (kind == 4) = true := by simpa using h4
          have hj : (Eff.mayP ⟨kind, ino, dir, dst, page, size, name, other, A, cp, data⟩) = (ndB ino && (ndB dir && nmB name)) := by unfold Eff.mayP; simp [h1, h2, h3, h4]
          rw [hj]
          clear hj h1 h2 h3 h4
          go_enter Tryz.func71, Tryz.ntmps71
          go_wp2_with fail
          refine (eNode ino _).mono ?_
          rintro e' w1 h1
          obtain ⟨rfl, b1⟩ := h1.below
          have hc1 := HC0.out.below' b1
          have HC1 := Lib.hid hc1
          have HG1 := Lib.hid (grow_trans HG0.out h1.2)
          clear h1 b1 c0 c1 c2 c3 c4 c5 c6 c7 c8
          obtain ⟨c0, c1, c2, c3, c4, c5, c6, c7, c8⟩ := cells9 hc1
          clear hc1
          cases hx1 : ndB ino
          · have HX1 := Lib.hid hx1
            clear hx1
            go_wp2
            go_ret
            exact ⟨by rw [HX1.out]; rfl, HG1.out⟩
          · have HX1 := Lib.hid hx1
            clear hx1
            go_wp2_with fail
            refine (ePlace dir name hn _).mono ?_
            rintro e' w2 h2
            obtain ⟨rfl, b2⟩ := h2.below
            have hc2 := HC1.out.below' b2
            have HC2 := Lib.hid hc2
            have HG2 := Lib.hid (grow_trans HG1.out h2.2)
            clear h2 b2 c0 c1 c2 c3 c4 c5 c6 c7 c8
            obtain ⟨c0, c1, c2, c3, c4, c5, c6, c7, c8⟩ := cells9 hc2
            clear hc2
            go_wp2
            go_ret
            exact ⟨by rw [HX1.out]; rfl, HG2.out⟩
        · have q4 : (kind == 4) = false := by simpa using h4
          by_cases h5 : kind = 5
          · have q5 : (kind == 5) = true := by simpa using h5
            have hj : (Eff.mayP ⟨kind, ino, dir, dst, page, size, name, other, A, cp, data⟩) = ((ndB ino && (ndB dir && nmB name)) && (ndB dst && nmB other)) := by unfold Eff.mayP; simp [h1, h2, h3, h4, h5]
            rw [hj]
            clear hj h1 h2 h3 h4 h5
            go_enter Tryz.func71, Tryz.ntmps71
            go_wp2_with fail
            refine (eNode ino _).mono ?_
            rintro e' w1 h1
            obtain ⟨rfl, b1⟩ := h1.below
            have hc1 := HC0.out.below' b1
            have HC1 := Lib.hid hc1
            have HG1 := Lib.hid (grow_trans HG0.out h1.2)
            clear h1 b1 c0 c1 c2 c3 c4 c5 c6 c7 c8
            obtain ⟨c0, c1, c2, c3, c4, c5, c6, c7, c8⟩ := cells9 hc1
            clear hc1
            cases hx1 : ndB ino
            · have HX1 := Lib.hid hx1
              clear hx1
              go_wp2
              go_ret
              exact ⟨by rw [HX1.out]; rfl, HG1.out⟩
            · have HX1 := Lib.hid hx1
              clear hx1
              go_wp2_with fail
              refine (ePlace dir name hn _).mono ?_
              rintro e' w2 h2
              obtain ⟨rfl, b2⟩ := h2.below
              have hc2 := HC1.out.below' b2
              have HC2 := Lib.hid hc2
              have HG2 := Lib.hid (grow_trans HG1.out h2.2)
              clear h2 b2 c0 c1 c2 c3 c4 c5 c6 c7 c8
              obtain ⟨c0, c1, c2, c3, c4, c5, c6, c7, c8⟩ := cells9 hc2
              clear hc2
              cases hx2 : ndB dir && nmB name
              · have HX2 := Lib.hid hx2
                clear hx2
                go_wp2
                go_ret
                exact ⟨by rw [HX1.out, HX2.out]; rfl, HG2.out⟩
              · have HX2 := Lib.hid hx2
                clear hx2
                go_wp2_with fail
                refine (ePlace dst other ho _).mono ?_
                rintro e' w3 h3
                obtain ⟨rfl, b3⟩ := h3.below
                have hc3 := HC2.out.below' b3
                have HC3 := Lib.hid hc3
                have HG3 := Lib.hid (grow_trans HG2.out h3.2)
                clear h3 b3 c0 c1 c2 c3 c4 c5 c6 c7 c8
                obtain ⟨c0, c1, c2, c3, c4, c5, c6, c7, c8⟩ := cells9 hc3
                clear hc3
                go_wp2
                go_ret
                exact ⟨by rw [HX1.out, HX2.out]; rfl, HG3.out⟩
          · have q5 : (kind == 5) = false := by simpa using h5
            by_cases h6 : kind = 6
            · have q6 : (kind == 6) = true := by simpa using h6
              have hj : (Eff.mayP ⟨kind, ino, dir, dst, page, size, name, other, A, cp, data⟩) = (ndB ino && (decide (0 ≤ size) && decide (size ≤ 16384))) := by unfold Eff.mayP; simp [h1, h2, h3, h4, h5, h6]
              rw [hj]
              clear hj h1 h2 h3 h4 h5 h6
              go_enter Tryz.func71, Tryz.ntmps71
              go_wp2_with fail
              refine (eNode ino _).mono ?_
              rintro e' w1 h1
              obtain ⟨rfl, b1⟩ := h1.below
              have hc1 := HC0.out.below' b1
              have HC1 := Lib.hid hc1
              have HG1 := Lib.hid (grow_trans HG0.out h1.2)
              clear h1 b1 c0 c1 c2 c3 c4 c5 c6 c7 c8
              obtain ⟨c0, c1, c2, c3, c4, c5, c6, c7, c8⟩ := cells9 hc1
              clear hc1
              cases hx1 : ndB ino
              · have HX1 := Lib.hid hx1
                clear hx1
                go_wp2
                go_ret
                exact ⟨by rw [HX1.out]; rfl, HG1.out⟩
              · have HX1 := Lib.hid hx1
                clear hx1
                go_wp2_with fail
                refine (eWithin size 0 16384 _).mono ?_
                rintro e' w2 h2
                obtain ⟨rfl, b2⟩ := h2.below
                have hc2 := HC1.out.below' b2
                have HC2 := Lib.hid hc2
                have HG2 := Lib.hid (grow_trans HG1.out h2.2)
                clear h2 b2 c0 c1 c2 c3 c4 c5 c6 c7 c8
                obtain ⟨c0, c1, c2, c3, c4, c5, c6, c7, c8⟩ := cells9 hc2
                clear hc2
                go_wp2
                go_ret
                exact ⟨by rw [HX1.out]; rfl, HG2.out⟩
            · have q6 : (kind == 6) = false := by simpa using h6
              by_cases h7 : kind = 7
              · have q7 : (kind == 7) = true := by simpa using h7
                have hj : (Eff.mayP ⟨kind, ino, dir, dst, page, size, name, other, A, cp, data⟩) = ((ndB ino && rcB page size) && decide (data.length = 256)) := by unfold Eff.mayP; simp [h1, h2, h3, h4, h5, h6, h7]
                rw [hj]
                clear hj h1 h2 h3 h4 h5 h6 h7
                go_enter Tryz.func71, Tryz.ntmps71
                go_wp2_with fail
                refine (eNode ino _).mono ?_
                rintro e' w1 h1
                obtain ⟨rfl, b1⟩ := h1.below
                have hc1 := HC0.out.below' b1
                have HC1 := Lib.hid hc1
                have HG1 := Lib.hid (grow_trans HG0.out h1.2)
                clear h1 b1 c0 c1 c2 c3 c4 c5 c6 c7 c8
                obtain ⟨c0, c1, c2, c3, c4, c5, c6, c7, c8⟩ := cells9 hc1
                clear hc1
                cases hx1 : ndB ino
                · have HX1 := Lib.hid hx1
                  clear hx1
                  go_wp2
                  go_ret
                  exact ⟨by rw [HX1.out]; rfl, HG1.out⟩
                · have HX1 := Lib.hid hx1
                  clear hx1
                  go_wp2_with fail
                  refine (eReaches page size _).mono ?_
                  rintro e' w2 h2
                  obtain ⟨rfl, b2⟩ := h2.below
                  have hc2 := HC1.out.below' b2
                  have HC2 := Lib.hid hc2
                  have HG2 := Lib.hid (grow_trans HG1.out h2.2)
                  clear h2 b2 c0 c1 c2 c3 c4 c5 c6 c7 c8
                  obtain ⟨c0, c1, c2, c3, c4, c5, c6, c7, c8⟩ := cells9 hc2
                  clear hc2
                  cases hx2 : rcB page size
                  · have HX2 := Lib.hid hx2
                    clear hx2
                    go_wp2
                    go_ret
                    exact ⟨by rw [HX1.out, HX2.out]; rfl, HG2.out⟩
                  · have HX2 := Lib.hid hx2
                    clear hx2
                    by_cases hl : data.length = 256
                    · have r1 : ((data.length : Int) == 256) = true := by simp; omega
                      have r2 : decide (data.length = 256) = true := decide_eq_true hl
                      have R2 := Lib.hid r2
                      clear hl r2
                      go_wp2
                      go_ret
                      exact ⟨by rw [HX1.out, HX2.out, R2.out]; rfl, HG2.out⟩
                    · have r1 : ((data.length : Int) == 256) = false := by simp; omega
                      have r2 : decide (data.length = 256) = false := decide_eq_false hl
                      have R2 := Lib.hid r2
                      clear hl r2
                      go_wp2
                      go_ret
                      exact ⟨by rw [HX1.out, HX2.out, R2.out]; rfl, HG2.out⟩
              · have q7 : (kind == 7) = false := by simpa using h7
                by_cases h8 : kind = 8
                · have q8 : (kind == 8) = true := by simpa using h8
                  have hj : (Eff.mayP ⟨kind, ino, dir, dst, page, size, name, other, A, cp, data⟩) = (ndB ino) := by unfold Eff.mayP; simp [h1, h2, h3, h4, h5, h6, h7, h8]
                  rw [hj]
                  clear hj h1 h2 h3 h4 h5 h6 h7 h8
                  go_enter Tryz.func71, Tryz.ntmps71
                  go_wp2_with fail
                  refine (eNode ino _).mono ?_
                  rintro e' w1 h1
                  obtain ⟨rfl, b1⟩ := h1.below
                  have hc1 := HC0.out.below' b1
                  have HC1 := Lib.hid hc1
                  have HG1 := Lib.hid (grow_trans HG0.out h1.2)
                  clear h1 b1 c0 c1 c2 c3 c4 c5 c6 c7 c8
                  obtain ⟨c0, c1, c2, c3, c4, c5, c6, c7, c8⟩ := cells9 hc1
                  clear hc1
                  go_wp2
                  go_ret
                  exact ⟨rfl, HG1.out⟩
                · have q8 : (kind == 8) = false := by simpa using h8
                  have hj : (Eff.mayP ⟨kind, ino, dir, dst, page, size, name, other, A, cp, data⟩) = false := by unfold Eff.mayP; simp [h1, h2, h3, h4, h5, h6, h7, h8]
                  rw [hj]
                  clear hj h1 h2 h3 h4 h5 h6 h7 h8
                  go_enter Tryz.func71, Tryz.ntmps71
                  go_wp2
                  go_ret
                  exact ⟨rfl, HG0.out⟩
end Go.Proofs.YtamndllolppmoaaGreatDoor
