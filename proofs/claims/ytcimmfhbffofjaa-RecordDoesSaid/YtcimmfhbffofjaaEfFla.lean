import Derived.Test.YtcimmfhbffofjaaEfSml
import Derived.Laws.StructEq
/-
  The project's flatOf and Same: two effects are alike where all but their bytes is, and their bytes are.
-/
namespace Go.Proofs.Ytcimmfhbffofjaa
open Wd U Go.RowKit Go.ChangeShapes Go.WideShapes Go.Sort
set_option linter.unusedVariables false
set_option maxRecDepth 100000

def flatV (e : Eff) : Value := .agg #[.int .i64 e.kind, .int .i64 e.ino, .int .i64 e.dir, .int .i64 e.dst, .int .i64 e.page, .int .i64 e.size, .string e.name, .string e.other]
def flatB (a b : Eff) : Bool := decide (a.kind = b.kind) && decide (a.ino = b.ino) && decide (a.dir = b.dir) && decide (a.dst = b.dst) && decide (a.page = b.page) && decide (a.size = b.size) && (a.name.toList == b.name.toList) && (a.other.toList == b.other.toList)

set_option maxRecDepth 100000 in
theorem eFlatOf (e : Eff) (w : World) : Calls Try.prog 52 #[e.val] w (Grows (flatV e) w) := by
  obtain ⟨kind, ino, dir, dst, page, size, name, other, A, cp, data⟩ := e
  unfold Eff.val flatV
  go_enter Try.func52, Try.ntmps52
  go_wp2
  exact bodyPost_ret (v := .agg #[.int .i64 kind, .int .i64 ino, .int .i64 dir, .int .i64 dst, .int .i64 page, .int .i64 size, .string name, .string other]) (by simp [results, Try.results52, go_sem]) rfl ⟨rfl, grow_alloc (grow_one _ _) _⟩

def one_eq (P : Program) (f : Field) (d : Nat) (w : World) (u v : Value) (b : Bool) : Prop := f.name ≠ "_" ∧ (Op.equalIn d f.type u v).run P w = .ok b w
theorem eqF_cons {P : Program} {f : Field} {fs : List Field} {d : Nat} {w : World} {xs ys : Array Value} {u v : Value} {b B : Bool} (hn : (f.name != "_") = true) (hx : ∀ w, (part f.type xs f.offset).run P w = .ok u w) (hy : ∀ w, (part f.type ys f.offset).run P w = .ok v w)
    (he : (Op.equalIn d f.type u v).run P w = .ok b w) (hr : (Op.eqFields d xs ys fs).run P w = .ok B w) : (Op.eqFields d xs ys (f :: fs)).run P w = .ok (b && B) w := by
  have hn' : f.name ≠ "_" := by simpa using hn
  unfold Op.eqFields
  rw [if_pos hn']
  simp only [Sem.run_bind, hx, hy, he, Result.andThen_ok, Sem.run_ite]
  cases b with
  | true => simp [hr]
  | false => simp [Sem.run_pure]
theorem eqF_nil {P : Program} {d : Nat} {w : World} {xs ys : Array Value} : (Op.eqFields d xs ys []).run P w = .ok true w := by simp [Op.eqFields]

theorem eqf_any (a b : Eff) (w : World) : (binOp .eql 87 (flatV a) (flatV b)).run Try.prog w = .ok (.bool (flatB a b)) w := by
  have hu : Try.prog.underlying 87 = some (.struct (Try.prog.fieldsOf 87)) := by kernel_rfl
  obtain ⟨f0, f1, f2, f3, f4, f5, f6, f7, hf, n0, n1, n2, n3, n4, n5, n6, n7, p0, p1, p2, p3, p4, p5, p6, p7⟩ : ∃ f0 f1 f2 f3 f4 f5 f6 f7 : Field, (Try.prog.fieldsOf 87).toList = [f0, f1, f2, f3, f4, f5, f6, f7] ∧ (f0.name != "_") = true ∧ (f1.name != "_") = true ∧ (f2.name != "_") = true ∧ (f3.name != "_") = true ∧ (f4.name != "_") = true ∧ (f5.name != "_") = true ∧ (f6.name != "_") = true ∧ (f7.name != "_") = true ∧
      (f0.type, f0.offset) = (3, 0) ∧ (f1.type, f1.offset) = (3, 1) ∧ (f2.type, f2.offset) = (3, 2) ∧ (f3.type, f3.offset) = (3, 3) ∧ (f4.type, f4.offset) = (3, 4) ∧ (f5.type, f5.offset) = (3, 5) ∧ (f6.type, f6.offset) = (9, 6) ∧ (f7.type, f7.offset) = (9, 7) :=
    ⟨_, _, _, _, _, _, _, _, rfl, by kernel_rfl, by kernel_rfl, by kernel_rfl, by kernel_rfl, by kernel_rfl, by kernel_rfl, by kernel_rfl, by kernel_rfl, by kernel_rfl, by kernel_rfl, by kernel_rfl, by kernel_rfl, by kernel_rfl, by kernel_rfl, by kernel_rfl, by kernel_rfl⟩
  simp only [Prod.mk.injEq] at p0 p1 p2 p3 p4 p5 p6 p7
  have hI : ∀ x y w, (Op.equalIn 9999 3 (.int .i64 x) (.int .i64 y)).run Try.prog w = .ok (decide (x = y)) w := fun x y w => run_equalIn_int w 9998 3 .i64 .i64 x y Try.underlying3
  have hS : ∀ x y w, (Op.equalIn 9999 9 (.string x) (.string y)).run Try.prog w = .ok (x.toList == y.toList) w := fun x y w => run_equalIn_string w 9998 9 x y Try.underlying9
  unfold flatV
  rw [run_eql_struct, run_equalIn_struct _ 9999 _ _ _ hu (by kernel_rfl), hf]
  rw [eqF_cons (u := .int .i64 a.kind) (v := .int .i64 b.kind) n0 (fun w => by rw [p0.1, p0.2]; simp [go_sem]) (fun w => by rw [p0.1, p0.2]; simp [go_sem]) (by rw [p0.1]; exact hI _ _ _)
    (eqF_cons (u := .int .i64 a.ino) (v := .int .i64 b.ino) n1 (fun w => by rw [p1.1, p1.2]; simp [go_sem]) (fun w => by rw [p1.1, p1.2]; simp [go_sem]) (by rw [p1.1]; exact hI _ _ _)
    (eqF_cons (u := .int .i64 a.dir) (v := .int .i64 b.dir) n2 (fun w => by rw [p2.1, p2.2]; simp [go_sem]) (fun w => by rw [p2.1, p2.2]; simp [go_sem]) (by rw [p2.1]; exact hI _ _ _)
    (eqF_cons (u := .int .i64 a.dst) (v := .int .i64 b.dst) n3 (fun w => by rw [p3.1, p3.2]; simp [go_sem]) (fun w => by rw [p3.1, p3.2]; simp [go_sem]) (by rw [p3.1]; exact hI _ _ _)
    (eqF_cons (u := .int .i64 a.page) (v := .int .i64 b.page) n4 (fun w => by rw [p4.1, p4.2]; simp [go_sem]) (fun w => by rw [p4.1, p4.2]; simp [go_sem]) (by rw [p4.1]; exact hI _ _ _)
    (eqF_cons (u := .int .i64 a.size) (v := .int .i64 b.size) n5 (fun w => by rw [p5.1, p5.2]; simp [go_sem]) (fun w => by rw [p5.1, p5.2]; simp [go_sem]) (by rw [p5.1]; exact hI _ _ _)
    (eqF_cons (u := .string a.name) (v := .string b.name) n6 (fun w => by rw [p6.1, p6.2]; simp [go_sem]) (fun w => by rw [p6.1, p6.2]; simp [go_sem]) (by rw [p6.1]; exact hS _ _ _)
    (eqF_cons (u := .string a.other) (v := .string b.other) n7 (fun w => by rw [p7.1, p7.2]; simp [go_sem]) (fun w => by rw [p7.1, p7.2]; simp [go_sem]) (by rw [p7.1]; exact hS _ _ _) eqF_nil)))))))]
  simp only [Result.andThen_ok, Bool.and_true, flatB, Bool.and_assoc]
end Go.Proofs.Ytcimmfhbffofjaa
