import Derived.Test.YtcmgngjafnpnoaaFdFace
import Derived.Test.YtcmgngjafnpnoaaStructs
import Derived.Test.YtcmgngjafnpnoaaApp
/-! Open files: held against each other; rows of them as they come in; plain facts. -/
namespace Go.Proofs.Ytcmgngjafnpnoaa
open Wd Go.RowKit Go.ChangeShapes Go.WideShapes Go.ChangeAt Go.Deep Go.Sort
set_option linter.unusedVariables false
def opnEq (a b : Opn) : Bool := decide (a.ino = b.ino) && (decide (a.off = b.off) && decide (a.fl = b.fl))
theorem eqO_cons {P : Program} {f : Field} {fs : List Field} {d : Nat} {w : World} {xs ys : Array Value} {u v : Value} {b B : Bool} (hn : (f.name != "_") = true) (hx : ∀ w, (part f.type xs f.offset).run P w = .ok u w) (hy : ∀ w, (part f.type ys f.offset).run P w = .ok v w)
    (he : (Op.equalIn d f.type u v).run P w = .ok b w) (hr : (Op.eqFields d xs ys fs).run P w = .ok B w) : (Op.eqFields d xs ys (f :: fs)).run P w = .ok (b && B) w := by
  have hn' : f.name ≠ "_" := by simpa using hn
  unfold Op.eqFields
  rw [if_pos hn']
  simp only [Sem.run_bind, hx, hy, he, Result.andThen_ok, Sem.run_ite]
  cases b with
  | true => simp [hr]
  | false => simp [Sem.run_pure]
theorem eqO_in (a b : Opn) (w : World) : (Op.equalIn 10000 27 a.val b.val).run Try.prog w = .ok (opnEq a b) w := by
  have hu : Try.prog.underlying 27 = some (.struct (Try.prog.fieldsOf 27)) := by kernel_rfl
  obtain ⟨f0, f1, f2, hf, n0, n1, n2, p0, p1, p2⟩ : ∃ f0 f1 f2 : Field, (Try.prog.fieldsOf 27).toList = [f0, f1, f2] ∧ (f0.name != "_") = true ∧ (f1.name != "_") = true ∧ (f2.name != "_") = true ∧
      (f0.type, f0.offset) = (3, 0) ∧ (f1.type, f1.offset) = (3, 1) ∧ (f2.type, f2.offset) = (3, 2) :=
    ⟨_, _, _, rfl, by kernel_rfl, by kernel_rfl, by kernel_rfl, by kernel_rfl, by kernel_rfl, by kernel_rfl⟩
  simp only [Prod.mk.injEq] at p0 p1 p2
  have hI : ∀ x y w, (Op.equalIn 9999 3 (.int .i64 x) (.int .i64 y)).run Try.prog w = .ok (decide (x = y)) w := fun x y w => run_equalIn_int w 9998 3 .i64 .i64 x y Try.underlying3
  unfold Opn.val
  rw [run_equalIn_struct _ 9999 _ _ _ hu (by kernel_rfl), hf]
  rw [eqO_cons (u := .int .i64 a.ino) (v := .int .i64 b.ino) n0 (fun w => by rw [p0.1, p0.2]; simp [go_sem]) (fun w => by rw [p0.1, p0.2]; simp [go_sem]) (by rw [p0.1]; exact hI _ _ _)
    (eqO_cons (u := .int .i64 a.off) (v := .int .i64 b.off) n1 (fun w => by rw [p1.1, p1.2]; simp [go_sem]) (fun w => by rw [p1.1, p1.2]; simp [go_sem]) (by rw [p1.1]; exact hI _ _ _)
    (eqO_cons (u := .int .i64 a.fl) (v := .int .i64 b.fl) n2 (fun w => by rw [p2.1, p2.2]; simp [go_sem]) (fun w => by rw [p2.1, p2.2]; simp [go_sem]) (by rw [p2.1]; exact hI _ _ _) (by simp [Op.eqFields] : (Op.eqFields 9999 _ _ []).run Try.prog w = .ok true w)))]
  simp only [Bool.and_true, opnEq]
theorem eqO_any (a b : Opn) (w : World) : (binOp .eql 27 a.val b.val).run Try.prog w = .ok (.bool (opnEq a b)) w := by
  have := eqO_in a b w
  unfold Opn.val at this ⊢
  rw [run_eql_struct, this]; rfl
theorem neO_any (a b : Opn) (w : World) : (binOp .neq 27 a.val b.val).run Try.prog w = .ok (.bool (!opnEq a b)) w := by
  have := eqO_in a b w
  unfold Opn.val at this ⊢
  rw [run_neq_struct, this]; rfl
theorem opnEq_self (a : Opn) : opnEq a a = true := by simp [opnEq]
theorem opnEq_iff {a b : Opn} : opnEq a b = true ↔ a = b := by
  cases a; cases b; simp [opnEq]
set_option maxRecDepth 100000 in
theorem open_opens {H : Type} {enc : TypeId × Value → H} {w : World} {base : Nat} {spare : Nat → Bool} {held : Bool} {r : Reach} {b0 : Nat} {v : Value} {d : DataW H} {p : List MemPlace}
    (hv : Value.okWide Try.prog w r b0 37 v) (h : DataW.Trod enc Try.prog w base spare held 37 v d p) :
    ∃ (A : Option Addr) (c : Nat) (l : List Opn), v = .slice A l.length c ∧ OpRow w A l ∧ (∀ o ∈ l, i64R o.ino) ∧ l.length ≤ maxLen := by
  obtain ⟨A, len, cap, rfl, h1, h2, h3⟩ := Wd.open_structs Try.underlying37 Try.underlying27 (by kernel_rfl) (by kernel_rfl) (by decide) hv h
  by_cases hn : 0 < len
  · obtain ⟨b, off, rfl, hb, hx⟩ := h3 hn
    have each : ∀ i, i < len → ∃ d : Opn, (∀ (k : Nat) (x : Value), d.cells[k]? = some x → w.cell? ⟨b, off + (i * 3 + k), none⟩ = some x) ∧ i64R d.ino := by
      intro i hi
      obtain ⟨n, hy⟩ := hx i hi
      obtain ⟨u0, y0, c0, t0⟩ := hy 0 _ rfl
      obtain ⟨u1, y1, c1, t1⟩ := hy 1 _ rfl
      obtain ⟨u2, y2, c2, t2⟩ := hy 2 _ rfl
      obtain ⟨a0, z0, _, w0⟩ := DataW.trod_int Try.underlying3 t0
      obtain ⟨a1, z1, _, w1⟩ := DataW.trod_int Try.underlying3 t1
      obtain ⟨a2, z2, _, w2⟩ := DataW.trod_int Try.underlying3 t2
      obtain rfl := (List.cons.inj z0).1
      obtain rfl := (List.cons.inj z1).1
      obtain rfl := (List.cons.inj z2).1
      refine ⟨⟨a0, a1, a2⟩, ?_, ?_⟩
      · intro k x hk
        match k, hk with
        | 0, hk => cases hk; exact c0
        | 1, hk => cases hk; exact c1
        | 2, hk => cases hk; exact c2
        | k + 3, hk => simp [Opn.cells] at hk
      · exact i64R_of w0
    obtain ⟨Y, hY⟩ := choose_lt (n := len) (p := fun i (d : Opn) => (∀ (k : Nat) (x : Value), d.cells[k]? = some x → w.cell? ⟨b, off + (i * 3 + k), none⟩ = some x) ∧ i64R d.ino) each
    refine ⟨_, cap, (List.range len).map Y, by simp, fun _ => ⟨b, off, rfl, hb, fun j d hj k x hk => ?_⟩, fun e he => ?_, by simp; exact Nat.le_trans h1 h2⟩
    · obtain ⟨hj1, hj2⟩ := List.getElem?_eq_some_iff.1 hj
      simp at hj1 hj2
      subst hj2
      exact (hY j hj1).1 k x hk
    · obtain ⟨i, hi, rfl⟩ := List.mem_map.1 he
      exact (hY i (List.mem_range.1 hi)).2
  · obtain rfl : len = 0 := by omega
    exact ⟨A, cap, [], rfl, (fun h => absurd h (by simp)), (fun e he => by cases he), by simp⟩
theorem opens_cells {w : World} {A : Option Addr} {l : List Opn} (h : OpRow w A l) {k : Nat} {o : Opn} (hk : l[k]? = some o) : ∃ b off, A = some ⟨b, off, none⟩ ∧ b < w.heap.size ∧ w.cell? ⟨b, off + k * 3, none⟩ = some (.int .i64 o.ino) ∧ w.cell? ⟨b, off + k * 3 + 1, none⟩ = some (.int .i64 o.off) ∧ w.cell? ⟨b, off + k * 3 + 2, none⟩ = some (.int .i64 o.fl) := by
  obtain ⟨b, off, rfl, hb, hx⟩ := h (by have := (List.getElem?_eq_some_iff.1 hk).1; omega)
  exact ⟨b, off, rfl, hb, hx k o hk 0 _ rfl, hx k o hk 1 _ rfl, hx k o hk 2 _ rfl⟩
theorem OpRow.below {w w' : World} {A : Option Addr} {l : List Opn} (h : OpRow w A l) (hb : Below w.heap.size w w') : OpRow w' A l := fun h0 => by
  obtain ⟨b, off, e, hlt, hx⟩ := h h0
  refine ⟨b, off, e, Nat.lt_of_lt_of_le hlt hb.size, fun i o hi k x hk => ?_⟩
  have := hx i o hi k x hk
  unfold World.cell? at this ⊢
  rw [hb.block b hlt]; exact this
/-! plainly -/
theorem free_at {T : List Opn} (h : GoodT T) (hf : freeT T < 16) : T[freeT T]? = some Opn.zero := by
  have hl : freeT T < T.length := by rw [h.1]; exact hf
  have h1 := List.findIdx_getElem (p := fun o : Opn => decide (o.ino = 0)) (xs := T) (w := hl)
  have h2 : (T[freeT T]).ino = 0 := of_decide_eq_true h1
  rcases h.2 _ (List.getElem_mem hl) with h3 | h3
  · rw [List.getElem?_eq_getElem hl, h3]
  · omega
theorem open_get {T : List Opn} (h : GoodT T) {o : Opn} (hb : openB T o = true) : isT (openT T o) (openV T o : Nat) = true ∧ getT (openT T o) (openV T o : Nat) = o ∧ closeT (openT T o) (openV T o : Nat) = T := by
  have hb2 := hb
  unfold openB nextB at hb2
  rw [Bool.and_eq_true, decide_eq_true_eq, decide_eq_true_eq] at hb2
  have hl : freeT T < T.length := by rw [h.1]; exact hb2.1
  have hi : isT (openT T o) (openV T o : Nat) = true := by
    unfold isT openT openV
    rw [if_pos hb, if_pos hb, Int.toNat_natCast, List.getElem?_set_self hl]
    simp only [Bool.and_eq_true, decide_eq_true_eq, Option.getD_some]
    omega
  refine ⟨hi, ?_, ?_⟩
  · unfold getT
    rw [if_pos hi]
    unfold openT openV
    rw [if_pos hb, if_pos hb, Int.toNat_natCast, List.getElem?_set_self hl]
    rfl
  · unfold closeT
    rw [if_pos hi]
    unfold openT openV
    rw [if_pos hb, if_pos hb, Int.toNat_natCast, List.set_set]
    have := free_at h hb2.1
    rw [List.getElem?_eq_getElem hl] at this
    rw [← Option.some.inj this]
    exact List.set_getElem_self hl
theorem open_no {T : List Opn} {o : Opn} (hb : openB T o = false) : openT T o = T := by unfold openT; rw [if_neg (by rw [hb]; decide)]
end Go.Proofs.Ytcmgngjafnpnoaa
