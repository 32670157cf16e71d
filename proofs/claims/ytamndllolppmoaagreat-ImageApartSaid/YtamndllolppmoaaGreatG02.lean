import Derived.Test.YtamndllolppmoaaGreatG00
import Derived.Maps.AppendAt
import Derived.Deep.AppendLies
import Derived.Deep.RegionLaw
import Derived.OwnWalk
import Derived.Test.YtamndllolppmoaaGreatG01
import Derived.Lib.BufferWrite
import Derived.Lib.UnsafeStr
import Derived.Deep.RegionWith
import Derived.Laws.BytesString
import Derived.Deep.WholeRow
import Derived.IntWalk
import Derived.Laws.Bits64

namespace Wd
open Go Go.RowKit

section
variable {P : Program} (w : World)

/-- append(row of the call's own, a slice that reads as a row): the whole of it, whether it is nil, empty or not -/
theorem run_append_row (base : Nat) (t ty e : TypeId) (z : Value) (bytes : Nat) (ht : P.underlying t = some (.slice e)) (hi : (P.info? e).map (fun i => (i.zero, i.size, i.bytes)) = some (some z, 1, bytes)) (hz : z.cells.size = 1)
    (v : Value) (n : Nat) (xs : List Value) (hown : w.ownsRow base e 1 v n xs) (B : Nat) (A : Option Addr) (m c : Nat) (news : List Value) (hr : Row w B A m news) (h1 : ∀ u ∈ news, u.oneCell' = true)
    (h63 : n + m ≤ maxLen) (hbytes : (n + m) * bytes ≤ 140737488355328) (hbase : base ≤ w.heap.size) :
    ∃ v' w', (Builtin.append_ #[t, t] ty #[v, .slice A m c]).run P w = .ok v' w' ∧ w'.ownsRow base e 1 v' (n + m) (xs ++ news) ∧ w.grownBy w' v.ownBlock ∧ (v'.ownBlock = v.ownBlock ∨ v'.ownBlock = some w.heap.size) := by
  obtain ⟨i, i1, i2, i3, i4⟩ := info_parts hi
  by_cases hm : m = 0
  · subst hm
    have hn : news = [] := List.eq_nil_of_length_eq_zero hr.1
    subst hn
    cases A with
    | none =>
      refine ⟨v, w, ?_, by simpa using hown, World.grownBy.refl w _, .inl rfl⟩
      rcases hown.2 with ⟨rfl, rfl⟩ | ⟨g, cap, cur, rfl, _, _, hnc, _⟩
      · simp [Builtin.append_, run_underlying ht, Go.sizeOf, typeInfo, i1, Builtin.lenOf, Builtin.firstCells]
      · simp [Builtin.append_, run_underlying ht, Go.sizeOf, typeInfo, i1, Builtin.lenOf, Builtin.firstCells, hnc, storeCells]
    | some ad =>
      obtain ⟨v', w', h2, h3, h4, _, h5⟩ := run_append_own_at (P := P) w base t ty e i z 1 bytes ht i1 i2 i3 i4 hz (by decide) v n xs hown ad 0 c [] rfl (by simp) (by simp) h63 hbytes hbase
      exact ⟨v', w', h2, h3, h4, h5⟩
  · obtain ⟨b, off, rfl, _, hc⟩ := hr.2 (by omega)
    obtain ⟨v', w', h2, h3, h4, _, h5⟩ := run_append_own_at (P := P) w base t ty e i z 1 bytes ht i1 i2 i3 i4 hz (by decide) v n xs hown ⟨b, off, none⟩ m c news (by rw [Nat.mul_one]; exact hr.1) (fun j u hu => by
      obtain ⟨hj, rfl⟩ := List.getElem?_eq_some_iff.1 hu
      have e : (⟨b, off, none⟩ : Addr).add j = ⟨b, off + j, none⟩ := by unfold Addr.add; split <;> simp_all
      rw [e]; exact hc j hj) h1 h63 hbytes hbase
    exact ⟨v', w', h2, h3, h4, h5⟩

theorem wp_append_row {o : Oper} {a : Act} {K : Act → World → Prop} {Q : Exit → Act → World → Prop} (s x : Operand) (t : TypeId)
    (ho : o.op = .call { callee := .builtin .append, args := #[s, x], argTypes := #[t, t] })
    (base : Nat) (e : TypeId) (z : Value) (bytes : Nat) (ht : P.underlying t = some (.slice e)) (hi : (P.info? e).map (fun i => (i.zero, i.size, i.bytes)) = some (some z, 1, bytes)) (hz : z.cells.size = 1)
    (v : Value) (n : Nat) (xs : List Value) (hs : a.eval s = v) (hown : w.ownsRow base e 1 v n xs)
    (B : Nat) (A : Option Addr) (m c : Nat) (news : List Value) (hx : a.eval x = .slice A m c) (hr : Row w B A m news) (h1 : ∀ u ∈ news, u.oneCell' = true)
    (h63 : n + m ≤ maxLen) (hbytes : (n + m) * bytes ≤ 140737488355328) (hbase : base ≤ w.heap.size)
    (h : ∀ v' w', w'.ownsRow base e 1 v' (n + m) (xs ++ news) → w.grownBy w' v.ownBlock → (v'.ownBlock = v.ownBlock ∨ v'.ownBlock = some w.heap.size) → K (a.put o.dst v') w') : o.wp P a w K Q := by
  obtain ⟨v', w', hrun, h2, h3, h4⟩ := run_append_row (P := P) w base t o.type e z bytes ht hi hz v n xs hown B A m c news hr h1 h63 hbytes hbase
  unfold Oper.wp execOp
  simp only [ho, resolve, invoke, builtin, Sem.run_bind, Sem.run_pure, Result.andThen_ok, List.map_toArray, List.map_cons, List.map_nil, hs, hx, hrun]
  exact h v' w' h2 h3 h4

theorem wpList_append_row {ops : Array Oper} {rest : List Oper} {o : Oper} {a : Act} {Q : Exit → Act → World → Prop} (hgd : o.guard = none) (s x : Operand) (t : TypeId)
    (ho : o.op = .call { callee := .builtin .append, args := #[s, x], argTypes := #[t, t] })
    (base : Nat) (e : TypeId) (z : Value) (bytes : Nat) (ht : P.underlying t = some (.slice e)) (hi : (P.info? e).map (fun i => (i.zero, i.size, i.bytes)) = some (some z, 1, bytes)) (hz : z.cells.size = 1)
    (v : Value) (n : Nat) (xs : List Value) (hs : a.eval s = v) (hown : w.ownsRow base e 1 v n xs)
    (B : Nat) (A : Option Addr) (m c : Nat) (news : List Value) (hx : a.eval x = .slice A m c) (hr : Row w B A m news) (h1 : ∀ u ∈ news, u.oneCell' = true)
    (h63 : n + m ≤ maxLen) (hbytes : (n + m) * bytes ≤ 140737488355328) (hbase : base ≤ w.heap.size)
    (h : ∀ v' w', w'.ownsRow base e 1 v' (n + m) (xs ++ news) → w.grownBy w' v.ownBlock → (v'.ownBlock = v.ownBlock ∨ v'.ownBlock = some w.heap.size) → wpList P ops Q rest (a.put o.dst v') w') : wpList P ops Q (o :: rest) a w :=
  wpList_plain hgd fun _ hK => wp_append_row w s x t ho base e z bytes ht hi hz v n xs hs hown B A m c news hx hr h1 h63 hbytes hbase fun v' w' h2 h3 h4 => hK _ _ (h v' w' h2 h3 h4)

theorem step_append_row {ops : Array Oper} {o : Oper} {a : Act} {K : Act → World → Prop} {Q : Exit → Act → World → Prop} {E : Prop} (hgd : o.guard = none) (s x : Operand) (t : TypeId)
    (ho : o.op = .call { callee := .builtin .append, args := #[s, x], argTypes := #[t, t] })
    (base : Nat) (e : TypeId) (z : Value) (bytes : Nat) (ht : P.underlying t = some (.slice e)) (hi : (P.info? e).map (fun i => (i.zero, i.size, i.bytes)) = some (some z, 1, bytes)) (hz : z.cells.size = 1)
    (v : Value) (n : Nat) (xs : List Value) (hs : a.eval s = v) (hown : w.ownsRow base e 1 v n xs)
    (B : Nat) (A : Option Addr) (m c : Nat) (news : List Value) (hx : a.eval x = .slice A m c) (hr : Row w B A m news) (h1 : ∀ u ∈ news, u.oneCell' = true)
    (h63 : n + m ≤ maxLen) (hbytes : (n + m) * bytes ≤ 140737488355328) (hbase : base ≤ w.heap.size)
    (h : ∀ v' w', w'.ownsRow base e 1 v' (n + m) (xs ++ news) → w.grownBy w' v.ownBlock → (v'.ownBlock = v.ownBlock ∨ v'.ownBlock = some w.heap.size) → K (a.put o.dst v') w') :
    if Region.wanted o (yielded ops a.tmps) = true then Oper.wp P o a w K Q else E := by
  have hw : Region.wanted o (yielded ops a.tmps) = true := by simp [Region.wanted, hgd]
  rw [if_pos hw]
  exact wp_append_row w s x t ho base e z bytes ht hi hz v n xs hs hown B A m c news hx hr h1 h63 hbytes hbase h
end

theorem step_shape {P : Program} {w : World} {ops : Array Oper} {o : Oper} {a : Act} {K : Act → World → Prop} {Q : Exit → Act → World → Prop} {E : Prop} (hgd : o.guard = none) (h : Oper.wp P o a w K Q) :
    if Region.wanted o (yielded ops a.tmps) = true then Oper.wp P o a w K Q else E := by
  have hw : Region.wanted o (yielded ops a.tmps) = true := by simp [Region.wanted, hgd]
  rw [if_pos hw]; exact h

theorem own_nil (w : World) (base : Nat) (e : TypeId) : w.ownsRow base e 1 (.slice none 0 0) 0 [] := ⟨rfl, .inl ⟨rfl, rfl⟩⟩
end Wd

namespace Ino
open Go
/-- a name in a directory, plainly -/
structure Ent where
  s : ByteArray
  n : Int
deriving DecidableEq
instance : Inhabited Ent := ⟨⟨.empty, 0⟩⟩
end Ino
namespace Go.Proofs.YtamndllolppmoaaGreat
open Wd Ino Go.RowKit Go.ChangeShapes Go.WideShapes Go.ChangeAt Go.Deep Go.Sort
set_option linter.unusedVariables false
/-- a name's cells -/
def ev (e : Ent) : List Value := [.string e.s, .int .i64 e.n]
def evals (l : List Ent) : List Value := l.flatMap ev
theorem evals_cons (e : Ent) (l : List Ent) : evals (e :: l) = ev e ++ evals l := by unfold evals; rw [List.flatMap_cons]
theorem evals_append (l m : List Ent) : evals (l ++ m) = evals l ++ evals m := by unfold evals; simp [List.flatMap_append]
theorem evals_len (l : List Ent) : (evals l).length = l.length * 2 := by
  induction l with
  | nil => rfl
  | cons e l ih => rw [evals_cons, List.length_append, ih]; simp [ev]; omega
theorem evals_at : ∀ (l : List Ent) (j k : Nat) (e : Ent) (x : Value), l[j]? = some e → (ev e)[k]? = some x → (evals l)[j * 2 + k]? = some x := by
  intro l
  induction l with
  | nil => intro j k e x hj; simp at hj
  | cons q l ih =>
    intro j k e x hj hk
    have hlen : (ev q).length = 2 := rfl
    rw [evals_cons]
    cases j with
    | zero =>
      simp at hj
      subst hj
      have : k < (ev q).length := (List.getElem?_eq_some_iff.1 hk).1
      rw [Nat.zero_mul, Nat.zero_add, List.getElem?_append_left this]
      exact hk
    | succ j =>
      rw [List.getElem?_append_right (by rw [hlen]; omega), hlen, show (j + 1) * 2 + k - 2 = j * 2 + k by omega]
      exact ih j k e x (by simpa using hj) hk
theorem evals_get {l : List Ent} : ∀ {J : Nat} {u : Value}, (evals l)[J]? = some u → ∃ e, l[J / 2]? = some e ∧ (ev e)[J % 2]? = some u := by
  induction l with
  | nil => intro J u h; simp [evals] at h
  | cons e l ih =>
    intro J u h
    rw [evals_cons] at h
    by_cases hJ : J < 2
    · rw [List.getElem?_append_left (by simpa [ev] using hJ)] at h
      exact ⟨e, by rw [Nat.div_eq_of_lt hJ]; rfl, by rw [Nat.mod_eq_of_lt hJ]; exact h⟩
    · rw [List.getElem?_append_right (by simp [ev]; omega)] at h
      obtain ⟨x, h1, h2⟩ := ih h
      have hl : (ev e).length = 2 := rfl
      rw [hl] at h1 h2
      refine ⟨x, ?_, ?_⟩
      · rw [show J / 2 = (J - 2) / 2 + 1 by omega]; exact h1
      · rw [show J % 2 = (J - 2) % 2 by omega]; exact h2
theorem one2 (e : Ent) : ∀ u ∈ ev e, u.oneCell' = true := by
  intro u hu
  unfold ev at hu
  simp only [List.mem_cons, List.not_mem_nil, or_false] at hu
  rcases hu with rfl | rfl <;> rfl
/-- the row l of names lies at A, in a block below hi -/
def Ens (w : World) (hi : Nat) (A : Option Addr) (l : List Ent) : Prop := 0 < l.length → ∃ b off, A = some ⟨b, off, none⟩ ∧ b < hi ∧ ∀ (j : Nat) (e : Ent), l[j]? = some e → ∀ (k : Nat) (x : Value), (ev e)[k]? = some x → w.cell? ⟨b, off + (j * 2 + k), none⟩ = some x
theorem Ens.nil (w : World) (hi : Nat) (A : Option Addr) : Ens w hi A [] := fun h => absurd h (by simp)
theorem Ens.below {w w' : World} {hi : Nat} {A : Option Addr} {l : List Ent} (h : Ens w hi A l) (hk : Below hi w w') : Ens w' hi A l := fun hn => by
  obtain ⟨b, off, e, h2, hx⟩ := h hn
  refine ⟨b, off, e, h2, fun j d hj k x hk' => ?_⟩
  have h3 := hx j d hj k x hk'
  unfold World.cell? at h3 ⊢
  rw [hk.block b h2]
  exact h3
theorem Ens.more {w : World} {hi hi' : Nat} {A : Option Addr} {l : List Ent} (h : Ens w hi A l) (h2 : hi ≤ hi') : Ens w hi' A l := fun hn => by
  obtain ⟨b, off, e, h4, hx⟩ := h hn
  exact ⟨b, off, e, by omega, hx⟩
theorem Ens.at_ {w w' : World} {A : Option Addr} {l : List Ent} (h : Ens w w.heap.size A l) (hb : Below w.heap.size w w') : Ens w' w'.heap.size A l := (h.below hb).more hb.size
theorem ens_cells {w : World} {hi : Nat} {A : Option Addr} {l : List Ent} (h : Ens w hi A l) {k : Nat} {e : Ent} (hk : l[k]? = some e) : ∃ b off, A = some ⟨b, off, none⟩ ∧ b < hi ∧
    w.cell? ⟨b, off + k * 2, none⟩ = some (.string e.s) ∧ w.cell? ⟨b, off + k * 2 + 1, none⟩ = some (.int .i64 e.n) := by
  obtain ⟨b, off, rfl, h2, hx⟩ := h (by have := (List.getElem?_eq_some_iff.1 hk).1; omega)
  have g := hx k e hk
  exact ⟨b, off, rfl, h2, g 0 _ rfl, g 1 _ rfl⟩
/-- a row of names that the call made -/
theorem infoE : (Tryz.prog.info? 114).map (fun i => (i.zero, i.size, i.bytes)) = some (some (.agg #[.string ByteArray.empty, .int .i64 0]), 2, 24) := by kernel_rfl
def OwnE (w : World) (base : Nat) (v : Value) (l : List Ent) : Prop := w.ownsRow base 114 2 v l.length (evals l)
theorem own_nilE (w : World) (base : Nat) : OwnE w base (.slice none 0 0) [] := World.ownsRow_nil _ _ _ _
theorem OwnE.form {w : World} {base : Nat} {v : Value} {l : List Ent} (h : OwnE w base v l) : ∃ A c, v = .slice A l.length c ∧ l.length ≤ c ∧ Ens w w.heap.size A l := by
  rcases h.2 with ⟨rfl, h0⟩ | ⟨g, cap, cur, rfl, hb, hh, hc, hm, _, ht⟩
  · obtain rfl : l = [] := List.eq_nil_of_length_eq_zero h0
    exact ⟨none, 0, rfl, Nat.le_refl _, Ens.nil _ _ _⟩
  · refine ⟨_, cap, rfl, hc, fun _ => ⟨g, 0, rfl, lt_of_block hh, fun j e hj k x hk => ?_⟩⟩
    have hx := evals_at l j k e x hj hk
    rw [← ht] at hx
    have hcell : w.cell? ⟨g, 0 + (j * 2 + k), none⟩ = cur[0 + (j * 2 + k)]? := cell_of_row w g _ cur _ (0, 0) hh
    rw [hcell, Nat.zero_add, ← Array.getElem?_toList]
    rw [List.getElem?_take] at hx
    split at hx
    · exact hx
    · cases hx
theorem OwnE.mono {w : World} {b1 b2 : Nat} {v : Value} {l : List Ent} (h : OwnE w b1 v l) (hb : b2 ≤ b1) : OwnE w b2 v l := by
  rcases h with ⟨h1, h2⟩
  refine ⟨h1, ?_⟩
  rcases h2 with h2 | ⟨g, cap, cur, h2, h3, h4⟩
  · exact .inl h2
  · exact .inr ⟨g, cap, cur, h2, Nat.le_trans hb h3, h4⟩
theorem OwnE.below {w w' : World} {base : Nat} {v : Value} {l : List Ent} (h : OwnE w base v l) (hb : Below w.heap.size w w') : OwnE w' base v l := by
  refine ⟨h.1, ?_⟩
  rcases h.2 with ⟨h1, h0⟩ | ⟨g, cap, cur, h1, h2, hh, h3⟩
  · exact .inl ⟨h1, h0⟩
  · exact .inr ⟨g, cap, cur, h1, h2, (hb.block g (lt_of_block hh)).trans hh, h3⟩
/-- append of a row of names -/
theorem run_append_ens {w : World} {base hi : Nat} {v : Value} {l m : List Ent} {A : Option Addr} {c : Nat} (ty : TypeId) (hown : OwnE w base v l) (hx : Ens w hi A m) (hl : l.length + m.length ≤ 100000) (hb : base ≤ w.heap.size) :
    ∃ v' w', (Builtin.append_ #[53, 53] ty #[v, .slice A m.length c]).run Tryz.prog w = .ok v' w' ∧ OwnE w' base v' (l ++ m) ∧ w.grownBy w' v.ownBlock ∧ (v'.ownBlock = v.ownBlock ∨ v'.ownBlock = some w.heap.size) := by
  obtain ⟨i, i1, i2, i3, i4⟩ := info_parts infoE
  have fin : ∀ v' (w' : World), w'.ownsRow base 114 2 v' (l.length + m.length) (evals l ++ evals m) → OwnE w' base v' (l ++ m) := fun v' w' h => by
    unfold OwnE; rw [List.length_append, evals_append]; exact h
  cases A with
  | none =>
    have hm : m = [] := by
      cases m with
      | nil => rfl
      | cons e m =>
        obtain ⟨b, off, h, _⟩ := hx (by simp)
        cases h
    subst hm
    refine ⟨v, w, ?_, by simpa using hown, World.grownBy.refl w _, .inl rfl⟩
    rcases hown.2 with ⟨rfl, h0⟩ | ⟨g, cap, cur, rfl, _, _, hnc, _⟩
    · simp [Builtin.append_, run_underlying Tryz.underlying53, Go.sizeOf, typeInfo, i1, Builtin.lenOf, Builtin.firstCells]
    · simp [Builtin.append_, run_underlying Tryz.underlying53, Go.sizeOf, typeInfo, i1, Builtin.lenOf, Builtin.firstCells, hnc, storeCells]
  | some ad =>
    obtain ⟨v', w', h2, h3, h4, _, h5⟩ := run_append_own_at (P := Tryz.prog) w base 53 ty 114 i (.agg #[.string ByteArray.empty, .int .i64 0]) 2 24 Tryz.underlying53 i1 i2 i3 i4 rfl (by decide) v l.length (evals l) hown ad m.length c (evals m) (evals_len m) (fun j u hu => by
      obtain ⟨e, h1, h2⟩ := evals_get hu
      obtain ⟨b, off, h3, _, hc⟩ := hx (by have := (List.getElem?_eq_some_iff.1 h1).1; omega)
      cases h3
      have h4 := hc _ e h1 _ u h2
      have e1 : (⟨b, off, none⟩ : Addr).add j = ⟨b, off + j, none⟩ := by unfold Addr.add; split <;> simp_all
      rw [e1]
      rw [show j / 2 * 2 + j % 2 = j by omega] at h4
      exact h4) (fun u hu => by
      obtain ⟨e, _, he⟩ := List.mem_flatMap.1 hu
      exact one2 e u he) (by unfold maxLen; omega) (by omega) hb
    exact ⟨v', w', h2, fin _ _ h3, h4, h5⟩
theorem wpList_append_ens {ops : Array Oper} {rest : List Oper} {o : Oper} {a : Act} {Q : Exit → Act → World → Prop} {w : World} (hgd : o.guard = none) (s x : Operand)
    (ho : o.op = .call { callee := .builtin .append, args := #[s, x], argTypes := #[53, 53] })
    {base hi : Nat} {v : Value} {l m : List Ent} {A : Option Addr} {c : Nat} (hs : a.eval s = v) (hx' : a.eval x = .slice A m.length c) (hown : OwnE w base v l) (hx : Ens w hi A m) (hl : l.length + m.length ≤ 100000) (hb : base ≤ w.heap.size)
    (h : ∀ v' w', OwnE w' base v' (l ++ m) → w.grownBy w' v.ownBlock → (v'.ownBlock = v.ownBlock ∨ v'.ownBlock = some w.heap.size) → wpList Tryz.prog ops Q rest (a.put o.dst v') w') : wpList Tryz.prog ops Q (o :: rest) a w := by
  refine wpList_plain hgd fun _ hK => ?_
  obtain ⟨v', w', hrun, h2, h3, h4⟩ := run_append_ens (c := c) o.type hown hx hl hb
  unfold Oper.wp execOp
  simp only [ho, resolve, invoke, builtin, Sem.run_bind, Sem.run_pure, Result.andThen_ok, List.map_toArray, List.map_cons, List.map_nil, hs, hx', hrun]
  exact hK _ _ (h v' w' h2 h3 h4)

/-! a node, opened -/
/-- a slice of structs of one-cell fields, met as a field: each field of each element -/
theorem structs_of_trod {H : Type} {enc : TypeId × Value → H} {P : Program} {w : World} {base : Nat} {spare : Nat → Bool} {held : Bool} {t e : TypeId} {fs : Array Field} {v : Value} {nn : Nat} {x : DataW H × List MemPlace} (ht : P.underlying t = some (.slice e)) (he : P.underlying e = some (.struct fs)) (hone : oneCellFields P fs = true) (hC : P.cellsOf e = fs.size) (hpos : 0 < fs.size)
    (h : DataW.trod enc P w base spare held nn t [v] = some x) :
    ∃ (A : Option Addr) (len cap : Nat), v = .slice A len cap ∧ len ≤ cap ∧ cap ≤ maxLen ∧ (0 < len → ∃ b off, A = some ⟨b, off, none⟩ ∧ b < w.heap.size ∧
      ∀ i, i < len → ∃ n, ∀ (j : Nat) (f : Field), fs[j]? = some f → ∃ (u : Value) (y : DataW H × List MemPlace), w.cell? ⟨b, off + (i * fs.size + j), none⟩ = some u ∧ DataW.trod enc P w base spare held n f.type [u] = some y) := by
  rcases open_slice ht h with ⟨hcs, _⟩ | ⟨a, len, cap, m, n, D, Pl, hcs, _, hl, hm, hmm, _, hi⟩
  · obtain rfl := (List.cons.inj hcs).1
    exact ⟨none, 0, 0, rfl, Nat.le_refl _, by simp, fun h => absurd h (by omega)⟩
  · obtain rfl := (List.cons.inj hcs).1
    have hle : len ≤ m := by rw [hmm]; split <;> omega
    have each : ∀ i, i < len → ∃ n, ∀ (j : Nat) (f : Field), fs[j]? = some f → ∃ (u : Value) (y : DataW H × List MemPlace), w.cell? (a.add (i * fs.size + j)) = some u ∧ DataW.trod enc P w base spare held n f.type [u] = some y := by
      intro i hil
      obtain ⟨cs', h1, h2⟩ := hi i (by omega)
      rw [hC] at h1
      obtain ⟨ys, n', _, _, hlen, hyl, hg⟩ := DataW.trod_struct he h2
      obtain ⟨_, hcl, hat⟩ := World.cells?_some h1
      refine ⟨n', fun j f hj => ?_⟩
      obtain ⟨ho, hk⟩ := hone_of hone j f hj
      have hjl : j < fs.size := (Array.getElem?_eq_some_iff.1 hj).1
      have h3 := hg j f hj
      rw [ho, hk, show (cs'.drop j).take 1 = [cs'[j]'(by omega)] from by rw [List.drop_eq_getElem_cons (by omega)]; rfl] at h3
      have hys : ys[j]? = some (ys[j]'(by omega)) := List.getElem?_eq_getElem (by omega)
      refine ⟨cs'[j]'(by omega), _, ?_, h3.trans hys⟩
      have := hat j hjl
      rw [add_add] at this
      rw [this, List.getElem?_eq_getElem (by omega)]
    refine ⟨some a, len, cap, rfl, hl, hm, fun hn => ?_⟩
    obtain ⟨b, off, spot⟩ := a
    obtain ⟨f0, hf0⟩ : ∃ f, fs[0]? = some f := ⟨_, Array.getElem?_eq_getElem hpos⟩
    obtain ⟨n0, hx⟩ := each 0 hn
    obtain ⟨u, y, hc0, _⟩ := hx 0 f0 hf0
    have hs : spot = none := by simpa [Addr.add] using World.cell?_spot hc0
    refine ⟨b, off, by rw [hs], by simpa [Addr.add] using World.block_lt_of_cell? _ _ hc0, fun i hil => ?_⟩
    obtain ⟨n1, hx⟩ := each i hil
    refine ⟨n1, fun j f hj => ?_⟩
    obtain ⟨u, y, h1, h2⟩ := hx j f hj
    rw [add_at hs] at h1
    exact ⟨u, y, h1, h2⟩
def _root_.Ino.Ent.Ok (e : Ent) : Prop := e.s.size ≤ maxLen ∧ i64R e.n
set_option maxRecDepth 100000 in
theorem ens_of_trod {H : Type} {enc : TypeId × Value → H} {w : World} {base : Nat} {spare : Nat → Bool} {held : Bool} {nn : Nat} {v : Value} {x : DataW H × List MemPlace}
    (h : DataW.trod enc Tryz.prog w base spare held nn 53 [v] = some x) :
    ∃ (A : Option Addr) (c : Nat) (l : List Ent), v = .slice A l.length c ∧ Ens w w.heap.size A l ∧ (∀ e ∈ l, Ent.Ok e) ∧ l.length ≤ c ∧ c ≤ maxLen := by
  obtain ⟨A, len, cap, rfl, h1, h2, h3⟩ := structs_of_trod Tryz.underlying53 Tryz.underlying114 (by kernel_rfl) (by kernel_rfl) (by decide) h
  by_cases hn : 0 < len
  · obtain ⟨b, off, rfl, hb, hx⟩ := h3 hn
    have each : ∀ i, i < len → ∃ d : Ent, (∀ (k : Nat) (x : Value), (ev d)[k]? = some x → w.cell? ⟨b, off + (i * 2 + k), none⟩ = some x) ∧ Ent.Ok d := by
      intro i hi
      obtain ⟨n, hy⟩ := hx i hi
      obtain ⟨u0, y0, c0, t0⟩ := hy 0 _ rfl
      obtain ⟨u1, y1, c1, t1⟩ := hy 1 _ rfl
      obtain ⟨a0, z0, _, w0⟩ := DataW.trod_string Tryz.underlying9 t0
      obtain ⟨a1, z1, _, w1⟩ := DataW.trod_int Tryz.underlying3 t1
      obtain rfl := (List.cons.inj z0).1
      obtain rfl := (List.cons.inj z1).1
      refine ⟨⟨a0, a1⟩, ?_, w0, i64R_of w1⟩
      intro k x hk
      match k, hk with
      | 0, hk => cases hk; exact c0
      | 1, hk => cases hk; exact c1
      | k + 2, hk => simp [ev] at hk
    obtain ⟨Y, hY⟩ := choose_lt (n := len) (p := fun i (d : Ent) => (∀ (k : Nat) (x : Value), (ev d)[k]? = some x → w.cell? ⟨b, off + (i * 2 + k), none⟩ = some x) ∧ Ent.Ok d) each
    refine ⟨_, cap, (List.range len).map Y, by simp, fun _ => ⟨b, off, rfl, hb, fun j d hj k x hk => ?_⟩, fun e he => ?_, by simpa using h1, h2⟩
    · obtain ⟨hj1, hj2⟩ := List.getElem?_eq_some_iff.1 hj
      simp at hj1 hj2
      subst hj2
      exact (hY j hj1).1 k x hk
    · obtain ⟨i, hi, rfl⟩ := List.mem_map.1 he
      exact (hY i (List.mem_range.1 hi)).2
  · obtain rfl : len = 0 := by omega
    exact ⟨A, cap, [], rfl, Ens.nil _ _ _, (fun e he => by cases he), by simp, h2⟩
end Go.Proofs.YtamndllolppmoaaGreat

namespace Go.Proofs.YtamndllolppmoaaGreat
open Wd U Go.RowKit Go.ChangeShapes Go.WideShapes Go.Sort
set_option linter.unusedVariables false
set_option maxRecDepth 100000

theorem freeze_drawn (w : World) (p : Addr) (n : Nat) : (w.freeze p n).drawn = w.drawn := by
  unfold World.freeze
  split <;> rfl
theorem clone_empty (w : World) : Calls Tryz.prog 120 #[.string ⟨#[]⟩] w (Grows (.string ⟨#[]⟩) w) := by
  go_enter Tryz.func120, Tryz.ntmps120
  go_wp2
  go_ret
  exact ⟨rfl, grow_none _⟩

set_option maxHeartbeats 4000000 in
set_option maxRecDepth 100000 in
theorem clone_some (s : ByteArray) (h0 : s.size ≠ 0) (hs : s.size ≤ 1000000) (w : World) : Calls Tryz.prog 120 #[.string s] w (Grows (.string s) w) := by
  obtain ⟨i0, hi, hz0, hz1, hz2⟩ := info_parts (show (Tryz.prog.info? 5).map (fun i => (i.zero, i.size, i.bytes)) = some (some (.int .u8 0), 1, 1) by kernel_rfl)
  have hsz : (Tryz.prog.info? 5).map (·.size) = some 1 := by rw [hi]; simp [hz1]
  have hco : Tryz.prog.cellsOf 5 = 1 := by simp [Program.cellsOf, hi, hz1]
  -- the room
  obtain ⟨M, hM⟩ : ∃ M, madeCells (Value.int .u8 0).cells (((s.size : Nat) : Int).toNat * i0.size) = M := ⟨_, rfl⟩
  have hMl : M.toList.length = s.size := by rw [Array.length_toList, ← hM, size_madeCells, hz1]; simp
  have hmk : ∀ W : World, (Instr.makeSlice 48 (.int .i64 (s.size : Int)) (.int .i64 (s.size : Int))).run Tryz.prog W = .ok (.slice (some ⟨W.heap.size, 0, none⟩) s.size s.size) (W.alloc (.cells M 5)) := fun W => by
    have h := run_make (P := Tryz.prog) W 48 5 i0 (.int .u8 0) Tryz.underlying48 hi hz0 .i64 .i64 (s.size : Int) (s.size : Int) (by omega) (by omega) (by rw [hz2]; omega) (by omega)
    rw [hM] at h
    simpa using h
  clear hM
  -- the bytes in it
  obtain ⟨W1, hW1⟩ : ∃ W1, w.alloc (.cells M 5) = W1 := ⟨_, rfl⟩
  have hh1 : W1.heap[w.heap.size]? = some (.cells M 5 (0, 0)) := by rw [← hW1]; exact heap_alloc_new w _
  have hcp := Lib.run_copy_row_string (P := Tryz.prog) W1 48 9 3 5 w.heap.size 0 s.size s.size s M 5 Tryz.underlying48 hsz hh1 (Nat.le_refl _) (by rw [← Array.length_toList, hMl]; omega)
  obtain ⟨Y, hY⟩ : ∃ Y, (M.toList.take 0 ++ Lib.byteCells s.data.toList ++ M.toList.drop (0 + s.size)).toArray = Y := ⟨_, rfl⟩
  rw [hY] at hcp
  have hYl : Y.toList = Lib.byteCells s.data.toList := by
    rw [← hY]
    simp only [List.take_zero, List.nil_append, Nat.zero_add]
    rw [List.drop_of_length_le (by omega), List.append_nil]
  have hYs : Y.size = s.size := by rw [← Array.length_toList, hYl, Lib.byteCells_length, ← Lib.size_eq]
  obtain ⟨W2, hW2⟩ : ∃ W2, W1.setRow w.heap.size Y = W2 := ⟨_, rfl⟩
  have hh2 : W2.heap[w.heap.size]? = some (.cells Y 5 (0, 0)) := by rw [← hW2]; exact setRow_heap _ _ M _ 5 (0, 0) hh1
  -- the text over them
  have hne : s.data.toList ≠ [] := fun e => h0 (by rw [Lib.size_eq, e]; rfl)
  have hus := Lib.run_unsafeString_row (P := Tryz.prog) W2 187 3 9 5 Tryz.underlying187 hco w.heap.size Y.size (by unfold World.shape?; rw [hh2]) s.data.toList hne (by rw [← Lib.size_eq]; omega) (by rw [← Lib.size_eq]; omega)
    (fun j x hx => Lib.cells_of_row hh2 Y.size j _ (by rw [List.take_of_length_le (by rw [Array.length_toList]; exact Nat.le_refl _), hYl]; simp [Lib.byteCells, hx]))
  rw [← Lib.size_eq] at hus
  have b1 : Below w.heap.size w W1 := by rw [← hW1]; exact (Below.refl _ w).alloc (Nat.le_refl _) _
  have b2 : Below w.heap.size W1 W2 := by rw [← hW2]; exact ⟨rfl, rfl, rfl, by simp, fun k hk => setRow_other _ _ _ _ (by omega)⟩
  have d2 : w.drawn ≤ W2.drawn := by rw [← hW2, ← hW1]; exact Nat.le_refl _
  have HB := Lib.hid (b1.trans b2)
  have HD := Lib.hid d2
  rw [hW2] at hcp
  clear hY hYl hne hco hsz hi hz0 hz1 hz2 hh1 hh2 b1 b2 d2 hMl hW2
  subst hW1
  go_enter Tryz.func120, Tryz.ntmps120
  go_wp2
  go_ret
  exact Grows.of_below (Lib.below_freeze HB.out (p := ⟨w.heap.size, 0, none⟩) (Nat.le_refl _) _) (by rw [freeze_drawn]; exact HD.out)

theorem cloneG (s : ByteArray) (hs : s.size ≤ 1000000) (w : World) : Calls Tryz.prog 79 #[.string s] w (Grows (.string s) w) := by
  have h : ∀ w, Calls Tryz.prog 120 #[.string s] w (Grows (.string s) w) := fun w => by
    by_cases h0 : s.size = 0
    · have : s = ⟨#[]⟩ := ByteArray.ext (Array.eq_empty_of_size_eq_zero h0)
      subst this
      exact clone_empty w
    · exact clone_some s h0 hs w
  go_enter Tryz.func79, Tryz.ntmps79
  go_wp2_with fail
  refine (h _).mono ?_
  rintro e w1 ⟨rfl, hw⟩
  go_wp2
  go_ret
  exact ⟨rfl, hw⟩
end Go.Proofs.YtamndllolppmoaaGreat

namespace Go.Proofs.YtamndllolppmoaaGreat
open Wd U Go.ChangeShapes Go.WideShapes Go.RowKit Go.Sort
set_option linter.unusedVariables false

theorem infoU64' : (Tryz.prog.info? 69).map (fun i => (i.zero, i.size, i.bytes)) = some (some (.int .u64 0), 1, 8) := by kernel_rfl
theorem infoU8 : (Tryz.prog.info? 5).map (fun i => (i.zero, i.size, i.bytes)) = some (some (.int .u8 0), 1, 1) := by kernel_rfl

def PackRel (b : List Nat) (W : World) (i o : Value) (w : World) : Prop :=
  ∃ k : Nat, k ≤ b.length ∧ i = .int .i64 k ∧ w.ownsRow W.heap.size 69 1 o (pk (b.take k)).length ((pk (b.take k)).map wd) ∧ Below W.heap.size W w
def ShiftRel (x m : Nat) (W : World) (v j : Value) (w : World) : Prop := ∃ q : Nat, q ≤ m ∧ j = .int .i64 q ∧ v = .int .u64 ((256 ^ q * x : Nat) : Int) ∧ w = W

def Packed (b : List Nat) (W : World) (e : Ending) (w : World) : Prop := ∃ v, e = .returned v ∧ w.ownsRow W.heap.size 69 1 v (pk b).length ((pk b).map wd) ∧ Below W.heap.size W w

set_option maxHeartbeats 2000000 in
theorem refPack_any (b : List Nat) (n : Nat) (hL : b.length = n) (hb : Bytes b) (A : Option Addr) (c : Nat) (w : World) (hn : n ≤ 1000) (hr : Row w w.heap.size A n (b.map bt)) :
    Calls Tryz.prog 98 #[.slice A n c] w (Packed b w) := by
  subst hL
  have HR := Lib.hid hr; have HBY := Lib.hid hb
  clear hr hb
  go_enter Tryz.func98, Tryz.ntmps98
  go_wp2
  go_loopw [10, 3] (fun i o wr => PackRel b w i o wr) (fun i _ _ => b.length - (intOf i).toNat)
  case atStart => exact ⟨0, Nat.zero_le _, rfl, by rw [List.take_zero]; exact ⟨rfl, .inl ⟨rfl, rfl⟩⟩, Below.refl _ _⟩
  case round =>
    obtain ⟨k, hk, rfl, hown, hbl⟩ := hrel
    have HB := Lib.hid hbl
    by_cases hlt : k < b.length
    · obtain ⟨b1, o1, x, rfl, _, hx, cx⟩ := (HR.out.below hbl).get hlt
      have hxb := HBY.out.at hx
      have ht := take_one hx
      obtain ⟨v, hv1, hv2, hv3⟩ := pk_step (HBY.out.take k) hxb
      rw [← ht] at hv3
      have hkl : (b.take k).length = k := by rw [List.length_take]; omega
      rw [hkl] at hv1 hv2 hv3
      have hplen : (pk (b.take k)).length = need k := by rw [pk_len, hkl]
      have hm : k % 8 < 8 := Nat.mod_lt _ (by omega)
      have hpl := pow_le hm
      obtain ⟨d, hd1, hd2⟩ : ∃ d : Nat, (k : Int) / 8 = (d : Int) ∧ d = k / 8 := ⟨k / 8, by omega, rfl⟩
      obtain ⟨r, hr1, hr2⟩ : ∃ r : Nat, (k : Int) % 8 = (r : Int) ∧ r = k % 8 := ⟨k % 8, by omega, rfl⟩
      rw [← hd2] at hv1 hv3
      rw [← hr2] at hv1 hv2 hv3 hm hpl
      unfold bt at cx
      have HV1 := Lib.hid hv1; have HV3 := Lib.hid hv3; have HD := Lib.hid hd2; have HRR := Lib.hid hr2; have HPL := Lib.hid hplen; have HOWN := Lib.hid hown
      have HPP := Lib.hid hpl; have HV2 := Lib.hid hv2
      clear hv1 hv2 hv3 hd2 hr2 hx ht hkl hplen hown hbl hpl
      by_cases h0 : r = 0
      · have hre : ((r : Int) == 0) = true := by rw [h0]; rfl
        have hkn : need k = d := by have := HD.out; have := HRR.out; unfold need; omega
        have hown := HOWN.out
        rw [HPL.out, hkn] at hown
        have hv1 := HV1.out
        have hv3 := HV3.out
        rw [if_pos h0] at hv1 hv3
        have HO0 := Lib.hid hown; have H1 := Lib.hid hv1; have H3 := Lib.hid hv3; have H0 := Lib.hid h0; have HKN := Lib.hid hkn
        have hd1k : d ≤ 1000 := by have := HD.out; omega
        have hbs := HB.out.size
        clear hown hv1 hv3 h0 hkn
        obtain ⟨wo, rfl⟩ : ∃ wo : World, wo = wr := ⟨_, rfl⟩
        go_wp2_with (at_builtin; refine wpList_append_row _ rfl (.tmp 18) (.tmp 19) 61 rfl w.heap.size 69 (.int .u64 0) 8 Tryz.underlying61 infoU64' rfl _ d ((pk (b.take k)).map wd) rfl (HO0.out.alloc _) _ (some ⟨wo.heap.size, 0, none⟩) 1 1 [.int .u64 0] rfl (Row.one _ _ _) (by simp [Value.oneCell']) (by unfold maxLen; omega) (by omega) (by simp; omega) ?_; intro v5 w5 hown5 hgr5 hat5; have hb5 : Below w.heap.size w w5 := (HB.out.alloc hbs _).grown hgr5 (by simp; omega) (own_base HO0.out); have ho5 : w5.ownsRow w.heap.size 69 1 v5 (d + 1) ((pk (b.take k) ++ [0]).map wd) := (by rw [List.map_append]; exact hown5); obtain ⟨g, cap, rfl, hg, hc1, hc2, hgl⟩ := own_open ho5 (by omega); obtain ⟨cv, fv⟩ := own_cell ho5 (k := d) (u := wd v) (by rw [List.getElem?_map, H1.out]; rfl); have cv' : w5.cell? ⟨g, d, none⟩ = some (.int .u64 (v : Int)) := cv; have HO := Lib.hid ho5; have HBF := Lib.hid hb5; clear hown5 hgr5 hat5 hb5 ho5 cv)
        have HLF := Lib.hid (show (pk (b.take k) ++ [0]).length = d + 1 by rw [List.length_append, HPL.out, HKN.out]; rfl)
        go_loopw [6, 7] (fun v j wr => ShiftRel x r w5 v j wr) (fun _ j _ => r - (intOf j).toNat)
        case atStart => exact ⟨0, Nat.zero_le _, rfl, by rw [Nat.pow_zero, Nat.one_mul], rfl⟩
        case round =>
          obtain ⟨q, hq, rfl, rfl, rfl⟩ := hrel
          obtain ⟨y, hy⟩ : ∃ y, y = 256 ^ q * x := ⟨_, rfl⟩
          rw [← hy]
          have hp2 : 256 ^ q ≤ 256 ^ r := Nat.pow_le_pow_right (by omega) hq
          by_cases hqr : q < r
          · have hp3 : 256 ^ (q + 1) ≤ 256 ^ r := Nat.pow_le_pow_right (by omega) hqr
            have hy2 : y * 256 = 256 ^ (q + 1) * x := by rw [hy, Nat.pow_succ, Nat.mul_right_comm]
            have hy3 : y * 256 ≤ 72057594037927936 * 255 := by
              rw [hy2]
              exact Nat.mul_le_mul (Nat.le_trans hp3 HPP.out) (by omega)
            have e1 : IntKind.u64.wrap ((y : Int) * 256) = ((y * 256 : Nat) : Int) := by rw [IntKind.wrap_u64]; omega
            have HY2 := Lib.hid hy2
            clear hp2 hp3 hy hy2 hy3
            go_wp2
            go_roundw
            case rel => exact ⟨q + 1, by omega, by go_num, by rw [← HY2.out]; exact congrArg (Value.int .u64) (by omega), rfl⟩
            case measure => simp [intOf]; omega
          · obtain rfl : q = r := by omega
            have hvy : v + y < 18446744073709551616 := by rw [hy]; exact HV2.out
            have e2 : IntKind.u64.wrap ((v : Int) + (y : Int)) = ((v + y : Nat) : Int) := by rw [IntKind.wrap_u64]; omega
            have HY := Lib.hid hy
            clear hp2 hy hvy
            go_wp2
            go_roundw
            case rel =>
              refine ⟨k + 1, by omega, by go_num, ?_, HBF.out.setCell hg _⟩
              rw [H3.out, ← HY.out]
              have ho := own_set HO.out d (wd (v + y))
              rw [← List.map_set] at ho
              rw [List.length_set, HLF.out]
              exact ho
            case measure => simp [intOf]; omega
      · have hre : ((r : Int) == 0) = false := by rw [beq_eq_false_iff_ne]; omega
        have hv1 := HV1.out
        have hv3 := HV3.out
        rw [if_neg h0] at hv1 hv3
        have hkn : need k = d + 1 := by have := HD.out; have := HRR.out; unfold need; omega
        have HKN := Lib.hid hkn; have H1 := Lib.hid hv1; have H3 := Lib.hid hv3
        have hown := HOWN.out
        rw [HPL.out, hkn] at hown
        obtain ⟨g, cap, rfl, hg, hc1, hc2, hgl⟩ := own_open hown (by omega)
        obtain ⟨cv, fv⟩ := own_cell hown (k := d) (u := wd v) (by rw [List.getElem?_map, hv1]; rfl)
        unfold wd at cv
        have HO := Lib.hid hown
        clear hv1 hv3 hkn hown
        obtain ⟨wo, rfl⟩ : ∃ wo : World, wo = wr := ⟨_, rfl⟩
        have HLF := Lib.hid (show (pk (b.take k)).length = d + 1 by rw [HPL.out, HKN.out])
        have HBF := Lib.hid HB.out
        go_wp2
        go_loopw [6, 7] (fun v j wr => ShiftRel x r wo v j wr) (fun _ j _ => r - (intOf j).toNat)
        case atStart => exact ⟨0, Nat.zero_le _, rfl, by rw [Nat.pow_zero, Nat.one_mul], rfl⟩
        case round =>
          obtain ⟨q, hq, rfl, rfl, rfl⟩ := hrel
          obtain ⟨y, hy⟩ : ∃ y, y = 256 ^ q * x := ⟨_, rfl⟩
          rw [← hy]
          have hp2 : 256 ^ q ≤ 256 ^ r := Nat.pow_le_pow_right (by omega) hq
          by_cases hqr : q < r
          · have hp3 : 256 ^ (q + 1) ≤ 256 ^ r := Nat.pow_le_pow_right (by omega) hqr
            have hy2 : y * 256 = 256 ^ (q + 1) * x := by rw [hy, Nat.pow_succ, Nat.mul_right_comm]
            have hy3 : y * 256 ≤ 72057594037927936 * 255 := by
              rw [hy2]
              exact Nat.mul_le_mul (Nat.le_trans hp3 HPP.out) (by omega)
            have e1 : IntKind.u64.wrap ((y : Int) * 256) = ((y * 256 : Nat) : Int) := by rw [IntKind.wrap_u64]; omega
            have HY2 := Lib.hid hy2
            clear hp2 hp3 hy hy2 hy3
            go_wp2
            go_roundw
            case rel => exact ⟨q + 1, by omega, by go_num, by rw [← HY2.out]; exact congrArg (Value.int .u64) (by omega), rfl⟩
            case measure => simp [intOf]; omega
          · obtain rfl : q = r := by omega
            have hvy : v + y < 18446744073709551616 := by rw [hy]; exact HV2.out
            have e2 : IntKind.u64.wrap ((v : Int) + (y : Int)) = ((v + y : Nat) : Int) := by rw [IntKind.wrap_u64]; omega
            have HY := Lib.hid hy
            clear hp2 hy hvy
            go_wp2
            go_roundw
            case rel =>
              refine ⟨k + 1, by omega, by go_num, ?_, HBF.out.setCell hg _⟩
              rw [H3.out, ← HY.out]
              have ho := own_set HO.out d (wd (v + y))
              rw [← List.map_set] at ho
              rw [List.length_set, HLF.out]
              exact ho
            case measure => simp [intOf]; omega
    · obtain rfl : k = b.length := by omega
      have ho := hown
      rw [List.take_length] at ho
      have HO := Lib.hid ho
      clear ho hown
      go_wp2
      go_ret
      exact ⟨_, rfl, HO.out, HB.out⟩
end Go.Proofs.YtamndllolppmoaaGreat

namespace Go.Proofs.YtamndllolppmoaaGreat
open Wd Ino Go.RowKit Go.ChangeShapes Go.WideShapes Go.ChangeAt Go.Deep Go.Sort
set_option linter.unusedVariables false
/-- one node, plainly: its numbers, and where its pages and names lie -/
structure Nd where
  ino : Int
  kind : Int
  links : Int
  size : Int
  up : Int
  A : Option Addr
  ac : Nat
  pages : List Int
  B : Option Addr
  bc : Nat
  names : List Ent
def Nd.val (n : Nd) : Value := .agg #[.int .i64 n.ino, .int .i64 n.kind, .int .i64 n.links, .int .i64 n.size, .int .i64 n.up, .slice n.A n.pages.length n.ac, .slice n.B n.names.length n.bc]
def iv (x : Int) : Value := .int .i64 x
structure Nd.Ok (n : Nd) (w : World) (H : Nat) : Prop where
  ino : i64R n.ino
  kind : i64R n.kind
  links : i64R n.links
  size : i64R n.size
  up : i64R n.up
  row : Row w H n.A n.pages.length (n.pages.map iv)
  int : ∀ x ∈ n.pages, i64R x
  le : n.pages.length ≤ maxLen
  cap : n.pages.length ≤ n.ac
  cle : n.ac ≤ maxLen
  ens : Ens w H n.B n.names
  ok : ∀ e ∈ n.names, e.Ok
  nle : n.names.length ≤ maxLen
theorem Nd.Ok.below {n : Nd} {w w' : World} {H : Nat} (h : n.Ok w H) (hb : Below H w w') : n.Ok w' H := ⟨h.ino, h.kind, h.links, h.size, h.up, h.row.below hb, h.int, h.le, h.cap, h.cle, h.ens.below hb, h.ok, h.nle⟩
theorem Nd.Ok.more {n : Nd} {w : World} {H H' : Nat} (h : n.Ok w H) (hH : H ≤ H') : n.Ok w H' := ⟨h.ino, h.kind, h.links, h.size, h.up, h.row.more hH, h.int, h.le, h.cap, h.cle, h.ens.more hH, h.ok, h.nle⟩
theorem Nd.Ok.at_ {n : Nd} {w w' : World} (h : n.Ok w w.heap.size) (hb : Below w.heap.size w w') : n.Ok w' w'.heap.size := (h.below hb).more hb.size
set_option maxRecDepth 100000 in
theorem open_node {H : Type} {enc : TypeId × Value → H} {w : World} {base : Nat} {spare : Nat → Bool} {held : Bool} {r : Reach} {b0 : Nat} {v : Value} {d : DataW H} {p : List MemPlace}
    (hv : Value.okWide Tryz.prog w r b0 55 v) (h : DataW.Trod enc Tryz.prog w base spare held 55 v d p) : ∃ n : Nd, v = n.val ∧ n.Ok w w.heap.size := by
  obtain ⟨cs, rfl, hsz, n, hy⟩ := open_struct Tryz.underlying55 (by kernel_rfl) (by kernel_rfl) hv h
  obtain ⟨u0, y0, c0, t0⟩ := hy 0 _ rfl
  obtain ⟨u1, y1, c1, t1⟩ := hy 1 _ rfl
  obtain ⟨u2, y2, c2, t2⟩ := hy 2 _ rfl
  obtain ⟨u3, y3, c3, t3⟩ := hy 3 _ rfl
  obtain ⟨u4, y4, c4, t4⟩ := hy 4 _ rfl
  obtain ⟨u5, y5, c5, t5⟩ := hy 5 _ rfl
  obtain ⟨u6, y6, c6, t6⟩ := hy 6 _ rfl
  obtain ⟨a0, z0, _, w0⟩ := DataW.trod_int Tryz.underlying3 t0
  obtain ⟨a1, z1, _, w1⟩ := DataW.trod_int Tryz.underlying3 t1
  obtain ⟨a2, z2, _, w2⟩ := DataW.trod_int Tryz.underlying3 t2
  obtain ⟨a3, z3, _, w3⟩ := DataW.trod_int Tryz.underlying3 t3
  obtain ⟨a4, z4, _, w4⟩ := DataW.trod_int Tryz.underlying3 t4
  obtain rfl := (List.cons.inj z0).1
  obtain rfl := (List.cons.inj z1).1
  obtain rfl := (List.cons.inj z2).1
  obtain rfl := (List.cons.inj z3).1
  obtain rfl := (List.cons.inj z4).1
  obtain ⟨A, ac, l, rfl, r, ok, q1, q2⟩ := row_of_trod (f := iv) (ok := i64R) Tryz.underlying40 (by kernel_rfl) (fun n v x h => by obtain ⟨b, hb, _, hw⟩ := DataW.trod_int Tryz.underlying3 h; exact ⟨b, (List.cons.inj hb).1, i64R_of hw⟩) t5
  obtain ⟨B, bc, m, rfl, re, oke, q3, q4⟩ := ens_of_trod t6
  refine ⟨⟨a0, a1, a2, a3, a4, A, ac, l, B, bc, m⟩, ?_, ⟨i64R_of w0, i64R_of w1, i64R_of w2, i64R_of w3, i64R_of w4, r, ok, Nat.le_trans q1 q2, q1, q2, re, oke, Nat.le_trans q3 q4⟩⟩
  unfold Nd.val
  congr 1
  apply Array.ext_getElem?
  intro j
  match j with
  | 0 => exact c0
  | 1 => exact c1
  | 2 => exact c2
  | 3 => exact c3
  | 4 => exact c4
  | 5 => exact c5
  | 6 => exact c6
  | j + 7 =>
    have hs7 : cs.size = 7 := hsz
    rw [Array.getElem?_eq_none (by omega), Array.getElem?_eq_none (by simp)]
end Go.Proofs.YtamndllolppmoaaGreat
