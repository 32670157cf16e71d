import Derived.Deep.Fields
import Derived.ChangeSame
import Derived.Test.YtbejbiogabpmfaaGreatG01
import Derived.Test.YtbejbiogabpmfaaGreatG00
import Derived.Lib.BufferWrite
import Derived.Lib.UnsafeStr
import Derived.Deep.RegionWith
import Derived.Laws.BytesString
import Derived.Deep.WholeRow
import Derived.Laws.IdiomStrings
import Derived.BigQuiet
import Derived.Laws.Strings
import Derived.WalkMore

namespace Wd
open Go Go.RowKit Go.ChangeShapes Go.WideShapes Go.ChangeAt Go.Deep

section
variable {H : Type} {enc : TypeId × Value → H} {P : Program} {w : World} {base : Nat} {spare : Nat → Bool} {held : Bool}

theorem add_at {b off k : Nat} {spot : Option Nat} (hs : spot = none) : (⟨b, off, spot⟩ : Addr).add k = ⟨b, off + k, none⟩ := by
  subst hs; unfold Addr.add; split <;> simp_all

/-- a field's value, read as a slice of one-cell elements: a row -/
theorem row_of_trod {α : Type} [Inhabited α] {f : α → Value} {ok : α → Prop} {t e : TypeId} {v : Value} {m : Nat} {x : DataW H × List MemPlace} (ht : P.underlying t = some (.slice e)) (hc : P.cellsOf e = 1)
    (hel : ∀ n v x, DataW.trod enc P w base spare held n e [v] = some x → ∃ y, v = f y ∧ ok y) (h : DataW.trod enc P w base spare held m t [v] = some x) :
    ∃ (A : Option Addr) (c : Nat) (l : List α), v = .slice A l.length c ∧ Row w w.heap.size A l.length (l.map f) ∧ (∀ y ∈ l, ok y) ∧ l.length ≤ c ∧ c ≤ maxLen := by
  rcases open_slice1 ht hc h with ⟨hcs, _⟩ | ⟨a, len, cap, m', n, V, D, Pl, hcs, _, hl, hm, hmm, _, hx⟩
  · obtain rfl := (List.cons.inj hcs).1
    exact ⟨none, 0, [], rfl, Row.nil, by simp, by simp, by simp⟩
  · obtain rfl := (List.cons.inj hcs).1
    have hle : len ≤ m' := by rw [hmm]; split <;> omega
    obtain ⟨Y, hY⟩ := choose_lt (n := len) (p := fun i y => V i = f y ∧ ok y) (fun i hi => hel _ _ _ (hx i (by omega)).2)
    refine ⟨some a, cap, (List.range len).map Y, by simp, ⟨by simp, fun hn => ?_⟩, ?_, by simp; omega, hm⟩
    · simp only [List.length_map, List.length_range] at hn
      obtain ⟨b, off, spot⟩ := a
      have hc0 := (hx 0 (by omega)).1
      have hs : spot = none := by simpa [Addr.add] using World.cell?_spot hc0
      refine ⟨b, off, by rw [hs], ?_, fun j hj => ?_⟩
      · simpa [Addr.add] using World.block_lt_of_cell? _ _ hc0
      · simp at hj
        have := (hx j (by omega)).1
        rw [(hY j hj).1, add_at hs] at this
        simpa using this
    · intro y hy
      obtain ⟨i, hi, rfl⟩ := List.mem_map.1 hy
      exact (hY i (List.mem_range.1 hi)).2

end
end Wd

/-! Numbers of 64 bits; structs by value; what grows. -/
namespace Go.Proofs.YtbejbiogabpmfaaGreat
open Wd Go.RowKit Go.ChangeShapes Go.WideShapes Go.ChangeAt Go.Deep Go.Sort
set_option linter.unusedVariables false
def i64R (n : Int) : Prop := -9223372036854775808 ≤ n ∧ n ≤ 9223372036854775807
theorem i64R_of {n : Int} (h : (Lit.int .i64 n).wf = true) : i64R n := by
  have h : IntKind.i64.min ≤ n ∧ n ≤ IntKind.i64.max := by simpa [Lit.wf] using h
  have m1 : IntKind.i64.min = -9223372036854775808 := by decide
  have m2 : IntKind.i64.max = 9223372036854775807 := by decide
  unfold i64R
  omega
/-- where nothing that was there has turned, and no draw is undone, the world has grown -/
theorem grow_of_below {w w' : World} (h : Below w.heap.size w w') (hd : w.drawn ≤ w'.drawn) : ∃ q os, w' = grow (w.drewN q) os := by
  refine ⟨w'.drawn - w.drawn, w'.heap.extract w.heap.size, ?_⟩
  obtain ⟨hp, tp, dr, os, out⟩ := w
  obtain ⟨hp', tp', dr', os', out'⟩ := w'
  obtain ⟨h1, h2, h3, h4, h5⟩ := h
  simp only at h1 h2 h3 h4 h5 hd
  subst h1 h2 h3
  have hh : hp' = hp ++ hp'.extract hp.size := by
    apply Array.ext_getElem?
    intro i
    by_cases hi : i < hp.size
    · rw [Array.getElem?_append_left hi]; exact h5 i hi
    · rw [Array.getElem?_append_right (by omega), Array.getElem?_extract]
      by_cases hj : i < hp'.size
      · rw [if_pos (by omega)]; congr 1; omega
      · rw [if_neg (by omega)]; exact Array.getElem?_eq_none (by omega)
  unfold grow World.drewN
  simp only [World.mk.injEq, and_true]
  exact ⟨hh, trivial, by omega⟩
theorem Grows.drawn {v : Value} {w w' : World} {e : Ending} (h : Grows v w e w') : w.drawn ≤ w'.drawn := by
  obtain ⟨_, q, os, rfl⟩ := h
  show w.drawn ≤ w.drawn + q
  omega

theorem Grows.of_below {v : Value} {w w' : World} (h : Below w.heap.size w w') (hd : w.drawn ≤ w'.drawn) : Grows v w (.returned v) w' := ⟨rfl, grow_of_below h hd⟩
end Go.Proofs.YtbejbiogabpmfaaGreat

namespace Ino
open Go
/-- a name in a directory, plainly -/
structure Ent where
  s : ByteArray
  n : Int
deriving DecidableEq
instance : Inhabited Ent := ⟨⟨.empty, 0⟩⟩
end Ino
namespace Go.Proofs.YtbejbiogabpmfaaGreat
open Wd Ino Go.RowKit Go.ChangeShapes Go.WideShapes Go.ChangeAt Go.Deep Go.Sort
set_option linter.unusedVariables false
/-- a name's cells -/
def ev (e : Ent) : List Value := [.string e.s, .int .i64 e.n]
def evals (l : List Ent) : List Value := l.flatMap ev
theorem evals_cons (e : Ent) (l : List Ent) : evals (e :: l) = ev e ++ evals l := by unfold evals; rw [List.flatMap_cons]
theorem evals_append (l m : List Ent) : evals (l ++ m) = evals l ++ evals m := by unfold evals; simp [List.flatMap_append]
theorem evals_len (l : List Ent) : (evals l).length = l.length * 2 := by
  induction l with
  | nil => rfl
  | cons e l ih => rw [evals_cons, List.length_append, ih]; simp [ev]; omega
theorem evals_at : ∀ (l : List Ent) (j k : Nat) (e : Ent) (x : Value), l[j]? = some e → (ev e)[k]? = some x → (evals l)[j * 2 + k]? = some x := by
  intro l
  induction l with
  | nil => intro j k e x hj; simp at hj
  | cons q l ih =>
    intro j k e x hj hk
    have hlen : (ev q).length = 2 := rfl
    rw [evals_cons]
    cases j with
    | zero =>
      simp at hj
      subst hj
      have : k < (ev q).length := (List.getElem?_eq_some_iff.1 hk).1
      rw [Nat.zero_mul, Nat.zero_add, List.getElem?_append_left this]
      exact hk
    | succ j =>
      rw [List.getElem?_append_right (by rw [hlen]; omega), hlen, show (j + 1) * 2 + k - 2 = j * 2 + k by omega]
      exact ih j k e x (by simpa using hj) hk
theorem evals_get {l : List Ent} : ∀ {J : Nat} {u : Value}, (evals l)[J]? = some u → ∃ e, l[J / 2]? = some e ∧ (ev e)[J % 2]? = some u := by
  induction l with
  | nil => intro J u h; simp [evals] at h
  | cons e l ih =>
    intro J u h
    rw [evals_cons] at h
    by_cases hJ : J < 2
    · rw [List.getElem?_append_left (by simpa [ev] using hJ)] at h
      exact ⟨e, by rw [Nat.div_eq_of_lt hJ]; rfl, by rw [Nat.mod_eq_of_lt hJ]; exact h⟩
    · rw [List.getElem?_append_right (by simp [ev]; omega)] at h
      obtain ⟨x, h1, h2⟩ := ih h
      have hl : (ev e).length = 2 := rfl
      rw [hl] at h1 h2
      refine ⟨x, ?_, ?_⟩
      · rw [show J / 2 = (J - 2) / 2 + 1 by omega]; exact h1
      · rw [show J % 2 = (J - 2) % 2 by omega]; exact h2
theorem one2 (e : Ent) : ∀ u ∈ ev e, u.oneCell' = true := by
  intro u hu
  unfold ev at hu
  simp only [List.mem_cons, List.not_mem_nil, or_false] at hu
  rcases hu with rfl | rfl <;> rfl
/-- the row l of names lies at A, in a block below hi -/
def Ens (w : World) (hi : Nat) (A : Option Addr) (l : List Ent) : Prop := 0 < l.length → ∃ b off, A = some ⟨b, off, none⟩ ∧ b < hi ∧ ∀ (j : Nat) (e : Ent), l[j]? = some e → ∀ (k : Nat) (x : Value), (ev e)[k]? = some x → w.cell? ⟨b, off + (j * 2 + k), none⟩ = some x
theorem Ens.nil (w : World) (hi : Nat) (A : Option Addr) : Ens w hi A [] := fun h => absurd h (by simp)
theorem Ens.below {w w' : World} {hi : Nat} {A : Option Addr} {l : List Ent} (h : Ens w hi A l) (hk : Below hi w w') : Ens w' hi A l := fun hn => by
  obtain ⟨b, off, e, h2, hx⟩ := h hn
  refine ⟨b, off, e, h2, fun j d hj k x hk' => ?_⟩
  have h3 := hx j d hj k x hk'
  unfold World.cell? at h3 ⊢
  rw [hk.block b h2]
  exact h3
theorem Ens.more {w : World} {hi hi' : Nat} {A : Option Addr} {l : List Ent} (h : Ens w hi A l) (h2 : hi ≤ hi') : Ens w hi' A l := fun hn => by
  obtain ⟨b, off, e, h4, hx⟩ := h hn
  exact ⟨b, off, e, by omega, hx⟩
theorem Ens.at_ {w w' : World} {A : Option Addr} {l : List Ent} (h : Ens w w.heap.size A l) (hb : Below w.heap.size w w') : Ens w' w'.heap.size A l := (h.below hb).more hb.size
theorem ens_cells {w : World} {hi : Nat} {A : Option Addr} {l : List Ent} (h : Ens w hi A l) {k : Nat} {e : Ent} (hk : l[k]? = some e) : ∃ b off, A = some ⟨b, off, none⟩ ∧ b < hi ∧
    w.cell? ⟨b, off + k * 2, none⟩ = some (.string e.s) ∧ w.cell? ⟨b, off + k * 2 + 1, none⟩ = some (.int .i64 e.n) := by
  obtain ⟨b, off, rfl, h2, hx⟩ := h (by have := (List.getElem?_eq_some_iff.1 hk).1; omega)
  have g := hx k e hk
  exact ⟨b, off, rfl, h2, g 0 _ rfl, g 1 _ rfl⟩
/-- a row of names that the call made -/
theorem infoE : (Tryz.prog.info? 103).map (fun i => (i.zero, i.size, i.bytes)) = some (some (.agg #[.string ByteArray.empty, .int .i64 0]), 2, 24) := by kernel_rfl
def OwnE (w : World) (base : Nat) (v : Value) (l : List Ent) : Prop := w.ownsRow base 103 2 v l.length (evals l)
theorem own_nilE (w : World) (base : Nat) : OwnE w base (.slice none 0 0) [] := World.ownsRow_nil _ _ _ _
theorem OwnE.form {w : World} {base : Nat} {v : Value} {l : List Ent} (h : OwnE w base v l) : ∃ A c, v = .slice A l.length c ∧ l.length ≤ c ∧ Ens w w.heap.size A l := by
  rcases h.2 with ⟨rfl, h0⟩ | ⟨g, cap, cur, rfl, hb, hh, hc, hm, _, ht⟩
  · obtain rfl : l = [] := List.eq_nil_of_length_eq_zero h0
    exact ⟨none, 0, rfl, Nat.le_refl _, Ens.nil _ _ _⟩
  · refine ⟨_, cap, rfl, hc, fun _ => ⟨g, 0, rfl, lt_of_block hh, fun j e hj k x hk => ?_⟩⟩
    have hx := evals_at l j k e x hj hk
    rw [← ht] at hx
    have hcell : w.cell? ⟨g, 0 + (j * 2 + k), none⟩ = cur[0 + (j * 2 + k)]? := cell_of_row w g _ cur _ (0, 0) hh
    rw [hcell, Nat.zero_add, ← Array.getElem?_toList]
    rw [List.getElem?_take] at hx
    split at hx
    · exact hx
    · cases hx
theorem OwnE.mono {w : World} {b1 b2 : Nat} {v : Value} {l : List Ent} (h : OwnE w b1 v l) (hb : b2 ≤ b1) : OwnE w b2 v l := by
  rcases h with ⟨h1, h2⟩
  refine ⟨h1, ?_⟩
  rcases h2 with h2 | ⟨g, cap, cur, h2, h3, h4⟩
  · exact .inl h2
  · exact .inr ⟨g, cap, cur, h2, Nat.le_trans hb h3, h4⟩
theorem OwnE.below {w w' : World} {base : Nat} {v : Value} {l : List Ent} (h : OwnE w base v l) (hb : Below w.heap.size w w') : OwnE w' base v l := by
  refine ⟨h.1, ?_⟩
  rcases h.2 with ⟨h1, h0⟩ | ⟨g, cap, cur, h1, h2, hh, h3⟩
  · exact .inl ⟨h1, h0⟩
  · exact .inr ⟨g, cap, cur, h1, h2, (hb.block g (lt_of_block hh)).trans hh, h3⟩
/-- append of a row of names -/
theorem run_append_ens {w : World} {base hi : Nat} {v : Value} {l m : List Ent} {A : Option Addr} {c : Nat} (ty : TypeId) (hown : OwnE w base v l) (hx : Ens w hi A m) (hl : l.length + m.length ≤ 100000) (hb : base ≤ w.heap.size) :
    ∃ v' w', (Builtin.append_ #[49, 49] ty #[v, .slice A m.length c]).run Tryz.prog w = .ok v' w' ∧ OwnE w' base v' (l ++ m) ∧ w.grownBy w' v.ownBlock ∧ (v'.ownBlock = v.ownBlock ∨ v'.ownBlock = some w.heap.size) := by
  obtain ⟨i, i1, i2, i3, i4⟩ := info_parts infoE
  have fin : ∀ v' (w' : World), w'.ownsRow base 103 2 v' (l.length + m.length) (evals l ++ evals m) → OwnE w' base v' (l ++ m) := fun v' w' h => by
    unfold OwnE; rw [List.length_append, evals_append]; exact h
  cases A with
  | none =>
    have hm : m = [] := by
      cases m with
      | nil => rfl
      | cons e m =>
        obtain ⟨b, off, h, _⟩ := hx (by simp)
        cases h
    subst hm
    refine ⟨v, w, ?_, by simpa using hown, World.grownBy.refl w _, .inl rfl⟩
    rcases hown.2 with ⟨rfl, h0⟩ | ⟨g, cap, cur, rfl, _, _, hnc, _⟩
    · simp [Builtin.append_, run_underlying Tryz.underlying49, Go.sizeOf, typeInfo, i1, Builtin.lenOf, Builtin.firstCells]
    · simp [Builtin.append_, run_underlying Tryz.underlying49, Go.sizeOf, typeInfo, i1, Builtin.lenOf, Builtin.firstCells, hnc, storeCells]
  | some ad =>
    obtain ⟨v', w', h2, h3, h4, _, h5⟩ := run_append_own_at (P := Tryz.prog) w base 49 ty 103 i (.agg #[.string ByteArray.empty, .int .i64 0]) 2 24 Tryz.underlying49 i1 i2 i3 i4 rfl (by decide) v l.length (evals l) hown ad m.length c (evals m) (evals_len m) (fun j u hu => by
      obtain ⟨e, h1, h2⟩ := evals_get hu
      obtain ⟨b, off, h3, _, hc⟩ := hx (by have := (List.getElem?_eq_some_iff.1 h1).1; omega)
      cases h3
      have h4 := hc _ e h1 _ u h2
      have e1 : (⟨b, off, none⟩ : Addr).add j = ⟨b, off + j, none⟩ := by unfold Addr.add; split <;> simp_all
      rw [e1]
      rw [show j / 2 * 2 + j % 2 = j by omega] at h4
      exact h4) (fun u hu => by
      obtain ⟨e, _, he⟩ := List.mem_flatMap.1 hu
      exact one2 e u he) (by unfold maxLen; omega) (by omega) hb
    exact ⟨v', w', h2, fin _ _ h3, h4, h5⟩
theorem wpList_append_ens {ops : Array Oper} {rest : List Oper} {o : Oper} {a : Act} {Q : Exit → Act → World → Prop} {w : World} (hgd : o.guard = none) (s x : Operand)
    (ho : o.op = .call { callee := .builtin .append, args := #[s, x], argTypes := #[49, 49] })
    {base hi : Nat} {v : Value} {l m : List Ent} {A : Option Addr} {c : Nat} (hs : a.eval s = v) (hx' : a.eval x = .slice A m.length c) (hown : OwnE w base v l) (hx : Ens w hi A m) (hl : l.length + m.length ≤ 100000) (hb : base ≤ w.heap.size)
    (h : ∀ v' w', OwnE w' base v' (l ++ m) → w.grownBy w' v.ownBlock → (v'.ownBlock = v.ownBlock ∨ v'.ownBlock = some w.heap.size) → wpList Tryz.prog ops Q rest (a.put o.dst v') w') : wpList Tryz.prog ops Q (o :: rest) a w := by
  refine wpList_plain hgd fun _ hK => ?_
  obtain ⟨v', w', hrun, h2, h3, h4⟩ := run_append_ens (c := c) o.type hown hx hl hb
  unfold Oper.wp execOp
  simp only [ho, resolve, invoke, builtin, Sem.run_bind, Sem.run_pure, Result.andThen_ok, List.map_toArray, List.map_cons, List.map_nil, hs, hx', hrun]
  exact hK _ _ (h v' w' h2 h3 h4)

/-! a node, opened -/
def _root_.Ino.Ent.Ok (e : Ent) : Prop := e.s.size ≤ maxLen ∧ i64R e.n
end Go.Proofs.YtbejbiogabpmfaaGreat

namespace Go.Proofs.YtbejbiogabpmfaaGreat
open Wd U Go.RowKit Go.ChangeShapes Go.WideShapes Go.Sort
set_option linter.unusedVariables false
set_option maxRecDepth 100000

theorem freeze_drawn (w : World) (p : Addr) (n : Nat) : (w.freeze p n).drawn = w.drawn := by
  unfold World.freeze
  split <;> rfl
theorem clone_empty (w : World) : Calls Tryz.prog 161 #[.string ⟨#[]⟩] w (Grows (.string ⟨#[]⟩) w) := by
  go_enter Tryz.func161, Tryz.ntmps161
  go_wp2
  go_ret
  exact ⟨rfl, grow_none _⟩

set_option maxHeartbeats 4000000 in
set_option maxRecDepth 100000 in
theorem clone_some (s : ByteArray) (h0 : s.size ≠ 0) (hs : s.size ≤ 1000000) (w : World) : Calls Tryz.prog 161 #[.string s] w (Grows (.string s) w) := by
  obtain ⟨i0, hi, hz0, hz1, hz2⟩ := info_parts (show (Tryz.prog.info? 5).map (fun i => (i.zero, i.size, i.bytes)) = some (some (.int .u8 0), 1, 1) by kernel_rfl)
  have hsz : (Tryz.prog.info? 5).map (·.size) = some 1 := by rw [hi]; simp [hz1]
  have hco : Tryz.prog.cellsOf 5 = 1 := by simp [Program.cellsOf, hi, hz1]
  -- the room
  obtain ⟨M, hM⟩ : ∃ M, madeCells (Value.int .u8 0).cells (((s.size : Nat) : Int).toNat * i0.size) = M := ⟨_, rfl⟩
  have hMl : M.toList.length = s.size := by rw [Array.length_toList, ← hM, size_madeCells, hz1]; simp
  have hmk : ∀ W : World, (Instr.makeSlice 62 (.int .i64 (s.size : Int)) (.int .i64 (s.size : Int))).run Tryz.prog W = .ok (.slice (some ⟨W.heap.size, 0, none⟩) s.size s.size) (W.alloc (.cells M 5)) := fun W => by
    have h := run_make (P := Tryz.prog) W 62 5 i0 (.int .u8 0) Tryz.underlying62 hi hz0 .i64 .i64 (s.size : Int) (s.size : Int) (by omega) (by omega) (by rw [hz2]; omega) (by omega)
    rw [hM] at h
    simpa using h
  clear hM
  -- the bytes in it
  obtain ⟨W1, hW1⟩ : ∃ W1, w.alloc (.cells M 5) = W1 := ⟨_, rfl⟩
  have hh1 : W1.heap[w.heap.size]? = some (.cells M 5 (0, 0)) := by rw [← hW1]; exact heap_alloc_new w _
  have hcp := Lib.run_copy_row_string (P := Tryz.prog) W1 62 9 3 5 w.heap.size 0 s.size s.size s M 5 Tryz.underlying62 hsz hh1 (Nat.le_refl _) (by rw [← Array.length_toList, hMl]; omega)
  obtain ⟨Y, hY⟩ : ∃ Y, (M.toList.take 0 ++ Lib.byteCells s.data.toList ++ M.toList.drop (0 + s.size)).toArray = Y := ⟨_, rfl⟩
  rw [hY] at hcp
  have hYl : Y.toList = Lib.byteCells s.data.toList := by
    rw [← hY]
    simp only [List.take_zero, List.nil_append, Nat.zero_add]
    rw [List.drop_of_length_le (by omega), List.append_nil]
  have hYs : Y.size = s.size := by rw [← Array.length_toList, hYl, Lib.byteCells_length, ← Lib.size_eq]
  obtain ⟨W2, hW2⟩ : ∃ W2, W1.setRow w.heap.size Y = W2 := ⟨_, rfl⟩
  have hh2 : W2.heap[w.heap.size]? = some (.cells Y 5 (0, 0)) := by rw [← hW2]; exact setRow_heap _ _ M _ 5 (0, 0) hh1
  -- the text over them
  have hne : s.data.toList ≠ [] := fun e => h0 (by rw [Lib.size_eq, e]; rfl)
  have hus := Lib.run_unsafeString_row (P := Tryz.prog) W2 197 3 9 5 Tryz.underlying197 hco w.heap.size Y.size (by unfold World.shape?; rw [hh2]) s.data.toList hne (by rw [← Lib.size_eq]; omega) (by rw [← Lib.size_eq]; omega)
    (fun j x hx => Lib.cells_of_row hh2 Y.size j _ (by rw [List.take_of_length_le (by rw [Array.length_toList]; exact Nat.le_refl _), hYl]; simp [Lib.byteCells, hx]))
  rw [← Lib.size_eq] at hus
  have b1 : Below w.heap.size w W1 := by rw [← hW1]; exact (Below.refl _ w).alloc (Nat.le_refl _) _
  have b2 : Below w.heap.size W1 W2 := by rw [← hW2]; exact ⟨rfl, rfl, rfl, by simp, fun k hk => setRow_other _ _ _ _ (by omega)⟩
  have d2 : w.drawn ≤ W2.drawn := by rw [← hW2, ← hW1]; exact Nat.le_refl _
  have HB := Lib.hid (b1.trans b2)
  have HD := Lib.hid d2
  rw [hW2] at hcp
  clear hY hYl hne hco hsz hi hz0 hz1 hz2 hh1 hh2 b1 b2 d2 hMl hW2
  subst hW1
  go_enter Tryz.func161, Tryz.ntmps161
  go_wp2
  go_ret
  exact Grows.of_below (Lib.below_freeze HB.out (p := ⟨w.heap.size, 0, none⟩) (Nat.le_refl _) _) (by rw [freeze_drawn]; exact HD.out)

theorem cloneG (s : ByteArray) (hs : s.size ≤ 1000000) (w : World) : Calls Tryz.prog 114 #[.string s] w (Grows (.string s) w) := by
  have h : ∀ w, Calls Tryz.prog 161 #[.string s] w (Grows (.string s) w) := fun w => by
    by_cases h0 : s.size = 0
    · have : s = ⟨#[]⟩ := ByteArray.ext (Array.eq_empty_of_size_eq_zero h0)
      subst this
      exact clone_empty w
    · exact clone_some s h0 hs w
  go_enter Tryz.func114, Tryz.ntmps114
  go_wp2_with fail
  refine (h _).mono ?_
  rintro e w1 ⟨rfl, hw⟩
  go_wp2
  go_ret
  exact ⟨rfl, hw⟩
end Go.Proofs.YtbejbiogabpmfaaGreat

namespace Go.Proofs.YtbejbiogabpmfaaGreat
open Wd Ino Go.RowKit Go.ChangeShapes Go.WideShapes Go.ChangeAt Go.Deep Go.Sort
set_option linter.unusedVariables false
/-- one node, plainly: its numbers, and where its pages and names lie -/
structure Nd where
  ino : Int
  kind : Int
  links : Int
  size : Int
  up : Int
  A : Option Addr
  ac : Nat
  pages : List Int
  B : Option Addr
  bc : Nat
  names : List Ent
def Nd.val (n : Nd) : Value := .agg #[.int .i64 n.ino, .int .i64 n.kind, .int .i64 n.links, .int .i64 n.size, .int .i64 n.up, .slice n.A n.pages.length n.ac, .slice n.B n.names.length n.bc]
def iv (x : Int) : Value := .int .i64 x
structure Nd.Ok (n : Nd) (w : World) (H : Nat) : Prop where
  ino : i64R n.ino
  kind : i64R n.kind
  links : i64R n.links
  size : i64R n.size
  up : i64R n.up
  row : Row w H n.A n.pages.length (n.pages.map iv)
  int : ∀ x ∈ n.pages, i64R x
  le : n.pages.length ≤ maxLen
  cap : n.pages.length ≤ n.ac
  cle : n.ac ≤ maxLen
  ens : Ens w H n.B n.names
  ok : ∀ e ∈ n.names, e.Ok
  nle : n.names.length ≤ maxLen
theorem Nd.Ok.below {n : Nd} {w w' : World} {H : Nat} (h : n.Ok w H) (hb : Below H w w') : n.Ok w' H := ⟨h.ino, h.kind, h.links, h.size, h.up, h.row.below hb, h.int, h.le, h.cap, h.cle, h.ens.below hb, h.ok, h.nle⟩
theorem Nd.Ok.more {n : Nd} {w : World} {H H' : Nat} (h : n.Ok w H) (hH : H ≤ H') : n.Ok w H' := ⟨h.ino, h.kind, h.links, h.size, h.up, h.row.more hH, h.int, h.le, h.cap, h.cle, h.ens.more hH, h.ok, h.nle⟩
theorem Nd.Ok.at_ {n : Nd} {w w' : World} (h : n.Ok w w.heap.size) (hb : Below w.heap.size w w') : n.Ok w' w'.heap.size := (h.below hb).more hb.size
end Go.Proofs.YtbejbiogabpmfaaGreat

namespace Go.Proofs.YtbejbiogabpmfaaGreat
open Wd U Go.ChangeShapes Go.WideShapes Go.RowKit Go.Sort
set_option linter.unusedVariables false

/-! the document's words of a text; the project's Need -/
def needI (n : Int) : Int := if 0 < n then (n + 7) / 8 else 0
theorem need_is (n : Int) (h0 : -9223372036854775808 ≤ n) (h1 : n ≤ 9223372036854775807) (w : World) : Calls Tryz.prog 86 #[.int .i64 n] w fun e w' => e = .returned (.int .i64 (needI n)) ∧ w = w' := by
  by_cases h : n < 1
  · have e : needI n = 0 := by unfold needI; rw [if_neg (by omega)]
    rw [e]
    clear e
    go_enter Tryz.func86, Tryz.ntmps86
    go_wp2
    go_ret
    exact ⟨rfl, rfl⟩
  · have e : needI n = (n - 1) / 8 + 1 := by unfold needI; rw [if_pos (by omega)]; omega
    rw [e]
    clear e
    go_enter Tryz.func86, Tryz.ntmps86
    go_wp2
    go_ret
    exact ⟨rfl, rfl⟩

theorem needI_nat (n : Nat) : needI (n : Int) = ((need n : Nat) : Int) := by unfold needI need; split <;> omega
def bsOf (s : ByteArray) : List Nat := s.data.toList.map (·.toNat)
theorem own_below {w w' : World} {base n sz : Nat} {e : TypeId} {v : Value} {xs : List Value} (h : w.ownsRow base e sz v n xs) (hb : Below w.heap.size w w') : w'.ownsRow base e sz v n xs := by
  rcases h with ⟨hl, h⟩
  refine ⟨hl, ?_⟩
  rcases h with h | ⟨g, cap, cur, hv, hg, hh, h1⟩
  · exact .inl h
  · exact .inr ⟨g, cap, cur, hv, hg, Cells.below' hh hb, h1⟩

def encT (s : ByteArray) : List Nat := [s.size] ++ pk (bsOf s)

/-! the document's words of a text, and a text at a place of words -/
def TextD (s : ByteArray) (W : World) (e : Ending) (w : World) : Prop := ∃ v, e = .returned v ∧ w.ownsRow W.heap.size 59 1 v (encT s).length ((encT s).map wd) ∧ Below W.heap.size W w
end Go.Proofs.YtbejbiogabpmfaaGreat

namespace Go.Proofs.YtbejbiogabpmfaaGreat
open Wd Ino Go.RowKit Go.ChangeShapes Go.WideShapes Go.Sort
set_option linter.unusedVariables false
set_option maxRecDepth 100000

/-! how many pages; whether a number is between -/
def needP (n : Int) : Int := if n < 1 then 0 else (n - 1) / 256 + 1
theorem iNeed_is (n : Int) (h : i64R n) (w : World) : Calls Tryz.prog 178 #[.int .i64 n] w fun e w' => e = .returned (.int .i64 (needP n)) ∧ w = w' := by
  unfold i64R at h
  by_cases hn : n < 1
  · have e : needP n = 0 := by unfold needP; rw [if_pos hn]
    rw [e]
    clear e
    go_enter Tryz.func178, Tryz.ntmps178
    go_wp2
    go_ret
    exact ⟨rfl, rfl⟩
  · have e : needP n = (n - 1) / 256 + 1 := by unfold needP; rw [if_neg hn]
    rw [e]
    clear e
    go_enter Tryz.func178, Tryz.ntmps178
    go_wp2
    go_ret
    exact ⟨rfl, rfl⟩

theorem iNeed (n : Int) (h : i64R n) (w : World) : Calls Tryz.prog 178 #[.int .i64 n] w (Grows (.int .i64 (needP n)) w) := by
  refine (iNeed_is n h w).mono ?_
  rintro e w' ⟨rfl, rfl⟩
  exact ⟨rfl, grow_none _⟩

theorem rNeed_is (n : Int) (h : i64R n) (w : World) : Calls Tryz.prog 148 #[.int .i64 n] w fun e w' => e = .returned (.int .i64 (needP n)) ∧ w = w' := by
  unfold i64R at h
  by_cases hn : n < 1
  · have e : needP n = 0 := by unfold needP; rw [if_pos hn]
    rw [e]
    clear e
    by_cases hm : 0 < n.tmod 256
    · exfalso
      have h1 : n ≤ 0 := by omega
      have h2 : 0 ≤ (-n).tmod 256 := Int.tmod_nonneg 256 (by omega)
      rw [Int.neg_tmod] at h2
      omega
    · go_enter Tryz.func148, Tryz.ntmps148
      go_wp2
      go_ret
      exact ⟨rfl, rfl⟩
  · have hd : n.tdiv 256 = n / 256 := Int.tdiv_eq_ediv_of_nonneg (by omega)
    have hmd : n.tmod 256 = n % 256 := Int.tmod_eq_emod_of_nonneg (by omega)
    by_cases hm : 0 < n % 256
    · have e : needP n = n / 256 + 1 := by unfold needP; rw [if_neg hn]; omega
      rw [e]
      clear e
      go_enter Tryz.func148, Tryz.ntmps148
      go_wp2
      go_ret
      exact ⟨rfl, rfl⟩
    · have e : needP n = n / 256 := by unfold needP; rw [if_neg hn]; omega
      rw [e]
      clear e
      go_enter Tryz.func148, Tryz.ntmps148
      go_wp2
      go_ret
      exact ⟨rfl, rfl⟩

def inB (x a b : Int) : Bool := decide (a ≤ x) && decide (x ≤ b)
theorem iWithin_is (x a b : Int) (w : World) : Calls Tryz.prog 177 #[.int .i64 x, .int .i64 a, .int .i64 b] w fun e w' => e = .returned (.bool (inB x a b)) ∧ w = w' := by
  unfold inB
  by_cases h1 : a ≤ x
  · have q1 : decide (a ≤ x) = true := decide_eq_true h1
    by_cases h2 : x ≤ b
    · have q2 : decide (x ≤ b) = true := decide_eq_true h2
      rw [q1, q2]
      clear h1 h2
      go_enter Tryz.func177, Tryz.ntmps177
      go_wp2
      go_ret
      exact ⟨rfl, rfl⟩
    · have q2 : decide (x ≤ b) = false := decide_eq_false h2
      rw [q1, q2]
      clear h1 h2
      go_enter Tryz.func177, Tryz.ntmps177
      go_wp2
      go_ret
      exact ⟨rfl, rfl⟩
  · have q1 : decide (a ≤ x) = false := decide_eq_false h1
    rw [q1, Bool.false_and]
    clear h1
    go_enter Tryz.func177, Tryz.ntmps177
    go_wp2
    go_ret
    exact ⟨rfl, rfl⟩

theorem iWithin (x a b : Int) (w : World) : Calls Tryz.prog 177 #[.int .i64 x, .int .i64 a, .int .i64 b] w (Grows (.bool (inB x a b)) w) := by
  refine (iWithin_is x a b w).mono ?_
  rintro e w' ⟨rfl, rfl⟩
  exact ⟨rfl, grow_none _⟩

/-! a node's cells -/
def ncells (i k l s u : Int) (pv nv : Value) : Array Value := #[.int .i64 i, .int .i64 k, .int .i64 l, .int .i64 s, .int .i64 u, pv, nv]
def nv (i k l s u : Int) (pv mv : Value) : Value := .agg #[.int .i64 i, .int .i64 k, .int .i64 l, .int .i64 s, .int .i64 u, pv, mv]
theorem cells7 {w : World} {g : Nat} {i k l s u : Int} {pv mv : Value} (h : Cells w g 51 (ncells i k l s u pv mv)) : w.cell? ⟨g, 0, none⟩ = some (.int .i64 i) ∧ w.cell? ⟨g, 1, none⟩ = some (.int .i64 k) ∧ w.cell? ⟨g, 2, none⟩ = some (.int .i64 l) ∧ w.cell? ⟨g, 3, none⟩ = some (.int .i64 s) ∧ w.cell? ⟨g, 4, none⟩ = some (.int .i64 u) ∧
    w.cell? ⟨g, 5, none⟩ = some pv ∧ w.cell? ⟨g, 6, none⟩ = some mv := ⟨h.cell 0, h.cell 1, h.cell 2, h.cell 3, h.cell 4, h.cell 5, h.cell 6⟩
/-- a fresh node -/
def newUp (kind up : Int) : Int := if kind = 2 then up else 0
theorem iNew (ino kind up : Int) (w : World) : Calls Tryz.prog 59 #[.int .i64 ino, .int .i64 kind, .int .i64 up] w (Grows (nv ino kind 1 0 (newUp kind up) (.slice none 0 0) (.slice none 0 0)) w) := by
  by_cases h : kind = 2
  · have q : (kind == 2) = true := by simpa using h
    have e : newUp kind up = up := by unfold newUp; rw [if_pos h]
    rw [e]
    clear e h
    go_enter Tryz.func59, Tryz.ntmps59
    go_wp2
    exact bodyPost_ret (results_cell_row rfl _ _ w.heap.size _ _ (0, 0) _ rfl ((heap_alloc_old _ _ (by simp)).trans (heap_alloc_new _ _)) Tryz.underlying51 rfl (by kernel_rfl)) rfl ⟨rfl, grow_alloc (grow_one _ _) _⟩
  · have q : (kind == 2) = false := by simpa using h
    have e : newUp kind up = 0 := by unfold newUp; rw [if_neg h]
    rw [e]
    clear e h
    go_enter Tryz.func59, Tryz.ntmps59
    go_wp2
    exact bodyPost_ret (results_cell_row rfl _ _ w.heap.size _ _ (0, 0) _ rfl ((heap_alloc_old _ _ (by simp)).trans (heap_alloc_new _ _)) Tryz.underlying51 rfl (by kernel_rfl)) rfl ⟨rfl, grow_alloc (grow_one _ _) _⟩

/-- whether a node may be -/
def upB (ino up : Int) : Bool := if ino = 1 then up == 1 else inB up 1 1048576
def dirB (ino links size up : Int) (np : Nat) : Bool := (((size == 0) && ((np : Int) == 0)) && (links == 1)) && upB ino up
def fileB (size up : Int) (np nn : Nat) : Bool := (((up == 0) && ((nn : Int) == 0)) && inB size 0 16384) && ((np : Int) == needP size)
def rightB (ino kind links size up : Int) (np nn : Nat) : Bool :=
  if (inB ino 1 1048576 && inB links 0 16) = true then (if kind = 1 then fileB size up np nn else if kind = 2 then dirB ino links size up np else false) else false

theorem iRightUp (ino kind links size up : Int) (pv mv : Value) (w : World) : Calls Tryz.prog 196 #[nv ino kind links size up pv mv] w (Grows (.bool (upB ino up)) w) := by
  have hc := Cells.new w 51 (ncells ino kind links size up pv mv)
  have HG := Lib.hid (grow_one w (.cells (ncells ino kind links size up pv mv) 51))
  obtain ⟨c0, _, _, _, c4, _, _⟩ := cells7 hc
  unfold nv
  unfold upB
  unfold ncells at c0 c4 HG
  clear hc
  by_cases h : ino = 1
  · have q : (ino == 1) = true := by simpa using h
    rw [if_pos h]
    clear h
    go_enter Tryz.func196, Tryz.ntmps196
    go_wp2
    go_ret
    exact ⟨rfl, HG.out⟩
  · have q : (ino == 1) = false := by simpa using h
    rw [if_neg h]
    clear h
    go_enter Tryz.func196, Tryz.ntmps196
    go_wp2_with fail
    refine (iWithin_is up 1 1048576 _).mono ?_
    rintro e w1 ⟨rfl, rfl⟩
    go_wp2
    go_ret
    exact ⟨rfl, HG.out⟩
theorem iRightDir (ino kind links size up : Int) (A : Option Addr) (np c : Nat) (mv : Value) (w : World) : Calls Tryz.prog 188 #[nv ino kind links size up (.slice A np c) mv] w (Grows (.bool (dirB ino links size up np)) w) := by
  have hc := Cells.new w 51 (ncells ino kind links size up (.slice A np c) mv)
  have HG := Lib.hid (grow_one w (.cells (ncells ino kind links size up (.slice A np c) mv) 51))
  obtain ⟨c0, c1, c2, c3, c4, c5, c6⟩ := cells7 hc
  have KU := Lib.hid (fun w => iRightUp ino kind links size up (.slice A np c) mv w)
  unfold nv at KU ⊢
  unfold dirB
  unfold ncells at c0 c1 c2 c3 c4 c5 c6 HG
  clear hc
  cases q1 : (size == 0)
  · rw [Bool.false_and, Bool.false_and, Bool.false_and]
    go_enter Tryz.func188, Tryz.ntmps188
    go_wp2
    go_ret
    exact ⟨rfl, HG.out⟩
  · cases q2 : ((np : Int) == 0)
    · rw [Bool.true_and, Bool.false_and, Bool.false_and]
      go_enter Tryz.func188, Tryz.ntmps188
      go_wp2
      go_ret
      exact ⟨rfl, HG.out⟩
    · cases q3 : (links == 1)
      · rw [Bool.and_false, Bool.false_and]
        go_enter Tryz.func188, Tryz.ntmps188
        go_wp2
        go_ret
        exact ⟨rfl, HG.out⟩
      · rw [Bool.true_and, Bool.true_and, Bool.true_and]
        go_enter Tryz.func188, Tryz.ntmps188
        go_wp2_with fail
        refine (KU.out _).mono ?_
        rintro e w1 ⟨rfl, hg⟩
        go_wp2
        go_ret
        exact ⟨rfl, grow_trans HG.out hg⟩
end Go.Proofs.YtbejbiogabpmfaaGreat

namespace Go.Proofs.YtbejbiogabpmfaaGreat
open Wd Ino Go.RowKit Go.ChangeShapes Go.WideShapes Go.Sort
set_option linter.unusedVariables false
set_option maxRecDepth 100000
theorem take_two {α : Type} {l : List α} {k : Nat} {x : α} (h : l[k]? = some x) : l.take (k + 1) = l.take k ++ [x] := by
  rw [List.take_add_one, h]; rfl

/-! two rows of names -/
def entEq (a b : Ent) : Bool := (a.s.toList == b.s.toList) && decide (a.n = b.n)
theorem entEq_iff {a b : Ent} : entEq a b = true ↔ a = b := by
  unfold entEq
  constructor
  · intro h
    obtain ⟨h1, h2⟩ := Bool.and_eq_true_iff.1 h
    obtain ⟨s, n⟩ := a
    obtain ⟨s', n'⟩ := b
    obtain rfl := of_decide_eq_true h2
    have h3 : s.toList = s'.toList := by simpa using h1
    have h4 : s = s' := by
      rw [ByteArray.toList_eq, ByteArray.toList_eq] at h3
      cases s with | mk x => cases s' with | mk y => exact congrArg ByteArray.mk (Array.toList_inj.1 h3)
    rw [h4]
  · rintro rfl
    simp
def _root_.Ino.Ent.val (e : Ent) : Value := .agg #[.string e.s, .int .i64 e.n]
def one_eq (P : Program) (f : Field) (d : Nat) (w : World) (u v : Value) (b : Bool) : Prop := f.name ≠ "_" ∧ (Op.equalIn d f.type u v).run P w = .ok b w
theorem eqF_cons {P : Program} {f : Field} {fs : List Field} {d : Nat} {w : World} {xs ys : Array Value} {u v : Value} {b B : Bool} (hn : (f.name != "_") = true) (hx : ∀ w, (part f.type xs f.offset).run P w = .ok u w) (hy : ∀ w, (part f.type ys f.offset).run P w = .ok v w)
    (he : (Op.equalIn d f.type u v).run P w = .ok b w) (hr : (Op.eqFields d xs ys fs).run P w = .ok B w) : (Op.eqFields d xs ys (f :: fs)).run P w = .ok (b && B) w := by
  have hn' : f.name ≠ "_" := by simpa using hn
  unfold Op.eqFields
  rw [if_pos hn']
  simp only [Sem.run_bind, hx, hy, he, Result.andThen_ok, Sem.run_ite]
  cases b with
  | true => simp [hr]
  | false => simp [Sem.run_pure]
theorem eqF_nil {P : Program} {d : Nat} {w : World} {xs ys : Array Value} : (Op.eqFields d xs ys []).run P w = .ok true w := by simp [Op.eqFields]

theorem eqE_in (a b : Ent) (w : World) : (Op.equalIn 10000 103 a.val b.val).run Tryz.prog w = .ok (entEq a b) w := by
  have hu : Tryz.prog.underlying 103 = some (.struct (Tryz.prog.fieldsOf 103)) := by kernel_rfl
  obtain ⟨f0, f1, hf, n0, n1, p0, p1⟩ : ∃ f0 f1 : Field, (Tryz.prog.fieldsOf 103).toList = [f0, f1] ∧ (f0.name != "_") = true ∧ (f1.name != "_") = true ∧ (f0.type, f0.offset) = (9, 0) ∧ (f1.type, f1.offset) = (3, 1) :=
    ⟨_, _, rfl, by kernel_rfl, by kernel_rfl, by kernel_rfl, by kernel_rfl⟩
  simp only [Prod.mk.injEq] at p0 p1
  have hI : ∀ x y w, (Op.equalIn 9999 3 (.int .i64 x) (.int .i64 y)).run Tryz.prog w = .ok (decide (x = y)) w := fun x y w => run_equalIn_int w 9998 3 .i64 .i64 x y Tryz.underlying3
  have hS : ∀ x y w, (Op.equalIn 9999 9 (.string x) (.string y)).run Tryz.prog w = .ok (x.toList == y.toList) w := fun x y w => run_equalIn_string w 9998 9 x y Tryz.underlying9
  unfold Ino.Ent.val
  rw [run_equalIn_struct _ 9999 _ _ _ hu (by kernel_rfl), hf]
  rw [eqF_cons (u := .string a.s) (v := .string b.s) n0 (fun w => by rw [p0.1, p0.2]; simp [go_sem]) (fun w => by rw [p0.1, p0.2]; simp [go_sem]) (by rw [p0.1]; exact hS _ _ _)
    (eqF_cons (u := .int .i64 a.n) (v := .int .i64 b.n) n1 (fun w => by rw [p1.1, p1.2]; simp [go_sem]) (fun w => by rw [p1.1, p1.2]; simp [go_sem]) (by rw [p1.1]; exact hI _ _ _) eqF_nil)]
  simp only [Bool.and_true, entEq]
theorem neE_any (a b : Ent) (w : World) : (binOp .neq 103 a.val b.val).run Tryz.prog w = .ok (.bool (!entEq a b)) w := by
  have := eqE_in a b w
  unfold Ino.Ent.val at this ⊢
  rw [run_neq_struct, this]; rfl

def EqualE (xs ys : List Ent) (W : World) (i : Value) (w : World) : Prop := ∃ k d : Nat, k ≤ xs.length ∧ i = .int .i64 k ∧ xs.take k = ys.take k ∧ w = W.drewN d

set_option maxHeartbeats 2000000 in
theorem sameEs_any (xs ys : List Ent) (n m : Nat) (hn : xs.length = n) (hm : ys.length = m) (hle : n ≤ 1000) (A C : Option Addr) (c d B B' : Nat) (w : World) (hx : Ens w B A xs) (hy : Ens w B' C ys)  :
    Calls Tryz.prog 116 #[.slice A n c, .slice C m d] w (Grows (.bool (decide (xs = ys))) w) := by
  subst hn hm
  have HX := Lib.hid hx; have HY := Lib.hid hy
  clear hx hy
  by_cases hl : xs.length = ys.length
  · have HL := Lib.hid hl
    have hb : ((xs.length : Int) != (ys.length : Int)) = false := by simp [hl]
    clear hl
    go_enter Tryz.func116, Tryz.ntmps116
    go_wp2
    go_loopw [13] (fun i wr => EqualE xs ys w i wr) (fun i _ => xs.length - (intOf i).toNat)
    case atStart => exact ⟨0, 0, Nat.zero_le _, rfl, rfl, rfl⟩
    case round =>
      obtain ⟨k, q, hk, rfl, ht, rfl⟩ := hrel
      have HT := Lib.hid ht; clear ht
      by_cases hlt : k < xs.length
      · have hlt2 : k < ys.length := by have := HL.out; omega
        have i1 : (k : Int) < (xs.length : Int) := by omega
        have i2 : (k : Int) < (ys.length : Int) := by omega
        have i0 : (0 : Int) ≤ (k : Int) := by omega
        obtain ⟨x, gx⟩ : ∃ e, xs[k]? = some e := ⟨_, List.getElem?_eq_getElem hlt⟩
        obtain ⟨y, gy⟩ : ∃ e, ys[k]? = some e := ⟨_, List.getElem?_eq_getElem hlt2⟩
        obtain ⟨b1, o1, rfl, _, cx, cx'⟩ := ens_cells HX.out gx
        obtain ⟨b2, o2, rfl, _, cy, cy'⟩ := ens_cells HY.out gy
        have HGX := Lib.hid gx; have HGY := Lib.hid gy
        have hE := fun w => neE_any x y w
        unfold Ino.Ent.val at hE
        clear gx gy
        by_cases hxy : x = y
        · rw [entEq_iff.2 hxy] at hE
          subst hxy
          go_wp2
          go_quiet (fail)
          go_wp2
          go_roundw
          case rel => exact ⟨k + 1, q + nq, by omega, by go_num, by rw [take_two HGX.out, take_two HGY.out, HT.out], rfl⟩
          case measure => simp [intOf]; omega
        · rw [Bool.eq_false_iff.2 (fun h => hxy (entEq_iff.1 h))] at hE
          have hdec : decide (xs = ys) = false := by
            apply decide_eq_false
            intro h
            have h1 := HGX.out
            rw [h, HGY.out] at h1
            exact hxy (Option.some.inj h1).symm
          have HDEC := Lib.hid hdec
          clear hxy hdec
          go_wp2
          go_quiet (fail)
          go_wp2
          go_ret
          exact ⟨by rw [HDEC.out]; rfl, grow_drewN (grow_drewN (grow_none w) _) _⟩
      · obtain rfl : k = xs.length := by omega
        have hdec : decide (xs = ys) = true := by
          apply decide_eq_true
          have h := HT.out
          rw [List.take_length, List.take_of_length_le (by have := HL.out; omega)] at h
          exact h
        have HDEC := Lib.hid hdec
        clear hdec
        go_wp2
        go_ret
        exact ⟨by rw [HDEC.out]; rfl, grow_drewN (grow_none w) _⟩
  · have hb : ((xs.length : Int) != (ys.length : Int)) = true := by rw [bne_iff_ne]; omega
    have hdec : decide (xs = ys) = false := decide_eq_false (fun h => hl (by rw [h]))
    have HDEC := Lib.hid hdec
    clear hl hdec
    go_enter Tryz.func116, Tryz.ntmps116
    go_wp2
    go_ret
    exact ⟨by rw [HDEC.out]; rfl, grow_none w⟩

end Go.Proofs.YtbejbiogabpmfaaGreat
