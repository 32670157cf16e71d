import Derived.Test.YtbegnnohmahglaaStructs
import Derived.Test.YtbegnnohmahglaaGrow
import Derived.Test.YtbegnnohmahglaaApp
import Derived.Test.YtbegnnohmahglaaOwn
namespace Ino
open Go
/-- a name in a directory, plainly -/
structure Ent where
  s : ByteArray
  n : Int
deriving DecidableEq
instance : Inhabited Ent := ⟨⟨.empty, 0⟩⟩
end Ino
namespace Go.Proofs.Ytbegnnohmahglaa
open Wd Ino Go.RowKit Go.ChangeShapes Go.WideShapes Go.ChangeAt Go.Deep Go.Sort
set_option linter.unusedVariables false
/-- a name's cells -/
def ev (e : Ent) : List Value := [.string e.s, .int .i64 e.n]
def evals (l : List Ent) : List Value := l.flatMap ev
theorem evals_cons (e : Ent) (l : List Ent) : evals (e :: l) = ev e ++ evals l := by unfold evals; rw [List.flatMap_cons]
theorem evals_append (l m : List Ent) : evals (l ++ m) = evals l ++ evals m := by unfold evals; simp [List.flatMap_append]
theorem evals_len (l : List Ent) : (evals l).length = l.length * 2 := by
  induction l with
  | nil => rfl
  | cons e l ih => rw [evals_cons, List.length_append, ih]; simp [ev]; omega
theorem evals_at : ∀ (l : List Ent) (j k : Nat) (e : Ent) (x : Value), l[j]? = some e → (ev e)[k]? = some x → (evals l)[j * 2 + k]? = some x := by
  intro l
  induction l with
  | nil => intro j k e x hj; simp at hj
  | cons q l ih =>
    intro j k e x hj hk
    have hlen : (ev q).length = 2 := rfl
    rw [evals_cons]
    cases j with
    | zero =>
      simp at hj
      subst hj
      have : k < (ev q).length := (List.getElem?_eq_some_iff.1 hk).1
      rw [Nat.zero_mul, Nat.zero_add, List.getElem?_append_left this]
      exact hk
    | succ j =>
      rw [List.getElem?_append_right (by rw [hlen]; omega), hlen, show (j + 1) * 2 + k - 2 = j * 2 + k by omega]
      exact ih j k e x (by simpa using hj) hk
theorem evals_get {l : List Ent} : ∀ {J : Nat} {u : Value}, (evals l)[J]? = some u → ∃ e, l[J / 2]? = some e ∧ (ev e)[J % 2]? = some u := by
  induction l with
  | nil => intro J u h; simp [evals] at h
  | cons e l ih =>
    intro J u h
    rw [evals_cons] at h
    by_cases hJ : J < 2
    · rw [List.getElem?_append_left (by simpa [ev] using hJ)] at h
      exact ⟨e, by rw [Nat.div_eq_of_lt hJ]; rfl, by rw [Nat.mod_eq_of_lt hJ]; exact h⟩
    · rw [List.getElem?_append_right (by simp [ev]; omega)] at h
      obtain ⟨x, h1, h2⟩ := ih h
      have hl : (ev e).length = 2 := rfl
      rw [hl] at h1 h2
      refine ⟨x, ?_, ?_⟩
      · rw [show J / 2 = (J - 2) / 2 + 1 by omega]; exact h1
      · rw [show J % 2 = (J - 2) % 2 by omega]; exact h2
theorem one2 (e : Ent) : ∀ u ∈ ev e, u.oneCell' = true := by
  intro u hu
  unfold ev at hu
  simp only [List.mem_cons, List.not_mem_nil, or_false] at hu
  rcases hu with rfl | rfl <;> rfl
/-- the row l of names lies at A, in a block below hi -/
def Ens (w : World) (hi : Nat) (A : Option Addr) (l : List Ent) : Prop := 0 < l.length → ∃ b off, A = some ⟨b, off, none⟩ ∧ b < hi ∧ ∀ (j : Nat) (e : Ent), l[j]? = some e → ∀ (k : Nat) (x : Value), (ev e)[k]? = some x → w.cell? ⟨b, off + (j * 2 + k), none⟩ = some x
theorem Ens.nil (w : World) (hi : Nat) (A : Option Addr) : Ens w hi A [] := fun h => absurd h (by simp)
theorem Ens.below {w w' : World} {hi : Nat} {A : Option Addr} {l : List Ent} (h : Ens w hi A l) (hk : Below hi w w') : Ens w' hi A l := fun hn => by
  obtain ⟨b, off, e, h2, hx⟩ := h hn
  refine ⟨b, off, e, h2, fun j d hj k x hk' => ?_⟩
  have h3 := hx j d hj k x hk'
  unfold World.cell? at h3 ⊢
  rw [hk.block b h2]
  exact h3
theorem Ens.more {w : World} {hi hi' : Nat} {A : Option Addr} {l : List Ent} (h : Ens w hi A l) (h2 : hi ≤ hi') : Ens w hi' A l := fun hn => by
  obtain ⟨b, off, e, h4, hx⟩ := h hn
  exact ⟨b, off, e, by omega, hx⟩
theorem Ens.at_ {w w' : World} {A : Option Addr} {l : List Ent} (h : Ens w w.heap.size A l) (hb : Below w.heap.size w w') : Ens w' w'.heap.size A l := (h.below hb).more hb.size
theorem ens_cells {w : World} {hi : Nat} {A : Option Addr} {l : List Ent} (h : Ens w hi A l) {k : Nat} {e : Ent} (hk : l[k]? = some e) : ∃ b off, A = some ⟨b, off, none⟩ ∧ b < hi ∧
    w.cell? ⟨b, off + k * 2, none⟩ = some (.string e.s) ∧ w.cell? ⟨b, off + k * 2 + 1, none⟩ = some (.int .i64 e.n) := by
  obtain ⟨b, off, rfl, h2, hx⟩ := h (by have := (List.getElem?_eq_some_iff.1 hk).1; omega)
  have g := hx k e hk
  exact ⟨b, off, rfl, h2, g 0 _ rfl, g 1 _ rfl⟩
/-- a row of names that the call made -/
theorem infoE : (Try.prog.info? 32).map (fun i => (i.zero, i.size, i.bytes)) = some (some (.agg #[.string ByteArray.empty, .int .i64 0]), 2, 24) := by kernel_rfl
def OwnE (w : World) (base : Nat) (v : Value) (l : List Ent) : Prop := w.ownsRow base 32 2 v l.length (evals l)
theorem own_nilE (w : World) (base : Nat) : OwnE w base (.slice none 0 0) [] := World.ownsRow_nil _ _ _ _
theorem OwnE.form {w : World} {base : Nat} {v : Value} {l : List Ent} (h : OwnE w base v l) : ∃ A c, v = .slice A l.length c ∧ l.length ≤ c ∧ Ens w w.heap.size A l := by
  rcases h.2 with ⟨rfl, h0⟩ | ⟨g, cap, cur, rfl, hb, hh, hc, hm, _, ht⟩
  · obtain rfl : l = [] := List.eq_nil_of_length_eq_zero h0
    exact ⟨none, 0, rfl, Nat.le_refl _, Ens.nil _ _ _⟩
  · refine ⟨_, cap, rfl, hc, fun _ => ⟨g, 0, rfl, lt_of_block hh, fun j e hj k x hk => ?_⟩⟩
    have hx := evals_at l j k e x hj hk
    rw [← ht] at hx
    have hcell : w.cell? ⟨g, 0 + (j * 2 + k), none⟩ = cur[0 + (j * 2 + k)]? := cell_of_row w g _ cur _ (0, 0) hh
    rw [hcell, Nat.zero_add, ← Array.getElem?_toList]
    rw [List.getElem?_take] at hx
    split at hx
    · exact hx
    · cases hx
theorem OwnE.mono {w : World} {b1 b2 : Nat} {v : Value} {l : List Ent} (h : OwnE w b1 v l) (hb : b2 ≤ b1) : OwnE w b2 v l := by
  rcases h with ⟨h1, h2⟩
  refine ⟨h1, ?_⟩
  rcases h2 with h2 | ⟨g, cap, cur, h2, h3, h4⟩
  · exact .inl h2
  · exact .inr ⟨g, cap, cur, h2, Nat.le_trans hb h3, h4⟩
theorem OwnE.below {w w' : World} {base : Nat} {v : Value} {l : List Ent} (h : OwnE w base v l) (hb : Below w.heap.size w w') : OwnE w' base v l := by
  refine ⟨h.1, ?_⟩
  rcases h.2 with ⟨h1, h0⟩ | ⟨g, cap, cur, h1, h2, hh, h3⟩
  · exact .inl ⟨h1, h0⟩
  · exact .inr ⟨g, cap, cur, h1, h2, (hb.block g (lt_of_block hh)).trans hh, h3⟩
/-- append of a row of names -/
theorem run_append_ens {w : World} {base hi : Nat} {v : Value} {l m : List Ent} {A : Option Addr} {c : Nat} (ty : TypeId) (hown : OwnE w base v l) (hx : Ens w hi A m) (hl : l.length + m.length ≤ 100000) (hb : base ≤ w.heap.size) :
    ∃ v' w', (Builtin.append_ #[22, 22] ty #[v, .slice A m.length c]).run Try.prog w = .ok v' w' ∧ OwnE w' base v' (l ++ m) ∧ w.grownBy w' v.ownBlock ∧ (v'.ownBlock = v.ownBlock ∨ v'.ownBlock = some w.heap.size) := by
  obtain ⟨i, i1, i2, i3, i4⟩ := info_parts infoE
  have fin : ∀ v' (w' : World), w'.ownsRow base 32 2 v' (l.length + m.length) (evals l ++ evals m) → OwnE w' base v' (l ++ m) := fun v' w' h => by
    unfold OwnE; rw [List.length_append, evals_append]; exact h
  cases A with
  | none =>
    have hm : m = [] := by
      cases m with
      | nil => rfl
      | cons e m =>
        obtain ⟨b, off, h, _⟩ := hx (by simp)
        cases h
    subst hm
    refine ⟨v, w, ?_, by simpa using hown, World.grownBy.refl w _, .inl rfl⟩
    rcases hown.2 with ⟨rfl, h0⟩ | ⟨g, cap, cur, rfl, _, _, hnc, _⟩
    · simp [Builtin.append_, run_underlying Try.underlying22, Go.sizeOf, typeInfo, i1, Builtin.lenOf, Builtin.firstCells]
    · simp [Builtin.append_, run_underlying Try.underlying22, Go.sizeOf, typeInfo, i1, Builtin.lenOf, Builtin.firstCells, hnc, storeCells]
  | some ad =>
    obtain ⟨v', w', h2, h3, h4, _, h5⟩ := run_append_own_at (P := Try.prog) w base 22 ty 32 i (.agg #[.string ByteArray.empty, .int .i64 0]) 2 24 Try.underlying22 i1 i2 i3 i4 rfl (by decide) v l.length (evals l) hown ad m.length c (evals m) (evals_len m) (fun j u hu => by
      obtain ⟨e, h1, h2⟩ := evals_get hu
      obtain ⟨b, off, h3, _, hc⟩ := hx (by have := (List.getElem?_eq_some_iff.1 h1).1; omega)
      cases h3
      have h4 := hc _ e h1 _ u h2
      have e1 : (⟨b, off, none⟩ : Addr).add j = ⟨b, off + j, none⟩ := by unfold Addr.add; split <;> simp_all
      rw [e1]
      rw [show j / 2 * 2 + j % 2 = j by omega] at h4
      exact h4) (fun u hu => by
      obtain ⟨e, _, he⟩ := List.mem_flatMap.1 hu
      exact one2 e u he) (by unfold maxLen; omega) (by omega) hb
    exact ⟨v', w', h2, fin _ _ h3, h4, h5⟩
theorem wpList_append_ens {ops : Array Oper} {rest : List Oper} {o : Oper} {a : Act} {Q : Exit → Act → World → Prop} {w : World} (hgd : o.guard = none) (s x : Operand)
    (ho : o.op = .call { callee := .builtin .append, args := #[s, x], argTypes := #[22, 22] })
    {base hi : Nat} {v : Value} {l m : List Ent} {A : Option Addr} {c : Nat} (hs : a.eval s = v) (hx' : a.eval x = .slice A m.length c) (hown : OwnE w base v l) (hx : Ens w hi A m) (hl : l.length + m.length ≤ 100000) (hb : base ≤ w.heap.size)
    (h : ∀ v' w', OwnE w' base v' (l ++ m) → w.grownBy w' v.ownBlock → (v'.ownBlock = v.ownBlock ∨ v'.ownBlock = some w.heap.size) → wpList Try.prog ops Q rest (a.put o.dst v') w') : wpList Try.prog ops Q (o :: rest) a w := by
  refine wpList_plain hgd fun _ hK => ?_
  obtain ⟨v', w', hrun, h2, h3, h4⟩ := run_append_ens (c := c) o.type hown hx hl hb
  unfold Oper.wp execOp
  simp only [ho, resolve, invoke, builtin, Sem.run_bind, Sem.run_pure, Result.andThen_ok, List.map_toArray, List.map_cons, List.map_nil, hs, hx', hrun]
  exact hK _ _ (h v' w' h2 h3 h4)

/-! a node, opened -/
/-- a slice of structs of one-cell fields, met as a field: each field of each element -/
theorem structs_of_trod {H : Type} {enc : TypeId × Value → H} {P : Program} {w : World} {base : Nat} {spare : Nat → Bool} {held : Bool} {t e : TypeId} {fs : Array Field} {v : Value} {nn : Nat} {x : DataW H × List MemPlace} (ht : P.underlying t = some (.slice e)) (he : P.underlying e = some (.struct fs)) (hone : oneCellFields P fs = true) (hC : P.cellsOf e = fs.size) (hpos : 0 < fs.size)
    (h : DataW.trod enc P w base spare held nn t [v] = some x) :
    ∃ (A : Option Addr) (len cap : Nat), v = .slice A len cap ∧ len ≤ cap ∧ cap ≤ maxLen ∧ (0 < len → ∃ b off, A = some ⟨b, off, none⟩ ∧ b < w.heap.size ∧
      ∀ i, i < len → ∃ n, ∀ (j : Nat) (f : Field), fs[j]? = some f → ∃ (u : Value) (y : DataW H × List MemPlace), w.cell? ⟨b, off + (i * fs.size + j), none⟩ = some u ∧ DataW.trod enc P w base spare held n f.type [u] = some y) := by
  rcases open_slice ht h with ⟨hcs, _⟩ | ⟨a, len, cap, m, n, D, Pl, hcs, _, hl, hm, hmm, _, hi⟩
  · obtain rfl := (List.cons.inj hcs).1
    exact ⟨none, 0, 0, rfl, Nat.le_refl _, by simp, fun h => absurd h (by omega)⟩
  · obtain rfl := (List.cons.inj hcs).1
    have hle : len ≤ m := by rw [hmm]; split <;> omega
    have each : ∀ i, i < len → ∃ n, ∀ (j : Nat) (f : Field), fs[j]? = some f → ∃ (u : Value) (y : DataW H × List MemPlace), w.cell? (a.add (i * fs.size + j)) = some u ∧ DataW.trod enc P w base spare held n f.type [u] = some y := by
      intro i hil
      obtain ⟨cs', h1, h2⟩ := hi i (by omega)
      rw [hC] at h1
      obtain ⟨ys, n', _, _, hlen, hyl, hg⟩ := DataW.trod_struct he h2
      obtain ⟨_, hcl, hat⟩ := World.cells?_some h1
      refine ⟨n', fun j f hj => ?_⟩
      obtain ⟨ho, hk⟩ := hone_of hone j f hj
      have hjl : j < fs.size := (Array.getElem?_eq_some_iff.1 hj).1
      have h3 := hg j f hj
      rw [ho, hk, show (cs'.drop j).take 1 = [cs'[j]'(by omega)] from by rw [List.drop_eq_getElem_cons (by omega)]; rfl] at h3
      have hys : ys[j]? = some (ys[j]'(by omega)) := List.getElem?_eq_getElem (by omega)
      refine ⟨cs'[j]'(by omega), _, ?_, h3.trans hys⟩
      have := hat j hjl
      rw [add_add] at this
      rw [this, List.getElem?_eq_getElem (by omega)]
    refine ⟨some a, len, cap, rfl, hl, hm, fun hn => ?_⟩
    obtain ⟨b, off, spot⟩ := a
    obtain ⟨f0, hf0⟩ : ∃ f, fs[0]? = some f := ⟨_, Array.getElem?_eq_getElem hpos⟩
    obtain ⟨n0, hx⟩ := each 0 hn
    obtain ⟨u, y, hc0, _⟩ := hx 0 f0 hf0
    have hs : spot = none := by simpa [Addr.add] using World.cell?_spot hc0
    refine ⟨b, off, by rw [hs], by simpa [Addr.add] using World.block_lt_of_cell? _ _ hc0, fun i hil => ?_⟩
    obtain ⟨n1, hx⟩ := each i hil
    refine ⟨n1, fun j f hj => ?_⟩
    obtain ⟨u, y, h1, h2⟩ := hx j f hj
    rw [add_at hs] at h1
    exact ⟨u, y, h1, h2⟩
def i64R (n : Int) : Prop := -9223372036854775808 ≤ n ∧ n ≤ 9223372036854775807
theorem i64R_of {n : Int} (h : (Lit.int .i64 n).wf = true) : i64R n := by
  have h : IntKind.i64.min ≤ n ∧ n ≤ IntKind.i64.max := by simpa [Lit.wf] using h
  have m1 : IntKind.i64.min = -9223372036854775808 := by decide
  have m2 : IntKind.i64.max = 9223372036854775807 := by decide
  unfold i64R
  omega
def _root_.Ino.Ent.Ok (e : Ent) : Prop := e.s.size ≤ maxLen ∧ i64R e.n
set_option maxRecDepth 100000 in
theorem ens_of_trod {H : Type} {enc : TypeId × Value → H} {w : World} {base : Nat} {spare : Nat → Bool} {held : Bool} {nn : Nat} {v : Value} {x : DataW H × List MemPlace}
    (h : DataW.trod enc Try.prog w base spare held nn 22 [v] = some x) :
    ∃ (A : Option Addr) (c : Nat) (l : List Ent), v = .slice A l.length c ∧ Ens w w.heap.size A l ∧ (∀ e ∈ l, Ent.Ok e) ∧ l.length ≤ c ∧ c ≤ maxLen := by
  obtain ⟨A, len, cap, rfl, h1, h2, h3⟩ := structs_of_trod Try.underlying22 Try.underlying32 (by kernel_rfl) (by kernel_rfl) (by decide) h
  by_cases hn : 0 < len
  · obtain ⟨b, off, rfl, hb, hx⟩ := h3 hn
    have each : ∀ i, i < len → ∃ d : Ent, (∀ (k : Nat) (x : Value), (ev d)[k]? = some x → w.cell? ⟨b, off + (i * 2 + k), none⟩ = some x) ∧ Ent.Ok d := by
      intro i hi
      obtain ⟨n, hy⟩ := hx i hi
      obtain ⟨u0, y0, c0, t0⟩ := hy 0 _ rfl
      obtain ⟨u1, y1, c1, t1⟩ := hy 1 _ rfl
      obtain ⟨a0, z0, _, w0⟩ := DataW.trod_string Try.underlying9 t0
      obtain ⟨a1, z1, _, w1⟩ := DataW.trod_int Try.underlying3 t1
      obtain rfl := (List.cons.inj z0).1
      obtain rfl := (List.cons.inj z1).1
      refine ⟨⟨a0, a1⟩, ?_, w0, i64R_of w1⟩
      intro k x hk
      match k, hk with
      | 0, hk => cases hk; exact c0
      | 1, hk => cases hk; exact c1
      | k + 2, hk => simp [ev] at hk
    obtain ⟨Y, hY⟩ := choose_lt (n := len) (p := fun i (d : Ent) => (∀ (k : Nat) (x : Value), (ev d)[k]? = some x → w.cell? ⟨b, off + (i * 2 + k), none⟩ = some x) ∧ Ent.Ok d) each
    refine ⟨_, cap, (List.range len).map Y, by simp, fun _ => ⟨b, off, rfl, hb, fun j d hj k x hk => ?_⟩, fun e he => ?_, by simpa using h1, h2⟩
    · obtain ⟨hj1, hj2⟩ := List.getElem?_eq_some_iff.1 hj
      simp at hj1 hj2
      subst hj2
      exact (hY j hj1).1 k x hk
    · obtain ⟨i, hi, rfl⟩ := List.mem_map.1 he
      exact (hY i (List.mem_range.1 hi)).2
  · obtain rfl : len = 0 := by omega
    exact ⟨A, cap, [], rfl, Ens.nil _ _ _, (fun e he => by cases he), by simp, h2⟩
end Go.Proofs.Ytbegnnohmahglaa
