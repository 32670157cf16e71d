import Derived.Test.YtlfmfdbgchpjgaaExMath2
import Derived.Test.YtlfmfdbgchpjgaaStructs
import Derived.Test.YtlfmfdbgchpjgaaGrow
import Derived.Test.YtlfmfdbgchpjgaaApp
namespace Go.Proofs.Ytlfmfdbgchpjgaa
open Wd Ex Go.RowKit Go.ChangeShapes Go.WideShapes Go.ChangeAt Go.Deep Go.Sort
set_option linter.unusedVariables false
/-- an extent's cells, as a value and in a row -/
def xv (e : Ext) : List Value := [.int .i64 e.f, .int .i64 e.n, .int .i64 e.p]
def xc (e : Ext) : Array Value := #[.int .i64 e.f, .int .i64 e.n, .int .i64 e.p]
def _root_.Ex.Ext.val (e : Ext) : Value := .agg #[.int .i64 e.f, .int .i64 e.n, .int .i64 e.p]
def xvals (l : List Ext) : List Value := l.flatMap xv
theorem xvals_snoc (l : List Ext) (e : Ext) : xvals (l ++ [e]) = xvals l ++ xv e := by unfold xvals; simp [List.flatMap_append]
theorem xvals_append (l m : List Ext) : xvals (l ++ m) = xvals l ++ xvals m := by unfold xvals; simp [List.flatMap_append]
theorem xvals_len (l : List Ext) : (xvals l).length = l.length * 3 := by
  induction l with
  | nil => rfl
  | cons e l ih => unfold xvals at *; rw [List.flatMap_cons, List.length_append, ih]; simp [xv]; omega
theorem xvals_at : ∀ (l : List Ext) (j k : Nat) (e : Ext) (x : Value), l[j]? = some e → (xv e)[k]? = some x → (xvals l)[j * 3 + k]? = some x := by
  intro l
  induction l with
  | nil => intro j k e x hj; simp at hj
  | cons q l ih =>
    intro j k e x hj hk
    have hlen : (xv q).length = 3 := rfl
    have e1 : xvals (q :: l) = xv q ++ xvals l := by unfold xvals; rw [List.flatMap_cons]
    rw [e1]
    cases j with
    | zero =>
      simp at hj
      subst hj
      have : k < (xv q).length := (List.getElem?_eq_some_iff.1 hk).1
      rw [Nat.zero_mul, Nat.zero_add, List.getElem?_append_left this]
      exact hk
    | succ j =>
      rw [List.getElem?_append_right (by rw [hlen]; omega), hlen, show (j + 1) * 3 + k - 3 = j * 3 + k by omega]
      exact ih j k e x (by simpa using hj) hk
theorem one3 (e : Ext) : ∀ u ∈ xv e, u.oneCell' = true := by
  intro u hu
  unfold xv at hu
  simp only [List.mem_cons, List.not_mem_nil, or_false] at hu
  rcases hu with rfl | rfl | rfl <;> rfl
/-- the row l of extents lies at A, in a block from lo on, below hi -/
def Exs (w : World) (lo hi : Nat) (A : Option Addr) (l : List Ext) : Prop := 0 < l.length → ∃ b off, A = some ⟨b, off, none⟩ ∧ lo ≤ b ∧ b < hi ∧ ∀ (j : Nat) (e : Ext), l[j]? = some e → ∀ (k : Nat) (x : Value), (xv e)[k]? = some x → w.cell? ⟨b, off + (j * 3 + k), none⟩ = some x
theorem Exs.nil (w : World) (lo hi : Nat) (A : Option Addr) : Exs w lo hi A [] := fun h => absurd h (by simp)
theorem Exs.keep {w w' : World} {lo hi : Nat} {A : Option Addr} {l : List Ext} (h : Exs w lo hi A l) (hk : ∀ b, lo ≤ b → b < hi → w'.heap[b]? = w.heap[b]?) : Exs w' lo hi A l := fun hn => by
  obtain ⟨b, off, e, h1, h2, hx⟩ := h hn
  refine ⟨b, off, e, h1, h2, fun j d hj k x hk' => ?_⟩
  have h3 := hx j d hj k x hk'
  unfold World.cell? at h3 ⊢
  rw [hk b h1 h2]
  exact h3
theorem Exs.below {w w' : World} {lo hi : Nat} {A : Option Addr} {l : List Ext} (h : Exs w lo hi A l) (hb : Below hi w w') : Exs w' lo hi A l := h.keep fun b _ h2 => hb.block b h2
theorem Exs.more {w : World} {lo hi lo' hi' : Nat} {A : Option Addr} {l : List Ext} (h : Exs w lo hi A l) (h1 : lo' ≤ lo) (h2 : hi ≤ hi') : Exs w lo' hi' A l := fun hn => by
  obtain ⟨b, off, e, h3, h4, hx⟩ := h hn
  exact ⟨b, off, e, by omega, by omega, hx⟩
theorem Exs.at_ {w w' : World} {lo : Nat} {A : Option Addr} {l : List Ext} (h : Exs w lo w.heap.size A l) (hb : Below w.heap.size w w') : Exs w' lo w'.heap.size A l := (h.below hb).more (Nat.le_refl _) hb.size
theorem exs_cells {w : World} {lo hi : Nat} {A : Option Addr} {l : List Ext} (h : Exs w lo hi A l) {k : Nat} {e : Ext} (hk : l[k]? = some e) : ∃ b off, A = some ⟨b, off, none⟩ ∧ lo ≤ b ∧ b < hi ∧
    w.cell? ⟨b, off + k * 3, none⟩ = some (.int .i64 e.f) ∧ w.cell? ⟨b, off + k * 3 + 1, none⟩ = some (.int .i64 e.n) ∧ w.cell? ⟨b, off + k * 3 + 2, none⟩ = some (.int .i64 e.p) := by
  obtain ⟨b, off, rfl, h1, h2, hx⟩ := h (by have := (List.getElem?_eq_some_iff.1 hk).1; omega)
  have g := hx k e hk
  exact ⟨b, off, rfl, h1, h2, g 0 _ rfl, g 1 _ rfl, g 2 _ rfl⟩
/-- a row of extents that the call made -/
theorem infoX : (Try.prog.info? 29).map (fun i => (i.zero, i.size, i.bytes)) = some (some (.agg #[.int .i64 0, .int .i64 0, .int .i64 0]), 3, 24) := by kernel_rfl
def OwnX (w : World) (base : Nat) (v : Value) (l : List Ext) : Prop := w.ownsRow base 29 3 v l.length (xvals l)
theorem own_nilX (w : World) (base : Nat) : OwnX w base (.slice none 0 0) [] := World.ownsRow_nil _ _ _ _
theorem OwnX.form {w : World} {base : Nat} {v : Value} {l : List Ext} (h : OwnX w base v l) : ∃ A c, v = .slice A l.length c ∧ l.length ≤ c ∧ Exs w base w.heap.size A l := by
  rcases h.2 with ⟨rfl, h0⟩ | ⟨g, cap, cur, rfl, hb, hh, hc, hm, _, ht⟩
  · obtain rfl : l = [] := List.eq_nil_of_length_eq_zero h0
    exact ⟨none, 0, rfl, Nat.le_refl _, Exs.nil _ _ _ _⟩
  · refine ⟨_, cap, rfl, hc, fun _ => ⟨g, 0, rfl, hb, lt_of_block hh, fun j e hj k x hk => ?_⟩⟩
    have hx := xvals_at l j k e x hj hk
    rw [← ht] at hx
    have hcell : w.cell? ⟨g, 0 + (j * 3 + k), none⟩ = cur[0 + (j * 3 + k)]? := cell_of_row w g _ cur _ (0, 0) hh
    rw [hcell, Nat.zero_add, ← Array.getElem?_toList]
    rw [List.getElem?_take] at hx
    split at hx
    · exact hx
    · cases hx
theorem OwnX.mono {w : World} {b1 b2 : Nat} {v : Value} {l : List Ext} (h : OwnX w b1 v l) (hb : b2 ≤ b1) : OwnX w b2 v l := by
  rcases h with ⟨h1, h2⟩
  refine ⟨h1, ?_⟩
  rcases h2 with h2 | ⟨g, cap, cur, h2, h3, h4⟩
  · exact .inl h2
  · exact .inr ⟨g, cap, cur, h2, Nat.le_trans hb h3, h4⟩
theorem OwnX.below {w w' : World} {base : Nat} {v : Value} {l : List Ext} (h : OwnX w base v l) (hb : Below w.heap.size w w') : OwnX w' base v l := by
  refine ⟨h.1, ?_⟩
  rcases h.2 with ⟨h1, h0⟩ | ⟨g, cap, cur, h1, h2, hh, h3⟩
  · exact .inl ⟨h1, h0⟩
  · exact .inr ⟨g, cap, cur, h1, h2, (hb.block g (lt_of_block hh)).trans hh, h3⟩
theorem OwnX.blk {w : World} {base : Nat} {v : Value} {l : List Ext} (h : OwnX w base v l) : ∀ g, v.ownBlock = some g → base ≤ g ∧ g < w.heap.size := by
  intro g hg
  rcases h.2 with ⟨rfl, _⟩ | ⟨g', cap, cur, rfl, hb, hh, _⟩
  · cases hg
  · have : g' = g := by simpa [Value.ownBlock] using hg
    subst this
    exact ⟨hb, lt_of_block hh⟩
/-- made anew: of its own, and nothing that was there has turned -/
def MadeX (l : List Ext) (w : World) (e : Ending) (w' : World) : Prop := ∃ v, e = .returned v ∧ OwnX w' w.heap.size v l ∧ Below w.heap.size w w'
theorem cells_three {w : World} {g : Nat} {t : TypeId} {e : Ext} (h : Cells w g t (xc e)) : ∀ (j : Nat) (u : Value), (xv e)[j]? = some u → w.cell? ((⟨g, 0, none⟩ : Addr).add j) = some u := by
  intro j u hu
  have e1 : (⟨g, 0, none⟩ : Addr).add j = ⟨g, j, none⟩ := by unfold Addr.add; split <;> simp_all
  rw [e1, h.cell j, ← Array.getElem?_toList]
  exact hu
/-- a cell's three words, in every world that has grown -/
theorem ext_grown {w : World} {g : Nat} {t : TypeId} {e : Ext} (h : Cells w g t (xc e)) : (∀ n os, (grow (w.drewN n) os).cell? ⟨g, 0, none⟩ = some (.int .i64 e.f)) ∧ (∀ n os, (grow (w.drewN n) os).cell? ⟨g, 1, none⟩ = some (.int .i64 e.n)) ∧ (∀ n os, (grow (w.drewN n) os).cell? ⟨g, 2, none⟩ = some (.int .i64 e.p)) :=
  ⟨cell_grown (a := ⟨g, 0, none⟩) h.lt (h.cell 0), cell_grown (a := ⟨g, 1, none⟩) h.lt (h.cell 1), cell_grown (a := ⟨g, 2, none⟩) h.lt (h.cell 2)⟩
def Small (l : List Ext) : Prop := ∀ e ∈ l, e.n ≤ 9223372036854775807
set_option maxRecDepth 100000 in
theorem open_exs {H : Type} {enc : TypeId × Value → H} {w : World} {base : Nat} {spare : Nat → Bool} {held : Bool} {r : Reach} {b0 : Nat} {v : Value} {d : DataW H} {p : List MemPlace}
    (hv : Value.okWide Try.prog w r b0 23 v) (h : DataW.Trod enc Try.prog w base spare held 23 v d p) :
    ∃ (A : Option Addr) (c : Nat) (l : List Ext), v = .slice A l.length c ∧ Exs w 0 w.heap.size A l ∧ Small l ∧ l.length ≤ maxLen := by
  obtain ⟨A, len, cap, rfl, h1, h2, h3⟩ := Wd.open_structs Try.underlying23 Try.underlying29 (by kernel_rfl) (by kernel_rfl) (by decide) hv h
  by_cases hn : 0 < len
  · obtain ⟨b, off, rfl, hb, hx⟩ := h3 hn
    have each : ∀ i, i < len → ∃ d : Ext, (∀ (k : Nat) (x : Value), (xv d)[k]? = some x → w.cell? ⟨b, off + (i * 3 + k), none⟩ = some x) ∧ d.n ≤ 9223372036854775807 := by
      intro i hi
      obtain ⟨n, hy⟩ := hx i hi
      obtain ⟨u0, y0, c0, t0⟩ := hy 0 _ rfl
      obtain ⟨u1, y1, c1, t1⟩ := hy 1 _ rfl
      obtain ⟨u2, y2, c2, t2⟩ := hy 2 _ rfl
      obtain ⟨a0, z0, _, w0⟩ := DataW.trod_int Try.underlying3 t0
      obtain ⟨a1, z1, _, w1⟩ := DataW.trod_int Try.underlying3 t1
      obtain ⟨a2, z2, _, w2⟩ := DataW.trod_int Try.underlying3 t2
      obtain rfl := (List.cons.inj z0).1
      obtain rfl := (List.cons.inj z1).1
      obtain rfl := (List.cons.inj z2).1
      refine ⟨⟨a0, a1, a2⟩, ?_, ?_⟩
      · intro k x hk
        match k, hk with
        | 0, hk => cases hk; exact c0
        | 1, hk => cases hk; exact c1
        | 2, hk => cases hk; exact c2
        | k + 3, hk => simp [xv] at hk
      · have h : IntKind.i64.min ≤ a1 ∧ a1 ≤ IntKind.i64.max := by simpa [Lit.wf] using w1
        have m2 : IntKind.i64.max = 9223372036854775807 := by decide
        simp only
        omega
    obtain ⟨Y, hY⟩ := choose_lt (n := len) (p := fun i (d : Ext) => (∀ (k : Nat) (x : Value), (xv d)[k]? = some x → w.cell? ⟨b, off + (i * 3 + k), none⟩ = some x) ∧ d.n ≤ 9223372036854775807) each
    refine ⟨_, cap, (List.range len).map Y, by simp, fun _ => ⟨b, off, rfl, Nat.zero_le _, hb, fun j d hj k x hk => ?_⟩, fun e he => ?_, by simp; exact Nat.le_trans h1 h2⟩
    · obtain ⟨hj1, hj2⟩ := List.getElem?_eq_some_iff.1 hj
      simp at hj1 hj2
      subst hj2
      exact (hY j hj1).1 k x hk
    · obtain ⟨i, hi, rfl⟩ := List.mem_map.1 he
      exact (hY i (List.mem_range.1 hi)).2
  · obtain rfl : len = 0 := by omega
    exact ⟨A, cap, [], rfl, Exs.nil _ _ _ _, (fun e he => by cases he), by simp⟩
end Go.Proofs.Ytlfmfdbgchpjgaa
