import Derived.Test.YtlfmfdbgchpjgaaExPut
namespace Go.Proofs.Ytlfmfdbgchpjgaa
open Wd Ex Go.RowKit Go.ChangeShapes Go.WideShapes Go.Sort
set_option linter.unusedVariables false
set_option maxRecDepth 100000

theorem lens_take {l : List Ext} {k : Nat} {e : Ext} (h : l[k]? = some e) : lens (l.take (k + 1)) = lens (l.take k) + e.n := by
  rw [List.take_add_one, h, show (some e).toList = [e] from rfl, lens_append]
  show _ + (e.n + 0) = _
  omega
theorem lens_nonneg : ∀ {l : List Ext}, (∀ e ∈ l, Fits e) → 0 ≤ lens l := by
  intro l
  induction l with
  | nil => intro _; exact Int.le_refl _
  | cons e l ih =>
    intro h
    have := (h e List.mem_cons_self).n
    have := ih (fun x hx => h x (List.mem_cons_of_mem _ hx))
    rw [lens]; omega
theorem lens_part {l : List Ext} (h : Right l) (k : Nat) : 0 ≤ lens (l.take k) ∧ lens (l.take k) ≤ 1048576 := by
  have h1 := lens_append (l.take k) (l.drop k)
  rw [List.take_append_drop] at h1
  have h2 := lens_nonneg (l := l.take k) (fun e he => h.fits e (List.mem_of_mem_take he))
  have h3 := lens_nonneg (l := l.drop k) (fun e he => h.fits e (List.mem_of_mem_drop he))
  have h4 := lens_ends h.up h.ends (by omega)
  omega
def LenRel (l : List Ext) (w : World) (s i : Value) (wr : World) : Prop := ∃ k : Nat, k ≤ l.length ∧ i = .int .i64 k ∧ s = .int .i64 (lens (l.take k)) ∧ Below w.heap.size w wr
def lenE (l : List Ext) : Int := if rightB l = true then lens l else 0
section
variable {w : World} {lo hi : Nat} {A : Option Addr} {c : Nat} {l : List Ext}
set_option maxHeartbeats 2000000 in
theorem xLen (h : Exs w lo hi A l) (hh : hi ≤ w.heap.size) (hs : Small l) (hm : l.length ≤ 1000) : Calls Try.prog 16 #[.slice A l.length c] w (Tells (.int .i64 (lenE l)) w) := by
  have KR := Lib.hid (xRight (c := c) h hh hs (by omega))
  have H := Lib.hid h
  clear h hs
  unfold lenE
  cases hr : rightB l
  · rw [hr] at KR
    rw [if_neg (by simp)]
    clear hr
    go_enter Try.func16, Try.ntmps16
    go_wp2_with fail
    refine KR.out.mono ?_
    rintro e w1 hg
    obtain ⟨rfl, b1⟩ := grows_b hg
    clear hg KR
    go_wp2
    go_ret
    exact ⟨rfl, b1⟩
  · rw [hr] at KR
    rw [if_pos rfl]
    have hR := rightB_iff.1 hr
    have HLP := Lib.hid (lens_part hR)
    clear hr
    go_enter Try.func16, Try.ntmps16
    go_wp2_with fail
    refine KR.out.mono ?_
    rintro e w1 hg
    obtain ⟨rfl, b1⟩ := grows_b hg
    have B1 := Lib.hid b1
    clear hg KR b1
    go_wp2
    go_loopw [3, 11] (fun s i wr => LenRel l w s i wr) (fun _ i _ => l.length - (intOf i).toNat)
    case atStart => exact ⟨0, Nat.zero_le _, rfl, rfl, B1.out⟩
    case round =>
      obtain ⟨k, hk, rfl, rfl, hb⟩ := hrel
      have HB := Lib.hid hb
      by_cases hlt : k < l.length
      · obtain ⟨e, he⟩ : ∃ e, l[k]? = some e := ⟨_, List.getElem?_eq_getElem hlt⟩
        obtain ⟨bl, off, rfl, _, hbB, x0, x1, x2⟩ := exs_cells (H.out.below (hb.mono hh)) he
        have hlt2 : (k : Int) < (l.length : Int) := Int.ofNat_lt.2 hlt
        have e1 := lens_take he
        have e2 := HLP.out (k + 1)
        obtain ⟨s, hs⟩ : ∃ s, lens (l.take k) = s := ⟨_, rfl⟩
        obtain ⟨s', hs'⟩ : ∃ s, lens (l.take (k + 1)) = s := ⟨_, rfl⟩
        rw [hs, hs'] at e1
        rw [hs'] at e2
        rw [hs]
        have q : wrap64 (s + e.n) = s' := by rw [e1]; unfold wrap64; omega
        have HS' := Lib.hid hs'
        clear hb he e1 e2 hs hs' hR
        go_wp2
        go_roundw
        case rel => exact ⟨k + 1, by omega, by go_num, by rw [HS'.out, q], HB.out.alloc HB.out.size _⟩
        case measure => simp [intOf]; omega
      · obtain rfl : k = l.length := by omega
        rw [List.take_length]
        clear hb
        go_wp2
        go_ret
        exact ⟨rfl, HB.out⟩
end

/-! append of a row of extents -/
theorem xvals_get {l : List Ext} : ∀ {J : Nat} {u : Value}, (xvals l)[J]? = some u → ∃ e, l[J / 3]? = some e ∧ (xv e)[J % 3]? = some u := by
  induction l with
  | nil => intro J u h; simp [xvals] at h
  | cons e l ih =>
    intro J u h
    have e1 : xvals (e :: l) = xv e ++ xvals l := by unfold xvals; rw [List.flatMap_cons]
    rw [e1] at h
    by_cases hJ : J < 3
    · rw [List.getElem?_append_left (by simpa [xv] using hJ)] at h
      exact ⟨e, by rw [Nat.div_eq_of_lt hJ]; rfl, by rw [Nat.mod_eq_of_lt hJ]; exact h⟩
    · rw [List.getElem?_append_right (by simp [xv]; omega)] at h
      obtain ⟨x, h1, h2⟩ := ih h
      have hl : (xv e).length = 3 := rfl
      rw [hl] at h1 h2
      refine ⟨x, ?_, ?_⟩
      · rw [show J / 3 = (J - 3) / 3 + 1 by omega]; exact h1
      · rw [show J % 3 = (J - 3) % 3 by omega]; exact h2
theorem run_append_exs {w : World} {base lo hi : Nat} {v : Value} {l m : List Ext} {A : Option Addr} {c : Nat} (ty : TypeId) (hown : OwnX w base v l) (hx : Exs w lo hi A m) (hl : l.length + m.length ≤ 100000) (hb : base ≤ w.heap.size) :
    ∃ v' w', (Builtin.append_ #[23, 23] ty #[v, .slice A m.length c]).run Try.prog w = .ok v' w' ∧ OwnX w' base v' (l ++ m) ∧ w.grownBy w' v.ownBlock ∧ (v'.ownBlock = v.ownBlock ∨ v'.ownBlock = some w.heap.size) := by
  obtain ⟨i, i1, i2, i3, i4⟩ := info_parts infoX
  have fin : ∀ v' (w' : World), w'.ownsRow base 29 3 v' (l.length + m.length) (xvals l ++ xvals m) → OwnX w' base v' (l ++ m) := fun v' w' h => by
    unfold OwnX; rw [List.length_append, xvals_append]; exact h
  cases A with
  | none =>
    have hm : m = [] := by
      cases m with
      | nil => rfl
      | cons e m =>
        obtain ⟨b, off, h, _⟩ := hx (by simp)
        cases h
    subst hm
    refine ⟨v, w, ?_, by simpa using hown, World.grownBy.refl w _, .inl rfl⟩
    rcases hown.2 with ⟨rfl, h0⟩ | ⟨g, cap, cur, rfl, _, _, hnc, _⟩
    · simp [Builtin.append_, run_underlying Try.underlying23, Go.sizeOf, typeInfo, i1, Builtin.lenOf, Builtin.firstCells]
    · simp [Builtin.append_, run_underlying Try.underlying23, Go.sizeOf, typeInfo, i1, Builtin.lenOf, Builtin.firstCells, hnc, storeCells]
  | some ad =>
    obtain ⟨v', w', h2, h3, h4, _, h5⟩ := run_append_own_at (P := Try.prog) w base 23 ty 29 i (.agg #[.int .i64 0, .int .i64 0, .int .i64 0]) 3 24 Try.underlying23 i1 i2 i3 i4 rfl (by decide) v l.length (xvals l) hown ad m.length c (xvals m) (xvals_len m) (fun j u hu => by
      obtain ⟨e, h1, h2⟩ := xvals_get hu
      obtain ⟨b, off, h3, _, _, hc⟩ := hx (by have := (List.getElem?_eq_some_iff.1 h1).1; omega)
      cases h3
      have h4 := hc _ e h1 _ u h2
      have e1 : (⟨b, off, none⟩ : Addr).add j = ⟨b, off + j, none⟩ := by unfold Addr.add; split <;> simp_all
      rw [e1]
      rw [show j / 3 * 3 + j % 3 = j by omega] at h4
      exact h4) (fun u hu => by
      obtain ⟨e, _, he⟩ := List.mem_flatMap.1 hu
      exact one3 e u he) (by unfold maxLen; omega) (by omega) hb
    exact ⟨v', w', h2, fin _ _ h3, h4, h5⟩
theorem wpList_append_exs {ops : Array Oper} {rest : List Oper} {o : Oper} {a : Act} {Q : Exit → Act → World → Prop} {w : World} (hgd : o.guard = none) (s x : Operand)
    (ho : o.op = .call { callee := .builtin .append, args := #[s, x], argTypes := #[23, 23] })
    {base lo hi : Nat} {v : Value} {l m : List Ext} {A : Option Addr} {c : Nat} (hs : a.eval s = v) (hx' : a.eval x = .slice A m.length c) (hown : OwnX w base v l) (hx : Exs w lo hi A m) (hl : l.length + m.length ≤ 100000) (hb : base ≤ w.heap.size)
    (h : ∀ v' w', OwnX w' base v' (l ++ m) → w.grownBy w' v.ownBlock → (v'.ownBlock = v.ownBlock ∨ v'.ownBlock = some w.heap.size) → wpList Try.prog ops Q rest (a.put o.dst v') w') : wpList Try.prog ops Q (o :: rest) a w := by
  refine wpList_plain hgd fun _ hK => ?_
  obtain ⟨v', w', hrun, h2, h3, h4⟩ := run_append_exs (c := c) o.type hown hx hl hb
  unfold Oper.wp execOp
  simp only [ho, resolve, invoke, builtin, Sem.run_bind, Sem.run_pure, Result.andThen_ok, List.map_toArray, List.map_cons, List.map_nil, hs, hx', hrun]
  exact hK _ _ (h v' w' h2 h3 h4)
end Go.Proofs.Ytlfmfdbgchpjgaa
