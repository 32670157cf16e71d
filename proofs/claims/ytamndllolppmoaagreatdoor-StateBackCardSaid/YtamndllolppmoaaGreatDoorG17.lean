import Derived.Test.YtamndllolppmoaaGreatDoorG16

/-! Rows of nodes: append. -/
namespace Go.Proofs.YtamndllolppmoaaGreatDoor
open Wd Ino Sm Go.RowKit Go.ChangeShapes Go.WideShapes Go.ChangeAt Go.Deep Go.Sort
set_option linter.unusedVariables false
set_option maxRecDepth 100000
theorem infoNd : (Tryz.prog.info? 38).map (fun i => (i.zero, i.size, i.bytes)) = some (some (nv 0 0 0 0 0 (.slice none 0 0) (.slice none 0 0)), 7, 88) := by kernel_rfl
def OwnNs (w : World) (base : Nat) (v : Value) (l : List Nd) : Prop := w.ownsRow base 38 7 v l.length (ndvals l)
def Nds (w : World) (hi : Nat) (A : Option Addr) (l : List Nd) : Prop := 0 < l.length → ∃ b off, A = some ⟨b, off, none⟩ ∧ b < hi ∧ ∀ (j : Nat) (n : Nd), l[j]? = some n → ∀ (k : Nat) (x : Value), n.cells[k]? = some x → w.cell? ⟨b, off + (j * 7 + k), none⟩ = some x
theorem ndvals_append (l m : List Nd) : ndvals (l ++ m) = ndvals l ++ ndvals m := by unfold ndvals; simp [List.flatMap_append]
theorem ndvals_len (l : List Nd) : (ndvals l).length = l.length * 7 := flat_len cells_len l
theorem ndvals_get {l : List Nd} : ∀ {J : Nat} {u : Value}, (ndvals l)[J]? = some u → ∃ e, l[J / 7]? = some e ∧ e.cells[J % 7]? = some u := by
  induction l with
  | nil => intro J u h; simp [ndvals] at h
  | cons e l ih =>
    intro J u h
    have e1 : ndvals (e :: l) = e.cells ++ ndvals l := by unfold ndvals; rw [List.flatMap_cons]
    rw [e1] at h
    by_cases hJ : J < 7
    · rw [List.getElem?_append_left (by rw [cells_len]; exact hJ)] at h
      exact ⟨e, by rw [Nat.div_eq_of_lt hJ]; rfl, by rw [Nat.mod_eq_of_lt hJ]; exact h⟩
    · rw [List.getElem?_append_right (by rw [cells_len]; omega)] at h
      obtain ⟨x, h1, h2⟩ := ih h
      rw [cells_len] at h1 h2
      refine ⟨x, ?_, ?_⟩
      · rw [show J / 7 = (J - 7) / 7 + 1 by omega]; exact h1
      · rw [show J % 7 = (J - 7) % 7 by omega]; exact h2
theorem one7 (e : Nd) : ∀ u ∈ e.cells, u.oneCell' = true := by
  intro u hu
  unfold Nd.cells at hu
  simp only [List.mem_cons, List.not_mem_nil, or_false] at hu
  rcases hu with rfl | rfl | rfl | rfl | rfl | rfl | rfl <;> rfl
theorem run_append_nds {w : World} {base hi : Nat} {v : Value} {l m : List Nd} {A : Option Addr} {c : Nat} (ty : TypeId) (hown : OwnNs w base v l) (hx : Nds w hi A m) (hl : l.length + m.length ≤ 100000) (hb : base ≤ w.heap.size) :
    ∃ v' w', (Builtin.append_ #[43, 43] ty #[v, .slice A m.length c]).run Tryz.prog w = .ok v' w' ∧ OwnNs w' base v' (l ++ m) ∧ w.grownBy w' v.ownBlock ∧ (v'.ownBlock = v.ownBlock ∨ v'.ownBlock = some w.heap.size) := by
  obtain ⟨i, i1, i2, i3, i4⟩ := info_parts infoNd
  have fin : ∀ v' (w' : World), w'.ownsRow base 38 7 v' (l.length + m.length) (ndvals l ++ ndvals m) → OwnNs w' base v' (l ++ m) := fun v' w' h => by
    unfold OwnNs; rw [List.length_append, ndvals_append]; exact h
  cases A with
  | none =>
    have hm : m = [] := by
      cases m with
      | nil => rfl
      | cons e m =>
        obtain ⟨b, off, h, _⟩ := hx (by simp)
        cases h
    subst hm
    refine ⟨v, w, ?_, by simpa using hown, World.grownBy.refl w _, .inl rfl⟩
    rcases hown.2 with ⟨rfl, h0⟩ | ⟨g, cap, cur, rfl, _, _, hnc, _⟩
    · simp [Builtin.append_, run_underlying Tryz.underlying43, Go.sizeOf, typeInfo, i1, Builtin.lenOf, Builtin.firstCells]
    · simp [Builtin.append_, run_underlying Tryz.underlying43, Go.sizeOf, typeInfo, i1, Builtin.lenOf, Builtin.firstCells, hnc, storeCells]
  | some ad =>
    obtain ⟨v', w', h2, h3, h4, _, h5⟩ := run_append_own_at (P := Tryz.prog) w base 43 ty 38 i (nv 0 0 0 0 0 (.slice none 0 0) (.slice none 0 0)) 7 88 Tryz.underlying43 i1 i2 i3 i4 rfl (by decide) v l.length (ndvals l) hown ad m.length c (ndvals m) (ndvals_len m) (fun j u hu => by
      obtain ⟨e, h1, h2⟩ := ndvals_get hu
      obtain ⟨b, off, h3, _, hc⟩ := hx (by have := (List.getElem?_eq_some_iff.1 h1).1; omega)
      cases h3
      have h4 := hc _ e h1 _ u h2
      have e1 : (⟨b, off, none⟩ : Addr).add j = ⟨b, off + j, none⟩ := by unfold Addr.add; split <;> simp_all
      rw [e1]
      rw [show j / 7 * 7 + j % 7 = j by omega] at h4
      exact h4) (fun u hu => by
      obtain ⟨e, _, he⟩ := List.mem_flatMap.1 hu
      exact one7 e u he) (by unfold maxLen; omega) (by omega) hb
    exact ⟨v', w', h2, fin _ _ h3, h4, h5⟩
theorem wpList_append_nds {ops : Array Oper} {rest : List Oper} {o : Oper} {a : Act} {Q : Exit → Act → World → Prop} {w : World} (hgd : o.guard = none) (s x : Operand)
    (ho : o.op = .call { callee := .builtin .append, args := #[s, x], argTypes := #[43, 43] })
    {base hi : Nat} {v : Value} {l m : List Nd} {A : Option Addr} {c : Nat} (hs : a.eval s = v) (hx' : a.eval x = .slice A m.length c) (hown : OwnNs w base v l) (hx : Nds w hi A m) (hl : l.length + m.length ≤ 100000) (hb : base ≤ w.heap.size)
    (h : ∀ v' w', OwnNs w' base v' (l ++ m) → w.grownBy w' v.ownBlock → (v'.ownBlock = v.ownBlock ∨ v'.ownBlock = some w.heap.size) → wpList Tryz.prog ops Q rest (a.put o.dst v') w') : wpList Tryz.prog ops Q (o :: rest) a w := by
  refine wpList_plain hgd fun _ hK => ?_
  obtain ⟨v', w', hrun, h2, h3, h4⟩ := run_append_nds (c := c) o.type hown hx hl hb
  unfold Oper.wp execOp
  simp only [ho, resolve, invoke, builtin, Sem.run_bind, Sem.run_pure, Result.andThen_ok, List.map_toArray, List.map_cons, List.map_nil, hs, hx', hrun]
  exact hK _ _ (h v' w' h2 h3 h4)

theorem nds_one (w : World) (n : Nd) : Nds (w.alloc (.cells #[.int .i64 n.ino, .int .i64 n.kind, .int .i64 n.links, .int .i64 n.size, .int .i64 n.up, .slice n.A n.pages.length n.ac, .slice n.B n.names.length n.bc] 38)) (w.heap.size + 1) (some ⟨w.heap.size, 0, none⟩) [n] := fun _ => by
  refine ⟨_, 0, rfl, by omega, fun j m hj k x hk => ?_⟩
  have hj0 : j = 0 := by have := (List.getElem?_eq_some_iff.1 hj).1; simpa using this
  subst hj0
  simp at hj
  subst hj
  rw [Nat.zero_mul, Nat.zero_add, Nat.zero_add, (Cells.new w 38 _).cell k, ← Array.getElem?_toList]
  exact hk
end Go.Proofs.YtamndllolppmoaaGreatDoor

/-! The document's State: a name is put, and the row stays one that may grow; what the document's does leaves. -/
namespace Go.Proofs.YtamndllolppmoaaGreatDoor
open Wd Ino Sm Go.RowKit Go.ChangeShapes Go.WideShapes Go.Sort
set_option linter.unusedVariables false
set_option maxRecDepth 100000
theorem OwnNs.set {w : World} {base gL c k : Nat} {Ls : List Nd} {n n' : Nd} (h : OwnNs w base (.slice (some ⟨gL, 0, none⟩) Ls.length c) Ls) (hk : Ls[k]? = some n) {j : Nat} {u : Value} (hj : j < 7) (hx : n'.cells = n.cells.set j u) :
    OwnNs (w.setCell ⟨gL, k * 7 + j, none⟩ u) base (.slice (some ⟨gL, 0, none⟩) Ls.length c) (Ls.set k n') := by
  rcases h with ⟨hl, h⟩
  unfold OwnNs
  rw [show ndvals (Ls.set k n') = (ndvals Ls).set (k * 7 + j) u from flat_set cells_len hj hx Ls k hk, List.length_set]
  refine ⟨by rw [List.length_set]; exact hl, ?_⟩
  rcases h with ⟨h0, _⟩ | ⟨g', cap, cur, hv, hb, hh, h1, h2, hs, ht⟩
  · cases h0
  · injection hv with hv _ hc
    injection hv with hv
    injection hv with hv
    subst hv hc
    refine .inr ⟨gL, c, cur.setIfInBounds (k * 7 + j) u, rfl, hb, Cells.set hh (k * 7 + j) u, h1, h2, by rw [Array.size_setIfInBounds]; exact hs, ?_⟩
    rw [Array.toList_setIfInBounds, List.take_set, ht]
theorem OwnNs.below {w w' : World} {base : Nat} {v : Value} {l : List Nd} (h : OwnNs w base v l) (hb : Below w.heap.size w w') : OwnNs w' base v l := (KeepC.of (Ts := []) hb).own (by simp) h
def DGoO (S' : Stt) (base g : Nat) (Ls : List Nd) (v : Value) (w : World) (e : Ending) (w' : World) : Prop := e = .returned (.tuple #[]) ∧ ∃ Ls' v', DSx w' base g Ls' v' S' ∧ OwnNs w' base v' Ls' ∧ Ls'.length ≤ Ls.length ∧ Below base w w' ∧ ∃ gL c, v = .slice (some ⟨gL, 0, none⟩) Ls.length c ∧ Trn w w' [gL]
section
variable {w w' : World} {base g : Nat} {Ls : List Nd} {v : Value} {S : Stt}
set_option maxHeartbeats 4000000 in
theorem rPutSO (h : DSx w base g Ls v S) (hown : OwnNs w base v Ls) (hlen : Ls.length ≤ 1000) (hs : SmS S.l) (ha : AscS S.l) (d : Int) {n0 : Nod} (h0 : atS S.l d = some n0) (s : ByteArray) (hno : hasN s n0.names = false) (i : Int) :
    Calls Tryz.prog 94 #[SPtr g, .int .i64 d, .string s, .int .i64 i] w (DGoO ⟨enterS S.l d s i, S.last⟩ base g Ls v w) := by
  have KA := Lib.hid (rAt h hlen d)
  have hd : n0.ino = d := atS_ino h0
  obtain ⟨n, k, gL, c, h1, h2, h3, rfl, hc, hb, hk, ho, _⟩ := h.at_ h0
  rw [h3] at KA
  have hsm := hs n0 (atS_mem h0)
  rw [← h2] at hsm
  have hq : n.names.length ≤ 1000 := Nat.le_trans hsm.q (by decide)
  have hnn : hasN s n.names = false := by have := hno; rw [← h2] at this; exact this
  have H := Lib.hid h; have HK1 := Lib.hid h1; have HO := Lib.hid ho; have HA := Lib.hid ha; have HLT := Lib.hid hk; have HOW := Lib.hid hown
  have HD := Lib.hid (show n.ino = d by rw [← hd, ← h2]; rfl)
  have hlt2 : (k : Int) < (Ls.length : Int) := Int.ofNat_lt.2 hk
  clear h h0 h1 h2 h3 ho ha hs hd hk hown
  clear hno
  unfold SPtr at *
  go_enter Tryz.func94, Tryz.ntmps94
  go_wp2_with fail
  refine (KA.out).mono ?_
  rintro e w2 ⟨rfl, hw1⟩
  have hb2 := grown_b hw1
  have h5 := H.out.below hb2
  obtain ⟨hbc, hE2⟩ := (HO.out.below hb2).ens
  have KP := Lib.hid (fun wx (b : Below w2.heap.size w2 wx) => rPutO (c := n.bc) (hE2.below (by exact b)) b.size hbc hq s i hnn)
  obtain ⟨cur, hcl, hbl⟩ := h5.blk HLT.out
  have HB2 := Lib.hid hb2; have H5 := Lib.hid h5; have HCL := Lib.hid hcl; have HBL := Lib.hid hbl
  have hx6 := h5.row_cells HK1.out 6 _ rfl
  have HBASE := Lib.hid (show base ≤ w2.heap.size by have := h5.lo; have := h5.cells.lt; omega)
  have HX6 := Lib.hid hx6
  obtain ⟨J, ki, l, t, u, A0, ac, P, B, bc, N⟩ := n
  dsimp only at KP HX6 hbc hq hsm hE2 hx6
  have b0 : Below w2.heap.size w2 w2.drew := below_drewN (Below.refl _ _) 1
  have s9 : ∀ w' : World, (∀ q, q < w2.heap.size → q ≠ gL → w'.heap[q]? = w2.heap[q]?) → w'.cell? ⟨g, 0, none⟩ = some (.slice (some ⟨gL, 0, none⟩) Ls.length c) := fun w' hb' => by
    have d1 : Cells w' g _ _ := (hb' g H5.out.cells.lt (fun e => by subst e; exact H5.out.cells.ne HCL.out (by decide) rfl)).trans H5.out.cells
    exact d1.cell 0
  have S9 := Lib.hid s9
  have x6 := HX6.out.1
  have c0 := H5.out.c0
  clear hw1 hb2 h5 hcl hbl hx6 s9 KA hE2 hsm hbc
  go_upto_region 1 with fail
  go_region_with
    (first
    | (go_at_call 123; (with_reducible refine (KP.out _ b0).mono ?_); rintro e' w3 ⟨B3, bc3, rfl, hc3, ho3, hb3⟩; have b3 := b0.trans (hb3.mono b0.size); have c3 := S9.out _ (fun q hq _ => b3.block q hq); have HO3 := Lib.hid ho3; have y6 := (HCL.out.below' b3).cell (k * 7 + 6); rw [← HCL.out.cell (k * 7 + 6), HX6.out.1] at y6; have z6 := (HCL.out.below' b3).free (k * 7 + 6)))
  all_goals
    have h6 := (H5.out.below b3).set HK1.out HA.out (n' := ⟨J, ki, l, t, u, A0, ac, P, B3, bc3, putR s i N⟩) (f := putNm s i) rfl (j := 6) (u := .slice B3 (putR s i N).length bc3) (by decide) rfl
      ⟨((HO.out.below HB2.out).below b3).1, HO3.out.mono HBASE.out⟩
    have h7 := ((HOW.out.below HB2.out).below b3).set HK1.out (n' := ⟨J, ki, l, t, u, A0, ac, P, B3, bc3, putR s i N⟩) (j := 6) (u := .slice B3 (putR s i N).length bc3) (by decide) rfl
    dsimp only at h6
    rw [show J = d from HD.out] at h6 h7
    have H6 := Lib.hid h6; have H7 := Lib.hid h7
    have HB6 := Lib.hid (show Below base w (w3.setCell ⟨gL, k * 7 + 6, none⟩ (.slice B3 (putR s i N).length bc3)) from ((HB2.out.trans (b3.mono HB2.out.size)).mono (by have := H.out.lo; have := H.out.cells.lt; omega)).setCell (p := ⟨gL, k * 7 + 6, none⟩) HBL.out _)
    have HKC := Lib.hid (show Trn w (w3.setCell ⟨gL, k * 7 + 6, none⟩ (.slice B3 (putR s i N).length bc3)) [gL] from
      ((Trn.of HB2.out).trans (Trn.of b3)).trans (Trn.set w3 (p := ⟨gL, k * 7 + 6, none⟩) (by simp) _))
    clear h6 h7 hc3 ho3 hb3 x6 y6 z6
    go_end0
    exact ⟨rfl, _, _, H6.out, H7.out, (by rw [List.length_set]; exact Nat.le_refl _), HB6.out, gL, c, rfl, HKC.out⟩
end
theorem KeepC.one {w w' : World} {gL : Nat} {T : TypeId} {cs : Array Value} (hc : Cells w gL T cs) (h : ∀ q, q ≠ gL → w'.heap[q]? = w.heap[q]?) : KeepC [T] w w' := fun b t cs' ht hc' => (h b (fun e => ht (by
    subst e
    have : t = T := Decidable.byContradiction fun hne => hc'.ne hc hne rfl
    rw [this]; exact List.mem_singleton.2 rfl))).trans hc'
/-- the seven cells of a node are stored into a row -/
def set7o (w : World) (g o : Nat) (n : Nd) : World :=
  ((((((w.setCell ⟨g, o, none⟩ (.int .i64 n.ino)).setCell ⟨g, o + 1, none⟩ (.int .i64 n.kind)).setCell ⟨g, o + 2, none⟩ (.int .i64 n.links)).setCell ⟨g, o + 3, none⟩ (.int .i64 n.size)).setCell ⟨g, o + 4, none⟩ (.int .i64 n.up)).setCell ⟨g, o + 5, none⟩ (.slice n.A n.pages.length n.ac)).setCell ⟨g, o + 6, none⟩ (.slice n.B n.names.length n.bc)
def sets7 (xs : List Value) (o : Nat) (n : Nd) : List Value :=
  ((((((xs.set o (.int .i64 n.ino)).set (o + 1) (.int .i64 n.kind)).set (o + 2) (.int .i64 n.links)).set (o + 3) (.int .i64 n.size)).set (o + 4) (.int .i64 n.up)).set (o + 5) (.slice n.A n.pages.length n.ac)).set (o + 6) (.slice n.B n.names.length n.bc)
theorem sets7_append (ys xs : List Value) (o : Nat) (n : Nd) : sets7 (ys ++ xs) (ys.length + o) n = ys ++ sets7 xs o n := by
  unfold sets7
  simp only [Nat.add_assoc]
  simp [List.set_append_right]
theorem ndvals_set (n' : Nd) : ∀ (l : List Nd) (k : Nat), k < l.length → ndvals (l.set k n') = sets7 (ndvals l) (k * 7) n' := by
  intro l
  induction l with
  | nil => intro k hk; simp at hk
  | cons x l ih =>
    intro k hk
    have e1 : ∀ (y : Nd) (m : List Nd), ndvals (y :: m) = y.cells ++ ndvals m := fun y m => by unfold ndvals; rw [List.flatMap_cons]
    cases k with
    | zero =>
      rw [List.set_cons_zero, e1, e1]
      simp [sets7, Nd.cells]
    | succ k =>
      rw [List.set_cons_succ, e1, e1, show (k + 1) * 7 = x.cells.length + k * 7 by rw [cells_len]; omega, sets7_append, ih k (by simpa using hk)]
theorem set7o_other {w : World} {g o q : Nat} {n : Nd} (h : q ≠ g) : (set7o w g o n).heap[q]? = w.heap[q]? := by
  unfold set7o
  simp only [Below.heap_setCell _ _ _ q (show q ≠ (⟨g, _, none⟩ : Addr).block from h)]
section
variable {w w' : World} {base g : Nat} {Ls : List Nd} {v : Value} {S : Stt}
theorem set7o_below {B : Nat} {w0 : World} {gL o : Nat} {n : Nd} (h : Below B w0 w) (hg : B ≤ gL) : Below B w0 (set7o w gL o n) := by
  unfold set7o
  exact ((((((h.setCell hg _).setCell hg _).setCell hg _).setCell hg _).setCell hg _).setCell hg _).setCell hg _
theorem DSx.set7 {c gL k : Nat} {n n' : Nd} (h : DSx w base g Ls (.slice (some ⟨gL, 0, none⟩) Ls.length c) S) (hk : Ls[k]? = some n) (ha : AscS S.l) {f : Nod → Nod} (hf : n'.plain = f n.plain) (ho : OwnNd w base n') :
    DSx (set7o w gL (k * 7) n') base g (Ls.set k n') (.slice (some ⟨gL, 0, none⟩) Ls.length c) ⟨modS S.l n.ino f, S.last⟩ := by
  have hkl := (List.getElem?_eq_some_iff.1 hk).1
  obtain ⟨cur, hc, hb⟩ := h.blk hkl
  have hkc : KeepC [38] w (set7o w gL (k * 7) n') := KeepC.one hc (fun q hq => set7o_other hq)
  refine ⟨h.lo, hkc _ _ _ (by decide) h.cells, ?_, fun m hm => ?_, ?_⟩
  · have h1 := ownK_set (ownK_set (ownK_set (ownK_set (ownK_set (ownK_set (ownK_set h.row (k * 7) (.int .i64 n'.ino)) (k * 7 + 1) (.int .i64 n'.kind)) (k * 7 + 2) (.int .i64 n'.links)) (k * 7 + 3) (.int .i64 n'.size)) (k * 7 + 4) (.int .i64 n'.up)) (k * 7 + 5) (.slice n'.A n'.pages.length n'.ac)) (k * 7 + 6) (.slice n'.B n'.names.length n'.bc)
    rw [ndvals_set n' Ls k hkl, List.length_set]
    exact h1
  · rcases List.mem_or_eq_of_mem_set hm with hm | rfl
    · exact (h.own m hm).keep hkc (by decide) (by decide)
    · exact ho.keep hkc (by decide) (by decide)
  · show (Ls.set k n').map Nd.plain = modS S.l n.ino f
    rw [List.map_set, h.eq, hf]
    refine (mod_set ha ?_ rfl).symm
    rw [← h.eq, List.getElem?_map, hk]; rfl
end
/-- what the document's does leaves -/
def DX (o : Option (Stt × List Int)) (S : Stt) (base g : Nat) (Ls : List Nd) (w : World) (en : Ending) (w' : World) : Prop :=
  ∃ A c l Ls' v', en = .returned (.tuple #[.slice A l c, .bool o.isSome]) ∧ DSx w' base g Ls' v' ((o.map Prod.fst).getD S) ∧ Ls'.length ≤ Ls.length + 1 ∧ Below base w w'
end Go.Proofs.YtamndllolppmoaaGreatDoor

/-! The project's State: a file goes. -/
namespace Go.Proofs.YtamndllolppmoaaGreatDoor
open Wd Ino Sm Go.RowKit Go.ChangeShapes Go.WideShapes Go.Sort
set_option linter.unusedVariables false
set_option maxRecDepth 100000
structure Bas (S : Stt) : Prop where
  sm : SmS S.l
  last : ∀ n ∈ S.l, n.ino ≤ S.last
  lr : i64R S.last
  lk : ∀ n ∈ S.l, 0 ≤ n.links ∧ n.links ≤ 16
  way : WayUp S.l
  pos : 0 < S.l.length
/-- it tells refs that go, and whether it was done -/
def RGo (o : Option (Stt × List Int)) (S : Stt) (base m g b : Nat) (w : World) (e : Ending) (w' : World) : Prop :=
  ∃ v, e = .returned (.tuple #[v, .bool o.isSome]) ∧ OwnI w' w.heap.size v ((o.map Prod.snd).getD []) ∧ PSt w' base (m + 8) g b ((o.map Prod.fst).getD S) ∧ Trn w w' [g, b]
section
variable {w : World} {base m g b : Nat} {S : Stt}
set_option maxHeartbeats 4000000 in
theorem pDrop (h : PSt w base m g b S) (bs : Bas S) (hm : m < 999900) (e : Eff) (eb : EfB e) :
    Calls Tryz.prog 80 #[SPtr g, e.val] w (RGo (dropS S e) S base m g b w) := by
  have hfol : Tryz.prog.follows .mixedOrders = true := by kernel_rfl
  obtain ⟨w1, hw1⟩ : ∃ w1, w.alloc (.cells (effCells e) 50) = w1 := ⟨_, rfl⟩
  have hg1 : Below w.heap.size w w1 := by rw [← hw1]; exact below_of_grown (World.grownBy_alloc w (.cells (effCells e) 50) none)
  have hc1 : Cells w1 w.heap.size 50 (effCells e) := by rw [← hw1]; exact Cells.new w 50 (effCells e)
  have h1 := h.below hg1
  obtain ⟨n, hn, ho, lk⟩ := h1.look eb.ino'
  obtain ⟨j, ki, l, t, u, A0, ac, P, B, bc, N⟩ := n
  obtain ⟨w2, hw2⟩ : ∃ w2, w1.alloc (.cells (ncells 0 0 0 0 0 (.slice none 0 0) (.slice none 0 0)) 38) = w2 := ⟨_, rfl⟩
  have hg2 : Below w1.heap.size w1 w2 := by rw [← hw2]; exact below_of_grown (World.grownBy_alloc _ _ none)
  have lk1 := lk w1.drew rfl
  have lk2 := lk w2.drew (hg2.block b h1.blt)
  have c01 := h1.c0
  have c02 := (h1.below hg2).c0
  obtain ⟨_, e1, _, _, _, _, _, _, _⟩ := cells9 hc1
  obtain ⟨_, f1, _, _, _, _, _, _, _⟩ := cells9 (hc1.below' hg2)
  have hz : Cells w2 w1.heap.size 38 (ncells 0 0 0 0 0 (.slice none 0 0) (.slice none 0 0)) := by rw [← hw2]; exact Cells.new _ _ _
  have HZ := Lib.hid hz
  have HG2 := Lib.hid hg2
  obtain ⟨kind, ino, dir, dst, page, size, name, other, A, cp, data⟩ := e
  unfold Eff.val
  unfold effCells at hw1
  unfold ncells at hw2
  unfold Nd.val at lk1 lk2
  dsimp only at *
  unfold SPtr at *
  go_enter Tryz.func80, Tryz.ntmps80
  go_upto_region 1 with fail
  go_cut [6] from 8 to 13 (fun p wx => p = .pointer (some ⟨w1.heap.size, 0, none⟩) ∧ Cells wx w1.heap.size 38 (ncells j ki l t u (.slice A0 P.length ac) (.slice B N.length bc)) ∧ Below w1.heap.size w1 wx)
  case first =>
    obtain ⟨z0, z1, z2, z3, z4, z5, z6⟩ := cells7 hz
    have r0 := hz.free 0; have r1 := hz.free 1; have r2 := hz.free 2; have r3 := hz.free 3; have r4 := hz.free 4; have r5 := hz.free 5; have r6 := hz.free 6
    clear hz
    go_region
    obtain ⟨wz, hwz⟩ : ∃ wz, set7 w2 w1.heap.size j ki l t u (.slice A0 P.length ac) (.slice B N.length bc) = wz := ⟨_, rfl⟩
    have hcz : Cells wz w1.heap.size 38 (ncells j ki l t u (.slice A0 P.length ac) (.slice B N.length bc)) := by rw [← hwz]; exact set7_cells (w := w2) HZ.out
    have hbz : Below w1.heap.size w1 wz := by rw [← hwz]; exact set7_below (w := w2) HG2.out (Nat.le_refl _)
    unfold set7 at hwz
    rw [hwz]
    have HCZ := Lib.hid hcz; have HBZ := Lib.hid hbz
    clear hwz hcz hbz z0 z1 z2 z3 z4 z5 z6 r0 r1 r2 r3 r4 r5 r6
    go_wp2_with fail
    go_meet
    exact ⟨rfl, HCZ.out, HBZ.out.drew⟩
  case rest =>
    obtain ⟨rfl, hcn, hbw⟩ := hcut
    have h3 := h1.below hbw
    have hsm := bs.sm.get ino
    have hD : dropS S ⟨kind, ino, dir, dst, page, size, name, other, A, cp, data⟩ = if ki = 1 ∧ l = 0 then some (⟨rmS S.l ino, S.last⟩, refsP P) else none := by
      unfold dropS kindS; rw [← hn]; rfl
    have hP : P.length ≤ 1000 := by have := hsm.p; rw [← hn] at this; exact this
    have HD := Lib.hid hD
    have H3 := Lib.hid h3; have HO := Lib.hid (ho.below hbw); have HCN := Lib.hid hcn
    have T3 := Lib.hid (Trn.of (S := [g, b]) (hg1.trans (hbw.mono hg1.size)))
    have HI := Lib.hid eb.ino'
    obtain ⟨z0, z1, z2, z3, z4, z5, z6⟩ := cells7 hcn
    have c0 := h3.c0
    obtain ⟨_, y1, _, _, _, _, _, _, _⟩ := cells9 (e := ⟨kind, ino, dir, dst, page, size, name, other, A, cp, data⟩) (hc1.below' hbw)
    clear hcn hbw hw1 hw2 lk1 lk2 lk c01 c02 e1 f1 HZ HG2 hz h1 hg1 hg2 hc1 h3 hsm hD hn ho h bs eb
    by_cases hk : ki = 1
    · have q0 : (ki != 1) = false := by simpa using hk
      by_cases hl : l = 0
      · have q1 : (l != 0) = false := by simpa using hl
        have HD2 := Lib.hid (show dropS S ⟨kind, ino, dir, dst, page, size, name, other, A, cp, data⟩ = some (⟨rmS S.l ino, S.last⟩, refsP P) by rw [HD.out, if_pos ⟨hk, hl⟩])
        clear hk hl
        go_wp2_with fail
        go_still_tail 6, (by kernel_rfl)
        change wpList _ _ _ _ _ wc.drew
        obtain ⟨w4, hrun, hP4, hT4⟩ := (H3.out.below (Below.refl _ _).drew).drop HI.out (l' := rmS S.l ino) (fun x => atS_rm _ _ _) 0
        have hk4 : KeepC [] wc w4 := fun q t cs _ hc => by
          have h5 : q ≠ b := fun e => by
            subst e
            obtain ⟨G, hG, _⟩ := H3.out.mp
            exact hG.cells hc rfl
          exact (turned_block hT4 h5).trans hc
        have hcn4 := hk4 _ _ _ (by simp) HCN.out
        obtain ⟨z0, z1, z2, z3, z4, z5, z6⟩ := cells7 hcn4
        have ho4 := HO.out.keep hk4 (by simp) (by simp)
        have KR := Lib.hid (iRefs ⟨j, ki, l, t, u, A0, ac, P, B, bc, N⟩ w4 ho4.in_ hP)
        have HP4 := Lib.hid hP4
        have HT4 := Lib.hid (T3.out.drew.trans (Trn.map hT4 (S := [g, b]) (List.mem_cons_of_mem _ (List.mem_singleton.2 rfl))))
        unfold Nd.val at KR
        dsimp only at KR
        clear hP4 hT4 hk4 hcn4 ho4
        go_wp2_with fail
        refine (KR.out).mono ?_
        rintro e' w5 ⟨v, rfl, ho5, hb5⟩
        obtain ⟨A5, c5, rfl, _⟩ := ho5.row
        have HO5 := Lib.hid ho5; have HB5 := Lib.hid hb5
        clear ho5 hb5
        go_wp2
        go_ret2
        rw [HD2.out]
        exact ⟨_, rfl, HO5.out.mono HT4.out.size, (HP4.out.below HB5.out).more (by omega), HT4.out.trans (Trn.of HB5.out)⟩
      · have q1 : (l != 0) = true := by simpa using hl
        have HD2 := Lib.hid (show dropS S ⟨kind, ino, dir, dst, page, size, name, other, A, cp, data⟩ = none by rw [HD.out, if_neg (fun hh => hl hh.2)])
        clear hk hl
        go_wp2
        go_ret2
        rw [HD2.out]
        exact ⟨_, rfl, OwnI.nil _ _, H3.out.more (by omega), T3.out⟩
    · have q0 : (ki != 1) = true := by simpa using hk
      have HD2 := Lib.hid (show dropS S ⟨kind, ino, dir, dst, page, size, name, other, A, cp, data⟩ = none by rw [HD.out, if_neg (fun hh => hk hh.1)])
      clear hk
      go_wp2
      go_ret2
      rw [HD2.out]
      exact ⟨_, rfl, OwnI.nil _ _, H3.out.more (by omega), T3.out⟩
end
end Go.Proofs.YtamndllolppmoaaGreatDoor

/-! The project's State: a link more. -/
namespace Go.Proofs.YtamndllolppmoaaGreatDoor
open Wd Ino Sm Go.RowKit Go.ChangeShapes Go.WideShapes Go.Sort
set_option linter.unusedVariables false
set_option maxRecDepth 100000
theorem SmS.mod {l : List Nod} (h : SmS l) {i : Int} {f : Nod → Nod} (hf : ∀ n ∈ l, SmN n → SmN (f n)) : SmS (modS l i f) := fun a ha => by
  unfold modS at ha
  obtain ⟨n, hn, rfl⟩ := List.mem_map.1 ha
  split
  · exact hf n hn (h n hn)
  · exact h n hn
theorem SmN.links_ {n : Nod} (h : SmN n) {x : Int} (hx : i64R x) : SmN { n with links := x } := ⟨h.p, h.q, h.sz, h.ino, h.kind, hx, h.size, h.up, h.pg, h.nm⟩
section
variable {w : World} {base m g b : Nat} {S : Stt}
set_option maxHeartbeats 4000000 in
theorem pLink (h : PSt w base m g b S) (bs : Bas S) (hm : m < 999900) (e : Eff) (eb : EfB e) :
    Calls Tryz.prog 75 #[SPtr g, e.val] w (BGo (linkS S e) S base m g b w) := by
  have hfol : Tryz.prog.follows .mixedOrders = true := by kernel_rfl
  obtain ⟨w1, hw1⟩ : ∃ w1, w.alloc (.cells (effCells e) 50) = w1 := ⟨_, rfl⟩
  have hg1 : Below w.heap.size w w1 := by rw [← hw1]; exact below_of_grown (World.grownBy_alloc w (.cells (effCells e) 50) none)
  have hc1 : Cells w1 w.heap.size 50 (effCells e) := by rw [← hw1]; exact Cells.new w 50 (effCells e)
  have h1 := h.below hg1
  obtain ⟨n, hn, ho, lk⟩ := h1.look eb.ino'
  obtain ⟨j, ki, l, t, u, A0, ac, P, B, bc, N⟩ := n
  obtain ⟨w2, hw2⟩ : ∃ w2, w1.alloc (.cells (ncells 0 0 0 0 0 (.slice none 0 0) (.slice none 0 0)) 38) = w2 := ⟨_, rfl⟩
  have hg2 : Below w1.heap.size w1 w2 := by rw [← hw2]; exact below_of_grown (World.grownBy_alloc _ _ none)
  have lk1 := lk w1.drew rfl
  have lk2 := lk w2.drew (hg2.block b h1.blt)
  have c01 := h1.c0
  have c02 := (h1.below hg2).c0
  obtain ⟨_, e1, _, _, _, _, _, _, _⟩ := cells9 hc1
  obtain ⟨_, f1, _, _, _, _, _, _, _⟩ := cells9 (hc1.below' hg2)
  have hz : Cells w2 w1.heap.size 38 (ncells 0 0 0 0 0 (.slice none 0 0) (.slice none 0 0)) := by rw [← hw2]; exact Cells.new _ _ _
  have HZ := Lib.hid hz
  have HG2 := Lib.hid hg2
  have KF0 := Lib.hid (fun wx (hb : Below w1.heap.size w1 wx) => pFree (h1.below hb) bs.sm e.dir eb.dir e.name)
  obtain ⟨kind, ino, dir, dst, page, size, name, other, A, cp, data⟩ := e
  unfold Eff.val
  unfold effCells at hw1
  unfold ncells at hw2
  unfold Nd.val at lk1 lk2
  dsimp only at *
  unfold SPtr at *
  go_enter Tryz.func75, Tryz.ntmps75
  go_upto_region 1 with fail
  go_cut [5] from 7 to 12 (fun p wx => p = .pointer (some ⟨w1.heap.size, 0, none⟩) ∧ Cells wx w1.heap.size 38 (ncells j ki l t u (.slice A0 P.length ac) (.slice B N.length bc)) ∧ Below w1.heap.size w1 wx)
  case first =>
    obtain ⟨z0, z1, z2, z3, z4, z5, z6⟩ := cells7 hz
    have r0 := hz.free 0; have r1 := hz.free 1; have r2 := hz.free 2; have r3 := hz.free 3; have r4 := hz.free 4; have r5 := hz.free 5; have r6 := hz.free 6
    clear hz
    go_region
    obtain ⟨wz, hwz⟩ : ∃ wz, set7 w2 w1.heap.size j ki l t u (.slice A0 P.length ac) (.slice B N.length bc) = wz := ⟨_, rfl⟩
    have hcz : Cells wz w1.heap.size 38 (ncells j ki l t u (.slice A0 P.length ac) (.slice B N.length bc)) := by rw [← hwz]; exact set7_cells (w := w2) HZ.out
    have hbz : Below w1.heap.size w1 wz := by rw [← hwz]; exact set7_below (w := w2) HG2.out (Nat.le_refl _)
    unfold set7 at hwz
    rw [hwz]
    have HCZ := Lib.hid hcz; have HBZ := Lib.hid hbz
    clear hwz hcz hbz z0 z1 z2 z3 z4 z5 z6 r0 r1 r2 r3 r4 r5 r6
    go_wp2_with fail
    go_meet
    exact ⟨rfl, HCZ.out, HBZ.out.drew⟩
  case rest =>
    obtain ⟨rfl, hcn, hbw⟩ := hcut
    have h3 := h1.below hbw
    have KF := Lib.hid (KF0.out _ hbw)
    obtain ⟨F, hF⟩ : ∃ F, freeS S.l dir name = F := ⟨_, rfl⟩
    have HF := Lib.hid hF
    rw [hF] at KF
    have hD : linkS S ⟨kind, ino, dir, dst, page, size, name, other, A, cp, data⟩ = if (F && (decide (ki = 1) && (decide (1 ≤ l) && decide (l < 16)))) = true then some ⟨enterS (modS S.l ino moreLk) dir name ino, S.last⟩ else none := by
      unfold linkS kindS; rw [← hn, hF]; rfl
    have HD := Lib.hid hD
    have H3 := Lib.hid h3; have HO := Lib.hid (ho.below hbw); have HCN := Lib.hid hcn
    have T3 := Lib.hid (Trn.of (S := [g, b]) (hg1.trans (hbw.mono hg1.size)))
    have HBW := Lib.hid (And.intro hg1 hbw)
    have EB := Lib.hid eb; have BS := Lib.hid bs; have HM := Lib.hid hm; have HN := Lib.hid hn
    obtain ⟨z0, z1, z2, z3, z4, z5, z6⟩ := cells7 hcn
    have c0 := h3.c0
    obtain ⟨_, y1, y2, _, _, _, y6, _, _⟩ := cells9 (e := ⟨kind, ino, dir, dst, page, size, name, other, A, cp, data⟩) (hc1.below' hbw)
    have HC1 := Lib.hid (hc1.below' hbw)
    have hw0 : ∀ q os, Cells (grow (wc.drewN q) os) w1.heap.size 38 (ncells j ki l t u (.slice A0 P.length ac) (.slice B N.length bc)) := fun q os => HCN.out.below' (below_grow' _ _ _)
    have HW0 := Lib.hid hw0
    have NO : linkS S ⟨kind, ino, dir, dst, page, size, name, other, A, cp, data⟩ = none → ∀ wx, (∃ q os, wx = grow (wc.drewN q) os) → BGo (linkS S ⟨kind, ino, dir, dst, page, size, name, other, A, cp, data⟩) S base m g b w (.returned (.bool false)) wx := fun he wx hg => by
      rw [he]
      exact ⟨rfl, (H3.out.below (grown_b hg)).more (by omega), T3.out.trans (Trn.of (grown_b hg))⟩
    have HNO := Lib.hid NO
    clear hcn hbw hw1 hw2 lk1 lk2 lk c01 c02 e1 f1 HZ HG2 hz h1 hg1 hg2 hc1 h3 hD hn ho h bs eb KF0 hF hw0 NO hm
    go_wp2_with fail
    refine (KF.out).mono ?_
    rintro e' w5 ⟨rfl, hw5⟩
    have HG5 := Lib.hid hw5
    obtain ⟨q5, os5, rfl⟩ := hw5
    have hcn := HW0.out q5 os5
    obtain ⟨z0, z1, z2, z3, z4, z5, z6⟩ := cells7 hcn
    obtain ⟨w5, hw5⟩ : ∃ w5, grow (wc.drewN q5) os5 = w5 := ⟨_, rfl⟩
    rw [hw5] at HG5 hcn z0 z1 z2 z3 z4 z5 z6 ⊢
    have HC5 := Lib.hid hcn
    clear hw5 hcn
    cases F with
    | false =>
      go_wp2
      go_ret
      exact HNO.out (by rw [HD.out]; rfl) _ HG5.out
    | true =>
      by_cases hk : ki = 1
      · have q0 : (ki != 1) = false := by simpa using hk
        by_cases hl : 1 ≤ l
        · have q1 : decide (l < 1) = false := decide_eq_false (by omega)
          by_cases hl2 : l < 16
          · have q2 : decide (16 ≤ l) = false := decide_eq_false (by omega)
            have q3 : decide (l ≥ 16) = false := decide_eq_false (by omega)
            have HD2 := Lib.hid (show linkS S ⟨kind, ino, dir, dst, page, size, name, other, A, cp, data⟩ = some ⟨enterS (modS S.l ino moreLk) dir name ino, S.last⟩ by rw [HD.out, decide_eq_true hk, decide_eq_true hl, decide_eq_true hl2]; rfl)
            have w9 : wrap64 (l + 1) = l + 1 := by unfold wrap64; omega
            have HA := Lib.hid (show ∃ n0, atS S.l ino = some n0 ∧ (⟨j, ki, l, t, u, A0, ac, P, B, bc, N⟩ : Nd).plain = n0 by
              obtain ⟨n0, a0, a1⟩ := at_of_kind (l := S.l) (i := ino) (by unfold kindS; rw [← HN.out]; show ki ≠ 0; omega)
              exact ⟨n0, a0, HN.out.trans a1⟩)
            have r2 := HC5.out.free 2
            have HLB := Lib.hid (And.intro hl hl2)
            clear hk hl hl2
            go_wp2_with fail
            obtain ⟨w6, hw6⟩ : ∃ w6, w5.setCell ⟨w1.heap.size, 2, none⟩ (.int .i64 (l + 1)) = w6 := ⟨_, rfl⟩
            have h5 := H3.out.below (grown_b HG5.out)
            have hk6 : KeepC [38] w5 w6 := fun q t cs ht hc => by
              rw [← hw6]
              exact hc.far (fun e => ht (by
                subst e
                have : t = 38 := Decidable.byContradiction fun hne => hc.ne HC5.out hne rfl
                rw [this]; exact List.mem_singleton.2 rfl)) _
            have hb6 : w6.heap[b]? = w5.heap[b]? := by
              rw [← hw6]
              exact Below.heap_setCell w5 _ _ b (fun e => by
                obtain ⟨G, hG, _⟩ := h5.mp
                exact hG.cells HC5.out e)
            have h6 := h5.keep hk6 (by decide) (by decide) (by decide) hb6
            have hc6 : Cells w6 w1.heap.size 38 (ncells j ki (l + 1) t u (.slice A0 P.length ac) (.slice B N.length bc)) := by rw [← hw6]; exact HC5.out.set 2 _
            have he6 := hk6 _ _ _ (by decide) (HC1.out.below' (grown_b HG5.out))
            have hb06 : Below w1.heap.size w1 w6 := by rw [← hw6]; exact (HBW.out.2.trans ((grown_b HG5.out).mono HBW.out.2.size)).setCell (p := ⟨w1.heap.size, 2, none⟩) (Nat.le_refl _) _
            have T6 := Lib.hid (Trn.of (S := [g, b]) (HBW.out.1.trans (hb06.mono HBW.out.1.size)))
            have ho6 := (HO.out.below (grown_b HG5.out)).keep hk6 (by decide) (by decide)
            obtain ⟨z0, z1, z2, z3, z4, z5, z6⟩ := cells7 hc6
            obtain ⟨_, y1, _, _, _, _, _, _, _⟩ := cells9 (e := ⟨kind, ino, dir, dst, page, size, name, other, A, cp, data⟩) he6
            have c0 := h6.c0
            have H6 := Lib.hid h6; have HO6 := Lib.hid ho6; have HE6 := Lib.hid he6
            rw [hw6]
            clear hw6 h5 hk6 hb6 h6 hc6 he6 hb06 ho6 r2
            go_still_tail 7, (by kernel_rfl)
            change wpList _ _ _ _ _ w6.drew
            obtain ⟨n0, a0, a1⟩ := HA.out
            have hm2 : m < 1000000 := by have := HM.out; omega
            obtain ⟨w7, hrun, hP7, hT7⟩ := (H6.out.below (Below.refl _ _).drew).store hm2 EB.out.ino' (x := ino) (n := ⟨j, ki, l + 1, t, u, A0, ac, P, B, bc, N⟩)
              (show OwnNd _ base ⟨j, ki, l, t, u, A0, ac, P, B, bc, N⟩ from HO6.out.below (Below.refl _ _).drew)
              (l' := modS S.l ino moreLk) (fun x => by rw [at_modS (f := moreLk) (fun _ => rfl) a0, ← a1]; rfl)
            have hk7 : KeepC [] w6 w7 := fun q t cs _ hc => by
              have h5 : q ≠ b := fun e => by
                subst e
                obtain ⟨G, hG, _⟩ := H6.out.mp
                exact hG.cells hc rfl
              exact (turned_block hT7 h5).trans hc
            have he7 := hk7 _ _ _ (by simp) HE6.out
            obtain ⟨_, y1, y2, _, _, _, y6, _, _⟩ := cells9 (e := ⟨kind, ino, dir, dst, page, size, name, other, A, cp, data⟩) he7
            have hsm : SmS (modS S.l ino moreLk) := BS.out.sm.mod fun n hn sn => sn.links_ (by have := BS.out.lk n hn; unfold i64R; omega)
            obtain ⟨nd, d0, _, _⟩ := free_at HF.out
            have KE := Lib.hid (pEnter hP7 hsm (by have := HM.out; omega) dir EB.out.dir (n0 := if dir = ino then moreLk nd else nd) (by rw [atS_mod (f := moreLk) (fun _ => rfl), d0]; rfl) name EB.out.name ino)
            have T7 := Lib.hid (T6.out.drew.trans (Trn.map hT7 (S := [g, b]) (List.mem_cons_of_mem _ (List.mem_singleton.2 rfl))))
            unfold Nd.val at hrun
            dsimp only at hrun
            unfold SPtr at KE
            clear hT7 hP7 hk7 he7 hsm d0 a0 a1
            go_wp2_with fail
            refine (KE.out).mono ?_
            rintro e' w8 ⟨rfl, h8, t8⟩
            have H8 := Lib.hid h8; have T8 := Lib.hid (T7.out.trans t8)
            clear h8 t8
            go_wp2
            go_ret
            rw [HD2.out]
            exact ⟨rfl, H8.out.more (by omega), T8.out⟩
          · have q2 : decide (16 ≤ l) = true := decide_eq_true (by omega)
            have q3 : decide (l ≥ 16) = true := decide_eq_true (by omega)
            have HX := Lib.hid (show linkS S ⟨kind, ino, dir, dst, page, size, name, other, A, cp, data⟩ = none by rw [HD.out, decide_eq_false hl2]; simp)
            clear hk hl hl2
            go_wp2
            go_ret
            exact HNO.out HX.out _ HG5.out
        · have q1 : decide (l < 1) = true := decide_eq_true (by omega)
          have HX := Lib.hid (show linkS S ⟨kind, ino, dir, dst, page, size, name, other, A, cp, data⟩ = none by rw [HD.out, decide_eq_false hl]; simp)
          clear hk hl
          go_wp2
          go_ret
          exact HNO.out HX.out _ HG5.out
      · have q0 : (ki != 1) = true := by simpa using hk
        have HX := Lib.hid (show linkS S ⟨kind, ino, dir, dst, page, size, name, other, A, cp, data⟩ = none by rw [HD.out, decide_eq_false hk]; rfl)
        clear hk
        go_wp2
        go_ret
        exact HNO.out HX.out _ HG5.out
end
end Go.Proofs.YtamndllolppmoaaGreatDoor
