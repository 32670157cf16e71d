import Derived.Test.YtjhchddmbbibpaaDoorPtUse
namespace Go.Proofs.YtjhchddmbbibpaaDoor
open Wd Pa Go.ChangeShapes Go.WideShapes Go.RowKit Go.Sort
set_option linter.unusedVariables false
/-- append(a slice, nothing): the slice -/
theorem step_append_none {P : Program} {ops : Array Oper} {o : Oper} {a : Act} {w : World} {K : Act → World → Prop} {Q : Exit → Act → World → Prop} {E : Prop}
    (hg : o.guard = none) (s x : Operand) (t : TypeId) (hop : o.op = Op.call { callee := Callee.builtin Builtin.append, args := #[s, x], argTypes := #[t, t] })
    (e : TypeId) (z : Value) (size bytes : Nat) (ht : P.underlying t = some (.slice e)) (hi : (P.info? e).map (fun i => (i.zero, i.size, i.bytes)) = some (some z, size, bytes))
    (ad : Addr) (n c : Nat) (hs : a.eval s = .slice (some ad) n c) (hnc : n ≤ c) (A : Option Addr) (c2 : Nat) (hx : a.eval x = .slice A 0 c2)
    (h : K (a.put o.dst (.slice (some ad) n c)) w) : if Region.wanted o (yielded ops a.tmps) = true then Oper.wp P o a w K Q else E := by
  have hw : Region.wanted o (yielded ops a.tmps) = true := by simp [Region.wanted, hg]
  rw [if_pos hw]
  obtain ⟨i, i1, i2, i3, i4⟩ := info_parts hi
  have hrun : (Builtin.append_ #[t, t] o.type #[.slice (some ad) n c, .slice A 0 c2]).run P w = .ok (.slice (some ad) n c) w := by
    cases A <;> simp [Builtin.append_, run_underlying ht, Go.sizeOf, typeInfo, i1, Builtin.lenOf, Builtin.firstCells, hnc, storeCells, loadCells, loadCellsFrom]
  unfold Oper.wp execOp
  simp only [hop, resolve, invoke, builtin, Sem.run_bind, Sem.run_pure, Result.andThen_ok, List.map_toArray, List.map_cons, List.map_nil, hs, hx, hrun]
  exact h
theorem row_cells {w : World} {B q p m : Nat} {xs : List Value} (h : Row w B (some ⟨q, p, none⟩) m xs) : ∀ (j : Nat) (u : Value), xs[j]? = some u → w.cell? ((⟨q, p, none⟩ : Addr).add j) = some u := by
  intro j u hu
  obtain ⟨hj, rfl⟩ := List.getElem?_eq_some_iff.1 hu
  obtain ⟨b, off, e, _, hc⟩ := h.2 (by rw [← h.1]; omega)
  injection e with e
  injection e with e1 e2
  subst e1 e2
  have e : (⟨q, p, none⟩ : Addr).add j = ⟨q, p + j, none⟩ := by unfold Addr.add; split <;> simp_all
  rw [e, hc j hj]
section
variable {w w' w5 : World} {B g n : Nat} {l : List Nat} {v v5 : Value}
theorem give_end {k : Nat} {m : Nat} (h : TkV w B g n l v) (hk : k < l.length) (hm : m = l.length - (k + 1)) (hown5 : w5.ownsRow w.heap.size 3 1 v5 (k + m) ((l.take k).map iv ++ (l.drop (k + 1)).map iv)) (hgr5 : w.grownBy w5 none) :
    TkV (w5.setCell ⟨g, 1, none⟩ v5) B g n (l.take k ++ l.drop (k + 1)) v5 ∧ w.grownBy (w5.setCell ⟨g, 1, none⟩ v5) (some g) := by
  have hb5 := below_of_grown hgr5
  have hc := h.c.below' hb5
  have hlt := h.c.lt
  refine ⟨⟨hc.set 1 v5, ?_, h.gB⟩, grown_set (grown_of_below hb5 _) 1 v5⟩
  have ho : w5.ownsRow B 3 1 v5 (k + m) ((l.take k ++ l.drop (k + 1)).map iv) := by
    rw [List.map_append]
    exact iown_mono hown5 (by have := h.gB; omega)
  have hr := IRow.of_own (by rw [List.length_append, List.length_take, List.length_drop]; omega) ho
  exact hr.keep fun q cs hq => Below.heap_setCell w5 ⟨g, 1, none⟩ v5 q (fun e => absurd e (hq.ne hc (by decide)))
theorem give_end0 {k c q d : Nat} (h : TkV w B g n l (.slice (some ⟨q, 0, none⟩) l.length c)) (hk : k + 1 = l.length) :
    TkV ((w.drewN d).setCell ⟨g, 1, none⟩ (.slice (some ⟨q, 0, none⟩) k k)) B g n (l.take k ++ l.drop (k + 1)) (.slice (some ⟨q, 0, none⟩) k k) ∧ w.grownBy ((w.drewN d).setCell ⟨g, 1, none⟩ (.slice (some ⟨q, 0, none⟩) k k)) (some g) := by
  have hc : Cells (w.drewN d) g 36 #[.int .i64 n, .slice (some ⟨q, 0, none⟩) l.length c] := h.c
  refine ⟨⟨hc.set 1 _, ?_, h.gB⟩, grown_set (grown_drewN ⟨rfl, rfl, rfl, Nat.le_refl _, fun _ _ _ => rfl⟩ d) 1 _⟩
  have e : l.drop (k + 1) = [] := List.drop_of_length_le (by omega)
  have el : (l.take k).length = k := by rw [List.length_take]; omega
  rw [e, List.append_nil]
  have hr : IRow (w.drewN d) B (.slice (some ⟨q, 0, none⟩) k k) (l.take k) := by
    rcases h.r with ⟨e1, _⟩ | ⟨q', c', cs, e1, h1, h2, h3, h4, h5⟩
    · cases e1
    · injection e1 with e1 e2 e3
      injection e1 with e1
      injection e1 with e1
      subst e1 e3
      exact .inr ⟨q, k, cs, by rw [el], by omega, by omega, h3, h4, fun j x hx => h5 j x (by rw [List.getElem?_take] at hx; split at hx; exact hx; cases hx)⟩
  exact hr.keep fun q cs hq => Below.heap_setCell (w.drewN d) ⟨g, 1, none⟩ _ q (fun e => absurd e (hq.ne hc (by decide)))
def GiveT (B g n : Nat) (l : List Nat) (i : Int) (w : World) (e : Ending) (w' : World) : Prop :=
  (∃ (k : Nat) (v' : Value) (x : Nat), l[k]? = some x ∧ (x : Int) = i ∧ e = .returned (.bool true) ∧ TkV w' B g n (l.take k ++ l.drop (k + 1)) v' ∧ w.grownBy w' (some g)) ∨ (hasB l i = false ∧ e = .returned (.bool false) ∧ w = w')
set_option maxRecDepth 100000 in
set_option maxHeartbeats 2000000 in
theorem tgive_is (h : TkV w B g n l v) (hl : l.length ≤ 1048576) (i : Int) : Calls Tryd.prog 13 #[.pointer (some ⟨g, 0, none⟩), .int .i64 i] w (GiveT B g n l i w) := by
  have c1 := h.c1
  have fz := h.c.free 1
  have H := Lib.hid h
  have hgl := h.c.lt
  obtain ⟨i0, hi0, hz0, hz1, hz2⟩ := info_parts infoI
  have HI := Lib.hid hi0; have HZ0 := Lib.hid hz0; have HZ1 := Lib.hid hz1; have HZ2 := Lib.hid hz2
  clear hi0 hz0 hz1 hz2
  rcases h.r with ⟨rfl, rfl⟩ | ⟨q, c, cs, rfl, hc, hm, hB, hh, hx⟩
  · clear h
    go_enter Tryd.func13, Tryd.ntmps13
    go_wp2
    go_loopw [12] (fun i_ wr => HasRel [] i w i_ wr) (fun i_ _ => 0)
    case atStart => exact ⟨0, Nat.zero_le _, rfl, fun t y h => by omega, rfl⟩
    case round =>
      obtain ⟨k, hk, rfl, hno, rfl⟩ := hrel
      obtain rfl : k = 0 := by simpa using hk
      clear hno
      go_wp2
      go_ret
      exact .inr ⟨by simp [hasB], rfl, rfl⟩
  · have HCS := Lib.hid hh; have HX := Lib.hid hx
    clear h hx
    go_enter Tryd.func13, Tryd.ntmps13
    go_wp2
    go_loopw [12] (fun i_ wr => HasRel l i w i_ wr) (fun i_ _ => l.length - (intOf i_).toNat)
    case atStart => exact ⟨0, Nat.zero_le _, rfl, fun t y h => by omega, rfl⟩
    case round =>
      obtain ⟨k, hk, rfl, hno, rfl⟩ := hrel
      have HNO := Lib.hid hno
      clear hno
      by_cases hlt : k < l.length
      · obtain ⟨x, gx⟩ : ∃ x, l[k]? = some x := ⟨_, List.getElem?_eq_getElem hlt⟩
        have cx : wr.cell? ⟨q, k, none⟩ = some (.int .i64 x) := by rw [HCS.out.cell, HX.out k x gx]; rfl
        have hlt2 : (k : Int) < (l.length : Int) := Int.ofNat_lt.2 hlt
        have GX := Lib.hid gx
        clear gx
        by_cases he : (x : Int) = i
        · have t1 : ((x : Int) == i) = true := by simpa using he
          have HE := Lib.hid he
          clear he
          have i1 : (0 : Int) ≤ (k : Int) := by omega
          have i3 : (l.length : Int) ≤ (c : Int) := by omega
          have i4 : (k : Int) ≤ (c : Int) := by omega
          have q1 : IntKind.i64.wrap ((k : Int) + 1) = (k : Int) + 1 := by rw [IntWalk.i64_in _ (by omega)]
          have i5 : (0 : Int) ≤ (k : Int) + 1 := by omega
          have i6 : (k : Int) + 1 ≤ (l.length : Int) := by omega
          have hm2 : c ≤ 9223372036854775807 := by unfold maxLen at hm; omega
          have ROWS := Lib.hid (irow_tail (k := k + 1) (w' := wr.drew) (B := wr.heap.size) HCS.out HX.out (by omega) hc rfl HCS.out.lt)
          have HOLDS := Lib.hid (irow_head (w' := wr.drew) (k := k) HCS.out HX.out rfl)
          have LENT := Lib.hid (show ((l.take k).map iv).length = k * 1 by rw [List.length_map, List.length_take, Nat.mul_one]; omega)
          have CQ := Lib.hid (fun w5 (hgr5 : wr.drew.grownBy w5 none) => ((below_of_grown hgr5).cell (p := ⟨g, 1, none⟩) hgl).trans c1)
          have ZQ := Lib.hid (fun w5 (hgr5 : wr.drew.grownBy w5 none) => ((below_of_grown hgr5).frozen (p := ⟨g, 1, none⟩) hgl).trans fz)
          by_cases hlast : k + 1 = l.length
          · have HL := Lib.hid hlast
            have G0 := Lib.hid (give_end0 (k := k) (d := 1) H.out (by omega))
            have hz : l.length - (k + 1) = 0 := by omega
            clear hlast
            go_wp2
            go_region_law (first
              | (refine step_append_none (by rfl) (.tmp 27) (.tmp 34) 22 (by rfl) 3 (.int .i64 0) 1 8 Tryd.underlying22 infoI ⟨q, 0, none⟩ k k (by rfl) (Nat.le_refl _) (if c = k + 1 then some ⟨q, 0, none⟩ else some ⟨q, k + 1, none⟩) (c - (k + 1)) (by rfl) ?_))
            all_goals go_wp2
            all_goals go_ret
            all_goals exact .inl ⟨k, _, x, GX.out, HE.out, rfl, G0.out.1, G0.out.2⟩
          · obtain ⟨m, hm⟩ : ∃ m, m = l.length - (k + 1) := ⟨_, rfl⟩
            have hm0 : 0 < m := by omega
            have hck : ¬ c = k + 1 := by omega
            rw [if_neg hck] at ROWS
            have ROWC := Lib.hid (row_cells ROWS.out)
            have LEND := Lib.hid ROWS.out.1
            have HM := Lib.hid hm
            rw [← hm] at LEND
            have hm1 : l.length - (k + 1) = m := hm.symm
            clear hm
            go_wp2
            go_region_law (first
              | (refine step_append_grows (by rfl) (.tmp 27) (.tmp 34) 22 (by rfl) 3 i0 (.int .i64 0) 1 8 Tryd.underlying22 HI.out HZ0.out HZ1.out HZ2.out (by rfl) (by decide) (some ⟨q, 0, none⟩) k k ((l.take k).map iv) (by rfl) (fun h => by cases h) LENT.out (fun b h => by injection h with h; subst h; exact HOLDS.out) ⟨q, k + 1, none⟩ m (c - (k + 1)) ((l.drop (k + 1)).map iv) (by rfl) (by rw [Nat.mul_one]; exact LEND.out) ROWC.out (ivs_one _) (by omega) (by unfold maxLen; omega) (by omega) ?_; intro v5 w5 hown5 hgr5; obtain ⟨g5, c5, rfl, hb5⟩ := iown_form hown5 (by omega); have rq := CQ.out w5 hgr5; have zq := ZQ.out w5 hgr5))
            all_goals
              have GE := Lib.hid (give_end (w := wr.drew) (H.out.below (below_drewN (Below.refl _ _) 1)) hlt HM.out hown5 hgr5)
              clear hown5 hgr5
              go_wp2
            all_goals go_ret
            all_goals exact .inl ⟨k, _, x, GX.out, HE.out, rfl, GE.out.1, ⟨GE.out.2.os, GE.out.2.tape, GE.out.2.output, GE.out.2.size, GE.out.2.block⟩⟩
        · have t1 : ((x : Int) == i) = false := by simpa using he
          have HE := Lib.hid he
          clear he
          go_wp2
          go_roundw
          case rel =>
            refine ⟨k + 1, by omega, by go_num, fun t y ht hy => ?_, rfl⟩
            by_cases e : t = k
            · subst e
              rw [GX.out] at hy
              cases hy
              exact HE.out
            · exact HNO.out t y (by omega) hy
          case measure => simp [intOf]; omega
      · obtain rfl : k = l.length := by omega
        have HE := Lib.hid (show hasB l i = false from decide_eq_false (by
          rintro ⟨x, hx, e⟩
          obtain ⟨t, ht, hx⟩ := List.getElem_of_mem hx
          exact HNO.out t x ht (by rw [List.getElem?_eq_getElem ht, hx]) e))
        go_wp2
        go_ret
        exact .inr ⟨HE.out, rfl, rfl⟩
end
end Go.Proofs.YtjhchddmbbibpaaDoor
