import Derived.Test.YtbejbiogabpmfaaGreatG31
import Derived.Sort.OwnSortedInts

/-! The project's Refs: of all nodes. -/
namespace Go.Proofs.YtbejbiogabpmfaaGreat
open Wd Ino Sm U Go.RowKit Go.ChangeShapes Go.WideShapes Go.Shelf
set_option linter.unusedVariables false
attribute [local go_sem] Oper.semAt_some
set_option maxRecDepth 100000
def refsS (l : List Nod) : List Int := l.flatMap (fun n => refsP n.pages)
theorem flat_len_le {α β : Type} {f : α → List β} {B : Nat} : ∀ (l : List α), (∀ x ∈ l, (f x).length ≤ B) → (l.flatMap f).length ≤ l.length * B
  | [], _ => by simp
  | x :: l, h => by
    have h1 := h x List.mem_cons_self
    have h2 := flat_len_le l (fun y hy => h y (List.mem_cons_of_mem _ hy))
    rw [List.flatMap_cons, List.length_append, List.length_cons, Nat.add_mul]; omega
/-- a row of one's own lies through what a loop's book-keeping does -/
theorem own_from {β : Type} (B base : Nat) (e : TypeId) (sz : Nat) (f : β → Value) (n : β → Nat) (xs : β → List Value) : OwnFrom B (fun s W => W.ownsRow base e sz (f s) (n s) (xs s)) := fun s X Y row hs hg hr => by
  refine ⟨hs.1, ?_⟩
  rcases hs.2 with h | ⟨g, cap, cur, hv, hb, hh, h⟩
  · exact .inl h
  · exact .inr ⟨g, cap, cur, hv, hb, (grownBy_keeps_cells hg (fun r e => (hr r e).2) hh rfl).trans hh, h⟩
theorem own_cellsrow {W W' : World} {base n sz : Nat} {e : TypeId} {v : Value} {xs : List Value} (ho : W.ownsRow base e sz v n xs) (hg : W.grownBy W' v.ownBlock) : KeepsOthers W W' :=
  KeepsOthers.of_grownBy hg (fun j o hj hjo => by
    rcases ho.2 with ⟨rfl, _⟩ | ⟨g, cap, cur, rfl, _, hh, _⟩
    · cases hj
    · injection hj with hj
      subst hj
      rw [show W.heap[g]? = some (.cells cur e (0, 0)) from hh] at hjo
      cases hjo
      rfl)
theorem Kq.grown {q : Nat} {A : Option Addr} {X Y : World} {row : Option Nat} (h : X.grownBy Y row) (hq : q < X.heap.size) (hA : ∀ b off, A = some ⟨b, off, none⟩ → b < X.heap.size) (hqr : some q ≠ row) (hAr : ∀ b off, A = some ⟨b, off, none⟩ → some b ≠ row) : Kq q A X Y :=
  ⟨h.size, h.block q hq hqr, fun b off e => h.block b (hA b off e) (hAr b off e)⟩
def preR {L : List Nd} (pre : List (Mem L)) : List Int := pre.flatMap (fun x => refsP x.1.pages)
theorem own_mono1 {w : World} {b1 b2 sz n : Nat} {e : TypeId} {v : Value} {xs : List Value} (h : w.ownsRow b1 e sz v n xs) (hb : b2 ≤ b1) : w.ownsRow b2 e sz v n xs := own_mono' h hb
theorem LawOwn.ne_own1 {w : World} {g base sz n : Nat} {T e : TypeId} {cs : Array Value} {v : Value} {xs : List Value} (hc : Cells w g T cs) (ho : w.ownsRow base e sz v n xs) (hne : T ≠ e) : some g ≠ v.ownBlock := ne_own hc ho hne
theorem stepIn_append {l n : Nat} {P : Program} {ops : Array Oper} {o : Oper} {a : Act} {K : Act → World → Prop} {Q : Exit → Act → World → Prop} {w : World} {E : Prop} (hgd : o.guard = none) (s x : Operand) (t : TypeId)
    (ho : o.op = .call { callee := .builtin .append, args := #[s, x], argTypes := #[t, t] }) {v1 v2 : Value} (hs : a.eval s = v1) (hx : a.eval x = v2) {v' : Value} {w' : World} (hr : (Builtin.append_ #[t, t] o.type #[v1, v2]).run P w = .ok v' w') (h : K (a.put o.dst v') w') :
    if Region.wanted o (yielded ops a.tmps) = true then Oper.wpIn (Fence.wide.inRound l) n P o a w K Q else E := by
  have hw : Region.wanted o (yielded ops a.tmps) = true := by simp [Region.wanted, hgd]
  rw [if_pos hw]
  unfold Oper.wpIn
  refine ⟨by simp [Oper.about, ho, resolve, Target.leads, Sem.run_pure], ?_⟩
  rw [Oper.semAt_plain (Fence.wide.inRound l) _ _ (by rw [ho]; intro c hc'; cases hc')]
  simp [execOp, ho, resolve, invoke, builtin, hs, hx, hr, Result.andThen]
  exact h
section
variable {w : World} {base m g b : Nat} {S : Stt}
set_option maxHeartbeats 8000000 in
theorem pRefs_in (n0 : Nat) (hn : 3 ≤ n0) (h : PSt w base m g b S) (ha : AscS S.l) (hs : SmS S.l) (hl : S.l.length ≤ 1000) (hm : m < 999900) : CallsIn Fence.wide n0 Tryz.prog 35 #[SPtr g] w (MadeI (refsS S.l) w) := by
  have h1 : 1 ≤ n0 := by omega
  have KO := Lib.hid (fun wx (hb : Below w.heap.size w wx) => pInOrder h hb ha hs hl hm)
  have hfol : Tryz.prog.follows .mixedOrders = true := by kernel_rfl
  have KM := Lib.hid (pMade h)
  have HSM := Lib.hid hs
  unfold SPtr at *
  refine callsIn_of_wp_marks Tryz.func35 rfl trivial ?_ rfl
  simp only [Tryz.ntmps35, List.size_toArray, List.length_cons, List.length_nil, Nat.reduceAdd, Nat.reduceSub, Array.replicate_succ, Array.replicate_zero, List.push_toArray, List.append_toArray, List.nil_append, List.cons_append]
  gi_wp2_with (refine ⟨trivial, ?_⟩; gi_at_call 56; refine (callsIn_wide.2 (KM.out)).mono ?_; rintro e w0 ⟨rfl, hw0⟩)
  obtain ⟨w1, hw1⟩ : ∃ w1, w0.alloc (.cells #[.slice none 0 0] 40) = w1 := ⟨_, rfl⟩
  have hb0 := grown_b hw0
  have hb01 : Below w0.heap.size w0 w1 := by rw [← hw1]; exact below_of_grown (World.grownBy_alloc w0 _ none)
  have hs1 : w1.heap.size = w0.heap.size + 1 := by rw [← hw1]; simp
  have hc1 : Cells w1 w0.heap.size 40 #[.slice none 0 0] := by rw [← hw1]; exact Cells.new _ _ _
  have hb1 : Below w.heap.size w w1 := hb0.trans (hb01.mono hb0.size)
  have HB1 := Lib.hid hb1; have HB0 := Lib.hid hb0; have HW1 := Lib.hid hw1
  have KO1 := Lib.hid (KO.out _ HB1.out)
  rw [← hw1] at KO1
  clear hw1
  refine ⟨trivial, ?_⟩; gi_at_call 57; refine (callsIn_wide.2 KO1.out).mono ?_; rintro e w2 ⟨q, Lk, v, rfl, hor, hb2⟩
  rw [HW1.out] at hor hb2
  obtain ⟨hq, hcq, hro, hon, hpl⟩ := hor
  obtain ⟨A, c, rfl, hE, hA, hAb⟩ := row_hi (n := 0) hro
  have hm1 : Cells w2 w0.heap.size 40 #[.slice none 0 0] := hc1.below' hb2
  have hB2 : Below w.heap.size w w2 := hb1.trans (hb2.mono hb1.size)
  have hlen : Lk.length ≤ 1000 := by have := congrArg List.length hpl; rw [List.length_map] at this; omega
  have hqg : q ≠ w0.heap.size := by omega
  have hqc := hcq.cell 0
  simp only [List.getElem?_toArray, List.getElem?_cons_zero] at hqc
  have hAg : ∀ b off, A = some ⟨b, off, none⟩ → b ≠ w0.heap.size := fun b off e => by have := hAb b off e; omega
  have HAG := Lib.hid hAg; have HA := Lib.hid hA; have HQ := Lib.hid hcq.lt; have HQG := Lib.hid hqg; have HB2 := Lib.hid hB2
  have HON := Lib.hid hon
  have HPL := Lib.hid hpl
  clear KO1 KM
  gi_wp2
  refine wp_inOrder (L := Lk) (q := q) (cap := c) (A := A) hn rfl rfl hqc hcq.lt hA hE hlen
    (fun pre W => (∃ v, Cells W w0.heap.size 40 #[v] ∧ W.ownsRow w2.heap.size 3 1 v (preR pre).length ((preR pre).map iv)) ∧ Below w.heap.size w W ∧ w2.heap.size ≤ W.heap.size)
    (OwnFrom.and (fun pre X Y row hs hg hr => by obtain ⟨v, h1, h2⟩ := hs; exact ⟨v, (grownBy_keeps_cells hg (fun r e => (hr r e).2) h1 rfl).trans h1, own_from w2.heap.size _ _ 1 (fun _ : Unit => v) (fun _ => _) (fun _ => _) () X Y row h2 hg hr⟩) (OwnFrom.and (ownFrom_below (Nat.le_refl _) hB2.size) (fun s X Y row hs hg hr => Nat.le_trans hs hg.size)))
    ⟨⟨_, hm1, own_nil _ _ _⟩, hB2, Nat.le_refl _⟩
    (fun x a' W => ∃ Bx, w2.heap.size ≤ Bx ∧ Cells W Bx 51 (ndc x.1) ∧ a' = { tmps := #[.pointer (some ⟨g, 0, none⟩), undef, .slice none 0 0, .pointer (some ⟨w0.heap.size, 0, none⟩), undef, .pointer (some ⟨Bx, 0, none⟩), .pointer (some ⟨g, 0, none⟩), .bool true, .bool false, .pointer (some ⟨g, 0, none⟩), .func (.func 85) #[] #[.pointer (some ⟨q, 0, none⟩)], .int .i64 x.1.ino, x.1.val, undef, undef, undef, undef, undef], defers := [] })
    (fun x a' _ X Y row hs hg hr => by obtain ⟨Bx, g1, g2, g3⟩ := hs; exact ⟨Bx, g1, (grownBy_keeps_cells hg (fun r e => (hr r e).2) g2 rfl).trans g2, g3⟩)
    ?assign ?body ?done
  case assign =>
    rintro lp pre ⟨⟨J, ki, l, t, u, A0, ac, P, B0, bc, N⟩, hx⟩ W K ⟨g0, hB, hsz⟩ hK
    have hK' := hK { tmps := #[.pointer (some ⟨g, 0, none⟩), undef, .slice none 0 0, .pointer (some ⟨w0.heap.size, 0, none⟩), undef, .pointer (some ⟨W.heap.size, 0, none⟩), .pointer (some ⟨g, 0, none⟩), .bool true, .bool false, .pointer (some ⟨g, 0, none⟩), .func (.func 85) #[] #[.pointer (some ⟨q, 0, none⟩)], .int .i64 J, Nd.val ⟨J, ki, l, t, u, A0, ac, P, B0, bc, N⟩, undef, undef, undef, undef, undef], defers := [] } (W.alloc (.cells (ndc ⟨J, ki, l, t, u, A0, ac, P, B0, bc, N⟩) 51)) ((KeepsOthers.alloc _ _).from _)
      (Kq.grow (below_of_grown (World.grownBy_alloc W _ none)) (Nat.lt_of_lt_of_le HQ.out hsz) (fun b off e => Nat.lt_of_lt_of_le (HA.out b off e) hsz)) ⟨(by obtain ⟨v, h1, h2⟩ := g0; exact ⟨v, h1.alloc _, own_below h2 (below_of_grown (World.grownBy_alloc W _ none))⟩), hB.alloc hB.size _, Nat.le_trans hsz (by simp)⟩ ⟨W.heap.size, hsz, Cells.new _ _ _, rfl⟩
    unfold Nd.val ndc ncells at hK'
    unfold Nd.val
    dsimp only at hK' ⊢
    clear hK
    gi_wp2
    exact hK'
  case body =>
    rintro lp pre ⟨⟨J, ki, l, t, u, A0, ac, P, B0, bc, N⟩, hx⟩ a' W hl9 ⟨g0, hB, hsz⟩ ⟨Bx, hBx, cX, rfl⟩ hlt
    unfold ndc at cX
    dsimp only at cX
    obtain ⟨z0, z1, z2, z3, z4, z5, z6⟩ := cells7 cX
    obtain ⟨vr, gc, go⟩ := g0
    obtain ⟨Ar, cr, rfl, _, _⟩ := ownK_form (RowP.of go)
    have c0 := gc.cell 0
    simp only [List.getElem?_toArray, List.getElem?_cons_zero] at c0
    have hmem : Nd.plain ⟨J, ki, l, t, u, A0, ac, P, B0, bc, N⟩ ∈ S.l := by rw [← HPL.out]; exact List.mem_map_of_mem hx
    have hsm := HSM.out _ hmem
    have how := (HON.out _ hx).below hB
    have h1' : 1 ≤ n0 - 1 - 1 := by omega
    have hpb : (refsP P).length ≤ 1000 := Nat.le_trans (refs_len P) hsm.p
    have hrb : (preR pre).length ≤ 1000000 := by
      have h9 := flat_len_le (B := 1000) (f := fun x : Mem Lk => refsP x.1.pages) pre (fun x _ => Nat.le_trans (refs_len _) (HSM.out _ (by rw [← HPL.out]; exact List.mem_map_of_mem x.2)).p)
      have h10 : pre.length * 1000 ≤ 1000 * 1000 := Nat.mul_le_mul_right _ (by omega)
      unfold preR
      omega
    have HS := Lib.hid (show preR (pre ++ [(⟨⟨J, ki, l, t, u, A0, ac, P, B0, bc, N⟩, hx⟩ : Mem Lk)]) = preR pre ++ refsP P by unfold preR; rw [List.flatMap_append]; simp)
    have KW := Lib.hid (fun wx (hb : Below W.heap.size W wx) => iRefs ⟨J, ki, l, t, u, A0, ac, P, B0, bc, N⟩ wx (how.below hb).in_ hsm.p)
    obtain ⟨M, hM⟩ : ∃ M, preR pre = M := ⟨_, rfl⟩
    rw [hM] at go hrb HS gc c0
    have GC := Lib.hid gc; have GO := Lib.hid go; have HB := Lib.hid hB; have HSZ := Lib.hid hsz; have HRB := Lib.hid (And.intro hrb hpb)
    have b0 : Below W.heap.size W W.drew := below_drewN (Below.refl _ _) 1
    unfold Nd.val at KW ⊢
    dsimp only at KW ⊢
    clear gc go hB hsz hmem hsm how cX hM hrb hpb
    gi_upto_region 6 with fail
    refine wpIn_region_any hfol ?_
    change wpAnyIn _ _ _ _ _ _ _ _ _ (World.drew _)
    refine wpAnyIn_ready (rs := [0, 1]) (by kernel_rfl) (by simp) ?_
    refine AllReadyIn.cons rfl (fun K hK => ?_) ?_
    · go_simp
      refine hK _ _ ?_
      clear hK K
      refine wpAnyIn_ready (rs := [1]) (by kernel_rfl) (by simp) ?_
      refine AllReadyIn.cons rfl (fun K hK => ?_) ?_
      · go_simp
        refine hK _ _ ?_
        clear hK K
        refine wpAnyIn_ready (rs := [2]) (by kernel_rfl) (by simp) ?_
        refine AllReadyIn.cons rfl (fun K hK => ?_) ?_
        · go_simp
          gi_wp2_with (refine ⟨trivial, ?_⟩; gi_at_call 64; refine (CallsIn.inRound lp (callsIn_wide.2 (KW.out _ b0))).mono ?_; rintro e w6 ⟨vx, rfl, ox, bx⟩; obtain ⟨A6, c6, rfl, r6⟩ := ox.row; have b6 := b0.trans (bx.mono b0.size); have d6 := (GC.out.below' b6).cell 0; simp only [List.getElem?_toArray, List.getElem?_cons_zero] at d6; have go6 := own_below GO.out b6; obtain ⟨v7, w7, hrun, ho7, hg7, hat7⟩ := run_append_row (P := Tryz.prog) w6 w2.heap.size 40 40 3 (.int .i64 0) 8 Tryz.underlying40 infoI rfl (.slice Ar M.length cr) M.length (M.map iv) go6 w6.heap.size A6 (refsP P).length c6 ((refsP P).map iv) r6 (by intro u hu; obtain ⟨y, _, rfl⟩ := List.mem_map.1 hu; rfl) (by have := HRB.out; unfold maxLen; omega) (by have := HRB.out; omega) (Nat.le_trans HSZ.out b6.size); obtain ⟨A7, cp7, rfl, _, _⟩ := ownK_form (RowP.of ho7); have hne7 := LawOwn.ne_own1 (GC.out.below' b6) go6 (by decide); have c7 := (GC.out.below' b6).grown hg7 hne7; have e7 := c7.cell 0; have f7 := c7.free 0; simp only [List.getElem?_toArray, List.getElem?_cons_zero] at e7)
          refine wpAnyIn_ready (rs := [3]) (by kernel_rfl) (by simp) ?_
          refine AllReadyIn.cons rfl (fun K hK => ?_) ?_
          · refine stepIn_append (by rfl) (.tmp 13) (.tmp 15) 40 (by rfl) (by rfl) (by rfl) hrun ?_
            refine hK _ _ ?_
            clear hK K
            refine wpAnyIn_ready (rs := [4]) (by kernel_rfl) (by simp) ?_
            refine AllReadyIn.cons rfl (fun K hK => ?_) ?_
            · go_simp
              refine hK _ _ ?_
              clear hK K
              refine wpAnyIn_done (by kernel_rfl) ?_ _
              have hset := c7.set 0 (.slice A7 (M.length + (refsP P).length) cp7)
              have hks := KeepC.set c7 0 (.slice A7 (M.length + (refsP P).length) cp7)
              have hob : ∀ j, (Value.slice Ar M.length cr).ownBlock = some j → w2.heap.size ≤ j := fun j hj => own_base go6 j hj
              have hB7 := (HB.out.trans (b6.mono HB.out.size)).grown hg7 (by have := HB.out.size; have := b6.size; omega) (fun j hj => Nat.le_trans hB2.size (hob j hj))
              have hfin : (w7.setCell ⟨w0.heap.size, 0, none⟩ (.slice A7 (M.length + (refsP P).length) cp7)).ownsRow w2.heap.size 3 1 (.slice A7 (M.length + (refsP P).length) cp7) (preR (pre ++ [(⟨⟨J, ki, l, t, u, A0, ac, P, B0, bc, N⟩, hx⟩ : Mem Lk)])).length ((preR (pre ++ [(⟨⟨J, ki, l, t, u, A0, ac, P, B0, bc, N⟩, hx⟩ : Mem Lk)])).map iv) := by
                rw [HS.out, List.length_append, List.map_append]
                exact hks.own (by decide) ho7
              have HKF := Lib.hid (show KeepsFrom w2.heap.size W (w7.setCell ⟨w0.heap.size, 0, none⟩ (.slice A7 (M.length + (refsP P).length) cp7)) from (KeepsFrom.of_grownBy (grown_of_below b6 none) (fun j e => by cases e)).trans (((own_cellsrow go6 hg7).trans (KeepsOthers.setCell _ _ _)).from _))
              have HKQ := Lib.hid (show Kq q A W (w7.setCell ⟨w0.heap.size, 0, none⟩ (.slice A7 (M.length + (refsP P).length) cp7)) from ((Kq.grow b6 (Nat.lt_of_lt_of_le HQ.out HSZ.out) (fun b off e => Nat.lt_of_lt_of_le (HA.out b off e) HSZ.out)).trans (Kq.grown hg7 (by have := HQ.out; have := HSZ.out; have := b6.size; omega) (fun b off e => by have := HA.out b off e; have := HSZ.out; have := b6.size; omega) (fun e => by have := hob q e.symm; have := HQ.out; omega) (fun b off e e2 => by have := hob b e2.symm; have := HA.out b off e; omega))).trans (Kq.set _ _ HQG.out HAG.out))
              have HB9 := Lib.hid (hB7.setCell (p := ⟨w0.heap.size, 0, none⟩) HB0.out.size (.slice A7 (M.length + (refsP P).length) cp7))
              have HSZ9 := Lib.hid (show w2.heap.size ≤ (w7.setCell ⟨w0.heap.size, 0, none⟩ (.slice A7 (M.length + (refsP P).length) cp7)).heap.size from Nat.le_trans HSZ.out (Nat.le_trans b6.size (Nat.le_trans hg7.size (by simp [World.setCell]))))
              have HSET := Lib.hid hset; have HFIN := Lib.hid hfin
              clear hset hks hob hB7 hfin hrun ho7 hg7 hat7 c7 e7 f7 go6 b6 d6 ox bx r6 hne7
              gi_wp2
              exact ⟨HKF.out, HKQ.out, ⟨_, HSET.out, HFIN.out⟩, HB9.out, HSZ9.out⟩
            exact AllReadyIn.nil
          exact AllReadyIn.nil
        exact AllReadyIn.nil
      exact AllReadyIn.nil
    refine AllReadyIn.cons rfl (fun K hK => ?_) ?_
    · go_simp
      refine hK _ _ ?_
      clear hK K
      refine wpAnyIn_ready (rs := [0, 2]) (by kernel_rfl) (by simp) ?_
      refine AllReadyIn.cons rfl (fun K hK => ?_) ?_
      · go_simp
        refine hK _ _ ?_
        clear hK K
        refine wpAnyIn_ready (rs := [2]) (by kernel_rfl) (by simp) ?_
        refine AllReadyIn.cons rfl (fun K hK => ?_) ?_
        · go_simp
          gi_wp2_with (refine ⟨trivial, ?_⟩; gi_at_call 64; refine (CallsIn.inRound lp (callsIn_wide.2 (KW.out _ b0))).mono ?_; rintro e w6 ⟨vx, rfl, ox, bx⟩; obtain ⟨A6, c6, rfl, r6⟩ := ox.row; have b6 := b0.trans (bx.mono b0.size); have d6 := (GC.out.below' b6).cell 0; simp only [List.getElem?_toArray, List.getElem?_cons_zero] at d6; have go6 := own_below GO.out b6; obtain ⟨v7, w7, hrun, ho7, hg7, hat7⟩ := run_append_row (P := Tryz.prog) w6 w2.heap.size 40 40 3 (.int .i64 0) 8 Tryz.underlying40 infoI rfl (.slice Ar M.length cr) M.length (M.map iv) go6 w6.heap.size A6 (refsP P).length c6 ((refsP P).map iv) r6 (by intro u hu; obtain ⟨y, _, rfl⟩ := List.mem_map.1 hu; rfl) (by have := HRB.out; unfold maxLen; omega) (by have := HRB.out; omega) (Nat.le_trans HSZ.out b6.size); obtain ⟨A7, cp7, rfl, _, _⟩ := ownK_form (RowP.of ho7); have hne7 := LawOwn.ne_own1 (GC.out.below' b6) go6 (by decide); have c7 := (GC.out.below' b6).grown hg7 hne7; have e7 := c7.cell 0; have f7 := c7.free 0; simp only [List.getElem?_toArray, List.getElem?_cons_zero] at e7)
          refine wpAnyIn_ready (rs := [3]) (by kernel_rfl) (by simp) ?_
          refine AllReadyIn.cons rfl (fun K hK => ?_) ?_
          · refine stepIn_append (by rfl) (.tmp 13) (.tmp 15) 40 (by rfl) (by rfl) (by rfl) hrun ?_
            refine hK _ _ ?_
            clear hK K
            refine wpAnyIn_ready (rs := [4]) (by kernel_rfl) (by simp) ?_
            refine AllReadyIn.cons rfl (fun K hK => ?_) ?_
            · go_simp
              refine hK _ _ ?_
              clear hK K
              refine wpAnyIn_done (by kernel_rfl) ?_ _
              have hset := c7.set 0 (.slice A7 (M.length + (refsP P).length) cp7)
              have hks := KeepC.set c7 0 (.slice A7 (M.length + (refsP P).length) cp7)
              have hob : ∀ j, (Value.slice Ar M.length cr).ownBlock = some j → w2.heap.size ≤ j := fun j hj => own_base go6 j hj
              have hB7 := (HB.out.trans (b6.mono HB.out.size)).grown hg7 (by have := HB.out.size; have := b6.size; omega) (fun j hj => Nat.le_trans hB2.size (hob j hj))
              have hfin : (w7.setCell ⟨w0.heap.size, 0, none⟩ (.slice A7 (M.length + (refsP P).length) cp7)).ownsRow w2.heap.size 3 1 (.slice A7 (M.length + (refsP P).length) cp7) (preR (pre ++ [(⟨⟨J, ki, l, t, u, A0, ac, P, B0, bc, N⟩, hx⟩ : Mem Lk)])).length ((preR (pre ++ [(⟨⟨J, ki, l, t, u, A0, ac, P, B0, bc, N⟩, hx⟩ : Mem Lk)])).map iv) := by
                rw [HS.out, List.length_append, List.map_append]
                exact hks.own (by decide) ho7
              have HKF := Lib.hid (show KeepsFrom w2.heap.size W (w7.setCell ⟨w0.heap.size, 0, none⟩ (.slice A7 (M.length + (refsP P).length) cp7)) from (KeepsFrom.of_grownBy (grown_of_below b6 none) (fun j e => by cases e)).trans (((own_cellsrow go6 hg7).trans (KeepsOthers.setCell _ _ _)).from _))
              have HKQ := Lib.hid (show Kq q A W (w7.setCell ⟨w0.heap.size, 0, none⟩ (.slice A7 (M.length + (refsP P).length) cp7)) from ((Kq.grow b6 (Nat.lt_of_lt_of_le HQ.out HSZ.out) (fun b off e => Nat.lt_of_lt_of_le (HA.out b off e) HSZ.out)).trans (Kq.grown hg7 (by have := HQ.out; have := HSZ.out; have := b6.size; omega) (fun b off e => by have := HA.out b off e; have := HSZ.out; have := b6.size; omega) (fun e => by have := hob q e.symm; have := HQ.out; omega) (fun b off e e2 => by have := hob b e2.symm; have := HA.out b off e; omega))).trans (Kq.set _ _ HQG.out HAG.out))
              have HB9 := Lib.hid (hB7.setCell (p := ⟨w0.heap.size, 0, none⟩) HB0.out.size (.slice A7 (M.length + (refsP P).length) cp7))
              have HSZ9 := Lib.hid (show w2.heap.size ≤ (w7.setCell ⟨w0.heap.size, 0, none⟩ (.slice A7 (M.length + (refsP P).length) cp7)).heap.size from Nat.le_trans HSZ.out (Nat.le_trans b6.size (Nat.le_trans hg7.size (by simp [World.setCell]))))
              have HSET := Lib.hid hset; have HFIN := Lib.hid hfin
              clear hset hks hob hB7 hfin hrun ho7 hg7 hat7 c7 e7 f7 go6 b6 d6 ox bx r6 hne7
              gi_wp2
              exact ⟨HKF.out, HKQ.out, ⟨_, HSET.out, HFIN.out⟩, HB9.out, HSZ9.out⟩
            exact AllReadyIn.nil
          exact AllReadyIn.nil
        exact AllReadyIn.nil
      refine AllReadyIn.cons rfl (fun K hK => ?_) ?_
      · go_simp
        gi_wp2_with (refine ⟨trivial, ?_⟩; gi_at_call 64; refine (CallsIn.inRound lp (callsIn_wide.2 (KW.out _ b0))).mono ?_; rintro e w6 ⟨vx, rfl, ox, bx⟩; obtain ⟨A6, c6, rfl, r6⟩ := ox.row; have b6 := b0.trans (bx.mono b0.size); have d6 := (GC.out.below' b6).cell 0; simp only [List.getElem?_toArray, List.getElem?_cons_zero] at d6; have go6 := own_below GO.out b6; obtain ⟨v7, w7, hrun, ho7, hg7, hat7⟩ := run_append_row (P := Tryz.prog) w6 w2.heap.size 40 40 3 (.int .i64 0) 8 Tryz.underlying40 infoI rfl (.slice Ar M.length cr) M.length (M.map iv) go6 w6.heap.size A6 (refsP P).length c6 ((refsP P).map iv) r6 (by intro u hu; obtain ⟨y, _, rfl⟩ := List.mem_map.1 hu; rfl) (by have := HRB.out; unfold maxLen; omega) (by have := HRB.out; omega) (Nat.le_trans HSZ.out b6.size); obtain ⟨A7, cp7, rfl, _, _⟩ := ownK_form (RowP.of ho7); have hne7 := LawOwn.ne_own1 (GC.out.below' b6) go6 (by decide); have c7 := (GC.out.below' b6).grown hg7 hne7; have e7 := c7.cell 0; have f7 := c7.free 0; simp only [List.getElem?_toArray, List.getElem?_cons_zero] at e7)
        refine wpAnyIn_ready (rs := [0]) (by kernel_rfl) (by simp) ?_
        refine AllReadyIn.cons rfl (fun K hK => ?_) ?_
        · go_simp
          refine hK _ _ ?_
          clear hK K
          refine wpAnyIn_ready (rs := [3]) (by kernel_rfl) (by simp) ?_
          refine AllReadyIn.cons rfl (fun K hK => ?_) ?_
          · refine stepIn_append (by rfl) (.tmp 13) (.tmp 15) 40 (by rfl) (by rfl) (by rfl) hrun ?_
            refine hK _ _ ?_
            clear hK K
            refine wpAnyIn_ready (rs := [4]) (by kernel_rfl) (by simp) ?_
            refine AllReadyIn.cons rfl (fun K hK => ?_) ?_
            · go_simp
              refine hK _ _ ?_
              clear hK K
              refine wpAnyIn_done (by kernel_rfl) ?_ _
              have hset := c7.set 0 (.slice A7 (M.length + (refsP P).length) cp7)
              have hks := KeepC.set c7 0 (.slice A7 (M.length + (refsP P).length) cp7)
              have hob : ∀ j, (Value.slice Ar M.length cr).ownBlock = some j → w2.heap.size ≤ j := fun j hj => own_base go6 j hj
              have hB7 := (HB.out.trans (b6.mono HB.out.size)).grown hg7 (by have := HB.out.size; have := b6.size; omega) (fun j hj => Nat.le_trans hB2.size (hob j hj))
              have hfin : (w7.setCell ⟨w0.heap.size, 0, none⟩ (.slice A7 (M.length + (refsP P).length) cp7)).ownsRow w2.heap.size 3 1 (.slice A7 (M.length + (refsP P).length) cp7) (preR (pre ++ [(⟨⟨J, ki, l, t, u, A0, ac, P, B0, bc, N⟩, hx⟩ : Mem Lk)])).length ((preR (pre ++ [(⟨⟨J, ki, l, t, u, A0, ac, P, B0, bc, N⟩, hx⟩ : Mem Lk)])).map iv) := by
                rw [HS.out, List.length_append, List.map_append]
                exact hks.own (by decide) ho7
              have HKF := Lib.hid (show KeepsFrom w2.heap.size W (w7.setCell ⟨w0.heap.size, 0, none⟩ (.slice A7 (M.length + (refsP P).length) cp7)) from (KeepsFrom.of_grownBy (grown_of_below b6 none) (fun j e => by cases e)).trans (((own_cellsrow go6 hg7).trans (KeepsOthers.setCell _ _ _)).from _))
              have HKQ := Lib.hid (show Kq q A W (w7.setCell ⟨w0.heap.size, 0, none⟩ (.slice A7 (M.length + (refsP P).length) cp7)) from ((Kq.grow b6 (Nat.lt_of_lt_of_le HQ.out HSZ.out) (fun b off e => Nat.lt_of_lt_of_le (HA.out b off e) HSZ.out)).trans (Kq.grown hg7 (by have := HQ.out; have := HSZ.out; have := b6.size; omega) (fun b off e => by have := HA.out b off e; have := HSZ.out; have := b6.size; omega) (fun e => by have := hob q e.symm; have := HQ.out; omega) (fun b off e e2 => by have := hob b e2.symm; have := HA.out b off e; omega))).trans (Kq.set _ _ HQG.out HAG.out))
              have HB9 := Lib.hid (hB7.setCell (p := ⟨w0.heap.size, 0, none⟩) HB0.out.size (.slice A7 (M.length + (refsP P).length) cp7))
              have HSZ9 := Lib.hid (show w2.heap.size ≤ (w7.setCell ⟨w0.heap.size, 0, none⟩ (.slice A7 (M.length + (refsP P).length) cp7)).heap.size from Nat.le_trans HSZ.out (Nat.le_trans b6.size (Nat.le_trans hg7.size (by simp [World.setCell]))))
              have HSET := Lib.hid hset; have HFIN := Lib.hid hfin
              clear hset hks hob hB7 hfin hrun ho7 hg7 hat7 c7 e7 f7 go6 b6 d6 ox bx r6 hne7
              gi_wp2
              exact ⟨HKF.out, HKQ.out, ⟨_, HSET.out, HFIN.out⟩, HB9.out, HSZ9.out⟩
            exact AllReadyIn.nil
          exact AllReadyIn.nil
        exact AllReadyIn.nil
      exact AllReadyIn.nil
    exact AllReadyIn.nil
  case done =>
    rintro D ys W hD hys ⟨g0, hB, hsz⟩ hK
    obtain ⟨vr, gc, go⟩ := g0
    have hcnt : preR ys = refsS S.l := by
      unfold refsS preR
      rw [lift_plain hys hpl, List.flatMap_map]
      rfl
    rw [hcnt] at go
    have c0 := gc.cell 0
    simp only [List.getElem?_toArray, List.getElem?_cons_zero] at c0
    gi_wp2
    refine ⟨by simp, .inl ⟨_, _, rfl, run_takeDeferred hK, ?_⟩⟩
    refine ⟨vr, ?_, ⟨vr, rfl, own_mono1 (own_from w2.heap.size _ _ 1 (fun _ : Unit => vr) (fun _ => _) (fun _ => _) () W _ (some D) go (grownBy_putObj' W D _) (fun r e => by cases e; exact ⟨hD, _, hK, rfl⟩)) hB2.size, hB.trans (belowK_b (w := w) (Nat.le_refl _) _ D _ _ (by have := hB2.size; omega) hK rfl rfl)⟩⟩
    simp [results, Tryz.f35, go_sem]
end
end Go.Proofs.YtbejbiogabpmfaaGreat

/-! slices.Sort of a row of ints of one's own. -/
namespace Go.Proofs.YtbejbiogabpmfaaGreat
open Wd Ino Sm U Go.RowKit Go.ChangeShapes Go.WideShapes Go.Sort
set_option linter.unusedVariables false
set_option maxRecDepth 100000
theorem sort_ints {w : World} {base : Nat} {v : Value} {l : List Int} (h : OwnI w base v l) (hl : l.length ≤ 1000000) : Calls Tryz.prog 66 #[v] w fun e w' => e = .returned (.tuple #[]) ∧ OwnI w' base v (l.mergeSort leI) ∧ w.grownBy w' v.ownBlock := by
  rcases h.2 with ⟨rfl, h0⟩ | ⟨g, cap, cur, rfl, hb, hh, h1, h2, h3, ht⟩
  · obtain rfl : l = [] := List.eq_nil_of_length_eq_zero h0
    refine (AnyM.slices_Sort_int_none Tryz.sortA none 0 w).mono ?_
    rintro e w' ⟨rfl, rfl⟩
    exact ⟨rfl, by rw [List.mergeSort_nil]; exact OwnI.nil _ _, World.grownBy.refl _ _⟩
  · have hH : Holds (Value.int .i64) w g 0 l.toArray := holds_of_blockI hh (by rw [Nat.mul_one] at ht; exact ht)
    refine (AnyM.slices_Sort_int Tryz.sortA g 0 cap l w hH (show Cells w g _ cur from hh).lt (by omega)).mono ?_
    rintro e w' ⟨rfl, n, os, rfl⟩
    refine ⟨rfl, ?_, grownBy_sortedI _⟩
    have := ownsRow_sortedI (w := w) (n := n) (os := os) (ss := l) (ts := l.mergeSort leI) (by rw [List.length_mergeSort]) hb hh h1 h2 h3
    unfold OwnI
    rw [List.length_mergeSort]
    exact this
end Go.Proofs.YtbejbiogabpmfaaGreat

/-! The project's rightRefs: no reference twice. -/
namespace Go.Proofs.YtbejbiogabpmfaaGreat
open Wd Ino Sm U Go.RowKit Go.ChangeShapes Go.WideShapes Go.Sort
set_option linter.unusedVariables false
set_option maxRecDepth 100000
section
variable {w : World} {base m g b : Nat} {S : Stt}
def RrRel (n : Nat) (w : World) (i : Value) (wr : World) : Prop := ∃ k : Nat, k ≤ n ∧ i = .int .i64 k ∧ wr = w
set_option maxHeartbeats 4000000 in
theorem pRightRefs (h : PSt w base m g b S) (ha : AscS S.l) (hs : SmS S.l) (hl : S.l.length ≤ 1000) (hm : m < 999900) (hap : (refsS S.l).Nodup) : Calls Tryz.prog 122 #[SPtr g] w (RetB w true) := by
  have KR := Lib.hid ((callsIn_wide (n := 3)).1 (pRefs_in 3 (Nat.le_refl _) h ha hs hl hm))
  have hlen : (refsS S.l).length ≤ 1000000 := by
    have h1 := flat_len_le (B := 1000) (f := fun n : Nod => refsP n.pages) S.l (fun n hn => Nat.le_trans (refs_len _) (hs n hn).p)
    have h2 : S.l.length * 1000 ≤ 1000 * 1000 := Nat.mul_le_mul_right _ hl
    unfold refsS; omega
  have HLE := Lib.hid hlen; have HAP := Lib.hid hap
  clear h ha hs hl hm hap hlen
  unfold SPtr at *
  go_enter Tryz.func122, Tryz.ntmps122
  go_wp2_with fail
  refine (KR.out).mono ?_
  rintro e w2 ⟨v, rfl, ho, hb2⟩
  have KS := Lib.hid (sort_ints ho HLE.out)
  obtain ⟨A, c, rfl, _⟩ := ho.row
  have HB2 := Lib.hid hb2; have HO := Lib.hid ho
  clear hb2 ho KR
  go_wp2_with fail
  refine (KS.out).mono ?_
  rintro e w3 ⟨rfl, ho3, hg3⟩
  have HB3 := Lib.hid (HB2.out.grown hg3 HB2.out.size (fun q hq => own_base HO.out q hq))
  have hrise := rise_srt HAP.out
  obtain ⟨R, hR⟩ : ∃ R, (refsS S.l).mergeSort leI = R := ⟨_, rfl⟩
  have hRl : (refsS S.l).length = R.length := by rw [← hR, List.length_mergeSort]
  rw [hR] at ho3 hrise
  rw [hRl]
  obtain ⟨A1, c1, hv1, hrow⟩ := ho3.row
  injection hv1 with hv1 _ hv3
  subst hv1 hv3
  have hrl : R.length ≤ 1000000 := by rw [← hRl]; exact HLE.out
  have HROW := Lib.hid hrow; have HRISE := Lib.hid hrise
  clear ho3 hg3 hR hRl hrow hrise KS HLE
  go_wp2_with fail
  go_loopw [12] (fun i wr => RrRel R.length w3 i wr) (fun i _ => R.length - (intOf i).toNat)
  case atStart => exact ⟨0, Nat.zero_le _, rfl, rfl⟩
  case round =>
    obtain ⟨k, hk, rfl, rfl⟩ := hrel
    by_cases hlt : k < R.length
    · have hlt2 : (k : Int) < (R.length : Int) := Int.ofNat_lt.2 hlt
      obtain ⟨b1, o1, x, hA, hbb, hx, cx⟩ := getI HROW.out hlt
      have HLT := Lib.hid hlt
      by_cases h0 : k = 0
      · have q2 : decide ((k : Int) > 0) = false := decide_eq_false (by omega)
        have q2n : decide (0 < k) = false := decide_eq_false (by omega)
        have q2m : ¬ 0 < k := by omega
        have H0 := Lib.hid h0
        subst hA
        clear hk hlt hx h0
        go_wp2
        go_roundw
        case rel => exact ⟨k + 1, HLT.out, by go_num, rfl⟩
        case measure => simp [intOf]; have := HLT.out; omega
      · obtain ⟨j, rfl⟩ : ∃ j, k = j + 1 := ⟨k - 1, by omega⟩
        obtain ⟨b2, o2, y, hA2, _, hy, cy⟩ := getI HROW.out (k := j) (by omega)
        subst hA
        injection hA2 with hA2
        injection hA2 with hb hoo
        subst hb hoo
        have hxy : y < x := by
          have h9 := List.pairwise_iff_getElem.1 HRISE.out j (j + 1) (List.getElem?_eq_some_iff.1 hy).1 (List.getElem?_eq_some_iff.1 hx).1 (by omega)
          rw [(List.getElem?_eq_some_iff.1 hy).2, (List.getElem?_eq_some_iff.1 hx).2] at h9
          exact h9
        have q1 : (x == y) = false := by rw [beq_eq_false_iff_ne]; omega
        have q2 : decide (((j + 1 : Nat) : Int) > 0) = true := decide_eq_true (by omega)
        have q3 : wrap64 (((j + 1 : Nat) : Int) - 1) = (j : Int) := by unfold wrap64; omega
        have q4 : IntKind.i64.wrap (((j + 1 : Nat) : Int) - 1) = (j : Int) := by rw [IntKind.wrap_i64]; omega
        have q5 : (j : Int) < (R.length : Int) := by omega
        clear hk hlt hx hy hxy h0
        obtain ⟨N, hN⟩ : ∃ N : Nat, j + 1 = N := ⟨_, rfl⟩
        rw [hN] at q2 q3 q4 cx hlt2 ⊢
        have HN := Lib.hid hN
        clear hN
        have q6 : decide (0 < N) = true := decide_eq_true (by have := HN.out; omega)
        have q7 : 0 < N := by have := HN.out; omega
        go_wp2
        go_roundw
        case rel => exact ⟨N + 1, by have := HLT.out; have := HN.out; omega, by go_num, rfl⟩
        case measure => simp [intOf]; have := HLT.out; have := HN.out; omega
    · obtain rfl : k = R.length := by omega
      clear hk hlt
      go_wp2
      go_ret
      exact ⟨rfl, HB3.out⟩
end
end Go.Proofs.YtbejbiogabpmfaaGreat
