import Derived.Test.YtamndllolppmoaaGreatG29
import Derived.Sort.OwnSortedInts
import Derived.Test.YtamndllolppmoaaGreatG00
import Derived.IntWalk
import Derived.Deep.RegionHeld3

/-! The project's Refs: of all nodes. -/
namespace Go.Proofs.YtamndllolppmoaaGreat
open Wd Ino Sm U Go.RowKit Go.ChangeShapes Go.WideShapes Go.Shelf
set_option linter.unusedVariables false
attribute [local go_sem] Oper.semAt_some
set_option maxRecDepth 100000
def refsS (l : List Nod) : List Int := l.flatMap (fun n => refsP n.pages)
theorem flat_len_le {α β : Type} {f : α → List β} {B : Nat} : ∀ (l : List α), (∀ x ∈ l, (f x).length ≤ B) → (l.flatMap f).length ≤ l.length * B
  | [], _ => by simp
  | x :: l, h => by
    have h1 := h x List.mem_cons_self
    have h2 := flat_len_le l (fun y hy => h y (List.mem_cons_of_mem _ hy))
    rw [List.flatMap_cons, List.length_append, List.length_cons, Nat.add_mul]; omega
/-- a row of one's own lies through what a loop's book-keeping does -/
theorem own_from {β : Type} (B base : Nat) (e : TypeId) (sz : Nat) (f : β → Value) (n : β → Nat) (xs : β → List Value) : OwnFrom B (fun s W => W.ownsRow base e sz (f s) (n s) (xs s)) := fun s X Y row hs hg hr => by
  refine ⟨hs.1, ?_⟩
  rcases hs.2 with h | ⟨g, cap, cur, hv, hb, hh, h⟩
  · exact .inl h
  · exact .inr ⟨g, cap, cur, hv, hb, (grownBy_keeps_cells hg (fun r e => (hr r e).2) hh rfl).trans hh, h⟩
theorem own_cellsrow {W W' : World} {base n sz : Nat} {e : TypeId} {v : Value} {xs : List Value} (ho : W.ownsRow base e sz v n xs) (hg : W.grownBy W' v.ownBlock) : KeepsOthers W W' :=
  KeepsOthers.of_grownBy hg (fun j o hj hjo => by
    rcases ho.2 with ⟨rfl, _⟩ | ⟨g, cap, cur, rfl, _, hh, _⟩
    · cases hj
    · injection hj with hj
      subst hj
      rw [show W.heap[g]? = some (.cells cur e (0, 0)) from hh] at hjo
      cases hjo
      rfl)
theorem Kq.grown {q : Nat} {A : Option Addr} {X Y : World} {row : Option Nat} (h : X.grownBy Y row) (hq : q < X.heap.size) (hA : ∀ b off, A = some ⟨b, off, none⟩ → b < X.heap.size) (hqr : some q ≠ row) (hAr : ∀ b off, A = some ⟨b, off, none⟩ → some b ≠ row) : Kq q A X Y :=
  ⟨h.size, h.block q hq hqr, fun b off e => h.block b (hA b off e) (hAr b off e)⟩
def preR {L : List Nd} (pre : List (Mem L)) : List Int := pre.flatMap (fun x => refsP x.1.pages)
theorem own_mono1 {w : World} {b1 b2 sz n : Nat} {e : TypeId} {v : Value} {xs : List Value} (h : w.ownsRow b1 e sz v n xs) (hb : b2 ≤ b1) : w.ownsRow b2 e sz v n xs := own_mono' h hb
theorem LawOwn.ne_own1 {w : World} {g base sz n : Nat} {T e : TypeId} {cs : Array Value} {v : Value} {xs : List Value} (hc : Cells w g T cs) (ho : w.ownsRow base e sz v n xs) (hne : T ≠ e) : some g ≠ v.ownBlock := ne_own hc ho hne
theorem stepIn_append {l n : Nat} {P : Program} {ops : Array Oper} {o : Oper} {a : Act} {K : Act → World → Prop} {Q : Exit → Act → World → Prop} {w : World} {E : Prop} (hgd : o.guard = none) (s x : Operand) (t : TypeId)
    (ho : o.op = .call { callee := .builtin .append, args := #[s, x], argTypes := #[t, t] }) {v1 v2 : Value} (hs : a.eval s = v1) (hx : a.eval x = v2) {v' : Value} {w' : World} (hr : (Builtin.append_ #[t, t] o.type #[v1, v2]).run P w = .ok v' w') (h : K (a.put o.dst v') w') :
    if Region.wanted o (yielded ops a.tmps) = true then Oper.wpIn (Fence.wide.inRound l) n P o a w K Q else E := by
  have hw : Region.wanted o (yielded ops a.tmps) = true := by simp [Region.wanted, hgd]
  rw [if_pos hw]
  unfold Oper.wpIn
  refine ⟨by simp [Oper.about, ho, resolve, Target.leads, Sem.run_pure], ?_⟩
  rw [Oper.semAt_plain (Fence.wide.inRound l) _ _ (by rw [ho]; intro c hc'; cases hc')]
  simp [execOp, ho, resolve, invoke, builtin, hs, hx, hr, Result.andThen]
  exact h
section
variable {w : World} {base m g b : Nat} {S : Stt}
set_option maxHeartbeats 8000000 in
theorem pRefs_in (n0 : Nat) (hn : 3 ≤ n0) (h : PSt w base m g b S) (ha : AscS S.l) (hs : SmS S.l) (hl : S.l.length ≤ 1000) (hm : m < 999900) : CallsIn Fence.wide n0 Tryz.prog 39 #[SPtr g] w (MadeI (refsS S.l) w) := by
  have h1 : 1 ≤ n0 := by omega
  have KO := Lib.hid (fun wx (hb : Below w.heap.size w wx) => pInOrder h hb ha hs hl hm)
  have hfol : Tryz.prog.follows .mixedOrders = true := by kernel_rfl
  have KM := Lib.hid (pMade h)
  have HSM := Lib.hid hs
  unfold SPtr at *
  refine callsIn_of_wp_marks Tryz.func39 rfl trivial ?_ rfl
  simp only [Tryz.ntmps39, List.size_toArray, List.length_cons, List.length_nil, Nat.reduceAdd, Nat.reduceSub, Array.replicate_succ, Array.replicate_zero, List.push_toArray, List.append_toArray, List.nil_append, List.cons_append]
  gi_wp2_with (refine ⟨trivial, ?_⟩; gi_at_call 45; refine (callsIn_wide.2 (KM.out)).mono ?_; rintro e w0 ⟨rfl, hw0⟩)
  obtain ⟨w1, hw1⟩ : ∃ w1, w0.alloc (.cells #[.slice none 0 0] 40) = w1 := ⟨_, rfl⟩
  have hb0 := grown_b hw0
  have hb01 : Below w0.heap.size w0 w1 := by rw [← hw1]; exact below_of_grown (World.grownBy_alloc w0 _ none)
  have hs1 : w1.heap.size = w0.heap.size + 1 := by rw [← hw1]; simp
  have hc1 : Cells w1 w0.heap.size 40 #[.slice none 0 0] := by rw [← hw1]; exact Cells.new _ _ _
  have hb1 : Below w.heap.size w w1 := hb0.trans (hb01.mono hb0.size)
  have HB1 := Lib.hid hb1; have HB0 := Lib.hid hb0; have HW1 := Lib.hid hw1
  have KO1 := Lib.hid (KO.out _ HB1.out)
  rw [← hw1] at KO1
  clear hw1
  refine ⟨trivial, ?_⟩; gi_at_call 63; refine (callsIn_wide.2 KO1.out).mono ?_; rintro e w2 ⟨q, Lk, v, rfl, hor, hb2⟩
  rw [HW1.out] at hor hb2
  obtain ⟨hq, hcq, hro, hon, hpl⟩ := hor
  obtain ⟨A, c, rfl, hE, hA, hAb⟩ := row_hi (n := 0) hro
  have hm1 : Cells w2 w0.heap.size 40 #[.slice none 0 0] := hc1.below' hb2
  have hB2 : Below w.heap.size w w2 := hb1.trans (hb2.mono hb1.size)
  have hlen : Lk.length ≤ 1000 := by have := congrArg List.length hpl; rw [List.length_map] at this; omega
  have hqg : q ≠ w0.heap.size := by omega
  have hqc := hcq.cell 0
  simp only [List.getElem?_toArray, List.getElem?_cons_zero] at hqc
  have hAg : ∀ b off, A = some ⟨b, off, none⟩ → b ≠ w0.heap.size := fun b off e => by have := hAb b off e; omega
  have HAG := Lib.hid hAg; have HA := Lib.hid hA; have HQ := Lib.hid hcq.lt; have HQG := Lib.hid hqg; have HB2 := Lib.hid hB2
  have HON := Lib.hid hon
  have HPL := Lib.hid hpl
  clear KO1 KM
  gi_wp2
  refine wp_inOrder (L := Lk) (q := q) (cap := c) (A := A) hn rfl rfl hqc hcq.lt hA hE hlen
    (fun pre W => (∃ v, Cells W w0.heap.size 40 #[v] ∧ W.ownsRow w2.heap.size 3 1 v (preR pre).length ((preR pre).map iv)) ∧ Below w.heap.size w W ∧ w2.heap.size ≤ W.heap.size)
    (OwnFrom.and (fun pre X Y row hs hg hr => by obtain ⟨v, h1, h2⟩ := hs; exact ⟨v, (grownBy_keeps_cells hg (fun r e => (hr r e).2) h1 rfl).trans h1, own_from w2.heap.size _ _ 1 (fun _ : Unit => v) (fun _ => _) (fun _ => _) () X Y row h2 hg hr⟩) (OwnFrom.and (ownFrom_below (Nat.le_refl _) hB2.size) (fun s X Y row hs hg hr => Nat.le_trans hs hg.size)))
    ⟨⟨_, hm1, own_nil _ _ _⟩, hB2, Nat.le_refl _⟩
    (fun x a' W => ∃ Bx, w2.heap.size ≤ Bx ∧ Cells W Bx 55 (ndc x.1) ∧ a' = { tmps := #[.pointer (some ⟨g, 0, none⟩), undef, .slice none 0 0, .pointer (some ⟨w0.heap.size, 0, none⟩), undef, .pointer (some ⟨Bx, 0, none⟩), .pointer (some ⟨g, 0, none⟩), .bool true, .bool false, .pointer (some ⟨g, 0, none⟩), .func (.func 101) #[] #[.pointer (some ⟨q, 0, none⟩)], .int .i64 x.1.ino, x.1.val, undef, undef, undef, undef, undef], defers := [] })
    (fun x a' _ X Y row hs hg hr => by obtain ⟨Bx, g1, g2, g3⟩ := hs; exact ⟨Bx, g1, (grownBy_keeps_cells hg (fun r e => (hr r e).2) g2 rfl).trans g2, g3⟩)
    ?assign ?body ?done
  case assign =>
    rintro lp pre ⟨⟨J, ki, l, t, u, A0, ac, P, B0, bc, N⟩, hx⟩ W K ⟨g0, hB, hsz⟩ hK
    have hK' := hK { tmps := #[.pointer (some ⟨g, 0, none⟩), undef, .slice none 0 0, .pointer (some ⟨w0.heap.size, 0, none⟩), undef, .pointer (some ⟨W.heap.size, 0, none⟩), .pointer (some ⟨g, 0, none⟩), .bool true, .bool false, .pointer (some ⟨g, 0, none⟩), .func (.func 101) #[] #[.pointer (some ⟨q, 0, none⟩)], .int .i64 J, Nd.val ⟨J, ki, l, t, u, A0, ac, P, B0, bc, N⟩, undef, undef, undef, undef, undef], defers := [] } (W.alloc (.cells (ndc ⟨J, ki, l, t, u, A0, ac, P, B0, bc, N⟩) 55)) ((KeepsOthers.alloc _ _).from _)
      (Kq.grow (below_of_grown (World.grownBy_alloc W _ none)) (Nat.lt_of_lt_of_le HQ.out hsz) (fun b off e => Nat.lt_of_lt_of_le (HA.out b off e) hsz)) ⟨(by obtain ⟨v, h1, h2⟩ := g0; exact ⟨v, h1.alloc _, own_below h2 (below_of_grown (World.grownBy_alloc W _ none))⟩), hB.alloc hB.size _, Nat.le_trans hsz (by simp)⟩ ⟨W.heap.size, hsz, Cells.new _ _ _, rfl⟩
    unfold Nd.val ndc ncells at hK'
    unfold Nd.val
    dsimp only at hK' ⊢
    clear hK
    gi_wp2
    exact hK'
  case body =>
    rintro lp pre ⟨⟨J, ki, l, t, u, A0, ac, P, B0, bc, N⟩, hx⟩ a' W hl9 ⟨g0, hB, hsz⟩ ⟨Bx, hBx, cX, rfl⟩ hlt
    unfold ndc at cX
    dsimp only at cX
    obtain ⟨z0, z1, z2, z3, z4, z5, z6⟩ := cells7 cX
    obtain ⟨vr, gc, go⟩ := g0
    obtain ⟨Ar, cr, rfl, _, _⟩ := ownK_form (RowP.of go)
    have c0 := gc.cell 0
    simp only [List.getElem?_toArray, List.getElem?_cons_zero] at c0
    have hmem : Nd.plain ⟨J, ki, l, t, u, A0, ac, P, B0, bc, N⟩ ∈ S.l := by rw [← HPL.out]; exact List.mem_map_of_mem hx
    have hsm := HSM.out _ hmem
    have how := (HON.out _ hx).below hB
    have h1' : 1 ≤ n0 - 1 - 1 := by omega
    have hpb : (refsP P).length ≤ 1000 := Nat.le_trans (refs_len P) hsm.p
    have hrb : (preR pre).length ≤ 1000000 := by
      have h9 := flat_len_le (B := 1000) (f := fun x : Mem Lk => refsP x.1.pages) pre (fun x _ => Nat.le_trans (refs_len _) (HSM.out _ (by rw [← HPL.out]; exact List.mem_map_of_mem x.2)).p)
      have h10 : pre.length * 1000 ≤ 1000 * 1000 := Nat.mul_le_mul_right _ (by omega)
      unfold preR
      omega
    have HS := Lib.hid (show preR (pre ++ [(⟨⟨J, ki, l, t, u, A0, ac, P, B0, bc, N⟩, hx⟩ : Mem Lk)]) = preR pre ++ refsP P by unfold preR; rw [List.flatMap_append]; simp)
    have KW := Lib.hid (fun wx (hb : Below W.heap.size W wx) => iRefs ⟨J, ki, l, t, u, A0, ac, P, B0, bc, N⟩ wx (how.below hb).in_ hsm.p)
    obtain ⟨M, hM⟩ : ∃ M, preR pre = M := ⟨_, rfl⟩
    rw [hM] at go hrb HS gc c0
    have GC := Lib.hid gc; have GO := Lib.hid go; have HB := Lib.hid hB; have HSZ := Lib.hid hsz; have HRB := Lib.hid (And.intro hrb hpb)
    have b0 : Below W.heap.size W W.drew := below_drewN (Below.refl _ _) 1
    unfold Nd.val at KW ⊢
    dsimp only at KW ⊢
    clear gc go hB hsz hmem hsm how cX hM hrb hpb
    gi_upto_region 6 with fail
    refine wpIn_region_any hfol ?_
    change wpAnyIn _ _ _ _ _ _ _ _ _ (World.drew _)
    refine wpAnyIn_ready (rs := [0, 1]) (by kernel_rfl) (by simp) ?_
    refine AllReadyIn.cons rfl (fun K hK => ?_) ?_
    · go_simp
      refine hK _ _ ?_
      clear hK K
      refine wpAnyIn_ready (rs := [1]) (by kernel_rfl) (by simp) ?_
      refine AllReadyIn.cons rfl (fun K hK => ?_) ?_
      · go_simp
        refine hK _ _ ?_
        clear hK K
        refine wpAnyIn_ready (rs := [2]) (by kernel_rfl) (by simp) ?_
        refine AllReadyIn.cons rfl (fun K hK => ?_) ?_
        · go_simp
          gi_wp2_with (refine ⟨trivial, ?_⟩; gi_at_call 69; refine (CallsIn.inRound lp (callsIn_wide.2 (KW.out _ b0))).mono ?_; rintro e w6 ⟨vx, rfl, ox, bx⟩; obtain ⟨A6, c6, rfl, r6⟩ := ox.row; have b6 := b0.trans (bx.mono b0.size); have d6 := (GC.out.below' b6).cell 0; simp only [List.getElem?_toArray, List.getElem?_cons_zero] at d6; have go6 := own_below GO.out b6; obtain ⟨v7, w7, hrun, ho7, hg7, hat7⟩ := run_append_row (P := Tryz.prog) w6 w2.heap.size 40 40 3 (.int .i64 0) 8 Tryz.underlying40 infoI rfl (.slice Ar M.length cr) M.length (M.map iv) go6 w6.heap.size A6 (refsP P).length c6 ((refsP P).map iv) r6 (by intro u hu; obtain ⟨y, _, rfl⟩ := List.mem_map.1 hu; rfl) (by have := HRB.out; unfold maxLen; omega) (by have := HRB.out; omega) (Nat.le_trans HSZ.out b6.size); obtain ⟨A7, cp7, rfl, _, _⟩ := ownK_form (RowP.of ho7); have hne7 := LawOwn.ne_own1 (GC.out.below' b6) go6 (by decide); have c7 := (GC.out.below' b6).grown hg7 hne7; have e7 := c7.cell 0; have f7 := c7.free 0; simp only [List.getElem?_toArray, List.getElem?_cons_zero] at e7)
          refine wpAnyIn_ready (rs := [3]) (by kernel_rfl) (by simp) ?_
          refine AllReadyIn.cons rfl (fun K hK => ?_) ?_
          · refine stepIn_append (by rfl) (.tmp 13) (.tmp 15) 40 (by rfl) (by rfl) (by rfl) hrun ?_
            refine hK _ _ ?_
            clear hK K
            refine wpAnyIn_ready (rs := [4]) (by kernel_rfl) (by simp) ?_
            refine AllReadyIn.cons rfl (fun K hK => ?_) ?_
            · go_simp
              refine hK _ _ ?_
              clear hK K
              refine wpAnyIn_done (by kernel_rfl) ?_ _
              have hset := c7.set 0 (.slice A7 (M.length + (refsP P).length) cp7)
              have hks := KeepC.set c7 0 (.slice A7 (M.length + (refsP P).length) cp7)
              have hob : ∀ j, (Value.slice Ar M.length cr).ownBlock = some j → w2.heap.size ≤ j := fun j hj => own_base go6 j hj
              have hB7 := (HB.out.trans (b6.mono HB.out.size)).grown hg7 (by have := HB.out.size; have := b6.size; omega) (fun j hj => Nat.le_trans hB2.size (hob j hj))
              have hfin : (w7.setCell ⟨w0.heap.size, 0, none⟩ (.slice A7 (M.length + (refsP P).length) cp7)).ownsRow w2.heap.size 3 1 (.slice A7 (M.length + (refsP P).length) cp7) (preR (pre ++ [(⟨⟨J, ki, l, t, u, A0, ac, P, B0, bc, N⟩, hx⟩ : Mem Lk)])).length ((preR (pre ++ [(⟨⟨J, ki, l, t, u, A0, ac, P, B0, bc, N⟩, hx⟩ : Mem Lk)])).map iv) := by
                rw [HS.out, List.length_append, List.map_append]
                exact hks.own (by decide) ho7
              have HKF := Lib.hid (show KeepsFrom w2.heap.size W (w7.setCell ⟨w0.heap.size, 0, none⟩ (.slice A7 (M.length + (refsP P).length) cp7)) from (KeepsFrom.of_grownBy (grown_of_below b6 none) (fun j e => by cases e)).trans (((own_cellsrow go6 hg7).trans (KeepsOthers.setCell _ _ _)).from _))
              have HKQ := Lib.hid (show Kq q A W (w7.setCell ⟨w0.heap.size, 0, none⟩ (.slice A7 (M.length + (refsP P).length) cp7)) from ((Kq.grow b6 (Nat.lt_of_lt_of_le HQ.out HSZ.out) (fun b off e => Nat.lt_of_lt_of_le (HA.out b off e) HSZ.out)).trans (Kq.grown hg7 (by have := HQ.out; have := HSZ.out; have := b6.size; omega) (fun b off e => by have := HA.out b off e; have := HSZ.out; have := b6.size; omega) (fun e => by have := hob q e.symm; have := HQ.out; omega) (fun b off e e2 => by have := hob b e2.symm; have := HA.out b off e; omega))).trans (Kq.set _ _ HQG.out HAG.out))
              have HB9 := Lib.hid (hB7.setCell (p := ⟨w0.heap.size, 0, none⟩) HB0.out.size (.slice A7 (M.length + (refsP P).length) cp7))
              have HSZ9 := Lib.hid (show w2.heap.size ≤ (w7.setCell ⟨w0.heap.size, 0, none⟩ (.slice A7 (M.length + (refsP P).length) cp7)).heap.size from Nat.le_trans HSZ.out (Nat.le_trans b6.size (Nat.le_trans hg7.size (by simp [World.setCell]))))
              have HSET := Lib.hid hset; have HFIN := Lib.hid hfin
              clear hset hks hob hB7 hfin hrun ho7 hg7 hat7 c7 e7 f7 go6 b6 d6 ox bx r6 hne7
              gi_wp2
              exact ⟨HKF.out, HKQ.out, ⟨_, HSET.out, HFIN.out⟩, HB9.out, HSZ9.out⟩
            exact AllReadyIn.nil
          exact AllReadyIn.nil
        exact AllReadyIn.nil
      exact AllReadyIn.nil
    refine AllReadyIn.cons rfl (fun K hK => ?_) ?_
    · go_simp
      refine hK _ _ ?_
      clear hK K
      refine wpAnyIn_ready (rs := [0, 2]) (by kernel_rfl) (by simp) ?_
      refine AllReadyIn.cons rfl (fun K hK => ?_) ?_
      · go_simp
        refine hK _ _ ?_
        clear hK K
        refine wpAnyIn_ready (rs := [2]) (by kernel_rfl) (by simp) ?_
        refine AllReadyIn.cons rfl (fun K hK => ?_) ?_
        · go_simp
          gi_wp2_with (refine ⟨trivial, ?_⟩; gi_at_call 69; refine (CallsIn.inRound lp (callsIn_wide.2 (KW.out _ b0))).mono ?_; rintro e w6 ⟨vx, rfl, ox, bx⟩; obtain ⟨A6, c6, rfl, r6⟩ := ox.row; have b6 := b0.trans (bx.mono b0.size); have d6 := (GC.out.below' b6).cell 0; simp only [List.getElem?_toArray, List.getElem?_cons_zero] at d6; have go6 := own_below GO.out b6; obtain ⟨v7, w7, hrun, ho7, hg7, hat7⟩ := run_append_row (P := Tryz.prog) w6 w2.heap.size 40 40 3 (.int .i64 0) 8 Tryz.underlying40 infoI rfl (.slice Ar M.length cr) M.length (M.map iv) go6 w6.heap.size A6 (refsP P).length c6 ((refsP P).map iv) r6 (by intro u hu; obtain ⟨y, _, rfl⟩ := List.mem_map.1 hu; rfl) (by have := HRB.out; unfold maxLen; omega) (by have := HRB.out; omega) (Nat.le_trans HSZ.out b6.size); obtain ⟨A7, cp7, rfl, _, _⟩ := ownK_form (RowP.of ho7); have hne7 := LawOwn.ne_own1 (GC.out.below' b6) go6 (by decide); have c7 := (GC.out.below' b6).grown hg7 hne7; have e7 := c7.cell 0; have f7 := c7.free 0; simp only [List.getElem?_toArray, List.getElem?_cons_zero] at e7)
          refine wpAnyIn_ready (rs := [3]) (by kernel_rfl) (by simp) ?_
          refine AllReadyIn.cons rfl (fun K hK => ?_) ?_
          · refine stepIn_append (by rfl) (.tmp 13) (.tmp 15) 40 (by rfl) (by rfl) (by rfl) hrun ?_
            refine hK _ _ ?_
            clear hK K
            refine wpAnyIn_ready (rs := [4]) (by kernel_rfl) (by simp) ?_
            refine AllReadyIn.cons rfl (fun K hK => ?_) ?_
            · go_simp
              refine hK _ _ ?_
              clear hK K
              refine wpAnyIn_done (by kernel_rfl) ?_ _
              have hset := c7.set 0 (.slice A7 (M.length + (refsP P).length) cp7)
              have hks := KeepC.set c7 0 (.slice A7 (M.length + (refsP P).length) cp7)
              have hob : ∀ j, (Value.slice Ar M.length cr).ownBlock = some j → w2.heap.size ≤ j := fun j hj => own_base go6 j hj
              have hB7 := (HB.out.trans (b6.mono HB.out.size)).grown hg7 (by have := HB.out.size; have := b6.size; omega) (fun j hj => Nat.le_trans hB2.size (hob j hj))
              have hfin : (w7.setCell ⟨w0.heap.size, 0, none⟩ (.slice A7 (M.length + (refsP P).length) cp7)).ownsRow w2.heap.size 3 1 (.slice A7 (M.length + (refsP P).length) cp7) (preR (pre ++ [(⟨⟨J, ki, l, t, u, A0, ac, P, B0, bc, N⟩, hx⟩ : Mem Lk)])).length ((preR (pre ++ [(⟨⟨J, ki, l, t, u, A0, ac, P, B0, bc, N⟩, hx⟩ : Mem Lk)])).map iv) := by
                rw [HS.out, List.length_append, List.map_append]
                exact hks.own (by decide) ho7
              have HKF := Lib.hid (show KeepsFrom w2.heap.size W (w7.setCell ⟨w0.heap.size, 0, none⟩ (.slice A7 (M.length + (refsP P).length) cp7)) from (KeepsFrom.of_grownBy (grown_of_below b6 none) (fun j e => by cases e)).trans (((own_cellsrow go6 hg7).trans (KeepsOthers.setCell _ _ _)).from _))
              have HKQ := Lib.hid (show Kq q A W (w7.setCell ⟨w0.heap.size, 0, none⟩ (.slice A7 (M.length + (refsP P).length) cp7)) from ((Kq.grow b6 (Nat.lt_of_lt_of_le HQ.out HSZ.out) (fun b off e => Nat.lt_of_lt_of_le (HA.out b off e) HSZ.out)).trans (Kq.grown hg7 (by have := HQ.out; have := HSZ.out; have := b6.size; omega) (fun b off e => by have := HA.out b off e; have := HSZ.out; have := b6.size; omega) (fun e => by have := hob q e.symm; have := HQ.out; omega) (fun b off e e2 => by have := hob b e2.symm; have := HA.out b off e; omega))).trans (Kq.set _ _ HQG.out HAG.out))
              have HB9 := Lib.hid (hB7.setCell (p := ⟨w0.heap.size, 0, none⟩) HB0.out.size (.slice A7 (M.length + (refsP P).length) cp7))
              have HSZ9 := Lib.hid (show w2.heap.size ≤ (w7.setCell ⟨w0.heap.size, 0, none⟩ (.slice A7 (M.length + (refsP P).length) cp7)).heap.size from Nat.le_trans HSZ.out (Nat.le_trans b6.size (Nat.le_trans hg7.size (by simp [World.setCell]))))
              have HSET := Lib.hid hset; have HFIN := Lib.hid hfin
              clear hset hks hob hB7 hfin hrun ho7 hg7 hat7 c7 e7 f7 go6 b6 d6 ox bx r6 hne7
              gi_wp2
              exact ⟨HKF.out, HKQ.out, ⟨_, HSET.out, HFIN.out⟩, HB9.out, HSZ9.out⟩
            exact AllReadyIn.nil
          exact AllReadyIn.nil
        exact AllReadyIn.nil
      refine AllReadyIn.cons rfl (fun K hK => ?_) ?_
      · go_simp
        gi_wp2_with (refine ⟨trivial, ?_⟩; gi_at_call 69; refine (CallsIn.inRound lp (callsIn_wide.2 (KW.out _ b0))).mono ?_; rintro e w6 ⟨vx, rfl, ox, bx⟩; obtain ⟨A6, c6, rfl, r6⟩ := ox.row; have b6 := b0.trans (bx.mono b0.size); have d6 := (GC.out.below' b6).cell 0; simp only [List.getElem?_toArray, List.getElem?_cons_zero] at d6; have go6 := own_below GO.out b6; obtain ⟨v7, w7, hrun, ho7, hg7, hat7⟩ := run_append_row (P := Tryz.prog) w6 w2.heap.size 40 40 3 (.int .i64 0) 8 Tryz.underlying40 infoI rfl (.slice Ar M.length cr) M.length (M.map iv) go6 w6.heap.size A6 (refsP P).length c6 ((refsP P).map iv) r6 (by intro u hu; obtain ⟨y, _, rfl⟩ := List.mem_map.1 hu; rfl) (by have := HRB.out; unfold maxLen; omega) (by have := HRB.out; omega) (Nat.le_trans HSZ.out b6.size); obtain ⟨A7, cp7, rfl, _, _⟩ := ownK_form (RowP.of ho7); have hne7 := LawOwn.ne_own1 (GC.out.below' b6) go6 (by decide); have c7 := (GC.out.below' b6).grown hg7 hne7; have e7 := c7.cell 0; have f7 := c7.free 0; simp only [List.getElem?_toArray, List.getElem?_cons_zero] at e7)
        refine wpAnyIn_ready (rs := [0]) (by kernel_rfl) (by simp) ?_
        refine AllReadyIn.cons rfl (fun K hK => ?_) ?_
        · go_simp
          refine hK _ _ ?_
          clear hK K
          refine wpAnyIn_ready (rs := [3]) (by kernel_rfl) (by simp) ?_
          refine AllReadyIn.cons rfl (fun K hK => ?_) ?_
          · refine stepIn_append (by rfl) (.tmp 13) (.tmp 15) 40 (by rfl) (by rfl) (by rfl) hrun ?_
            refine hK _ _ ?_
            clear hK K
            refine wpAnyIn_ready (rs := [4]) (by kernel_rfl) (by simp) ?_
            refine AllReadyIn.cons rfl (fun K hK => ?_) ?_
            · go_simp
              refine hK _ _ ?_
              clear hK K
              refine wpAnyIn_done (by kernel_rfl) ?_ _
              have hset := c7.set 0 (.slice A7 (M.length + (refsP P).length) cp7)
              have hks := KeepC.set c7 0 (.slice A7 (M.length + (refsP P).length) cp7)
              have hob : ∀ j, (Value.slice Ar M.length cr).ownBlock = some j → w2.heap.size ≤ j := fun j hj => own_base go6 j hj
              have hB7 := (HB.out.trans (b6.mono HB.out.size)).grown hg7 (by have := HB.out.size; have := b6.size; omega) (fun j hj => Nat.le_trans hB2.size (hob j hj))
              have hfin : (w7.setCell ⟨w0.heap.size, 0, none⟩ (.slice A7 (M.length + (refsP P).length) cp7)).ownsRow w2.heap.size 3 1 (.slice A7 (M.length + (refsP P).length) cp7) (preR (pre ++ [(⟨⟨J, ki, l, t, u, A0, ac, P, B0, bc, N⟩, hx⟩ : Mem Lk)])).length ((preR (pre ++ [(⟨⟨J, ki, l, t, u, A0, ac, P, B0, bc, N⟩, hx⟩ : Mem Lk)])).map iv) := by
                rw [HS.out, List.length_append, List.map_append]
                exact hks.own (by decide) ho7
              have HKF := Lib.hid (show KeepsFrom w2.heap.size W (w7.setCell ⟨w0.heap.size, 0, none⟩ (.slice A7 (M.length + (refsP P).length) cp7)) from (KeepsFrom.of_grownBy (grown_of_below b6 none) (fun j e => by cases e)).trans (((own_cellsrow go6 hg7).trans (KeepsOthers.setCell _ _ _)).from _))
              have HKQ := Lib.hid (show Kq q A W (w7.setCell ⟨w0.heap.size, 0, none⟩ (.slice A7 (M.length + (refsP P).length) cp7)) from ((Kq.grow b6 (Nat.lt_of_lt_of_le HQ.out HSZ.out) (fun b off e => Nat.lt_of_lt_of_le (HA.out b off e) HSZ.out)).trans (Kq.grown hg7 (by have := HQ.out; have := HSZ.out; have := b6.size; omega) (fun b off e => by have := HA.out b off e; have := HSZ.out; have := b6.size; omega) (fun e => by have := hob q e.symm; have := HQ.out; omega) (fun b off e e2 => by have := hob b e2.symm; have := HA.out b off e; omega))).trans (Kq.set _ _ HQG.out HAG.out))
              have HB9 := Lib.hid (hB7.setCell (p := ⟨w0.heap.size, 0, none⟩) HB0.out.size (.slice A7 (M.length + (refsP P).length) cp7))
              have HSZ9 := Lib.hid (show w2.heap.size ≤ (w7.setCell ⟨w0.heap.size, 0, none⟩ (.slice A7 (M.length + (refsP P).length) cp7)).heap.size from Nat.le_trans HSZ.out (Nat.le_trans b6.size (Nat.le_trans hg7.size (by simp [World.setCell]))))
              have HSET := Lib.hid hset; have HFIN := Lib.hid hfin
              clear hset hks hob hB7 hfin hrun ho7 hg7 hat7 c7 e7 f7 go6 b6 d6 ox bx r6 hne7
              gi_wp2
              exact ⟨HKF.out, HKQ.out, ⟨_, HSET.out, HFIN.out⟩, HB9.out, HSZ9.out⟩
            exact AllReadyIn.nil
          exact AllReadyIn.nil
        exact AllReadyIn.nil
      exact AllReadyIn.nil
    exact AllReadyIn.nil
  case done =>
    rintro D ys W hD hys ⟨g0, hB, hsz⟩ hK
    obtain ⟨vr, gc, go⟩ := g0
    have hcnt : preR ys = refsS S.l := by
      unfold refsS preR
      rw [lift_plain hys hpl, List.flatMap_map]
      rfl
    rw [hcnt] at go
    have c0 := gc.cell 0
    simp only [List.getElem?_toArray, List.getElem?_cons_zero] at c0
    gi_wp2
    refine ⟨by simp, .inl ⟨_, _, rfl, run_takeDeferred hK, ?_⟩⟩
    refine ⟨vr, ?_, ⟨vr, rfl, own_mono1 (own_from w2.heap.size _ _ 1 (fun _ : Unit => vr) (fun _ => _) (fun _ => _) () W _ (some D) go (grownBy_putObj' W D _) (fun r e => by cases e; exact ⟨hD, _, hK, rfl⟩)) hB2.size, hB.trans (belowK_b (w := w) (Nat.le_refl _) _ D _ _ (by have := hB2.size; omega) hK rfl rfl)⟩⟩
    simp [results, Tryz.f39, go_sem]
end
end Go.Proofs.YtamndllolppmoaaGreat

/-! slices.Sort of a row of ints of one's own. -/
namespace Go.Proofs.YtamndllolppmoaaGreat
open Wd Ino Sm U Go.RowKit Go.ChangeShapes Go.WideShapes Go.Sort
set_option linter.unusedVariables false
set_option maxRecDepth 100000
theorem sort_ints {w : World} {base : Nat} {v : Value} {l : List Int} (h : OwnI w base v l) (hl : l.length ≤ 1000000) : Calls Tryz.prog 71 #[v] w fun e w' => e = .returned (.tuple #[]) ∧ OwnI w' base v (l.mergeSort leI) ∧ w.grownBy w' v.ownBlock := by
  rcases h.2 with ⟨rfl, h0⟩ | ⟨g, cap, cur, rfl, hb, hh, h1, h2, h3, ht⟩
  · obtain rfl : l = [] := List.eq_nil_of_length_eq_zero h0
    refine (AnyM.slices_Sort_int_none Tryz.sortA none 0 w).mono ?_
    rintro e w' ⟨rfl, rfl⟩
    exact ⟨rfl, by rw [List.mergeSort_nil]; exact OwnI.nil _ _, World.grownBy.refl _ _⟩
  · have hH : Holds (Value.int .i64) w g 0 l.toArray := holds_of_blockI hh (by rw [Nat.mul_one] at ht; exact ht)
    refine (AnyM.slices_Sort_int Tryz.sortA g 0 cap l w hH (show Cells w g _ cur from hh).lt (by omega)).mono ?_
    rintro e w' ⟨rfl, n, os, rfl⟩
    refine ⟨rfl, ?_, grownBy_sortedI _⟩
    have := ownsRow_sortedI (w := w) (n := n) (os := os) (ss := l) (ts := l.mergeSort leI) (by rw [List.length_mergeSort]) hb hh h1 h2 h3
    unfold OwnI
    rw [List.length_mergeSort]
    exact this
end Go.Proofs.YtamndllolppmoaaGreat

namespace Go.Proofs.YtamndllolppmoaaGreat
open Wd Go.ChangeShapes Go.WideShapes Go.RowKit Go.Sort
set_option linter.unusedVariables false

/-- what a device of so many pages has -/
def bankG (p : Int) : Int := p / 8
def imageG (p : Int) : Int := (32 * (p / 8) - 2) / 2
def logG (p : Int) : Int := 32 * (p / 8) - 2 - (32 * (p / 8) - 2) / 2
def dataG (p : Int) : Int := p - 1 - 2 * (p / 8)
def mayG (p : Int) : Bool := decide (64 ≤ p) && decide (p ≤ 1048576)
def geomV (p : Int) : Value := .agg #[.int .i64 p, .int .i64 (bankG p), .int .i64 (imageG p), .int .i64 (logG p), .int .i64 (dataG p)]
def noneV : Value := .agg #[.int .i64 0, .int .i64 0, .int .i64 0, .int .i64 0, .int .i64 0]

def bankP (B k : Int) : Int := if k = 1 then 32 * (1 + B) else 32
def pageP (B D p : Int) : Int := if 1 ≤ p ∧ p ≤ D then 32 * (2 * B + p) else 0

theorem refGeom_yes (p : Int) (h1 : 64 ≤ p) (h2 : p ≤ 1048576) (w : World) : Calls Tryz.prog 11 #[.int .i64 p] w (Grows (.tuple #[geomV p, .bool true]) w) := by
  unfold geomV bankG imageG logG dataG
  go_enter Tryz.func11, Tryz.ntmps11
  go_wp2
  refine bodyPost_ret (v := .tuple #[.agg #[.int .i64 p, .int .i64 (p / 8), .int .i64 ((32 * (p / 8) - 2) / 2), .int .i64 (32 * (p / 8) - 2 - (32 * (p / 8) - 2) / 2), .int .i64 (p - 1 - 2 * (p / 8))], .bool true]) (by simp [results, Tryz.results11, go_sem]) rfl ⟨rfl, ?_⟩
  exact grow_one w _

theorem refGeom_no (p : Int) (h : p < 64 ∨ 1048576 < p) (w : World) : Calls Tryz.prog 11 #[.int .i64 p] w (Grows (.tuple #[noneV, .bool false]) w) := by
  unfold noneV
  rcases h with h | h
  · go_enter Tryz.func11, Tryz.ntmps11
    go_wp2
    refine bodyPost_ret (v := .tuple #[.agg #[.int .i64 0, .int .i64 0, .int .i64 0, .int .i64 0, .int .i64 0], .bool false]) (by simp [results, Tryz.results11, go_sem]) rfl ⟨rfl, ?_⟩
    exact grow_one w _
  · have h' : ¬ p < 64 := by omega
    go_enter Tryz.func11, Tryz.ntmps11
    go_wp2
    refine bodyPost_ret (v := .tuple #[.agg #[.int .i64 0, .int .i64 0, .int .i64 0, .int .i64 0, .int .i64 0], .bool false]) (by simp [results, Tryz.results11, go_sem]) rfl ⟨rfl, ?_⟩
    exact grow_one w _

theorem bankP_bd (B k : Int) (hB : 0 ≤ B) (hB2 : B ≤ 200000) : 0 ≤ bankP B k ∧ bankP B k ≤ 6400032 := by
  unfold bankP; split <;> omega

end Go.Proofs.YtamndllolppmoaaGreat

/-! The project's room: rest, Pages, Left, Fits. -/
namespace Go.Proofs.YtamndllolppmoaaGreat
open Wd Ino Sm U Go.RowKit Go.ChangeShapes Go.WideShapes Go.Sort
set_option linter.unusedVariables false
set_option maxRecDepth 100000
/-- a state within bounds -/
structure PF (w : World) (base m g b : Nat) (S : Stt) : Prop where
  p : PSt w base m g b S
  asc : AscS S.l
  sm : SmS S.l
  len : S.l.length ≤ 1000
  m : m < 999900
theorem PF.below {w w' : World} {base m g b : Nat} {S : Stt} (h : PF w base m g b S) (hb : Below w.heap.size w w') : PF w' base m g b S := ⟨h.p.below hb, h.asc, h.sm, h.len, h.m⟩
theorem PF.words {w : World} {base m g b : Nat} {S : Stt} (h : PF w base m g b S) : wordsS S.l ≤ 140000002 := by
  have h1 := sum_le (B := 140000) (f := wordsNod) S.l (fun n hn => words_node h.sm hn)
  have h2 : S.l.length * 140000 ≤ 1000 * 140000 := Nat.mul_le_mul_right _ h.len
  unfold wordsS; omega
theorem PF.refs {w : World} {base m g b : Nat} {S : Stt} (h : PF w base m g b S) : (refsS S.l).length ≤ 1000000 := by
  have h1 := flat_len_le (B := 1000) (f := fun n : Nod => refsP n.pages) S.l (fun n hn => Nat.le_trans (refs_len _) (h.sm n hn).p)
  have h2 : S.l.length * 1000 ≤ 1000 * 1000 := Nat.mul_le_mul_right _ h.len
  unfold refsS; omega
theorem pRest (room taken : Int) (h0 : 0 ≤ room) (h1 : room ≤ 1000000000) (h2 : 0 ≤ taken) (h3 : taken ≤ 1000000000) (w : World) : Calls Tryz.prog 37 #[.int .i64 room, .int .i64 taken] w fun e w' => e = .returned (.int .i64 (room - 1 - taken)) ∧ w = w' := by
  have e1 : wrap64 (-9223372036854775807 + taken) = -9223372036854775807 + taken := by unfold wrap64; omega
  have q1 : decide (room < -9223372036854775807 + taken) = false := decide_eq_false (by omega)
  have e2 : wrap64 (room - 1) = room - 1 := by unfold wrap64; omega
  have e3 : wrap64 (room - 1 - taken) = room - 1 - taken := by unfold wrap64; omega
  have E3 := Lib.hid e3
  clear h0 h1 h2 h3
  go_enter Tryz.func37, Tryz.ntmps37
  go_wp2
  go_ret
  exact ⟨by show Ending.returned (Value.int .i64 (wrap64 (room - 1 - taken))) = _; rw [E3.out], rfl⟩
section
variable {w : World} {base m g b : Nat} {S : Stt}
theorem pPages (h : PF w base m g b S) : Calls Tryz.prog 18 #[SPtr g] w fun e w' => e = .returned (.int .i64 ((refsS S.l).length : Nat)) ∧ Below w.heap.size w w' := by
  have KR := Lib.hid ((callsIn_wide (n := 3)).1 (pRefs_in 3 (Nat.le_refl _) h.p h.asc h.sm h.len h.m))
  clear h
  unfold SPtr at *
  go_enter Tryz.func18, Tryz.ntmps18
  go_wp2_with fail
  refine (KR.out).mono ?_
  rintro e w2 ⟨v, rfl, ho, hb2⟩
  obtain ⟨A, c, rfl, _⟩ := ho.row
  have HB2 := Lib.hid hb2
  clear hb2 ho KR
  go_wp2
  go_ret
  exact ⟨rfl, HB2.out⟩
def LeftGo (I D : Int) (l : List Nod) (w : World) (e : Ending) (w' : World) : Prop := e = .returned (.tuple #[.int .i64 (I - 1 - (wordsS l : Nat)), .int .i64 (D - 1 - ((refsS l).length : Nat))]) ∧ Below w.heap.size w w'
set_option maxHeartbeats 4000000 in
theorem pLeft (h : PF w base m g b S) (P B I L D : Int) (hI : 0 ≤ I ∧ I ≤ 1000000000) (hD : 0 ≤ D ∧ D ≤ 1000000000) : Calls Tryz.prog 13 #[.agg #[.int .i64 P, .int .i64 B, .int .i64 I, .int .i64 L, .int .i64 D], SPtr g] w (LeftGo I D S.l w) := by
  have hb1 : Below w.heap.size w (w.alloc (.cells #[.int .i64 P, .int .i64 B, .int .i64 I, .int .i64 L, .int .i64 D] 28)) := below_of_grown (World.grownBy_alloc w _ none)
  have hc1 : Cells (w.alloc (.cells #[.int .i64 P, .int .i64 B, .int .i64 I, .int .i64 L, .int .i64 D] 28)) w.heap.size 28 #[.int .i64 P, .int .i64 B, .int .i64 I, .int .i64 L, .int .i64 D] := Cells.new _ _ _
  obtain ⟨w1, hw1⟩ : ∃ w1, w.alloc (.cells #[.int .i64 P, .int .i64 B, .int .i64 I, .int .i64 L, .int .i64 D] 28) = w1 := ⟨_, rfl⟩
  rw [hw1] at hb1 hc1
  have HW := Lib.hid hw1
  have B1 := Lib.hid hb1
  have b0 : Below w1.heap.size w1 w1.drew := below_drewN (Below.refl _ _) 1
  have S9 := Lib.hid (fun (wx : World) (hb : Below w1.heap.size w1 wx) => show wx.cell? ⟨w.heap.size, 2, none⟩ = some (.int .i64 I) ∧ wx.cell? ⟨w.heap.size, 4, none⟩ = some (.int .i64 D) from ⟨(hc1.below' hb).cell 2, (hc1.below' hb).cell 4⟩)
  have KW := Lib.hid (fun wx (hb : Below w1.heap.size w1 wx) => (callsIn_wide (n := 3)).1 (pWords_in 3 (Nat.le_refl _) ((h.p.below hb1).below hb) h.asc h.sm h.len h.m))
  have KP := Lib.hid (fun wx (hb : Below w1.heap.size w1 wx) => pPages ((h.below hb1).below hb))
  obtain ⟨WS, hWS⟩ : ∃ W : Int, ((wordsS S.l : Nat) : Int) = W := ⟨_, rfl⟩
  obtain ⟨RS, hRS⟩ : ∃ W : Int, (((refsS S.l).length : Nat) : Int) = W := ⟨_, rfl⟩
  have hws : 0 ≤ WS ∧ WS ≤ 1000000000 := by have := h.words; omega
  have hrs : 0 ≤ RS ∧ RS ≤ 1000000000 := by have := h.refs; omega
  have K1 := Lib.hid (fun wx => pRest I WS hI.1 hI.2 hws.1 hws.2 wx)
  have K2 := Lib.hid (fun wx => pRest D RS hD.1 hD.2 hrs.1 hrs.2 wx)
  have HWS := Lib.hid hWS; have HRS := Lib.hid hRS
  rw [hWS] at KW
  rw [hRS] at KP
  unfold SPtr at KW KP
  clear h hb1 hc1 hw1 hI hD hws hrs hWS hRS
  unfold SPtr LeftGo
  rw [HWS.out, HRS.out]
  go_enter Tryz.func13, Tryz.ntmps13
  go_upto_region 1 with fail
  rw [HW.out]
  go_region_held3 (fun w' => w'.cell? ⟨w.heap.size, 2, none⟩ = some (.int .i64 I) ∧ w'.cell? ⟨w.heap.size, 4, none⟩ = some (.int .i64 D))
    (first | exact S9.out _ b0 | exact S9.out _ k1 | exact S9.out _ k2)
    (first
      | (go_at_call 32; (with_reducible refine (KW.out _ b0).mono ?_); rintro e' w1' ⟨rfl, c1⟩; have k1 : Below w1.heap.size w1 w1' := b0.trans (c1.mono b0.size))
      | (go_at_call 18; (with_reducible refine (KP.out _ k1).mono ?_); rintro e' w2' ⟨rfl, c2⟩; have k2 : Below w1.heap.size w1 w2' := k1.trans (c2.mono k1.size))
      | (go_at_call 37; (with_reducible refine (K1.out _).mono ?_); rintro e' w3' ⟨rfl, rfl⟩)
      | (go_at_call 37; (with_reducible refine (K2.out _).mono ?_); rintro e' w4' ⟨rfl, rfl⟩))
  all_goals
    have HK := Lib.hid k2
    clear k2 k1 b0 S9 KW KP K1 K2
    go_wp2
    go_ret2
    exact ⟨rfl, B1.out.trans (HK.out.mono B1.out.size)⟩
def fitsB (I D : Int) (l : List Nod) : Bool := decide (0 ≤ I - 1 - (wordsS l : Nat)) && decide (0 ≤ D - 1 - ((refsS l).length : Nat))
theorem pFits (h : PF w base m g b S) (P B I L D : Int) (hI : 0 ≤ I ∧ I ≤ 1000000000) (hD : 0 ≤ D ∧ D ≤ 1000000000) : Calls Tryz.prog 14 #[.agg #[.int .i64 P, .int .i64 B, .int .i64 I, .int .i64 L, .int .i64 D], SPtr g] w fun e w' => e = .returned (.bool (fitsB I D S.l)) ∧ Below w.heap.size w w' := by
  have hb1 : Below w.heap.size w (w.alloc (.cells #[.int .i64 P, .int .i64 B, .int .i64 I, .int .i64 L, .int .i64 D] 28)) := below_of_grown (World.grownBy_alloc w _ none)
  have hc1 : Cells (w.alloc (.cells #[.int .i64 P, .int .i64 B, .int .i64 I, .int .i64 L, .int .i64 D] 28)) w.heap.size 28 #[.int .i64 P, .int .i64 B, .int .i64 I, .int .i64 L, .int .i64 D] := Cells.new _ _ _
  have KL := Lib.hid (pLeft (h.below hb1) P B I L D hI hD)
  have y0 := hc1.cell 0; have y1 := hc1.cell 1; have y2 := hc1.cell 2; have y3 := hc1.cell 3; have y4 := hc1.cell 4
  simp only [List.getElem?_toArray, List.getElem?_cons_succ, List.getElem?_cons_zero] at y0 y1 y2 y3 y4
  have B1 := Lib.hid hb1
  unfold LeftGo at KL
  obtain ⟨X, hX⟩ : ∃ X : Int, I - 1 - ((wordsS S.l : Nat) : Int) = X := ⟨_, rfl⟩
  obtain ⟨Y, hY⟩ : ∃ X : Int, D - 1 - (((refsS S.l).length : Nat) : Int) = X := ⟨_, rfl⟩
  have HX := Lib.hid hX; have HY := Lib.hid hY
  rw [hX, hY] at KL
  clear h hb1 hc1 hI hD hX hY
  unfold SPtr fitsB at *
  rw [HX.out, HY.out]
  go_enter Tryz.func14, Tryz.ntmps14
  go_wp2_with fail
  refine (KL.out).mono ?_
  rintro e w2 ⟨rfl, hb2⟩
  have B2 := Lib.hid (B1.out.trans (hb2.mono B1.out.size))
  clear hb2 KL y0 y1 y2 y3 y4
  by_cases h0 : 0 ≤ X
  · have q0 : decide (X ≥ 0) = true := decide_eq_true h0
    have HQ := Lib.hid (decide_eq_true h0)
    clear h0
    go_wp2
    go_ret
    exact ⟨by rw [HQ.out, Bool.true_and]; rfl, B2.out⟩
  · have q0 : decide (X ≥ 0) = false := decide_eq_false h0
    have HQ := Lib.hid (decide_eq_false h0)
    clear h0
    go_wp2
    go_ret
    exact ⟨by rw [HQ.out, Bool.false_and]; rfl, B2.out⟩
end
end Go.Proofs.YtamndllolppmoaaGreat

/-! The project's Copy. -/
namespace Go.Proofs.YtamndllolppmoaaGreat
open Wd Ino Sm U Go.Maps Go.RowKit Go.ChangeShapes Go.WideShapes Go.Shelf Go.Sort
set_option linter.unusedVariables false
set_option maxRecDepth 100000
theorem vclone {w : World} {b n : Nat} {F : VFn} (h : Mv Tryz.prog 3 w b n F) : Calls Tryz.prog 70 #[.map (some b)] w fun e w' => e = .returned (.map (some w.heap.size)) ∧ Mv Tryz.prog 3 w' w.heap.size n F ∧ w.heap.size < w'.heap.size ∧ Below w.heap.size w w' := by
  obtain ⟨D, h, v⟩ := h
  refine (AnyW.maps_Clone_owns Tryz.cloneA _ _ b n D w h).mono ?_
  rintro e w' ⟨rfl, h1, h2, hb⟩
  exact ⟨rfl, ⟨D, h1, v⟩, h1.lt, hb⟩
/-- two states that may have the same nodes -/
theorem PSt.apart {w w' : World} {base m g b m' g' b' : Nat} {S S' : Stt} (h : PSt w base m' g' b' S') (hp : PSt w base m g b S) (t : Trn w w' [g, b]) (h1 : g' ≠ g) (h2 : b' ≠ b) : PSt w' base m' g' b' S' := by
  have hk := hp.keepC t
  have hgb : g' ≠ b := fun e => by
    obtain ⟨G, hG, _⟩ := hp.mp
    exact hG.cells h.cells e.symm
  have hbg : b' ≠ g := by
    obtain ⟨G, hG, _⟩ := h.mp
    exact hG.cells hp.cells
  obtain ⟨G, hG, hl, ho⟩ := h.mp
  refine ⟨h.lo, h.lob, ?_, G, hG.same (t.block b' hG.lt (by simp [h2, hbg])), hl, fun i n hn => (ho i n hn).keep hk (by decide) (by decide)⟩
  exact (t.block g' h.cells.lt (by simp [h1, hgb])).trans h.cells
def CopyGo (S : Stt) (base m : Nat) (w : World) (e : Ending) (w' : World) : Prop := ∃ g' b', e = .returned (SPtr g') ∧ PSt w' base m g' b' S ∧ w.heap.size ≤ g' ∧ w.heap.size ≤ b' ∧ Below w.heap.size w w'
section
variable {w : World} {base m g b : Nat} {S : Stt}
set_option maxHeartbeats 4000000 in
theorem pCopy (h : PSt w base m g b S) : Calls Tryz.prog 40 #[SPtr g] w (CopyGo S base m w) := by
  have hfol : Tryz.prog.follows .mixedOrders = true := by kernel_rfl
  have KM := Lib.hid (pMade h)
  have H := Lib.hid h
  clear h
  unfold SPtr at *
  go_enter Tryz.func40, Tryz.ntmps40
  go_wp2_with fail
  refine (KM.out).mono ?_
  rintro e w1 ⟨rfl, hw1⟩
  have b1 := grown_b hw1
  have h1 := H.out.below b1
  have B1 := Lib.hid b1
  have H1 := Lib.hid h1
  obtain ⟨G, hG, hl, ho⟩ := h1.mp
  have b0 : Below w1.heap.size w1 w1.drew := below_drewN (Below.refl _ _) 1
  have KC := Lib.hid (vclone (hG.same (w' := w1.drew) rfl))
  have HL := Lib.hid hl; have HO := Lib.hid ho
  have c0 := h1.c0
  have c1 := h1.cells.cell 1
  simp only [List.getElem?_toArray, List.getElem?_cons_zero, List.getElem?_cons_succ] at c1
  clear hw1 b1 h1 KM hG hl ho
  go_upto_region 3 with fail
  go_region_with (first
    | (go_at_call 70; (with_reducible refine (KC.out).mono ?_); rintro e' w2 ⟨rfl, hm2, hlt2, hb2⟩
       have b12 : Below w1.heap.size w1 w2 := b0.trans (hb2.mono b0.size)
       have d0 := (H1.out.below b12).c0
       have d1 := (H1.out.below b12).cells.cell 1
       simp only [List.getElem?_toArray, List.getElem?_cons_zero, List.getElem?_cons_succ] at d1))
  all_goals
    have HM2 := Lib.hid hm2; have B12 := Lib.hid b12
    go_wp2
    go_ret
    have hb3 : Below w2.heap.size w2 (w2.alloc (.cells #[.map (some w1.drew.heap.size), .int .i64 S.last] 89)) := below_of_grown (World.grownBy_alloc w2 _ none)
    have hbs : base ≤ w1.heap.size := Nat.le_trans H1.out.lo (Nat.le_of_lt H1.out.cells.lt)
    have hbw : w.heap.size ≤ w1.heap.size := B1.out.size
    have hb12 := B12.out.size
    have HB2 := B12.out
    refine ⟨w2.heap.size, w1.drew.heap.size, rfl, ⟨by omega, hbs, Cells.new _ _ _, G, HM2.out.same (hb3.block _ HM2.out.lt), HL.out, fun i n hn => ((HO.out i n hn).below HB2).below hb3⟩, by omega, hbw, (B1.out.trans (HB2.mono hbw)).trans (hb3.mono (by omega))⟩
end
end Go.Proofs.YtamndllolppmoaaGreat
