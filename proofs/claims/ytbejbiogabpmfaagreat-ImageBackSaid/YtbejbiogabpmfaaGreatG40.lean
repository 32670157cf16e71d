import Derived.Test.YtbejbiogabpmfaaGreatG37
import Derived.Test.YtbejbiogabpmfaaGreatG39
import Derived.Test.YtbejbiogabpmfaaGreatG32
import Derived.Test.YtbejbiogabpmfaaGreatG38

/-! The law's Alike, of a state that is as the document's. -/
namespace Go.Proofs.YtbejbiogabpmfaaGreat
open Wd Ino Sm U Go.RowKit Go.ChangeShapes Go.WideShapes Go.Shelf Go.Sort
set_option linter.unusedVariables false
attribute [local go_sem] Oper.semAt_some
set_option maxRecDepth 100000
def AkI (w w3 : World) (ys yb rb : Nat) (last : Int) (pre : List Nd) (W : World) : Prop :=
  (∃ v, Cells W ys 75 #[v, .int .i64 last] ∧ OwnNs W w3.heap.size v pre) ∧ Cells W yb 32 #[.pointer (some ⟨ys, 0, none⟩)] ∧ Cells W rb 4 #[.bool false] ∧ Below w.heap.size w W ∧ w3.heap.size ≤ W.heap.size
theorem AkI.from {w w3 : World} {ys yb rb : Nat} {last : Int} (h3 : w.heap.size ≤ w3.heap.size) : OwnFrom w3.heap.size (AkI w w3 ys yb rb last) := fun s X Y row hs hg hr => by
  obtain ⟨⟨v, h1, h2⟩, h4, h5, h6, h7⟩ := hs
  have hk := keepC_from hg (fun r e => (hr r e).2)
  exact ⟨⟨v, hk _ _ _ (by simp) h1, hk.own (by simp) h2⟩, hk _ _ _ (by simp) h4, hk _ _ _ (by simp) h5, h6.grown hg h6.size (fun j hj => Nat.le_trans h3 (hr j hj).1), Nat.le_trans h7 hg.size⟩
theorem ak_end {w w3 W W4 w7 : World} {ys yb rb q cv : Nat} {A Av A7 : Option Addr} {c7 : Nat} {last : Int} {pre : List Nd} {nd : Nd} (b4 : Below W.heap.size W W4) (hg7 : W4.grownBy w7 (Value.slice Av pre.length cv).ownBlock) (ho7 : OwnNs w7 w3.heap.size (.slice A7 (pre ++ [nd]).length c7) (pre ++ [nd]))
    (hro : OwnNs W4 w3.heap.size (.slice Av pre.length cv) pre) (hcy : Cells W4 ys 75 #[.slice Av pre.length cv, .int .i64 last]) (hcb : Cells W4 yb 32 #[.pointer (some ⟨ys, 0, none⟩)]) (hcr : Cells W4 rb 4 #[.bool false])
    (hB : Below w.heap.size w W) (hsz : w3.heap.size ≤ W.heap.size) (hq : q < w3.heap.size) (hA : ∀ b off, A = some ⟨b, off, none⟩ → b < w3.heap.size) (hqg : q ≠ ys) (hAg : ∀ b off, A = some ⟨b, off, none⟩ → b ≠ ys) (hys : w.heap.size ≤ ys) (h3 : w.heap.size ≤ w3.heap.size) :
    KeepsFrom w3.heap.size W (w7.setCell ⟨ys, 0, none⟩ (.slice A7 (pre.length + 1) c7)) ∧ (KeepC [75, 51] W (w7.setCell ⟨ys, 0, none⟩ (.slice A7 (pre.length + 1) c7)) ∧ Kq q A W (w7.setCell ⟨ys, 0, none⟩ (.slice A7 (pre.length + 1) c7))) ∧
      AkI w w3 ys yb rb last (pre ++ [nd]) (w7.setCell ⟨ys, 0, none⟩ (.slice A7 (pre.length + 1) c7)) := by
  rw [show (pre ++ [nd]).length = pre.length + 1 by simp] at ho7
  have hob : ∀ j, (Value.slice Av pre.length cv).ownBlock = some j → w3.heap.size ≤ j := fun j hj => own_base hro j hj
  have hc7 := hcy.grown hg7 (ne_own hcy hro (by decide))
  have hd7 := hcb.grown hg7 (ne_own hcb hro (by decide))
  have hr7 := hcr.grown hg7 (ne_own hcr hro (by decide))
  have hks := KeepC.set hc7 0 (.slice A7 (pre.length + 1) c7)
  have hk7 := KeepC.grown hro hg7
  have hs4 := b4.size
  refine ⟨(KeepsFrom.of_grownBy (grown_of_below b4 none) (fun j e => by cases e)).trans (((own_cellsrow hro hg7).trans (KeepsOthers.setCell _ _ _)).from _), ⟨?_, ?_⟩, ⟨⟨_, hc7.set 0 _, hks.own (by decide) ho7⟩, hks _ _ _ (by decide) hd7, hks _ _ _ (by decide) hr7, ?_, ?_⟩⟩
  · exact ((KeepC.of (Ts := []) b4).more (by simp)).trans ((hk7.more (by simp)).trans (hks.more (by simp)))
  · exact ((Kq.grow b4 (Nat.lt_of_lt_of_le hq hsz) (fun b off e => Nat.lt_of_lt_of_le (hA b off e) hsz)).trans (Kq.grown hg7 (by omega) (fun b off e => by have := hA b off e; omega) (fun e => by have := hob q e.symm; omega) (fun b off e e2 => by have := hob b e2.symm; have := hA b off e; omega))).trans (Kq.set _ _ hqg hAg)
  · exact ((hB.trans (b4.mono hB.size)).grown hg7 (by have := hB.size; omega) (fun j hj => Nat.le_trans h3 (hob j hj))).setCell (p := ⟨ys, 0, none⟩) hys _
  · exact Nat.le_trans hsz (Nat.le_trans hs4 (Nat.le_trans hg7.size (by simp [World.setCell])))
theorem tk {P : Program} {ops : Array Oper} {R : Act → World → Prop} {oi : Oper} {fuel : Nat} {listed : Array Bool} {a : Act} {w : World} (i : Nat) (v : Value) (hi : ops[i]? = some oi) (hs : Region.noSelect ops = true) (hf : Region.free .any ops listed i = true) (hr : (Region.ready .any ops listed).contains i = true)
    (hy : Yields P ops oi v a) (h : wpAny P .any ops (OnlyN R) fuel (listed.setIfInBounds i true) (a.put oi.dst v) w) : wpAny P .any ops (OnlyN R) (fuel + 1) listed a w := wpAny_take hi hs hf hr (fun _ _ _ h => h) hy h
theorem ak_mid {w4 w7 : World} {B ys yb cv : Nat} {Av : Option Addr} {last : Int} {pre : List Nd} {nd : Nd} {v7 : Value} (hcy : Cells w4 ys 75 #[.slice Av pre.length cv, .int .i64 last]) (hcb : Cells w4 yb 32 #[.pointer (some ⟨ys, 0, none⟩)])
    (hro : OwnNs w4 B (.slice Av pre.length cv) pre) (ho7 : OwnNs w7 B v7 (pre ++ [nd])) (hg7 : w4.grownBy w7 (Value.slice Av pre.length cv).ownBlock) :
    ∃ A7 c7, v7 = .slice A7 (pre ++ [nd]).length c7 ∧ w7.cell? ⟨ys, 0, none⟩ = some (.slice Av pre.length cv) ∧ w7.frozen? ⟨ys, 0, none⟩ = false ∧ w7.cell? ⟨yb, 0, none⟩ = some (.pointer (some ⟨ys, 0, none⟩)) := by
  obtain ⟨A7, c7, rfl, _, _⟩ := ownK_form (RowP.of ho7)
  have hc7 := hcy.grown hg7 (ne_own hcy hro (by decide))
  exact ⟨A7, c7, rfl, hc7.cell 0, hc7.free 0, (hcb.grown hg7 (ne_own hcb hro (by decide))).cell 0⟩
set_option maxHeartbeats 32000000 in
theorem alike_any {w : World} {base m g b base2 gx : Nat} {S : Stt} {Ls : List Nd} {vx : Value} (h : PSt w base m g b S) (ha : AscS S.l) (hs : SmS S.l) (hl : S.l.length ≤ 1000) (hm : m < 999900) (hx : DSx w base2 gx Ls vx S) :
    Calls Tryz.prog 19 #[SPtr g, SPtr gx] w (TrueB w) := by
  have hfol : Tryz.prog.follows .mixedOrders = true := by kernel_rfl
  have H := Lib.hid h; have HX := Lib.hid hx; have HSM := Lib.hid hs; have HL := Lib.hid hl; have HASC := Lib.hid ha
  have HLS := Lib.hid (show Ls.length ≤ 1000 by have := hx.len; omega)
  have hb0 : Below w.heap.size w (w.alloc (.cells #[.bool false] 4)) := below_of_grown (World.grownBy_alloc w _ none)
  have hcr0 : Cells (w.alloc (.cells #[.bool false] 4)) w.heap.size 4 #[.bool false] := Cells.new _ _ _
  have KL := Lib.hid (pLast (h.below hb0))
  have KN := Lib.hid (fun wx (hb : Below w.heap.size w wx) => pNodes (h.below hb) ha hs hl hm)
  have B0 := Lib.hid hb0; have HCR0 := Lib.hid hcr0
  have HSZ0 := Lib.hid (show (w.alloc (.cells #[.bool false] 4)).heap.size = w.heap.size + 1 by simp)
  unfold SPtr at *
  clear h ha hs hl hm hx hb0 hcr0
  refine (callsIn_wide (n := 8)).1 (callsIn_of_wp_marks Tryz.func19 rfl trivial ?_ rfl)
  refine wpIn_wide.2 ?_
  simp only [Tryz.ntmps19, List.size_toArray, List.length_cons, List.length_nil, Nat.reduceAdd, Nat.reduceSub, Array.replicate_succ, Array.replicate_zero, List.push_toArray, List.append_toArray, List.nil_append, List.cons_append]
  go_wp2_with fail
  refine (KL.out).mono ?_
  rintro e w1 ⟨rfl, hw1⟩
  have B1 := Lib.hid (B0.out.trans ((grown_b hw1).mono B0.out.size))
  have HCR1 := Lib.hid (HCR0.out.below' (grown_b hw1))
  have HS1 := Lib.hid (show w.heap.size + 1 ≤ w1.heap.size by have := (grown_b hw1).size; have := HSZ0.out; omega)
  clear hw1 KL
  go_wp2_with fail
  obtain ⟨LA, hLA⟩ : ∃ x, S.last = x := ⟨_, rfl⟩
  have HLA := Lib.hid hLA
  rw [hLA]
  clear hLA
  have hba : Below w1.heap.size w1 (w1.alloc (.cells #[.slice none 0 0, .int .i64 LA] 75)) := below_of_grown (World.grownBy_alloc w1 _ none)
  have hbb : Below w1.heap.size w1 ((w1.alloc (.cells #[.slice none 0 0, .int .i64 LA] 75)).alloc (.cells #[.pointer (some ⟨w1.heap.size, 0, none⟩)] 32)) := hba.alloc hba.size _
  have hcy : Cells ((w1.alloc (.cells #[.slice none 0 0, .int .i64 LA] 75)).alloc (.cells #[.pointer (some ⟨w1.heap.size, 0, none⟩)] 32)) w1.heap.size 75 #[.slice none 0 0, .int .i64 LA] := (Cells.new w1 75 #[.slice none 0 0, .int .i64 LA]).alloc _
  have hcb : Cells ((w1.alloc (.cells #[.slice none 0 0, .int .i64 LA] 75)).alloc (.cells #[.pointer (some ⟨w1.heap.size, 0, none⟩)] 32)) (w1.heap.size + 1) 32 #[.pointer (some ⟨w1.heap.size, 0, none⟩)] := by
    have := Cells.new (w1.alloc (.cells #[.slice none 0 0, .int .i64 LA] 75)) 32 #[.pointer (some ⟨w1.heap.size, 0, none⟩)]
    simpa using this
  have HS2 := Lib.hid (show ((w1.alloc (.cells #[.slice none 0 0, .int .i64 LA] 75)).alloc (.cells #[.pointer (some ⟨w1.heap.size, 0, none⟩)] 32)).heap.size = w1.heap.size + 2 by simp)
  have HCR2 := Lib.hid (HCR1.out.below' hbb)
  have B2 := Lib.hid (B1.out.trans (hbb.mono B1.out.size))
  have HCY2 := Lib.hid hcy; have HCB2 := Lib.hid hcb
  have KN2 := Lib.hid (KN.out _ B2.out)
  clear hba hbb hcy hcb KN
  refine (KN2.out).mono ?_
  rintro e w3 ⟨p, q, Lk, v, rfl, hp1, hp2, hpq, hcp, hq1, hcq, hro, hon, hpl, hb3⟩
  obtain ⟨A, c, rfl, hE, hA, hAb⟩ := row_hi (n := 0) hro
  have hlen : Lk.length ≤ 1000 := by have := congrArg List.length hpl; rw [List.length_map] at this; have := HL.out; omega
  have hqc := hcq.cell 0
  simp only [List.getElem?_toArray, List.getElem?_cons_zero] at hqc
  have HCR3 := Lib.hid (HCR2.out.below' hb3); have HCY3 := Lib.hid (HCY2.out.below' hb3); have HCB3 := Lib.hid (HCB2.out.below' hb3)
  have B3 := Lib.hid (B2.out.trans (hb3.mono B2.out.size))
  have HQ := Lib.hid hcq.lt; have HA := Lib.hid hA
  have hs2 := HS2.out
  rw [hs2] at hq1 hAb hp1
  have HQG := Lib.hid (show q ≠ w1.heap.size by omega)
  have HAG := Lib.hid (show ∀ b off, A = some ⟨b, off, none⟩ → b ≠ w1.heap.size from fun b off e => by have := hAb b off e; omega)
  have HYS := Lib.hid (show w.heap.size ≤ w1.heap.size by have := HS1.out; omega)
  have HW23 := Lib.hid (show w.heap.size ≤ w3.heap.size from B3.out.size)
  have hseq := nodes_tells (n := 7) (by omega) (w := w3) (Ts := [75, 51]) (by decide) (by decide) (by decide) hcp hp2 hqc hcq.lt hA hE hon hpl HSM.out hlen
  have HSEQ := Lib.hid hseq; have HLEN := Lib.hid hlen; have HPL := Lib.hid hpl
  clear KN2 hp1 hp2 hpq hcp hq1 hqc hcq hro hon hpl hb3 hA hAb hE hs2 hseq hlen
  go_wp2
  refine (wpIn_wide (n := 8)).1 ?_
  refine wp_range_tells rfl (by omega) rfl trivial (enters_of Tryz.func71 (by kernel_rfl) rfl) HSEQ.out (fun h k => ⟨h.1.trans k.1, h.2.trans k.2⟩)
    (fun W o o' ho hc hw => ⟨(keepC_from (grownBy_putObj' W _ o') (fun r e => by cases e; exact ⟨_, ho, hc⟩)).more (by simp), Kq.put (w := w3) HQ.out HA.out W _ o o' (by omega) ho hc hw⟩)
    (OwnFrom.and (ownFrom_pure _ _) (own_nds _ _ (fun xs => xs))) (fun x => rfl)
    (AkI w w3 w1.heap.size (w1.heap.size + 1) w.heap.size LA) (AkI.from HW23.out) ⟨⟨_, HCY3.out, World.ownsRow_nil _ _ _ _⟩, HCB3.out, HCR3.out, B3.out, Nat.le_refl _⟩
    (fun x a' W => ∃ Bx, w3.heap.size ≤ Bx ∧ Cells W Bx 51 (ndc x) ∧ a' = { tmps := #[.pointer (some ⟨g, 0, none⟩), .pointer (some ⟨gx, 0, none⟩), undef, undef, .pointer (some ⟨w.heap.size, 0, none⟩), .pointer (some ⟨w1.heap.size + 1, 0, none⟩), .int .i64 x.ino, .pointer (some ⟨Bx, 0, none⟩), .pointer (some ⟨g, 0, none⟩), .int .i64 LA, .agg #[.slice none 0 0, .int .i64 LA], .pointer (some ⟨w1.heap.size, 0, none⟩), .pointer (some ⟨g, 0, none⟩), .func (.func 71) #[] #[.pointer (some ⟨p, 0, none⟩)], .int .i64 x.ino, x.val, undef, undef, undef, undef, undef, undef, undef, undef, undef, undef, undef, undef, undef, undef, undef, undef, undef], defers := [] })
    (fun x a' _ X Y row hs hg hr => by obtain ⟨Bx, g1, g2, g3⟩ := hs; exact ⟨Bx, g1, (grownBy_keeps_cells hg (fun r e => (hr r e).2) g2 rfl).trans g2, g3⟩)
    ?assign ?body ?done
  case assign =>
    rintro l2 pre ⟨j, ki, lk, t, u, A0, ac, P, B0, bc, N⟩ W K hrel hok hK
    have hsz := hrel.2.2.2.2
    have hK' := hK { tmps := #[.pointer (some ⟨g, 0, none⟩), .pointer (some ⟨gx, 0, none⟩), undef, undef, .pointer (some ⟨w.heap.size, 0, none⟩), .pointer (some ⟨w1.heap.size + 1, 0, none⟩), .int .i64 j, .pointer (some ⟨W.heap.size, 0, none⟩), .pointer (some ⟨g, 0, none⟩), .int .i64 LA, .agg #[.slice none 0 0, .int .i64 LA], .pointer (some ⟨w1.heap.size, 0, none⟩), .pointer (some ⟨g, 0, none⟩), .func (.func 71) #[] #[.pointer (some ⟨p, 0, none⟩)], .int .i64 j, Nd.val ⟨j, ki, lk, t, u, A0, ac, P, B0, bc, N⟩, undef, undef, undef, undef, undef, undef, undef, undef, undef, undef, undef, undef, undef, undef, undef, undef, undef], defers := [] } (W.alloc (.cells (ndc ⟨j, ki, lk, t, u, A0, ac, P, B0, bc, N⟩) 51)) ((KeepsOthers.alloc _ _).from _)
      ⟨(KeepC.of (Ts := []) (below_of_grown (World.grownBy_alloc W _ none))).more (by simp), Kq.grow (below_of_grown (World.grownBy_alloc W _ none)) (Nat.lt_of_lt_of_le HQ.out hsz) (fun b off e => Nat.lt_of_lt_of_le (HA.out b off e) hsz)⟩ ((AkI.from HW23.out).alloc _ hrel) ⟨W.heap.size, hsz, Cells.new _ _ _, rfl⟩
    unfold Nd.val ndc ncells at hK'
    unfold Nd.val
    dsimp only at hK' ⊢
    clear hK
    gi_wp2
    exact hK'
  case body =>
    rintro l2 pre ⟨j, ki, lk, t, u, A0, ac, P, B0, bc, N⟩ a' W hl ⟨⟨v, gcy, gro⟩, gcb, gcr, hB, hsz⟩ ⟨Bx, hBx, cX, rfl⟩ hlt
    unfold ndc at cX
    dsimp only at cX
    obtain ⟨z0, z1, z2, z3, z4, z5, z6⟩ := cells7 cX
    obtain ⟨Av, cv, rfl, _, _⟩ := ownK_form (RowP.of gro)
    have c0 := gcy.cell 0
    have d0 := gcb.cell 0
    simp only [List.getElem?_toArray, List.getElem?_cons_zero] at d0
    have qj : (j != j) = false := by simp
    have b4 : Below W.heap.size W (W.alloc (.cells #[.int .i64 j, .int .i64 ki, .int .i64 lk, .int .i64 t, .int .i64 u, .slice A0 P.length ac, .slice B0 N.length bc] 51)) := below_of_grown (World.grownBy_alloc W _ none)
    have b4' : Below W.heap.size W (W.alloc (.cells #[.int .i64 j, .int .i64 ki, .int .i64 lk, .int .i64 t, .int .i64 u, .slice A0 P.length ac, .slice B0 N.length bc] 51)).drew := b4.drew
    have y4 := (gcy.below' b4).cell 0
    have d4 := (gcb.below' b4).cell 0
    simp only [List.getElem?_toArray, List.getElem?_cons_zero] at d4
    have B4 := Lib.hid b4'
    have HROW4 := Lib.hid (show OwnNs (W.alloc (.cells #[.int .i64 j, .int .i64 ki, .int .i64 lk, .int .i64 t, .int .i64 u, .slice A0 P.length ac, .slice B0 N.length bc] 51)).drew w3.heap.size (.slice Av pre.length cv) pre from gro.below b4')
    have HCY4 := Lib.hid (gcy.below' b4'); have HCB4 := Lib.hid (gcb.below' b4'); have HCR4 := Lib.hid (gcr.below' b4')
    have HB := Lib.hid hB; have HSZ := Lib.hid hsz
    have HSB := Lib.hid (show w3.heap.size ≤ (W.alloc (.cells #[.int .i64 j, .int .i64 ki, .int .i64 lk, .int .i64 t, .int .i64 u, .slice A0 P.length ac, .slice B0 N.length bc] 51)).drew.heap.size from Nat.le_trans hsz b4'.size)
    have HP9 := Lib.hid (show pre.length + [(Nd.mk j ki lk t u A0 ac P B0 bc N)].length ≤ 100000 by have := HLEN.out; simp; omega)
    have HN4 := Lib.hid (nds_one W (Nd.mk j ki lk t u A0 ac P B0 bc N))
    have HEND := Lib.hid (fun (A7 : Option Addr) (c7 : Nat) (w7 : World) (o7 : OwnNs w7 w3.heap.size (.slice A7 (pre ++ [(Nd.mk j ki lk t u A0 ac P B0 bc N)]).length c7) (pre ++ [(Nd.mk j ki lk t u A0 ac P B0 bc N)])) (g7 : (W.alloc (.cells #[.int .i64 j, .int .i64 ki, .int .i64 lk, .int .i64 t, .int .i64 u, .slice A0 P.length ac, .slice B0 N.length bc] 51)).drew.grownBy w7 (Value.slice Av pre.length cv).ownBlock) => ak_end B4.out g7 o7 HROW4.out HCY4.out HCB4.out HCR4.out HB.out HSZ.out HQ.out HA.out HQG.out HAG.out HYS.out HW23.out)
    have HR4 := HROW4
    clear gcy gro gcb gcr hB hsz b4 b4' cX hlt
    gi_upto_region 7 with fail
    refine region_in hfol (by kernel_rfl) (fun _ _ h => h) ?_
    refine wpAny_ready (rs := [0, 1, 5]) (by kernel_rfl) (by simp) ?_
    refine AllReady.cons rfl (fun K hK => ?_) ?_
    go_simp; refine hK _ _ ?_; clear hK K
    refine wpAny_ready (rs := [1, 5]) (by kernel_rfl) (by simp) ?_
    refine AllReady.cons rfl (fun K hK => ?_) ?_
    go_simp; refine hK _ _ ?_; clear hK K
    refine tk 2 (.pointer (some ⟨w1.heap.size, 0, none⟩)) rfl (by kernel_rfl) (by kernel_rfl) (by kernel_rfl) (.inl ⟨by rfl, ?_⟩) ?_
    (intro w; go_simp)
    refine tk 3 (.pointer (some ⟨w1.heap.size, 0, none⟩)) rfl (by kernel_rfl) (by kernel_rfl) (by kernel_rfl) (.inl ⟨by rfl, ?_⟩) ?_
    (intro w; go_simp)
    refine wpAny_ready (rs := [4, 5]) (by kernel_rfl) (by simp) ?_
    refine AllReady.cons rfl (fun K hK => ?_) ?_
    go_simp; refine hK _ _ ?_; clear hK K
    refine wpAny_ready (rs := [5]) (by kernel_rfl) (by simp) ?_
    refine AllReady.cons rfl (fun K hK => ?_) ?_
    go_simp; refine hK _ _ ?_; clear hK K
    refine wpAny_ready (rs := [6]) (by kernel_rfl) (by simp) ?_
    refine AllReady.cons rfl (fun K hK => ?_) ?_
    go_simp; refine hK _ _ ?_; clear hK K
    refine wpAny_ready (rs := [7]) (by kernel_rfl) (by simp) ?_
    refine AllReady.cons rfl (fun K hK => ?_) ?_
    refine step_append_nds (by rfl) (.tmp 24) (.tmp 26) (by rfl) (by rfl) (by rfl) HR4.out HN4.out HP9.out HSB.out ?_
    intro v7 w7 o7 g7 _
    obtain ⟨A7, c7, rfl, y7, f7, d7⟩ := ak_mid HCY4.out HCB4.out HR4.out o7 g7
    try go_simp
    refine hK _ _ ?_
    clear hK K
    refine tk 8 (.pointer (some ⟨w1.heap.size, 0, none⟩)) rfl (by kernel_rfl) (by kernel_rfl) (by kernel_rfl) (.inl ⟨by rfl, ?_⟩) ?_
    (intro w; go_simp)
    refine tk 9 (.pointer (some ⟨w1.heap.size, 0, none⟩)) rfl (by kernel_rfl) (by kernel_rfl) (by kernel_rfl) (.inl ⟨by rfl, ?_⟩) ?_
    (intro w; go_simp)
    refine wpAny_ready (rs := [10]) (by kernel_rfl) (by simp) ?_
    refine AllReady.cons rfl (fun K hK => ?_) ?_
    go_simp; refine hK _ _ ?_; clear hK K
    refine wpAny_done (by kernel_rfl) ?_ _
    have O := HEND.out _ _ _ o7 g7
    clear o7 g7 y7 f7 d7
    dsimp only [OnlyN]
    gi_wp2
    exact O
    exact AllReady.nil
    exact AllReady.nil
    exact AllReady.nil
    exact AllReady.nil
    refine AllReady.cons rfl (fun K hK => ?_) ?_
    go_simp; refine hK _ _ ?_; clear hK K
    refine wpAny_ready (rs := [4, 6]) (by kernel_rfl) (by simp) ?_
    refine AllReady.cons rfl (fun K hK => ?_) ?_
    go_simp; refine hK _ _ ?_; clear hK K
    refine wpAny_ready (rs := [6]) (by kernel_rfl) (by simp) ?_
    refine AllReady.cons rfl (fun K hK => ?_) ?_
    go_simp; refine hK _ _ ?_; clear hK K
    refine wpAny_ready (rs := [7]) (by kernel_rfl) (by simp) ?_
    refine AllReady.cons rfl (fun K hK => ?_) ?_
    refine step_append_nds (by rfl) (.tmp 24) (.tmp 26) (by rfl) (by rfl) (by rfl) HR4.out HN4.out HP9.out HSB.out ?_
    intro v7 w7 o7 g7 _
    obtain ⟨A7, c7, rfl, y7, f7, d7⟩ := ak_mid HCY4.out HCB4.out HR4.out o7 g7
    try go_simp
    refine hK _ _ ?_
    clear hK K
    refine tk 8 (.pointer (some ⟨w1.heap.size, 0, none⟩)) rfl (by kernel_rfl) (by kernel_rfl) (by kernel_rfl) (.inl ⟨by rfl, ?_⟩) ?_
    (intro w; go_simp)
    refine tk 9 (.pointer (some ⟨w1.heap.size, 0, none⟩)) rfl (by kernel_rfl) (by kernel_rfl) (by kernel_rfl) (.inl ⟨by rfl, ?_⟩) ?_
    (intro w; go_simp)
    refine wpAny_ready (rs := [10]) (by kernel_rfl) (by simp) ?_
    refine AllReady.cons rfl (fun K hK => ?_) ?_
    go_simp; refine hK _ _ ?_; clear hK K
    refine wpAny_done (by kernel_rfl) ?_ _
    have O := HEND.out _ _ _ o7 g7
    clear o7 g7 y7 f7 d7
    dsimp only [OnlyN]
    gi_wp2
    exact O
    exact AllReady.nil
    exact AllReady.nil
    exact AllReady.nil
    refine AllReady.cons rfl (fun K hK => ?_) ?_
    go_simp; refine hK _ _ ?_; clear hK K
    refine wpAny_ready (rs := [4]) (by kernel_rfl) (by simp) ?_
    refine AllReady.cons rfl (fun K hK => ?_) ?_
    go_simp; refine hK _ _ ?_; clear hK K
    refine wpAny_ready (rs := [7]) (by kernel_rfl) (by simp) ?_
    refine AllReady.cons rfl (fun K hK => ?_) ?_
    refine step_append_nds (by rfl) (.tmp 24) (.tmp 26) (by rfl) (by rfl) (by rfl) HR4.out HN4.out HP9.out HSB.out ?_
    intro v7 w7 o7 g7 _
    obtain ⟨A7, c7, rfl, y7, f7, d7⟩ := ak_mid HCY4.out HCB4.out HR4.out o7 g7
    try go_simp
    refine hK _ _ ?_
    clear hK K
    refine tk 8 (.pointer (some ⟨w1.heap.size, 0, none⟩)) rfl (by kernel_rfl) (by kernel_rfl) (by kernel_rfl) (.inl ⟨by rfl, ?_⟩) ?_
    (intro w; go_simp)
    refine tk 9 (.pointer (some ⟨w1.heap.size, 0, none⟩)) rfl (by kernel_rfl) (by kernel_rfl) (by kernel_rfl) (.inl ⟨by rfl, ?_⟩) ?_
    (intro w; go_simp)
    refine wpAny_ready (rs := [10]) (by kernel_rfl) (by simp) ?_
    refine AllReady.cons rfl (fun K hK => ?_) ?_
    go_simp; refine hK _ _ ?_; clear hK K
    refine wpAny_done (by kernel_rfl) ?_ _
    have O := HEND.out _ _ _ o7 g7
    clear o7 g7 y7 f7 d7
    dsimp only [OnlyN]
    gi_wp2
    exact O
    exact AllReady.nil
    exact AllReady.nil
    exact AllReady.nil
    exact AllReady.nil
    exact AllReady.nil
    refine AllReady.cons rfl (fun K hK => ?_) ?_
    go_simp; refine hK _ _ ?_; clear hK K
    refine wpAny_ready (rs := [1, 6]) (by kernel_rfl) (by simp) ?_
    refine AllReady.cons rfl (fun K hK => ?_) ?_
    go_simp; refine hK _ _ ?_; clear hK K
    refine tk 2 (.pointer (some ⟨w1.heap.size, 0, none⟩)) rfl (by kernel_rfl) (by kernel_rfl) (by kernel_rfl) (.inl ⟨by rfl, ?_⟩) ?_
    (intro w; go_simp)
    refine tk 3 (.pointer (some ⟨w1.heap.size, 0, none⟩)) rfl (by kernel_rfl) (by kernel_rfl) (by kernel_rfl) (.inl ⟨by rfl, ?_⟩) ?_
    (intro w; go_simp)
    refine wpAny_ready (rs := [4, 6]) (by kernel_rfl) (by simp) ?_
    refine AllReady.cons rfl (fun K hK => ?_) ?_
    go_simp; refine hK _ _ ?_; clear hK K
    refine wpAny_ready (rs := [6]) (by kernel_rfl) (by simp) ?_
    refine AllReady.cons rfl (fun K hK => ?_) ?_
    go_simp; refine hK _ _ ?_; clear hK K
    refine wpAny_ready (rs := [7]) (by kernel_rfl) (by simp) ?_
    refine AllReady.cons rfl (fun K hK => ?_) ?_
    refine step_append_nds (by rfl) (.tmp 24) (.tmp 26) (by rfl) (by rfl) (by rfl) HR4.out HN4.out HP9.out HSB.out ?_
    intro v7 w7 o7 g7 _
    obtain ⟨A7, c7, rfl, y7, f7, d7⟩ := ak_mid HCY4.out HCB4.out HR4.out o7 g7
    try go_simp
    refine hK _ _ ?_
    clear hK K
    refine tk 8 (.pointer (some ⟨w1.heap.size, 0, none⟩)) rfl (by kernel_rfl) (by kernel_rfl) (by kernel_rfl) (.inl ⟨by rfl, ?_⟩) ?_
    (intro w; go_simp)
    refine tk 9 (.pointer (some ⟨w1.heap.size, 0, none⟩)) rfl (by kernel_rfl) (by kernel_rfl) (by kernel_rfl) (.inl ⟨by rfl, ?_⟩) ?_
    (intro w; go_simp)
    refine wpAny_ready (rs := [10]) (by kernel_rfl) (by simp) ?_
    refine AllReady.cons rfl (fun K hK => ?_) ?_
    go_simp; refine hK _ _ ?_; clear hK K
    refine wpAny_done (by kernel_rfl) ?_ _
    have O := HEND.out _ _ _ o7 g7
    clear o7 g7 y7 f7 d7
    dsimp only [OnlyN]
    gi_wp2
    exact O
    exact AllReady.nil
    exact AllReady.nil
    exact AllReady.nil
    refine AllReady.cons rfl (fun K hK => ?_) ?_
    go_simp; refine hK _ _ ?_; clear hK K
    refine wpAny_ready (rs := [4]) (by kernel_rfl) (by simp) ?_
    refine AllReady.cons rfl (fun K hK => ?_) ?_
    go_simp; refine hK _ _ ?_; clear hK K
    refine wpAny_ready (rs := [7]) (by kernel_rfl) (by simp) ?_
    refine AllReady.cons rfl (fun K hK => ?_) ?_
    refine step_append_nds (by rfl) (.tmp 24) (.tmp 26) (by rfl) (by rfl) (by rfl) HR4.out HN4.out HP9.out HSB.out ?_
    intro v7 w7 o7 g7 _
    obtain ⟨A7, c7, rfl, y7, f7, d7⟩ := ak_mid HCY4.out HCB4.out HR4.out o7 g7
    try go_simp
    refine hK _ _ ?_
    clear hK K
    refine tk 8 (.pointer (some ⟨w1.heap.size, 0, none⟩)) rfl (by kernel_rfl) (by kernel_rfl) (by kernel_rfl) (.inl ⟨by rfl, ?_⟩) ?_
    (intro w; go_simp)
    refine tk 9 (.pointer (some ⟨w1.heap.size, 0, none⟩)) rfl (by kernel_rfl) (by kernel_rfl) (by kernel_rfl) (.inl ⟨by rfl, ?_⟩) ?_
    (intro w; go_simp)
    refine wpAny_ready (rs := [10]) (by kernel_rfl) (by simp) ?_
    refine AllReady.cons rfl (fun K hK => ?_) ?_
    go_simp; refine hK _ _ ?_; clear hK K
    refine wpAny_done (by kernel_rfl) ?_ _
    have O := HEND.out _ _ _ o7 g7
    clear o7 g7 y7 f7 d7
    dsimp only [OnlyN]
    gi_wp2
    exact O
    exact AllReady.nil
    exact AllReady.nil
    exact AllReady.nil
    exact AllReady.nil
    refine AllReady.cons rfl (fun K hK => ?_) ?_
    go_simp; refine hK _ _ ?_; clear hK K
    refine wpAny_ready (rs := [1]) (by kernel_rfl) (by simp) ?_
    refine AllReady.cons rfl (fun K hK => ?_) ?_
    go_simp; refine hK _ _ ?_; clear hK K
    refine tk 2 (.pointer (some ⟨w1.heap.size, 0, none⟩)) rfl (by kernel_rfl) (by kernel_rfl) (by kernel_rfl) (.inl ⟨by rfl, ?_⟩) ?_
    (intro w; go_simp)
    refine tk 3 (.pointer (some ⟨w1.heap.size, 0, none⟩)) rfl (by kernel_rfl) (by kernel_rfl) (by kernel_rfl) (.inl ⟨by rfl, ?_⟩) ?_
    (intro w; go_simp)
    refine wpAny_ready (rs := [4]) (by kernel_rfl) (by simp) ?_
    refine AllReady.cons rfl (fun K hK => ?_) ?_
    go_simp; refine hK _ _ ?_; clear hK K
    refine wpAny_ready (rs := [7]) (by kernel_rfl) (by simp) ?_
    refine AllReady.cons rfl (fun K hK => ?_) ?_
    refine step_append_nds (by rfl) (.tmp 24) (.tmp 26) (by rfl) (by rfl) (by rfl) HR4.out HN4.out HP9.out HSB.out ?_
    intro v7 w7 o7 g7 _
    obtain ⟨A7, c7, rfl, y7, f7, d7⟩ := ak_mid HCY4.out HCB4.out HR4.out o7 g7
    try go_simp
    refine hK _ _ ?_
    clear hK K
    refine tk 8 (.pointer (some ⟨w1.heap.size, 0, none⟩)) rfl (by kernel_rfl) (by kernel_rfl) (by kernel_rfl) (.inl ⟨by rfl, ?_⟩) ?_
    (intro w; go_simp)
    refine tk 9 (.pointer (some ⟨w1.heap.size, 0, none⟩)) rfl (by kernel_rfl) (by kernel_rfl) (by kernel_rfl) (.inl ⟨by rfl, ?_⟩) ?_
    (intro w; go_simp)
    refine wpAny_ready (rs := [10]) (by kernel_rfl) (by simp) ?_
    refine AllReady.cons rfl (fun K hK => ?_) ?_
    go_simp; refine hK _ _ ?_; clear hK K
    refine wpAny_done (by kernel_rfl) ?_ _
    have O := HEND.out _ _ _ o7 g7
    clear o7 g7 y7 f7 d7
    dsimp only [OnlyN]
    gi_wp2
    exact O
    exact AllReady.nil
    exact AllReady.nil
    exact AllReady.nil
    exact AllReady.nil
    exact AllReady.nil
    exact AllReady.nil
    refine AllReady.cons rfl (fun K hK => ?_) ?_
    go_simp; refine hK _ _ ?_; clear hK K
    refine tk 2 (.pointer (some ⟨w1.heap.size, 0, none⟩)) rfl (by kernel_rfl) (by kernel_rfl) (by kernel_rfl) (.inl ⟨by rfl, ?_⟩) ?_
    (intro w; go_simp)
    refine tk 3 (.pointer (some ⟨w1.heap.size, 0, none⟩)) rfl (by kernel_rfl) (by kernel_rfl) (by kernel_rfl) (.inl ⟨by rfl, ?_⟩) ?_
    (intro w; go_simp)
    refine wpAny_ready (rs := [0, 4, 5]) (by kernel_rfl) (by simp) ?_
    refine AllReady.cons rfl (fun K hK => ?_) ?_
    go_simp; refine hK _ _ ?_; clear hK K
    refine wpAny_ready (rs := [4, 5]) (by kernel_rfl) (by simp) ?_
    refine AllReady.cons rfl (fun K hK => ?_) ?_
    go_simp; refine hK _ _ ?_; clear hK K
    refine wpAny_ready (rs := [5]) (by kernel_rfl) (by simp) ?_
    refine AllReady.cons rfl (fun K hK => ?_) ?_
    go_simp; refine hK _ _ ?_; clear hK K
    refine wpAny_ready (rs := [6]) (by kernel_rfl) (by simp) ?_
    refine AllReady.cons rfl (fun K hK => ?_) ?_
    go_simp; refine hK _ _ ?_; clear hK K
    refine wpAny_ready (rs := [7]) (by kernel_rfl) (by simp) ?_
    refine AllReady.cons rfl (fun K hK => ?_) ?_
    refine step_append_nds (by rfl) (.tmp 24) (.tmp 26) (by rfl) (by rfl) (by rfl) HR4.out HN4.out HP9.out HSB.out ?_
    intro v7 w7 o7 g7 _
    obtain ⟨A7, c7, rfl, y7, f7, d7⟩ := ak_mid HCY4.out HCB4.out HR4.out o7 g7
    try go_simp
    refine hK _ _ ?_
    clear hK K
    refine tk 8 (.pointer (some ⟨w1.heap.size, 0, none⟩)) rfl (by kernel_rfl) (by kernel_rfl) (by kernel_rfl) (.inl ⟨by rfl, ?_⟩) ?_
    (intro w; go_simp)
    refine tk 9 (.pointer (some ⟨w1.heap.size, 0, none⟩)) rfl (by kernel_rfl) (by kernel_rfl) (by kernel_rfl) (.inl ⟨by rfl, ?_⟩) ?_
    (intro w; go_simp)
    refine wpAny_ready (rs := [10]) (by kernel_rfl) (by simp) ?_
    refine AllReady.cons rfl (fun K hK => ?_) ?_
    go_simp; refine hK _ _ ?_; clear hK K
    refine wpAny_done (by kernel_rfl) ?_ _
    have O := HEND.out _ _ _ o7 g7
    clear o7 g7 y7 f7 d7
    dsimp only [OnlyN]
    gi_wp2
    exact O
    exact AllReady.nil
    exact AllReady.nil
    exact AllReady.nil
    exact AllReady.nil
    refine AllReady.cons rfl (fun K hK => ?_) ?_
    go_simp; refine hK _ _ ?_; clear hK K
    refine wpAny_ready (rs := [4, 6]) (by kernel_rfl) (by simp) ?_
    refine AllReady.cons rfl (fun K hK => ?_) ?_
    go_simp; refine hK _ _ ?_; clear hK K
    refine wpAny_ready (rs := [6]) (by kernel_rfl) (by simp) ?_
    refine AllReady.cons rfl (fun K hK => ?_) ?_
    go_simp; refine hK _ _ ?_; clear hK K
    refine wpAny_ready (rs := [7]) (by kernel_rfl) (by simp) ?_
    refine AllReady.cons rfl (fun K hK => ?_) ?_
    refine step_append_nds (by rfl) (.tmp 24) (.tmp 26) (by rfl) (by rfl) (by rfl) HR4.out HN4.out HP9.out HSB.out ?_
    intro v7 w7 o7 g7 _
    obtain ⟨A7, c7, rfl, y7, f7, d7⟩ := ak_mid HCY4.out HCB4.out HR4.out o7 g7
    try go_simp
    refine hK _ _ ?_
    clear hK K
    refine tk 8 (.pointer (some ⟨w1.heap.size, 0, none⟩)) rfl (by kernel_rfl) (by kernel_rfl) (by kernel_rfl) (.inl ⟨by rfl, ?_⟩) ?_
    (intro w; go_simp)
    refine tk 9 (.pointer (some ⟨w1.heap.size, 0, none⟩)) rfl (by kernel_rfl) (by kernel_rfl) (by kernel_rfl) (.inl ⟨by rfl, ?_⟩) ?_
    (intro w; go_simp)
    refine wpAny_ready (rs := [10]) (by kernel_rfl) (by simp) ?_
    refine AllReady.cons rfl (fun K hK => ?_) ?_
    go_simp; refine hK _ _ ?_; clear hK K
    refine wpAny_done (by kernel_rfl) ?_ _
    have O := HEND.out _ _ _ o7 g7
    clear o7 g7 y7 f7 d7
    dsimp only [OnlyN]
    gi_wp2
    exact O
    exact AllReady.nil
    exact AllReady.nil
    exact AllReady.nil
    refine AllReady.cons rfl (fun K hK => ?_) ?_
    go_simp; refine hK _ _ ?_; clear hK K
    refine wpAny_ready (rs := [4]) (by kernel_rfl) (by simp) ?_
    refine AllReady.cons rfl (fun K hK => ?_) ?_
    go_simp; refine hK _ _ ?_; clear hK K
    refine wpAny_ready (rs := [7]) (by kernel_rfl) (by simp) ?_
    refine AllReady.cons rfl (fun K hK => ?_) ?_
    refine step_append_nds (by rfl) (.tmp 24) (.tmp 26) (by rfl) (by rfl) (by rfl) HR4.out HN4.out HP9.out HSB.out ?_
    intro v7 w7 o7 g7 _
    obtain ⟨A7, c7, rfl, y7, f7, d7⟩ := ak_mid HCY4.out HCB4.out HR4.out o7 g7
    try go_simp
    refine hK _ _ ?_
    clear hK K
    refine tk 8 (.pointer (some ⟨w1.heap.size, 0, none⟩)) rfl (by kernel_rfl) (by kernel_rfl) (by kernel_rfl) (.inl ⟨by rfl, ?_⟩) ?_
    (intro w; go_simp)
    refine tk 9 (.pointer (some ⟨w1.heap.size, 0, none⟩)) rfl (by kernel_rfl) (by kernel_rfl) (by kernel_rfl) (.inl ⟨by rfl, ?_⟩) ?_
    (intro w; go_simp)
    refine wpAny_ready (rs := [10]) (by kernel_rfl) (by simp) ?_
    refine AllReady.cons rfl (fun K hK => ?_) ?_
    go_simp; refine hK _ _ ?_; clear hK K
    refine wpAny_done (by kernel_rfl) ?_ _
    have O := HEND.out _ _ _ o7 g7
    clear o7 g7 y7 f7 d7
    dsimp only [OnlyN]
    gi_wp2
    exact O
    exact AllReady.nil
    exact AllReady.nil
    exact AllReady.nil
    exact AllReady.nil
    exact AllReady.nil
    refine AllReady.cons rfl (fun K hK => ?_) ?_
    go_simp; refine hK _ _ ?_; clear hK K
    refine wpAny_ready (rs := [0, 5]) (by kernel_rfl) (by simp) ?_
    refine AllReady.cons rfl (fun K hK => ?_) ?_
    go_simp; refine hK _ _ ?_; clear hK K
    refine wpAny_ready (rs := [5]) (by kernel_rfl) (by simp) ?_
    refine AllReady.cons rfl (fun K hK => ?_) ?_
    go_simp; refine hK _ _ ?_; clear hK K
    refine wpAny_ready (rs := [6]) (by kernel_rfl) (by simp) ?_
    refine AllReady.cons rfl (fun K hK => ?_) ?_
    go_simp; refine hK _ _ ?_; clear hK K
    refine wpAny_ready (rs := [7]) (by kernel_rfl) (by simp) ?_
    refine AllReady.cons rfl (fun K hK => ?_) ?_
    refine step_append_nds (by rfl) (.tmp 24) (.tmp 26) (by rfl) (by rfl) (by rfl) HR4.out HN4.out HP9.out HSB.out ?_
    intro v7 w7 o7 g7 _
    obtain ⟨A7, c7, rfl, y7, f7, d7⟩ := ak_mid HCY4.out HCB4.out HR4.out o7 g7
    try go_simp
    refine hK _ _ ?_
    clear hK K
    refine tk 8 (.pointer (some ⟨w1.heap.size, 0, none⟩)) rfl (by kernel_rfl) (by kernel_rfl) (by kernel_rfl) (.inl ⟨by rfl, ?_⟩) ?_
    (intro w; go_simp)
    refine tk 9 (.pointer (some ⟨w1.heap.size, 0, none⟩)) rfl (by kernel_rfl) (by kernel_rfl) (by kernel_rfl) (.inl ⟨by rfl, ?_⟩) ?_
    (intro w; go_simp)
    refine wpAny_ready (rs := [10]) (by kernel_rfl) (by simp) ?_
    refine AllReady.cons rfl (fun K hK => ?_) ?_
    go_simp; refine hK _ _ ?_; clear hK K
    refine wpAny_done (by kernel_rfl) ?_ _
    have O := HEND.out _ _ _ o7 g7
    clear o7 g7 y7 f7 d7
    dsimp only [OnlyN]
    gi_wp2
    exact O
    exact AllReady.nil
    exact AllReady.nil
    exact AllReady.nil
    exact AllReady.nil
    refine AllReady.cons rfl (fun K hK => ?_) ?_
    go_simp; refine hK _ _ ?_; clear hK K
    refine wpAny_ready (rs := [0, 6]) (by kernel_rfl) (by simp) ?_
    refine AllReady.cons rfl (fun K hK => ?_) ?_
    go_simp; refine hK _ _ ?_; clear hK K
    refine wpAny_ready (rs := [6]) (by kernel_rfl) (by simp) ?_
    refine AllReady.cons rfl (fun K hK => ?_) ?_
    go_simp; refine hK _ _ ?_; clear hK K
    refine wpAny_ready (rs := [7]) (by kernel_rfl) (by simp) ?_
    refine AllReady.cons rfl (fun K hK => ?_) ?_
    refine step_append_nds (by rfl) (.tmp 24) (.tmp 26) (by rfl) (by rfl) (by rfl) HR4.out HN4.out HP9.out HSB.out ?_
    intro v7 w7 o7 g7 _
    obtain ⟨A7, c7, rfl, y7, f7, d7⟩ := ak_mid HCY4.out HCB4.out HR4.out o7 g7
    try go_simp
    refine hK _ _ ?_
    clear hK K
    refine tk 8 (.pointer (some ⟨w1.heap.size, 0, none⟩)) rfl (by kernel_rfl) (by kernel_rfl) (by kernel_rfl) (.inl ⟨by rfl, ?_⟩) ?_
    (intro w; go_simp)
    refine tk 9 (.pointer (some ⟨w1.heap.size, 0, none⟩)) rfl (by kernel_rfl) (by kernel_rfl) (by kernel_rfl) (.inl ⟨by rfl, ?_⟩) ?_
    (intro w; go_simp)
    refine wpAny_ready (rs := [10]) (by kernel_rfl) (by simp) ?_
    refine AllReady.cons rfl (fun K hK => ?_) ?_
    go_simp; refine hK _ _ ?_; clear hK K
    refine wpAny_done (by kernel_rfl) ?_ _
    have O := HEND.out _ _ _ o7 g7
    clear o7 g7 y7 f7 d7
    dsimp only [OnlyN]
    gi_wp2
    exact O
    exact AllReady.nil
    exact AllReady.nil
    exact AllReady.nil
    refine AllReady.cons rfl (fun K hK => ?_) ?_
    go_simp; refine hK _ _ ?_; clear hK K
    refine wpAny_ready (rs := [0, 7]) (by kernel_rfl) (by simp) ?_
    refine AllReady.cons rfl (fun K hK => ?_) ?_
    go_simp; refine hK _ _ ?_; clear hK K
    refine wpAny_ready (rs := [7]) (by kernel_rfl) (by simp) ?_
    refine AllReady.cons rfl (fun K hK => ?_) ?_
    refine step_append_nds (by rfl) (.tmp 24) (.tmp 26) (by rfl) (by rfl) (by rfl) HR4.out HN4.out HP9.out HSB.out ?_
    intro v7 w7 o7 g7 _
    obtain ⟨A7, c7, rfl, y7, f7, d7⟩ := ak_mid HCY4.out HCB4.out HR4.out o7 g7
    try go_simp
    refine hK _ _ ?_
    clear hK K
    refine tk 8 (.pointer (some ⟨w1.heap.size, 0, none⟩)) rfl (by kernel_rfl) (by kernel_rfl) (by kernel_rfl) (.inl ⟨by rfl, ?_⟩) ?_
    (intro w; go_simp)
    refine tk 9 (.pointer (some ⟨w1.heap.size, 0, none⟩)) rfl (by kernel_rfl) (by kernel_rfl) (by kernel_rfl) (.inl ⟨by rfl, ?_⟩) ?_
    (intro w; go_simp)
    refine wpAny_ready (rs := [10]) (by kernel_rfl) (by simp) ?_
    refine AllReady.cons rfl (fun K hK => ?_) ?_
    go_simp; refine hK _ _ ?_; clear hK K
    refine wpAny_done (by kernel_rfl) ?_ _
    have O := HEND.out _ _ _ o7 g7
    clear o7 g7 y7 f7 d7
    dsimp only [OnlyN]
    gi_wp2
    exact O
    exact AllReady.nil
    exact AllReady.nil
    refine AllReady.cons rfl (fun K hK => ?_) ?_
    refine step_append_nds (by rfl) (.tmp 24) (.tmp 26) (by rfl) (by rfl) (by rfl) HR4.out HN4.out HP9.out HSB.out ?_
    intro v7 w7 o7 g7 _
    obtain ⟨A7, c7, rfl, y7, f7, d7⟩ := ak_mid HCY4.out HCB4.out HR4.out o7 g7
    try go_simp
    refine hK _ _ ?_
    clear hK K
    refine wpAny_ready (rs := [0]) (by kernel_rfl) (by simp) ?_
    refine AllReady.cons rfl (fun K hK => ?_) ?_
    go_simp; refine hK _ _ ?_; clear hK K
    refine tk 8 (.pointer (some ⟨w1.heap.size, 0, none⟩)) rfl (by kernel_rfl) (by kernel_rfl) (by kernel_rfl) (.inl ⟨by rfl, ?_⟩) ?_
    (intro w; go_simp)
    refine tk 9 (.pointer (some ⟨w1.heap.size, 0, none⟩)) rfl (by kernel_rfl) (by kernel_rfl) (by kernel_rfl) (.inl ⟨by rfl, ?_⟩) ?_
    (intro w; go_simp)
    refine wpAny_ready (rs := [10]) (by kernel_rfl) (by simp) ?_
    refine AllReady.cons rfl (fun K hK => ?_) ?_
    go_simp; refine hK _ _ ?_; clear hK K
    refine wpAny_done (by kernel_rfl) ?_ _
    have O := HEND.out _ _ _ o7 g7
    clear o7 g7 y7 f7 d7
    dsimp only [OnlyN]
    gi_wp2
    exact O
    exact AllReady.nil
    exact AllReady.nil
    exact AllReady.nil
    exact AllReady.nil
    exact AllReady.nil
    refine AllReady.cons rfl (fun K hK => ?_) ?_
    go_simp; refine hK _ _ ?_; clear hK K
    refine wpAny_ready (rs := [0, 4, 6]) (by kernel_rfl) (by simp) ?_
    refine AllReady.cons rfl (fun K hK => ?_) ?_
    go_simp; refine hK _ _ ?_; clear hK K
    refine wpAny_ready (rs := [4, 6]) (by kernel_rfl) (by simp) ?_
    refine AllReady.cons rfl (fun K hK => ?_) ?_
    go_simp; refine hK _ _ ?_; clear hK K
    refine wpAny_ready (rs := [6]) (by kernel_rfl) (by simp) ?_
    refine AllReady.cons rfl (fun K hK => ?_) ?_
    go_simp; refine hK _ _ ?_; clear hK K
    refine wpAny_ready (rs := [7]) (by kernel_rfl) (by simp) ?_
    refine AllReady.cons rfl (fun K hK => ?_) ?_
    refine step_append_nds (by rfl) (.tmp 24) (.tmp 26) (by rfl) (by rfl) (by rfl) HR4.out HN4.out HP9.out HSB.out ?_
    intro v7 w7 o7 g7 _
    obtain ⟨A7, c7, rfl, y7, f7, d7⟩ := ak_mid HCY4.out HCB4.out HR4.out o7 g7
    try go_simp
    refine hK _ _ ?_
    clear hK K
    refine tk 8 (.pointer (some ⟨w1.heap.size, 0, none⟩)) rfl (by kernel_rfl) (by kernel_rfl) (by kernel_rfl) (.inl ⟨by rfl, ?_⟩) ?_
    (intro w; go_simp)
    refine tk 9 (.pointer (some ⟨w1.heap.size, 0, none⟩)) rfl (by kernel_rfl) (by kernel_rfl) (by kernel_rfl) (.inl ⟨by rfl, ?_⟩) ?_
    (intro w; go_simp)
    refine wpAny_ready (rs := [10]) (by kernel_rfl) (by simp) ?_
    refine AllReady.cons rfl (fun K hK => ?_) ?_
    go_simp; refine hK _ _ ?_; clear hK K
    refine wpAny_done (by kernel_rfl) ?_ _
    have O := HEND.out _ _ _ o7 g7
    clear o7 g7 y7 f7 d7
    dsimp only [OnlyN]
    gi_wp2
    exact O
    exact AllReady.nil
    exact AllReady.nil
    exact AllReady.nil
    refine AllReady.cons rfl (fun K hK => ?_) ?_
    go_simp; refine hK _ _ ?_; clear hK K
    refine wpAny_ready (rs := [4]) (by kernel_rfl) (by simp) ?_
    refine AllReady.cons rfl (fun K hK => ?_) ?_
    go_simp; refine hK _ _ ?_; clear hK K
    refine wpAny_ready (rs := [7]) (by kernel_rfl) (by simp) ?_
    refine AllReady.cons rfl (fun K hK => ?_) ?_
    refine step_append_nds (by rfl) (.tmp 24) (.tmp 26) (by rfl) (by rfl) (by rfl) HR4.out HN4.out HP9.out HSB.out ?_
    intro v7 w7 o7 g7 _
    obtain ⟨A7, c7, rfl, y7, f7, d7⟩ := ak_mid HCY4.out HCB4.out HR4.out o7 g7
    try go_simp
    refine hK _ _ ?_
    clear hK K
    refine tk 8 (.pointer (some ⟨w1.heap.size, 0, none⟩)) rfl (by kernel_rfl) (by kernel_rfl) (by kernel_rfl) (.inl ⟨by rfl, ?_⟩) ?_
    (intro w; go_simp)
    refine tk 9 (.pointer (some ⟨w1.heap.size, 0, none⟩)) rfl (by kernel_rfl) (by kernel_rfl) (by kernel_rfl) (.inl ⟨by rfl, ?_⟩) ?_
    (intro w; go_simp)
    refine wpAny_ready (rs := [10]) (by kernel_rfl) (by simp) ?_
    refine AllReady.cons rfl (fun K hK => ?_) ?_
    go_simp; refine hK _ _ ?_; clear hK K
    refine wpAny_done (by kernel_rfl) ?_ _
    have O := HEND.out _ _ _ o7 g7
    clear o7 g7 y7 f7 d7
    dsimp only [OnlyN]
    gi_wp2
    exact O
    exact AllReady.nil
    exact AllReady.nil
    exact AllReady.nil
    exact AllReady.nil
    refine AllReady.cons rfl (fun K hK => ?_) ?_
    go_simp; refine hK _ _ ?_; clear hK K
    refine wpAny_ready (rs := [0, 6]) (by kernel_rfl) (by simp) ?_
    refine AllReady.cons rfl (fun K hK => ?_) ?_
    go_simp; refine hK _ _ ?_; clear hK K
    refine wpAny_ready (rs := [6]) (by kernel_rfl) (by simp) ?_
    refine AllReady.cons rfl (fun K hK => ?_) ?_
    go_simp; refine hK _ _ ?_; clear hK K
    refine wpAny_ready (rs := [7]) (by kernel_rfl) (by simp) ?_
    refine AllReady.cons rfl (fun K hK => ?_) ?_
    refine step_append_nds (by rfl) (.tmp 24) (.tmp 26) (by rfl) (by rfl) (by rfl) HR4.out HN4.out HP9.out HSB.out ?_
    intro v7 w7 o7 g7 _
    obtain ⟨A7, c7, rfl, y7, f7, d7⟩ := ak_mid HCY4.out HCB4.out HR4.out o7 g7
    try go_simp
    refine hK _ _ ?_
    clear hK K
    refine tk 8 (.pointer (some ⟨w1.heap.size, 0, none⟩)) rfl (by kernel_rfl) (by kernel_rfl) (by kernel_rfl) (.inl ⟨by rfl, ?_⟩) ?_
    (intro w; go_simp)
    refine tk 9 (.pointer (some ⟨w1.heap.size, 0, none⟩)) rfl (by kernel_rfl) (by kernel_rfl) (by kernel_rfl) (.inl ⟨by rfl, ?_⟩) ?_
    (intro w; go_simp)
    refine wpAny_ready (rs := [10]) (by kernel_rfl) (by simp) ?_
    refine AllReady.cons rfl (fun K hK => ?_) ?_
    go_simp; refine hK _ _ ?_; clear hK K
    refine wpAny_done (by kernel_rfl) ?_ _
    have O := HEND.out _ _ _ o7 g7
    clear o7 g7 y7 f7 d7
    dsimp only [OnlyN]
    gi_wp2
    exact O
    exact AllReady.nil
    exact AllReady.nil
    exact AllReady.nil
    refine AllReady.cons rfl (fun K hK => ?_) ?_
    go_simp; refine hK _ _ ?_; clear hK K
    refine wpAny_ready (rs := [0, 7]) (by kernel_rfl) (by simp) ?_
    refine AllReady.cons rfl (fun K hK => ?_) ?_
    go_simp; refine hK _ _ ?_; clear hK K
    refine wpAny_ready (rs := [7]) (by kernel_rfl) (by simp) ?_
    refine AllReady.cons rfl (fun K hK => ?_) ?_
    refine step_append_nds (by rfl) (.tmp 24) (.tmp 26) (by rfl) (by rfl) (by rfl) HR4.out HN4.out HP9.out HSB.out ?_
    intro v7 w7 o7 g7 _
    obtain ⟨A7, c7, rfl, y7, f7, d7⟩ := ak_mid HCY4.out HCB4.out HR4.out o7 g7
    try go_simp
    refine hK _ _ ?_
    clear hK K
    refine tk 8 (.pointer (some ⟨w1.heap.size, 0, none⟩)) rfl (by kernel_rfl) (by kernel_rfl) (by kernel_rfl) (.inl ⟨by rfl, ?_⟩) ?_
    (intro w; go_simp)
    refine tk 9 (.pointer (some ⟨w1.heap.size, 0, none⟩)) rfl (by kernel_rfl) (by kernel_rfl) (by kernel_rfl) (.inl ⟨by rfl, ?_⟩) ?_
    (intro w; go_simp)
    refine wpAny_ready (rs := [10]) (by kernel_rfl) (by simp) ?_
    refine AllReady.cons rfl (fun K hK => ?_) ?_
    go_simp; refine hK _ _ ?_; clear hK K
    refine wpAny_done (by kernel_rfl) ?_ _
    have O := HEND.out _ _ _ o7 g7
    clear o7 g7 y7 f7 d7
    dsimp only [OnlyN]
    gi_wp2
    exact O
    exact AllReady.nil
    exact AllReady.nil
    refine AllReady.cons rfl (fun K hK => ?_) ?_
    refine step_append_nds (by rfl) (.tmp 24) (.tmp 26) (by rfl) (by rfl) (by rfl) HR4.out HN4.out HP9.out HSB.out ?_
    intro v7 w7 o7 g7 _
    obtain ⟨A7, c7, rfl, y7, f7, d7⟩ := ak_mid HCY4.out HCB4.out HR4.out o7 g7
    try go_simp
    refine hK _ _ ?_
    clear hK K
    refine wpAny_ready (rs := [0]) (by kernel_rfl) (by simp) ?_
    refine AllReady.cons rfl (fun K hK => ?_) ?_
    go_simp; refine hK _ _ ?_; clear hK K
    refine tk 8 (.pointer (some ⟨w1.heap.size, 0, none⟩)) rfl (by kernel_rfl) (by kernel_rfl) (by kernel_rfl) (.inl ⟨by rfl, ?_⟩) ?_
    (intro w; go_simp)
    refine tk 9 (.pointer (some ⟨w1.heap.size, 0, none⟩)) rfl (by kernel_rfl) (by kernel_rfl) (by kernel_rfl) (.inl ⟨by rfl, ?_⟩) ?_
    (intro w; go_simp)
    refine wpAny_ready (rs := [10]) (by kernel_rfl) (by simp) ?_
    refine AllReady.cons rfl (fun K hK => ?_) ?_
    go_simp; refine hK _ _ ?_; clear hK K
    refine wpAny_done (by kernel_rfl) ?_ _
    have O := HEND.out _ _ _ o7 g7
    clear o7 g7 y7 f7 d7
    dsimp only [OnlyN]
    gi_wp2
    exact O
    exact AllReady.nil
    exact AllReady.nil
    exact AllReady.nil
    exact AllReady.nil
    refine AllReady.cons rfl (fun K hK => ?_) ?_
    go_simp; refine hK _ _ ?_; clear hK K
    refine wpAny_ready (rs := [0, 4]) (by kernel_rfl) (by simp) ?_
    refine AllReady.cons rfl (fun K hK => ?_) ?_
    go_simp; refine hK _ _ ?_; clear hK K
    refine wpAny_ready (rs := [4]) (by kernel_rfl) (by simp) ?_
    refine AllReady.cons rfl (fun K hK => ?_) ?_
    go_simp; refine hK _ _ ?_; clear hK K
    refine wpAny_ready (rs := [7]) (by kernel_rfl) (by simp) ?_
    refine AllReady.cons rfl (fun K hK => ?_) ?_
    refine step_append_nds (by rfl) (.tmp 24) (.tmp 26) (by rfl) (by rfl) (by rfl) HR4.out HN4.out HP9.out HSB.out ?_
    intro v7 w7 o7 g7 _
    obtain ⟨A7, c7, rfl, y7, f7, d7⟩ := ak_mid HCY4.out HCB4.out HR4.out o7 g7
    try go_simp
    refine hK _ _ ?_
    clear hK K
    refine tk 8 (.pointer (some ⟨w1.heap.size, 0, none⟩)) rfl (by kernel_rfl) (by kernel_rfl) (by kernel_rfl) (.inl ⟨by rfl, ?_⟩) ?_
    (intro w; go_simp)
    refine tk 9 (.pointer (some ⟨w1.heap.size, 0, none⟩)) rfl (by kernel_rfl) (by kernel_rfl) (by kernel_rfl) (.inl ⟨by rfl, ?_⟩) ?_
    (intro w; go_simp)
    refine wpAny_ready (rs := [10]) (by kernel_rfl) (by simp) ?_
    refine AllReady.cons rfl (fun K hK => ?_) ?_
    go_simp; refine hK _ _ ?_; clear hK K
    refine wpAny_done (by kernel_rfl) ?_ _
    have O := HEND.out _ _ _ o7 g7
    clear o7 g7 y7 f7 d7
    dsimp only [OnlyN]
    gi_wp2
    exact O
    exact AllReady.nil
    exact AllReady.nil
    exact AllReady.nil
    refine AllReady.cons rfl (fun K hK => ?_) ?_
    go_simp; refine hK _ _ ?_; clear hK K
    refine wpAny_ready (rs := [0, 7]) (by kernel_rfl) (by simp) ?_
    refine AllReady.cons rfl (fun K hK => ?_) ?_
    go_simp; refine hK _ _ ?_; clear hK K
    refine wpAny_ready (rs := [7]) (by kernel_rfl) (by simp) ?_
    refine AllReady.cons rfl (fun K hK => ?_) ?_
    refine step_append_nds (by rfl) (.tmp 24) (.tmp 26) (by rfl) (by rfl) (by rfl) HR4.out HN4.out HP9.out HSB.out ?_
    intro v7 w7 o7 g7 _
    obtain ⟨A7, c7, rfl, y7, f7, d7⟩ := ak_mid HCY4.out HCB4.out HR4.out o7 g7
    try go_simp
    refine hK _ _ ?_
    clear hK K
    refine tk 8 (.pointer (some ⟨w1.heap.size, 0, none⟩)) rfl (by kernel_rfl) (by kernel_rfl) (by kernel_rfl) (.inl ⟨by rfl, ?_⟩) ?_
    (intro w; go_simp)
    refine tk 9 (.pointer (some ⟨w1.heap.size, 0, none⟩)) rfl (by kernel_rfl) (by kernel_rfl) (by kernel_rfl) (.inl ⟨by rfl, ?_⟩) ?_
    (intro w; go_simp)
    refine wpAny_ready (rs := [10]) (by kernel_rfl) (by simp) ?_
    refine AllReady.cons rfl (fun K hK => ?_) ?_
    go_simp; refine hK _ _ ?_; clear hK K
    refine wpAny_done (by kernel_rfl) ?_ _
    have O := HEND.out _ _ _ o7 g7
    clear o7 g7 y7 f7 d7
    dsimp only [OnlyN]
    gi_wp2
    exact O
    exact AllReady.nil
    exact AllReady.nil
    refine AllReady.cons rfl (fun K hK => ?_) ?_
    refine step_append_nds (by rfl) (.tmp 24) (.tmp 26) (by rfl) (by rfl) (by rfl) HR4.out HN4.out HP9.out HSB.out ?_
    intro v7 w7 o7 g7 _
    obtain ⟨A7, c7, rfl, y7, f7, d7⟩ := ak_mid HCY4.out HCB4.out HR4.out o7 g7
    try go_simp
    refine hK _ _ ?_
    clear hK K
    refine wpAny_ready (rs := [0]) (by kernel_rfl) (by simp) ?_
    refine AllReady.cons rfl (fun K hK => ?_) ?_
    go_simp; refine hK _ _ ?_; clear hK K
    refine tk 8 (.pointer (some ⟨w1.heap.size, 0, none⟩)) rfl (by kernel_rfl) (by kernel_rfl) (by kernel_rfl) (.inl ⟨by rfl, ?_⟩) ?_
    (intro w; go_simp)
    refine tk 9 (.pointer (some ⟨w1.heap.size, 0, none⟩)) rfl (by kernel_rfl) (by kernel_rfl) (by kernel_rfl) (.inl ⟨by rfl, ?_⟩) ?_
    (intro w; go_simp)
    refine wpAny_ready (rs := [10]) (by kernel_rfl) (by simp) ?_
    refine AllReady.cons rfl (fun K hK => ?_) ?_
    go_simp; refine hK _ _ ?_; clear hK K
    refine wpAny_done (by kernel_rfl) ?_ _
    have O := HEND.out _ _ _ o7 g7
    clear o7 g7 y7 f7 d7
    dsimp only [OnlyN]
    gi_wp2
    exact O
    exact AllReady.nil
    exact AllReady.nil
    exact AllReady.nil
    exact AllReady.nil
    exact AllReady.nil
    exact AllReady.nil
    refine AllReady.cons rfl (fun K hK => ?_) ?_
    go_simp; refine hK _ _ ?_; clear hK K
    refine wpAny_ready (rs := [0, 1, 6]) (by kernel_rfl) (by simp) ?_
    refine AllReady.cons rfl (fun K hK => ?_) ?_
    go_simp; refine hK _ _ ?_; clear hK K
    refine wpAny_ready (rs := [1, 6]) (by kernel_rfl) (by simp) ?_
    refine AllReady.cons rfl (fun K hK => ?_) ?_
    go_simp; refine hK _ _ ?_; clear hK K
    refine tk 2 (.pointer (some ⟨w1.heap.size, 0, none⟩)) rfl (by kernel_rfl) (by kernel_rfl) (by kernel_rfl) (.inl ⟨by rfl, ?_⟩) ?_
    (intro w; go_simp)
    refine tk 3 (.pointer (some ⟨w1.heap.size, 0, none⟩)) rfl (by kernel_rfl) (by kernel_rfl) (by kernel_rfl) (.inl ⟨by rfl, ?_⟩) ?_
    (intro w; go_simp)
    refine wpAny_ready (rs := [4, 6]) (by kernel_rfl) (by simp) ?_
    refine AllReady.cons rfl (fun K hK => ?_) ?_
    go_simp; refine hK _ _ ?_; clear hK K
    refine wpAny_ready (rs := [6]) (by kernel_rfl) (by simp) ?_
    refine AllReady.cons rfl (fun K hK => ?_) ?_
    go_simp; refine hK _ _ ?_; clear hK K
    refine wpAny_ready (rs := [7]) (by kernel_rfl) (by simp) ?_
    refine AllReady.cons rfl (fun K hK => ?_) ?_
    refine step_append_nds (by rfl) (.tmp 24) (.tmp 26) (by rfl) (by rfl) (by rfl) HR4.out HN4.out HP9.out HSB.out ?_
    intro v7 w7 o7 g7 _
    obtain ⟨A7, c7, rfl, y7, f7, d7⟩ := ak_mid HCY4.out HCB4.out HR4.out o7 g7
    try go_simp
    refine hK _ _ ?_
    clear hK K
    refine tk 8 (.pointer (some ⟨w1.heap.size, 0, none⟩)) rfl (by kernel_rfl) (by kernel_rfl) (by kernel_rfl) (.inl ⟨by rfl, ?_⟩) ?_
    (intro w; go_simp)
    refine tk 9 (.pointer (some ⟨w1.heap.size, 0, none⟩)) rfl (by kernel_rfl) (by kernel_rfl) (by kernel_rfl) (.inl ⟨by rfl, ?_⟩) ?_
    (intro w; go_simp)
    refine wpAny_ready (rs := [10]) (by kernel_rfl) (by simp) ?_
    refine AllReady.cons rfl (fun K hK => ?_) ?_
    go_simp; refine hK _ _ ?_; clear hK K
    refine wpAny_done (by kernel_rfl) ?_ _
    have O := HEND.out _ _ _ o7 g7
    clear o7 g7 y7 f7 d7
    dsimp only [OnlyN]
    gi_wp2
    exact O
    exact AllReady.nil
    exact AllReady.nil
    exact AllReady.nil
    refine AllReady.cons rfl (fun K hK => ?_) ?_
    go_simp; refine hK _ _ ?_; clear hK K
    refine wpAny_ready (rs := [4]) (by kernel_rfl) (by simp) ?_
    refine AllReady.cons rfl (fun K hK => ?_) ?_
    go_simp; refine hK _ _ ?_; clear hK K
    refine wpAny_ready (rs := [7]) (by kernel_rfl) (by simp) ?_
    refine AllReady.cons rfl (fun K hK => ?_) ?_
    refine step_append_nds (by rfl) (.tmp 24) (.tmp 26) (by rfl) (by rfl) (by rfl) HR4.out HN4.out HP9.out HSB.out ?_
    intro v7 w7 o7 g7 _
    obtain ⟨A7, c7, rfl, y7, f7, d7⟩ := ak_mid HCY4.out HCB4.out HR4.out o7 g7
    try go_simp
    refine hK _ _ ?_
    clear hK K
    refine tk 8 (.pointer (some ⟨w1.heap.size, 0, none⟩)) rfl (by kernel_rfl) (by kernel_rfl) (by kernel_rfl) (.inl ⟨by rfl, ?_⟩) ?_
    (intro w; go_simp)
    refine tk 9 (.pointer (some ⟨w1.heap.size, 0, none⟩)) rfl (by kernel_rfl) (by kernel_rfl) (by kernel_rfl) (.inl ⟨by rfl, ?_⟩) ?_
    (intro w; go_simp)
    refine wpAny_ready (rs := [10]) (by kernel_rfl) (by simp) ?_
    refine AllReady.cons rfl (fun K hK => ?_) ?_
    go_simp; refine hK _ _ ?_; clear hK K
    refine wpAny_done (by kernel_rfl) ?_ _
    have O := HEND.out _ _ _ o7 g7
    clear o7 g7 y7 f7 d7
    dsimp only [OnlyN]
    gi_wp2
    exact O
    exact AllReady.nil
    exact AllReady.nil
    exact AllReady.nil
    exact AllReady.nil
    refine AllReady.cons rfl (fun K hK => ?_) ?_
    go_simp; refine hK _ _ ?_; clear hK K
    refine wpAny_ready (rs := [1]) (by kernel_rfl) (by simp) ?_
    refine AllReady.cons rfl (fun K hK => ?_) ?_
    go_simp; refine hK _ _ ?_; clear hK K
    refine tk 2 (.pointer (some ⟨w1.heap.size, 0, none⟩)) rfl (by kernel_rfl) (by kernel_rfl) (by kernel_rfl) (.inl ⟨by rfl, ?_⟩) ?_
    (intro w; go_simp)
    refine tk 3 (.pointer (some ⟨w1.heap.size, 0, none⟩)) rfl (by kernel_rfl) (by kernel_rfl) (by kernel_rfl) (.inl ⟨by rfl, ?_⟩) ?_
    (intro w; go_simp)
    refine wpAny_ready (rs := [4]) (by kernel_rfl) (by simp) ?_
    refine AllReady.cons rfl (fun K hK => ?_) ?_
    go_simp; refine hK _ _ ?_; clear hK K
    refine wpAny_ready (rs := [7]) (by kernel_rfl) (by simp) ?_
    refine AllReady.cons rfl (fun K hK => ?_) ?_
    refine step_append_nds (by rfl) (.tmp 24) (.tmp 26) (by rfl) (by rfl) (by rfl) HR4.out HN4.out HP9.out HSB.out ?_
    intro v7 w7 o7 g7 _
    obtain ⟨A7, c7, rfl, y7, f7, d7⟩ := ak_mid HCY4.out HCB4.out HR4.out o7 g7
    try go_simp
    refine hK _ _ ?_
    clear hK K
    refine tk 8 (.pointer (some ⟨w1.heap.size, 0, none⟩)) rfl (by kernel_rfl) (by kernel_rfl) (by kernel_rfl) (.inl ⟨by rfl, ?_⟩) ?_
    (intro w; go_simp)
    refine tk 9 (.pointer (some ⟨w1.heap.size, 0, none⟩)) rfl (by kernel_rfl) (by kernel_rfl) (by kernel_rfl) (.inl ⟨by rfl, ?_⟩) ?_
    (intro w; go_simp)
    refine wpAny_ready (rs := [10]) (by kernel_rfl) (by simp) ?_
    refine AllReady.cons rfl (fun K hK => ?_) ?_
    go_simp; refine hK _ _ ?_; clear hK K
    refine wpAny_done (by kernel_rfl) ?_ _
    have O := HEND.out _ _ _ o7 g7
    clear o7 g7 y7 f7 d7
    dsimp only [OnlyN]
    gi_wp2
    exact O
    exact AllReady.nil
    exact AllReady.nil
    exact AllReady.nil
    exact AllReady.nil
    exact AllReady.nil
    refine AllReady.cons rfl (fun K hK => ?_) ?_
    go_simp; refine hK _ _ ?_; clear hK K
    refine tk 2 (.pointer (some ⟨w1.heap.size, 0, none⟩)) rfl (by kernel_rfl) (by kernel_rfl) (by kernel_rfl) (.inl ⟨by rfl, ?_⟩) ?_
    (intro w; go_simp)
    refine tk 3 (.pointer (some ⟨w1.heap.size, 0, none⟩)) rfl (by kernel_rfl) (by kernel_rfl) (by kernel_rfl) (.inl ⟨by rfl, ?_⟩) ?_
    (intro w; go_simp)
    refine wpAny_ready (rs := [0, 4, 6]) (by kernel_rfl) (by simp) ?_
    refine AllReady.cons rfl (fun K hK => ?_) ?_
    go_simp; refine hK _ _ ?_; clear hK K
    refine wpAny_ready (rs := [4, 6]) (by kernel_rfl) (by simp) ?_
    refine AllReady.cons rfl (fun K hK => ?_) ?_
    go_simp; refine hK _ _ ?_; clear hK K
    refine wpAny_ready (rs := [6]) (by kernel_rfl) (by simp) ?_
    refine AllReady.cons rfl (fun K hK => ?_) ?_
    go_simp; refine hK _ _ ?_; clear hK K
    refine wpAny_ready (rs := [7]) (by kernel_rfl) (by simp) ?_
    refine AllReady.cons rfl (fun K hK => ?_) ?_
    refine step_append_nds (by rfl) (.tmp 24) (.tmp 26) (by rfl) (by rfl) (by rfl) HR4.out HN4.out HP9.out HSB.out ?_
    intro v7 w7 o7 g7 _
    obtain ⟨A7, c7, rfl, y7, f7, d7⟩ := ak_mid HCY4.out HCB4.out HR4.out o7 g7
    try go_simp
    refine hK _ _ ?_
    clear hK K
    refine tk 8 (.pointer (some ⟨w1.heap.size, 0, none⟩)) rfl (by kernel_rfl) (by kernel_rfl) (by kernel_rfl) (.inl ⟨by rfl, ?_⟩) ?_
    (intro w; go_simp)
    refine tk 9 (.pointer (some ⟨w1.heap.size, 0, none⟩)) rfl (by kernel_rfl) (by kernel_rfl) (by kernel_rfl) (.inl ⟨by rfl, ?_⟩) ?_
    (intro w; go_simp)
    refine wpAny_ready (rs := [10]) (by kernel_rfl) (by simp) ?_
    refine AllReady.cons rfl (fun K hK => ?_) ?_
    go_simp; refine hK _ _ ?_; clear hK K
    refine wpAny_done (by kernel_rfl) ?_ _
    have O := HEND.out _ _ _ o7 g7
    clear o7 g7 y7 f7 d7
    dsimp only [OnlyN]
    gi_wp2
    exact O
    exact AllReady.nil
    exact AllReady.nil
    exact AllReady.nil
    refine AllReady.cons rfl (fun K hK => ?_) ?_
    go_simp; refine hK _ _ ?_; clear hK K
    refine wpAny_ready (rs := [4]) (by kernel_rfl) (by simp) ?_
    refine AllReady.cons rfl (fun K hK => ?_) ?_
    go_simp; refine hK _ _ ?_; clear hK K
    refine wpAny_ready (rs := [7]) (by kernel_rfl) (by simp) ?_
    refine AllReady.cons rfl (fun K hK => ?_) ?_
    refine step_append_nds (by rfl) (.tmp 24) (.tmp 26) (by rfl) (by rfl) (by rfl) HR4.out HN4.out HP9.out HSB.out ?_
    intro v7 w7 o7 g7 _
    obtain ⟨A7, c7, rfl, y7, f7, d7⟩ := ak_mid HCY4.out HCB4.out HR4.out o7 g7
    try go_simp
    refine hK _ _ ?_
    clear hK K
    refine tk 8 (.pointer (some ⟨w1.heap.size, 0, none⟩)) rfl (by kernel_rfl) (by kernel_rfl) (by kernel_rfl) (.inl ⟨by rfl, ?_⟩) ?_
    (intro w; go_simp)
    refine tk 9 (.pointer (some ⟨w1.heap.size, 0, none⟩)) rfl (by kernel_rfl) (by kernel_rfl) (by kernel_rfl) (.inl ⟨by rfl, ?_⟩) ?_
    (intro w; go_simp)
    refine wpAny_ready (rs := [10]) (by kernel_rfl) (by simp) ?_
    refine AllReady.cons rfl (fun K hK => ?_) ?_
    go_simp; refine hK _ _ ?_; clear hK K
    refine wpAny_done (by kernel_rfl) ?_ _
    have O := HEND.out _ _ _ o7 g7
    clear o7 g7 y7 f7 d7
    dsimp only [OnlyN]
    gi_wp2
    exact O
    exact AllReady.nil
    exact AllReady.nil
    exact AllReady.nil
    exact AllReady.nil
    refine AllReady.cons rfl (fun K hK => ?_) ?_
    go_simp; refine hK _ _ ?_; clear hK K
    refine wpAny_ready (rs := [0, 6]) (by kernel_rfl) (by simp) ?_
    refine AllReady.cons rfl (fun K hK => ?_) ?_
    go_simp; refine hK _ _ ?_; clear hK K
    refine wpAny_ready (rs := [6]) (by kernel_rfl) (by simp) ?_
    refine AllReady.cons rfl (fun K hK => ?_) ?_
    go_simp; refine hK _ _ ?_; clear hK K
    refine wpAny_ready (rs := [7]) (by kernel_rfl) (by simp) ?_
    refine AllReady.cons rfl (fun K hK => ?_) ?_
    refine step_append_nds (by rfl) (.tmp 24) (.tmp 26) (by rfl) (by rfl) (by rfl) HR4.out HN4.out HP9.out HSB.out ?_
    intro v7 w7 o7 g7 _
    obtain ⟨A7, c7, rfl, y7, f7, d7⟩ := ak_mid HCY4.out HCB4.out HR4.out o7 g7
    try go_simp
    refine hK _ _ ?_
    clear hK K
    refine tk 8 (.pointer (some ⟨w1.heap.size, 0, none⟩)) rfl (by kernel_rfl) (by kernel_rfl) (by kernel_rfl) (.inl ⟨by rfl, ?_⟩) ?_
    (intro w; go_simp)
    refine tk 9 (.pointer (some ⟨w1.heap.size, 0, none⟩)) rfl (by kernel_rfl) (by kernel_rfl) (by kernel_rfl) (.inl ⟨by rfl, ?_⟩) ?_
    (intro w; go_simp)
    refine wpAny_ready (rs := [10]) (by kernel_rfl) (by simp) ?_
    refine AllReady.cons rfl (fun K hK => ?_) ?_
    go_simp; refine hK _ _ ?_; clear hK K
    refine wpAny_done (by kernel_rfl) ?_ _
    have O := HEND.out _ _ _ o7 g7
    clear o7 g7 y7 f7 d7
    dsimp only [OnlyN]
    gi_wp2
    exact O
    exact AllReady.nil
    exact AllReady.nil
    exact AllReady.nil
    refine AllReady.cons rfl (fun K hK => ?_) ?_
    go_simp; refine hK _ _ ?_; clear hK K
    refine wpAny_ready (rs := [0, 7]) (by kernel_rfl) (by simp) ?_
    refine AllReady.cons rfl (fun K hK => ?_) ?_
    go_simp; refine hK _ _ ?_; clear hK K
    refine wpAny_ready (rs := [7]) (by kernel_rfl) (by simp) ?_
    refine AllReady.cons rfl (fun K hK => ?_) ?_
    refine step_append_nds (by rfl) (.tmp 24) (.tmp 26) (by rfl) (by rfl) (by rfl) HR4.out HN4.out HP9.out HSB.out ?_
    intro v7 w7 o7 g7 _
    obtain ⟨A7, c7, rfl, y7, f7, d7⟩ := ak_mid HCY4.out HCB4.out HR4.out o7 g7
    try go_simp
    refine hK _ _ ?_
    clear hK K
    refine tk 8 (.pointer (some ⟨w1.heap.size, 0, none⟩)) rfl (by kernel_rfl) (by kernel_rfl) (by kernel_rfl) (.inl ⟨by rfl, ?_⟩) ?_
    (intro w; go_simp)
    refine tk 9 (.pointer (some ⟨w1.heap.size, 0, none⟩)) rfl (by kernel_rfl) (by kernel_rfl) (by kernel_rfl) (.inl ⟨by rfl, ?_⟩) ?_
    (intro w; go_simp)
    refine wpAny_ready (rs := [10]) (by kernel_rfl) (by simp) ?_
    refine AllReady.cons rfl (fun K hK => ?_) ?_
    go_simp; refine hK _ _ ?_; clear hK K
    refine wpAny_done (by kernel_rfl) ?_ _
    have O := HEND.out _ _ _ o7 g7
    clear o7 g7 y7 f7 d7
    dsimp only [OnlyN]
    gi_wp2
    exact O
    exact AllReady.nil
    exact AllReady.nil
    refine AllReady.cons rfl (fun K hK => ?_) ?_
    refine step_append_nds (by rfl) (.tmp 24) (.tmp 26) (by rfl) (by rfl) (by rfl) HR4.out HN4.out HP9.out HSB.out ?_
    intro v7 w7 o7 g7 _
    obtain ⟨A7, c7, rfl, y7, f7, d7⟩ := ak_mid HCY4.out HCB4.out HR4.out o7 g7
    try go_simp
    refine hK _ _ ?_
    clear hK K
    refine wpAny_ready (rs := [0]) (by kernel_rfl) (by simp) ?_
    refine AllReady.cons rfl (fun K hK => ?_) ?_
    go_simp; refine hK _ _ ?_; clear hK K
    refine tk 8 (.pointer (some ⟨w1.heap.size, 0, none⟩)) rfl (by kernel_rfl) (by kernel_rfl) (by kernel_rfl) (.inl ⟨by rfl, ?_⟩) ?_
    (intro w; go_simp)
    refine tk 9 (.pointer (some ⟨w1.heap.size, 0, none⟩)) rfl (by kernel_rfl) (by kernel_rfl) (by kernel_rfl) (.inl ⟨by rfl, ?_⟩) ?_
    (intro w; go_simp)
    refine wpAny_ready (rs := [10]) (by kernel_rfl) (by simp) ?_
    refine AllReady.cons rfl (fun K hK => ?_) ?_
    go_simp; refine hK _ _ ?_; clear hK K
    refine wpAny_done (by kernel_rfl) ?_ _
    have O := HEND.out _ _ _ o7 g7
    clear o7 g7 y7 f7 d7
    dsimp only [OnlyN]
    gi_wp2
    exact O
    exact AllReady.nil
    exact AllReady.nil
    exact AllReady.nil
    exact AllReady.nil
    refine AllReady.cons rfl (fun K hK => ?_) ?_
    go_simp; refine hK _ _ ?_; clear hK K
    refine wpAny_ready (rs := [0, 4]) (by kernel_rfl) (by simp) ?_
    refine AllReady.cons rfl (fun K hK => ?_) ?_
    go_simp; refine hK _ _ ?_; clear hK K
    refine wpAny_ready (rs := [4]) (by kernel_rfl) (by simp) ?_
    refine AllReady.cons rfl (fun K hK => ?_) ?_
    go_simp; refine hK _ _ ?_; clear hK K
    refine wpAny_ready (rs := [7]) (by kernel_rfl) (by simp) ?_
    refine AllReady.cons rfl (fun K hK => ?_) ?_
    refine step_append_nds (by rfl) (.tmp 24) (.tmp 26) (by rfl) (by rfl) (by rfl) HR4.out HN4.out HP9.out HSB.out ?_
    intro v7 w7 o7 g7 _
    obtain ⟨A7, c7, rfl, y7, f7, d7⟩ := ak_mid HCY4.out HCB4.out HR4.out o7 g7
    try go_simp
    refine hK _ _ ?_
    clear hK K
    refine tk 8 (.pointer (some ⟨w1.heap.size, 0, none⟩)) rfl (by kernel_rfl) (by kernel_rfl) (by kernel_rfl) (.inl ⟨by rfl, ?_⟩) ?_
    (intro w; go_simp)
    refine tk 9 (.pointer (some ⟨w1.heap.size, 0, none⟩)) rfl (by kernel_rfl) (by kernel_rfl) (by kernel_rfl) (.inl ⟨by rfl, ?_⟩) ?_
    (intro w; go_simp)
    refine wpAny_ready (rs := [10]) (by kernel_rfl) (by simp) ?_
    refine AllReady.cons rfl (fun K hK => ?_) ?_
    go_simp; refine hK _ _ ?_; clear hK K
    refine wpAny_done (by kernel_rfl) ?_ _
    have O := HEND.out _ _ _ o7 g7
    clear o7 g7 y7 f7 d7
    dsimp only [OnlyN]
    gi_wp2
    exact O
    exact AllReady.nil
    exact AllReady.nil
    exact AllReady.nil
    refine AllReady.cons rfl (fun K hK => ?_) ?_
    go_simp; refine hK _ _ ?_; clear hK K
    refine wpAny_ready (rs := [0, 7]) (by kernel_rfl) (by simp) ?_
    refine AllReady.cons rfl (fun K hK => ?_) ?_
    go_simp; refine hK _ _ ?_; clear hK K
    refine wpAny_ready (rs := [7]) (by kernel_rfl) (by simp) ?_
    refine AllReady.cons rfl (fun K hK => ?_) ?_
    refine step_append_nds (by rfl) (.tmp 24) (.tmp 26) (by rfl) (by rfl) (by rfl) HR4.out HN4.out HP9.out HSB.out ?_
    intro v7 w7 o7 g7 _
    obtain ⟨A7, c7, rfl, y7, f7, d7⟩ := ak_mid HCY4.out HCB4.out HR4.out o7 g7
    try go_simp
    refine hK _ _ ?_
    clear hK K
    refine tk 8 (.pointer (some ⟨w1.heap.size, 0, none⟩)) rfl (by kernel_rfl) (by kernel_rfl) (by kernel_rfl) (.inl ⟨by rfl, ?_⟩) ?_
    (intro w; go_simp)
    refine tk 9 (.pointer (some ⟨w1.heap.size, 0, none⟩)) rfl (by kernel_rfl) (by kernel_rfl) (by kernel_rfl) (.inl ⟨by rfl, ?_⟩) ?_
    (intro w; go_simp)
    refine wpAny_ready (rs := [10]) (by kernel_rfl) (by simp) ?_
    refine AllReady.cons rfl (fun K hK => ?_) ?_
    go_simp; refine hK _ _ ?_; clear hK K
    refine wpAny_done (by kernel_rfl) ?_ _
    have O := HEND.out _ _ _ o7 g7
    clear o7 g7 y7 f7 d7
    dsimp only [OnlyN]
    gi_wp2
    exact O
    exact AllReady.nil
    exact AllReady.nil
    refine AllReady.cons rfl (fun K hK => ?_) ?_
    refine step_append_nds (by rfl) (.tmp 24) (.tmp 26) (by rfl) (by rfl) (by rfl) HR4.out HN4.out HP9.out HSB.out ?_
    intro v7 w7 o7 g7 _
    obtain ⟨A7, c7, rfl, y7, f7, d7⟩ := ak_mid HCY4.out HCB4.out HR4.out o7 g7
    try go_simp
    refine hK _ _ ?_
    clear hK K
    refine wpAny_ready (rs := [0]) (by kernel_rfl) (by simp) ?_
    refine AllReady.cons rfl (fun K hK => ?_) ?_
    go_simp; refine hK _ _ ?_; clear hK K
    refine tk 8 (.pointer (some ⟨w1.heap.size, 0, none⟩)) rfl (by kernel_rfl) (by kernel_rfl) (by kernel_rfl) (.inl ⟨by rfl, ?_⟩) ?_
    (intro w; go_simp)
    refine tk 9 (.pointer (some ⟨w1.heap.size, 0, none⟩)) rfl (by kernel_rfl) (by kernel_rfl) (by kernel_rfl) (.inl ⟨by rfl, ?_⟩) ?_
    (intro w; go_simp)
    refine wpAny_ready (rs := [10]) (by kernel_rfl) (by simp) ?_
    refine AllReady.cons rfl (fun K hK => ?_) ?_
    go_simp; refine hK _ _ ?_; clear hK K
    refine wpAny_done (by kernel_rfl) ?_ _
    have O := HEND.out _ _ _ o7 g7
    clear o7 g7 y7 f7 d7
    dsimp only [OnlyN]
    gi_wp2
    exact O
    exact AllReady.nil
    exact AllReady.nil
    exact AllReady.nil
    exact AllReady.nil
    exact AllReady.nil
    refine AllReady.cons rfl (fun K hK => ?_) ?_
    go_simp; refine hK _ _ ?_; clear hK K
    refine wpAny_ready (rs := [0, 1]) (by kernel_rfl) (by simp) ?_
    refine AllReady.cons rfl (fun K hK => ?_) ?_
    go_simp; refine hK _ _ ?_; clear hK K
    refine wpAny_ready (rs := [1]) (by kernel_rfl) (by simp) ?_
    refine AllReady.cons rfl (fun K hK => ?_) ?_
    go_simp; refine hK _ _ ?_; clear hK K
    refine tk 2 (.pointer (some ⟨w1.heap.size, 0, none⟩)) rfl (by kernel_rfl) (by kernel_rfl) (by kernel_rfl) (.inl ⟨by rfl, ?_⟩) ?_
    (intro w; go_simp)
    refine tk 3 (.pointer (some ⟨w1.heap.size, 0, none⟩)) rfl (by kernel_rfl) (by kernel_rfl) (by kernel_rfl) (.inl ⟨by rfl, ?_⟩) ?_
    (intro w; go_simp)
    refine wpAny_ready (rs := [4]) (by kernel_rfl) (by simp) ?_
    refine AllReady.cons rfl (fun K hK => ?_) ?_
    go_simp; refine hK _ _ ?_; clear hK K
    refine wpAny_ready (rs := [7]) (by kernel_rfl) (by simp) ?_
    refine AllReady.cons rfl (fun K hK => ?_) ?_
    refine step_append_nds (by rfl) (.tmp 24) (.tmp 26) (by rfl) (by rfl) (by rfl) HR4.out HN4.out HP9.out HSB.out ?_
    intro v7 w7 o7 g7 _
    obtain ⟨A7, c7, rfl, y7, f7, d7⟩ := ak_mid HCY4.out HCB4.out HR4.out o7 g7
    try go_simp
    refine hK _ _ ?_
    clear hK K
    refine tk 8 (.pointer (some ⟨w1.heap.size, 0, none⟩)) rfl (by kernel_rfl) (by kernel_rfl) (by kernel_rfl) (.inl ⟨by rfl, ?_⟩) ?_
    (intro w; go_simp)
    refine tk 9 (.pointer (some ⟨w1.heap.size, 0, none⟩)) rfl (by kernel_rfl) (by kernel_rfl) (by kernel_rfl) (.inl ⟨by rfl, ?_⟩) ?_
    (intro w; go_simp)
    refine wpAny_ready (rs := [10]) (by kernel_rfl) (by simp) ?_
    refine AllReady.cons rfl (fun K hK => ?_) ?_
    go_simp; refine hK _ _ ?_; clear hK K
    refine wpAny_done (by kernel_rfl) ?_ _
    have O := HEND.out _ _ _ o7 g7
    clear o7 g7 y7 f7 d7
    dsimp only [OnlyN]
    gi_wp2
    exact O
    exact AllReady.nil
    exact AllReady.nil
    exact AllReady.nil
    exact AllReady.nil
    refine AllReady.cons rfl (fun K hK => ?_) ?_
    go_simp; refine hK _ _ ?_; clear hK K
    refine tk 2 (.pointer (some ⟨w1.heap.size, 0, none⟩)) rfl (by kernel_rfl) (by kernel_rfl) (by kernel_rfl) (.inl ⟨by rfl, ?_⟩) ?_
    (intro w; go_simp)
    refine tk 3 (.pointer (some ⟨w1.heap.size, 0, none⟩)) rfl (by kernel_rfl) (by kernel_rfl) (by kernel_rfl) (.inl ⟨by rfl, ?_⟩) ?_
    (intro w; go_simp)
    refine wpAny_ready (rs := [0, 4]) (by kernel_rfl) (by simp) ?_
    refine AllReady.cons rfl (fun K hK => ?_) ?_
    go_simp; refine hK _ _ ?_; clear hK K
    refine wpAny_ready (rs := [4]) (by kernel_rfl) (by simp) ?_
    refine AllReady.cons rfl (fun K hK => ?_) ?_
    go_simp; refine hK _ _ ?_; clear hK K
    refine wpAny_ready (rs := [7]) (by kernel_rfl) (by simp) ?_
    refine AllReady.cons rfl (fun K hK => ?_) ?_
    refine step_append_nds (by rfl) (.tmp 24) (.tmp 26) (by rfl) (by rfl) (by rfl) HR4.out HN4.out HP9.out HSB.out ?_
    intro v7 w7 o7 g7 _
    obtain ⟨A7, c7, rfl, y7, f7, d7⟩ := ak_mid HCY4.out HCB4.out HR4.out o7 g7
    try go_simp
    refine hK _ _ ?_
    clear hK K
    refine tk 8 (.pointer (some ⟨w1.heap.size, 0, none⟩)) rfl (by kernel_rfl) (by kernel_rfl) (by kernel_rfl) (.inl ⟨by rfl, ?_⟩) ?_
    (intro w; go_simp)
    refine tk 9 (.pointer (some ⟨w1.heap.size, 0, none⟩)) rfl (by kernel_rfl) (by kernel_rfl) (by kernel_rfl) (.inl ⟨by rfl, ?_⟩) ?_
    (intro w; go_simp)
    refine wpAny_ready (rs := [10]) (by kernel_rfl) (by simp) ?_
    refine AllReady.cons rfl (fun K hK => ?_) ?_
    go_simp; refine hK _ _ ?_; clear hK K
    refine wpAny_done (by kernel_rfl) ?_ _
    have O := HEND.out _ _ _ o7 g7
    clear o7 g7 y7 f7 d7
    dsimp only [OnlyN]
    gi_wp2
    exact O
    exact AllReady.nil
    exact AllReady.nil
    exact AllReady.nil
    refine AllReady.cons rfl (fun K hK => ?_) ?_
    go_simp; refine hK _ _ ?_; clear hK K
    refine wpAny_ready (rs := [0, 7]) (by kernel_rfl) (by simp) ?_
    refine AllReady.cons rfl (fun K hK => ?_) ?_
    go_simp; refine hK _ _ ?_; clear hK K
    refine wpAny_ready (rs := [7]) (by kernel_rfl) (by simp) ?_
    refine AllReady.cons rfl (fun K hK => ?_) ?_
    refine step_append_nds (by rfl) (.tmp 24) (.tmp 26) (by rfl) (by rfl) (by rfl) HR4.out HN4.out HP9.out HSB.out ?_
    intro v7 w7 o7 g7 _
    obtain ⟨A7, c7, rfl, y7, f7, d7⟩ := ak_mid HCY4.out HCB4.out HR4.out o7 g7
    try go_simp
    refine hK _ _ ?_
    clear hK K
    refine tk 8 (.pointer (some ⟨w1.heap.size, 0, none⟩)) rfl (by kernel_rfl) (by kernel_rfl) (by kernel_rfl) (.inl ⟨by rfl, ?_⟩) ?_
    (intro w; go_simp)
    refine tk 9 (.pointer (some ⟨w1.heap.size, 0, none⟩)) rfl (by kernel_rfl) (by kernel_rfl) (by kernel_rfl) (.inl ⟨by rfl, ?_⟩) ?_
    (intro w; go_simp)
    refine wpAny_ready (rs := [10]) (by kernel_rfl) (by simp) ?_
    refine AllReady.cons rfl (fun K hK => ?_) ?_
    go_simp; refine hK _ _ ?_; clear hK K
    refine wpAny_done (by kernel_rfl) ?_ _
    have O := HEND.out _ _ _ o7 g7
    clear o7 g7 y7 f7 d7
    dsimp only [OnlyN]
    gi_wp2
    exact O
    exact AllReady.nil
    exact AllReady.nil
    refine AllReady.cons rfl (fun K hK => ?_) ?_
    refine step_append_nds (by rfl) (.tmp 24) (.tmp 26) (by rfl) (by rfl) (by rfl) HR4.out HN4.out HP9.out HSB.out ?_
    intro v7 w7 o7 g7 _
    obtain ⟨A7, c7, rfl, y7, f7, d7⟩ := ak_mid HCY4.out HCB4.out HR4.out o7 g7
    try go_simp
    refine hK _ _ ?_
    clear hK K
    refine wpAny_ready (rs := [0]) (by kernel_rfl) (by simp) ?_
    refine AllReady.cons rfl (fun K hK => ?_) ?_
    go_simp; refine hK _ _ ?_; clear hK K
    refine tk 8 (.pointer (some ⟨w1.heap.size, 0, none⟩)) rfl (by kernel_rfl) (by kernel_rfl) (by kernel_rfl) (.inl ⟨by rfl, ?_⟩) ?_
    (intro w; go_simp)
    refine tk 9 (.pointer (some ⟨w1.heap.size, 0, none⟩)) rfl (by kernel_rfl) (by kernel_rfl) (by kernel_rfl) (.inl ⟨by rfl, ?_⟩) ?_
    (intro w; go_simp)
    refine wpAny_ready (rs := [10]) (by kernel_rfl) (by simp) ?_
    refine AllReady.cons rfl (fun K hK => ?_) ?_
    go_simp; refine hK _ _ ?_; clear hK K
    refine wpAny_done (by kernel_rfl) ?_ _
    have O := HEND.out _ _ _ o7 g7
    clear o7 g7 y7 f7 d7
    dsimp only [OnlyN]
    gi_wp2
    exact O
    exact AllReady.nil
    exact AllReady.nil
    exact AllReady.nil
    exact AllReady.nil
    exact AllReady.nil
    exact AllReady.nil
    exact AllReady.nil
  case done =>
    rintro D ys W hD ⟨hys, hown⟩ ⟨⟨v, gcy, gro⟩, gcb, gcr, hB, hsz⟩ hK
    have hy : DSx W w.heap.size w1.heap.size ys v S := ⟨HYS.out, by rw [HLA.out]; exact gcy, RowP.of (own_mono1 gro HW23.out), fun n hn => (hown n hn).mono HW23.out, hys⟩
    have hlen : ys.length ≤ 1000 := by have := congrArg List.length hys; rw [List.length_map] at this; have := HL.out; omega
    have d0 := gcb.cell 0
    simp only [List.getElem?_toArray, List.getElem?_cons_zero] at d0
    have KS := Lib.hid (rSameS hy (HX.out.below hB) hlen HSM.out)
    unfold SPtr at KS
    have GCR := Lib.hid gcr; have HB := Lib.hid hB; have HKD := Lib.hid hK; have HDD := Lib.hid hD
    clear hy hlen gcy gro gcb gcr hB hK hD hsz hown hys
    refine (?_ : Exit.inBlock 0 _ _ _ _)
    simp only [Exit.inBlock]
    go_wp2_with fail
    refine (KS.out).mono ?_
    rintro e w6 ⟨rfl, hw6⟩
    have HB6 := Lib.hid (grown_b hw6)
    have hc6 := GCR.out.below' (grown_b hw6)
    have HC6 := Lib.hid hc6
    have f6 := hc6.free 0
    have r6 := hc6.cell 0
    simp only [List.getElem?_toArray, List.getElem?_cons_zero] at r6
    clear hw6 hc6 KS
    go_wp2
    have hDl : D < W.heap.size := (Array.getElem?_eq_some_iff.1 HKD.out).1
    have hK' := (KeepsOthers.setCell w6 ⟨w.heap.size, 0, none⟩ (.bool true)).same D _ ((HB6.out.block D hDl).trans HKD.out) rfl
    refine ⟨by simp, .inl ⟨_, _, rfl, run_takeDeferred hK', ?_⟩⟩
    have hR2 : Cells (w6.setCell ⟨w.heap.size, 0, none⟩ (.bool true)) w.heap.size 4 #[.bool true] := HC6.out.set 0 (.bool true)
    have hR3 := (grownBy_keeps_cells (grownBy_putObj' _ D (.deferred none)) (fun r e => by cases e; exact ⟨_, hK', rfl⟩) hR2 rfl).trans hR2
    have cR3 := Cells.cell hR3 0
    simp at cR3
    refine ⟨.bool true, ?_, rfl, ((HB.out.trans (HB6.out.mono HB.out.size)).setCell (p := ⟨w.heap.size, 0, none⟩) (Nat.le_refl _) _).trans (belowK_b (w := w) (Nat.le_refl _) _ D _ _ (by have := HW23.out; have := HDD.out; omega) hK' rfl rfl)⟩
    simp [results, Tryz.f19, go_sem, cR3]
end Go.Proofs.YtbejbiogabpmfaaGreat
