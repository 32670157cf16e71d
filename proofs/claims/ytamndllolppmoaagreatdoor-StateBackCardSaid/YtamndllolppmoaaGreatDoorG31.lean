import Derived.Test.YtamndllolppmoaaGreatDoorG29
import Derived.OwnWalkIn
import Derived.OrdersIn
import Derived.Orders
import Derived.Test.YtamndllolppmoaaGreatDoorG16

/-! A region that draws its order, in a loop's round, walked as anywhere. -/
namespace Go.Proofs.YtamndllolppmoaaGreatDoor
open Go.RowKit
set_option linter.unusedVariables false
def OnlyN (R : Act → World → Prop) : Exit → Act → World → Prop
  | .normal, a, w => R a w
  | .ret, _, _ => False
  | .exit _, _, _ => False
  | .goto _, _, _ => False
  | .panic _, _, _ => False
  | .outgrown, _, _ => False
def Oper.plainB (o : Oper) : Bool := match o.op with
  | .defer _ => false
  | _ => true
theorem op_in {l n : Nat} {P : Program} {o : Oper} {a : Act} {w : World} {K K' R : Act → World → Prop} {Q : Exit → Act → World → Prop} (hd : Oper.plainB o = true) (hK : ∀ a w, K a w → K' a w)
    (h : o.wp P a w K (OnlyN R)) : o.wpIn (Fence.wide.inRound l) n P a w K' Q := by
  refine ⟨fun _ _ => trivial, ?_⟩
  rw [Oper.semAt_plain (Fence.wide.inRound l) _ _ (fun c hc => by unfold Oper.plainB at hd; rw [hc] at hd; cases hd)]
  unfold Oper.wp at h
  generalize (execOp a.eval o).run P w = r at h ⊢
  cases r with
  | ok v w' =>
    cases v <;> first
      | exact hK _ _ h
      | exact h.elim
      | (refine ⟨by intro x; simp [Fence.wide] at x, callsIn_wide.2 (Calls.mono (R' := _) h fun e w' he => ?_)⟩
         cases e with
         | returned v => exact hK _ _ he
         | panicked c => exact he.elim
         | outgrown => obtain ⟨_, _, hx⟩ := he; exact hx.elim)
      | (refine ⟨by intro x; simp [Fence.wide] at x, fun c cs _ => ?_⟩
         obtain ⟨v, w2, r, s⟩ := (h : Rows P _ _ w' _) c cs
         exact ⟨v, w2, hK _ _ r, stepsIn_wide.2 s⟩)
  | halt e w' =>
    cases e <;> first | exact h.elim | exact (h : False).elim
theorem anyIn_of_any {l n : Nat} {P : Program} {md : Region.Mode} {ops : Array Oper} {R : Act → World → Prop} {Q : Exit → Act → World → Prop} (hd : ops.all Oper.plainB = true) (hR : ∀ a w, R a w → Q .normal a w) :
    ∀ (fuel : Nat) (listed : Array Bool) (a : Act) (w : World), wpAny P md ops (OnlyN R) fuel listed a w → wpAnyIn (Fence.wide.inRound l) n P md ops Q fuel listed a w
  | 0, listed, a, w, h => ⟨h.1, hR _ _ h.2⟩
  | fuel + 1, listed, a, w, h => ⟨fun h0 => hR _ _ (h.1 h0), fun i hi => by
      have h1 := h.2 i hi
      have ih := anyIn_of_any (l := l) (n := n) (P := P) (md := md) hd hR fuel (listed.setIfInBounds i true)
      unfold wpOp at h1
      unfold wpOpIn
      cases ho : ops[i]? with
      | none => rw [ho] at h1; exact ih _ _ h1
      | some o =>
        rw [ho] at h1
        dsimp only at h1 ⊢
        split
        · rename_i hw
          rw [if_pos hw] at h1
          rcases h1 with h1 | ⟨_, _, _, hx⟩
          · exact op_in (by rw [Array.all_eq_true'] at hd; exact hd o (Array.mem_of_getElem? ho)) ih h1
          · exact hx.elim
        · rename_i hw
          rw [if_neg hw] at h1
          exact ⟨fun _ _ => trivial, ih _ _ h1⟩⟩
theorem region_in {l n id : Nat} {P : Program} {ops : Array Oper} {R : Act → World → Prop} {Q : Exit → Act → World → Prop} {a : Act} {w : World} (hm : P.follows .mixedOrders = true) (hd : ops.all Oper.plainB = true) (hR : ∀ a w, R a w → Q .normal a w)
    (h : wpAny P .any ops (OnlyN R) ops.size (Array.replicate ops.size false) a w.drew) : (Code.region id ops true).wpIn (Fence.wide.inRound l) n P Q a w :=
  wpIn_region_any hm (anyIn_of_any hd hR _ _ _ _ h)
end Go.Proofs.YtamndllolppmoaaGreatDoor

/-! The document's Same, of states that are the same. -/
namespace Go.Proofs.YtamndllolppmoaaGreatDoor
open Wd Ino Sm Go.RowKit Go.ChangeShapes Go.WideShapes Go.Sort
set_option linter.unusedVariables false
set_option maxRecDepth 100000
def SmRel (n : Nat) (w : World) (i : Value) (wr : World) : Prop := ∃ k : Nat, k ≤ n ∧ i = .int .i64 k ∧ ∃ q os, wr = grow (w.drewN q) os
theorem plain_same {n k : Nd} (h : n.plain = k.plain) : nodeEq n k = true := by
  rw [nodeEq_iff]
  exact ⟨congrArg Nod.ino h, congrArg Nod.kind h, congrArg Nod.links h, congrArg Nod.size h, congrArg Nod.up h, congrArg Nod.pages h, congrArg Nod.names h⟩
section
variable {w : World} {base base2 g g2 : Nat} {Ls L2 : List Nd} {v v2 : Value} {S : Stt}
set_option maxHeartbeats 8000000 in
theorem rSameS (h : DSx w base g Ls v S) (h2 : DSx w base2 g2 L2 v2 S) (hlen : Ls.length ≤ 1000) (hs : SmS S.l) : Calls Tryz.prog 59 #[SPtr g, SPtr g2] w (Grows (.bool true) w) := by
  have hfol : Tryz.prog.follows .mixedOrders = true := by kernel_rfl
  have hl2 : L2.length = Ls.length := by rw [← h.len, ← h2.len]
  obtain ⟨A1, c1, rfl, hc1, hF1⟩ := h.form
  obtain ⟨A2, c2, rfl, hc2, hF2⟩ := h2.form
  have HF1 := Lib.hid hF1; have HF2 := Lib.hid hF2
  have H := Lib.hid h; have H2 := Lib.hid h2; have HS := Lib.hid hs; have HLEN := Lib.hid hlen
  have a0 := h.c0; have a1 := h.c1; have b0 := h2.c0; have b1 := h2.c1
  obtain ⟨N, hN⟩ : ∃ N, Ls.length = N := ⟨_, rfl⟩
  rw [hl2] at b0
  rw [hN] at a0 b0 HLEN
  obtain ⟨LA, hLA⟩ : ∃ x, S.last = x := ⟨_, rfl⟩
  rw [hLA] at a1 b1
  have q1 : (LA != LA) = false := by simp
  have q2 : ((N : Int) != (N : Int)) = false := by simp
  have HN := Lib.hid hN; have HL2 := Lib.hid (hl2.trans hN)
  have G0 := Lib.hid (show ∃ q os, w.drew = grow (w.drewN q) os from ⟨1, #[], by rw [grow_empty]; rfl⟩)
  clear h h2 hlen hs hF1 hF2 hc1 hc2 hl2 hN hLA
  unfold SPtr
  go_enter Tryz.func59, Tryz.ntmps59
  go_wp2
  go_region
  have g0 := G0.out
  obtain ⟨w1, hw1⟩ : ∃ w1, w.drew = w1 := ⟨_, rfl⟩
  rw [hw1] at g0 ⊢
  have GW := Lib.hid g0
  have a0 : w1.cell? ⟨g, 0, none⟩ = some (.slice A1 N c1) := by rw [← hw1]; exact a0
  clear g0 hw1
  go_wp2
  go_loopw [33] (fun i wr => SmRel N w i wr) (fun i _ => N - (intOf i).toNat)
  case atStart => exact ⟨0, Nat.zero_le _, rfl, GW.out⟩
  case round =>
    obtain ⟨k, hk, rfl, hg⟩ := hrel
    have hb := grown_b hg
    have HG := Lib.hid hg
    by_cases hlt : k < N
    · obtain ⟨n, hn⟩ : ∃ n, Ls[k]? = some n := ⟨_, List.getElem?_eq_getElem (by have := HN.out; omega)⟩
      obtain ⟨n2, hn2⟩ : ∃ n, L2[k]? = some n := ⟨_, List.getElem?_eq_getElem (by have := HL2.out; omega)⟩
      have hpl : n.plain = n2.plain := by
        have e1 : (Ls.map Nd.plain)[k]? = some n.plain := by rw [List.getElem?_map, hn]; rfl
        have e2 : (L2.map Nd.plain)[k]? = some n2.plain := by rw [List.getElem?_map, hn2]; rfl
        rw [H.out.eq] at e1
        rw [H2.out.eq, e1] at e2
        exact Option.some.inj e2
      have hX := H.out.below hb
      have hY := H2.out.below hb
      obtain ⟨gL, hA1, _, _⟩ := HF1.out k n hn
      obtain ⟨gM, hA2, _, _⟩ := HF2.out k n2 hn2
      subst hA1 hA2
      rw [HN.out] at hX
      have hX' : DSx wr base g Ls (.slice (some ⟨gL, 0, none⟩) Ls.length c1) S := by rw [HN.out]; exact hX
      have hxc := hX'.row_cells hn
      have hyc := hY.row_cells hn2
      have hsm : SmN n.plain := HS.out _ (by rw [← H.out.eq]; exact List.mem_map_of_mem (List.mem_of_getElem? hn))
      have o1 := hX.own n (List.mem_of_getElem? hn)
      have o2 := hY.own n2 (List.mem_of_getElem? hn2)
      have KN := Lib.hid (fun n' os => Grows.inAt (fun n' os => rSame n n2 (grow (wr.drewN n') os) ((o1.below (below_grow' wr n' os)).in_) ((o2.below (below_grow' wr n' os)).in_) hsm.p (Nat.le_trans hsm.q (by decide))) n' os)
      rw [plain_same hpl] at KN
      have hlt2 : (k : Int) < (N : Int) := Int.ofNat_lt.2 hlt
      have hl1 : gL < wr.heap.size := World.block_lt_of_cell? _ _ (hxc 0 _ rfl).1
      have hl2 : gM < wr.heap.size := World.block_lt_of_cell? _ _ (hyc 0 _ rfl).1
      obtain ⟨J, ki, l', t, u, A0, ac, P, B0, bc, Nn⟩ := n
      obtain ⟨J2, ki2, l2, t2, u2, A2', ac2, P2, B2, bc2, N2⟩ := n2
      unfold Nd.val at KN
      dsimp only at KN
      have x0 := cell_grown (a := ⟨gL, k * 7, none⟩) hl1 (by have := (hxc 0 _ rfl).1; rwa [Nat.add_zero] at this)
      have x1 := cell_grown (a := ⟨gL, k * 7 + 1, none⟩) hl1 (hxc 1 _ rfl).1
      have x2 := cell_grown (a := ⟨gL, k * 7 + 2, none⟩) hl1 (hxc 2 _ rfl).1
      have x3 := cell_grown (a := ⟨gL, k * 7 + 3, none⟩) hl1 (hxc 3 _ rfl).1
      have x4 := cell_grown (a := ⟨gL, k * 7 + 4, none⟩) hl1 (hxc 4 _ rfl).1
      have x5 := cell_grown (a := ⟨gL, k * 7 + 5, none⟩) hl1 (hxc 5 _ rfl).1
      have x6 := cell_grown (a := ⟨gL, k * 7 + 6, none⟩) hl1 (hxc 6 _ rfl).1
      have y0 := cell_grown (a := ⟨gM, k * 7, none⟩) hl2 (by have := (hyc 0 _ rfl).1; rwa [Nat.add_zero] at this)
      have y1 := cell_grown (a := ⟨gM, k * 7 + 1, none⟩) hl2 (hyc 1 _ rfl).1
      have y2 := cell_grown (a := ⟨gM, k * 7 + 2, none⟩) hl2 (hyc 2 _ rfl).1
      have y3 := cell_grown (a := ⟨gM, k * 7 + 3, none⟩) hl2 (hyc 3 _ rfl).1
      have y4 := cell_grown (a := ⟨gM, k * 7 + 4, none⟩) hl2 (hyc 4 _ rfl).1
      have y5 := cell_grown (a := ⟨gM, k * 7 + 5, none⟩) hl2 (hyc 5 _ rfl).1
      have y6 := cell_grown (a := ⟨gM, k * 7 + 6, none⟩) hl2 (hyc 6 _ rfl).1
      have d0 := cell_grown (a := ⟨g, 0, none⟩) hX.cells.lt hX.c0
      have d1 := cell_grown (a := ⟨g2, 0, none⟩) hY.cells.lt hY.c0
      rw [HL2.out] at d1
      have HLT := Lib.hid hlt
      have hkb : k ≤ 1000 := by have := HLEN.out; omega
      clear hg hb hn hn2 hpl hX hX' hY hxc hyc hsm o1 o2 hl1 hl2 hlt hk
      go_upto_region 6 with fail
      refine wp_region_quiet_grown hfol (by kernel_rfl) ?_
      repeat (go_big_quiet_step (first | (go_at_call 15; (with_reducible exact KN.out _ _))))
      refine wpQuiet_nil ?_
      intro _ hw'
      obtain ⟨⟨nr, osr⟩, hw''⟩ := hw'
      subst hw''
      have G6 := Lib.hid (grow_trans HG.out (show ∃ q os, grow (wr.drewN nr) osr = grow (wr.drewN q) os from ⟨nr, osr, rfl⟩))
      obtain ⟨w6, hw6⟩ : ∃ w6, grow (wr.drewN nr) osr = w6 := ⟨_, rfl⟩
      dsimp only
      rw [hw6] at G6 ⊢
      clear hw6 x0 x1 x2 x3 x4 x5 x6 y0 y1 y2 y3 y4 y5 y6 d0 d1 KN
      go_wp2
      go_roundw
      case rel => exact ⟨k + 1, HLT.out, by go_num, G6.out⟩
      case measure => simp [intOf]; have := HLT.out; omega
    · obtain rfl : k = N := by omega
      clear hlt hk hg hb
      go_wp2
      go_ret
      exact ⟨rfl, HG.out⟩
end
end Go.Proofs.YtamndllolppmoaaGreatDoor

/-! The project's directories: how many there are. -/
namespace Go.Proofs.YtamndllolppmoaaGreatDoor
open Wd Ino Sm U Go.RowKit Go.ChangeShapes Go.WideShapes Go.Shelf
set_option linter.unusedVariables false
attribute [local go_sem] Oper.semAt_some
set_option maxRecDepth 100000
theorem row_hi {w : World} {base n : Nat} {v : Value} {l : List Nd} (h : OwnNs w base v l) : ∃ A c, v = .slice A l.length c ∧ Nds w w.heap.size A l ∧ (∀ b off, A = some ⟨b, off, none⟩ → b < w.heap.size) ∧ ∀ b off, A = some ⟨b, off, none⟩ → base ≤ b := by
  obtain ⟨A, c, rfl, hn⟩ := nds_of_row (n := n) (RowP.of h)
  refine ⟨A, c, rfl, hn, fun b off e => ?_, fun b off e => ?_⟩
  all_goals
    subst e
    rcases h.2 with ⟨h0, _⟩ | ⟨g, cap, cur, h0, hb, hh, _⟩
    · cases h0
    · injection h0 with h0 _ _
      injection h0 with h0
      injection h0 with h0
      subst h0
      first | exact (show Cells w b 38 cur from hh).lt | exact hb
theorem own_box {β : Type} (B g : Nat) (T : TypeId) (f : β → Array Value) : OwnFrom B (fun s W => Cells W g T (f s)) := Own.from (I := fun s W => Cells W g T (f s)) (fun s X Y row hs hg hr => (grownBy_keeps_cells hg hr hs rfl).trans hs) B
theorem Kq.set {q : Nat} {A : Option Addr} {p : Addr} (W : World) (u : Value) (hq : q ≠ p.block) (hA : ∀ b off, A = some ⟨b, off, none⟩ → b ≠ p.block) : Kq q A W (W.setCell p u) :=
  ⟨by simp [World.setCell], Below.heap_setCell W p u q hq, fun b off e => Below.heap_setCell W p u b (hA b off e)⟩
theorem Kq.grow {q : Nat} {A : Option Addr} {X Y : World} (h : Below X.heap.size X Y) (hq : q < X.heap.size) (hA : ∀ b off, A = some ⟨b, off, none⟩ → b < X.heap.size) : Kq q A X Y := Kq.below h hq hA
theorem lift_plain {L : List Nd} {ys : List (Mem L)} (h : ys.map Subtype.val = L) {l : List Nod} (hl : L.map Nd.plain = l) : l = ys.map (fun x => x.1.plain) := by
  have := congrArg (List.map Nd.plain) h
  rw [List.map_map, hl] at this
  exact this.symm
/-- a node's cells -/
def ndc (x : Nd) : Array Value := ncells x.ino x.kind x.links x.size x.up (.slice x.A x.pages.length x.ac) (.slice x.B x.names.length x.bc)
def dirsN (l : List Nod) : Nat := l.countP (fun n => decide (n.kind = 2))
section
variable {w : World} {base m g b : Nat} {S : Stt}
set_option maxHeartbeats 8000000 in
theorem pDirs_in (n0 : Nat) (hn : 3 ≤ n0) (h : PSt w base m g b S) (ha : AscS S.l) (hs : SmS S.l) (hl : S.l.length ≤ 1000) (hm : m < 999900) : CallsIn Fence.wide n0 Tryz.prog 84 #[SPtr g] w fun e w' => e = .returned (.int .i64 (dirsN S.l)) ∧ Below w.heap.size w w' := by
  have h1 : 1 ≤ n0 := by omega
  have KO := Lib.hid (fun wx (hb : Below w.heap.size w wx) => pInOrder h hb ha hs hl hm)
  obtain ⟨w1, hw1⟩ : ∃ w1, w.alloc (.cells #[.int .i64 0] 3) = w1 := ⟨_, rfl⟩
  have hb1 : Below w.heap.size w w1 := by rw [← hw1]; exact below_of_grown (World.grownBy_alloc w _ none)
  have hs1 : w1.heap.size = w.heap.size + 1 := by rw [← hw1]; simp
  have hc1 : Cells w1 w.heap.size 3 #[.int .i64 0] := by rw [← hw1]; exact Cells.new _ _ _
  have HB0 := Lib.hid (show Below w.heap.size w (w.alloc (.cells #[.int .i64 0] 3)) from below_of_grown (World.grownBy_alloc w _ none))
  have HB1 := Lib.hid hb1; have HS1 := Lib.hid hs1; have HW1 := Lib.hid hw1
  clear hw1
  unfold SPtr at *
  clear hs1
  refine callsIn_of_wp_marks Tryz.func84 rfl trivial ?_ rfl
  simp only [Tryz.ntmps84, List.size_toArray, List.length_cons, List.length_nil, Nat.reduceAdd, Nat.reduceSub, Array.replicate_succ, Array.replicate_zero, List.push_toArray, List.append_toArray, List.nil_append, List.cons_append]
  gi_wp2_with (refine ⟨trivial, ?_⟩; gi_at_call 51; refine (callsIn_wide.2 (KO.out _ HB0.out)).mono ?_; rintro e w2 ⟨q, Lk, v, rfl, hor, hb2⟩)
  rw [HW1.out] at hor hb2
  obtain ⟨hq, hcq, hro, hon, hpl⟩ := hor
  obtain ⟨A, c, rfl, hE, hA, hAb⟩ := row_hi (n := 0) hro
  have hm1 : Cells w2 w.heap.size 3 #[.int .i64 0] := hc1.below' hb2
  have hB2 : Below w.heap.size w w2 := hb1.trans (hb2.mono hb1.size)
  have hlen : Lk.length ≤ 1000 := by have := congrArg List.length hpl; rw [List.length_map] at this; omega
  have hs1 := HS1.out
  have hqg : q ≠ w.heap.size := by omega
  have hqc := hcq.cell 0
  simp only [List.getElem?_toArray, List.getElem?_cons_zero] at hqc
  have hAg : ∀ b off, A = some ⟨b, off, none⟩ → b ≠ w.heap.size := fun b off e => by have := hAb b off e; omega
  have HAG := Lib.hid hAg; have HA := Lib.hid hA; have HQ := Lib.hid hcq.lt; have HQG := Lib.hid hqg; have HB2 := Lib.hid hB2
  refine wp_inOrder (L := Lk) (q := q) (cap := c) (A := A) hn rfl rfl hqc hcq.lt hA hE hlen
    (fun pre W => Cells W w.heap.size 3 #[.int .i64 ((pre.countP (fun x => decide (x.1.kind = 2)) : Nat) : Int)] ∧ Below w.heap.size w W ∧ w2.heap.size ≤ W.heap.size)
    (OwnFrom.and (own_box _ _ _ (fun (pre : List (Mem Lk)) => #[.int .i64 ((pre.countP (fun x => decide (x.1.kind = 2)) : Nat) : Int)])) (OwnFrom.and (ownFrom_below (Nat.le_refl _) hB2.size) (fun s X Y row hs hg hr => Nat.le_trans hs hg.size)))
    ⟨hm1, hB2, Nat.le_refl _⟩
    (fun x a' W => ∃ Bx, w2.heap.size ≤ Bx ∧ Cells W Bx 38 (ndc x.1) ∧ a' = { tmps := #[.pointer (some ⟨g, 0, none⟩), undef, .int .i64 0, .pointer (some ⟨w.heap.size, 0, none⟩), undef, .pointer (some ⟨Bx, 0, none⟩), .pointer (some ⟨g, 0, none⟩), .func (.func 89) #[] #[.pointer (some ⟨q, 0, none⟩)], .int .i64 x.1.ino, x.1.val, undef, undef, undef, undef, undef, undef], defers := [] })
    (fun x a' _ X Y row hs hg hr => by obtain ⟨Bx, g1, g2, g3⟩ := hs; exact ⟨Bx, g1, (grownBy_keeps_cells hg (fun r e => (hr r e).2) g2 rfl).trans g2, g3⟩)
    ?assign ?body ?done
  case assign =>
    rintro lp pre ⟨⟨J, ki, l, t, u, A0, ac, P, B0, bc, N⟩, hx⟩ W K ⟨g0, hB, hsz⟩ hK
    have hK' := hK { tmps := #[.pointer (some ⟨g, 0, none⟩), undef, .int .i64 0, .pointer (some ⟨w.heap.size, 0, none⟩), undef, .pointer (some ⟨W.heap.size, 0, none⟩), .pointer (some ⟨g, 0, none⟩), .func (.func 89) #[] #[.pointer (some ⟨q, 0, none⟩)], .int .i64 J, Nd.val ⟨J, ki, l, t, u, A0, ac, P, B0, bc, N⟩, undef, undef, undef, undef, undef, undef], defers := [] } (W.alloc (.cells (ndc ⟨J, ki, l, t, u, A0, ac, P, B0, bc, N⟩) 38)) ((KeepsOthers.alloc _ _).from _)
      (Kq.grow (below_of_grown (World.grownBy_alloc W _ none)) (Nat.lt_of_lt_of_le HQ.out hsz) (fun b off e => Nat.lt_of_lt_of_le (HA.out b off e) hsz)) ⟨g0.alloc _, hB.alloc hB.size _, Nat.le_trans hsz (by simp)⟩ ⟨W.heap.size, hsz, Cells.new _ _ _, rfl⟩
    unfold Nd.val ndc ncells at hK'
    unfold Nd.val
    dsimp only at hK' ⊢
    clear hK
    gi_wp2
    exact hK'
  case body =>
    rintro lp pre ⟨⟨J, ki, l, t, u, A0, ac, P, B0, bc, N⟩, hx⟩ a' W hl ⟨g0, hB, hsz⟩ ⟨Bx, hBx, cX, rfl⟩ hlt
    unfold ndc at cX
    dsimp only at cX
    obtain ⟨z0, z1, z2, z3, z4, z5, z6⟩ := cells7 cX
    have c0 := g0.cell 0
    have f0 := g0.free 0
    simp only [List.getElem?_toArray, List.getElem?_cons_zero] at c0
    obtain ⟨k, hk⟩ : ∃ k : Nat, pre.countP (fun x => decide (x.1.kind = 2)) = k := ⟨_, rfl⟩
    rw [hk] at c0
    have hkl : k < 1000 := by have := List.countP_le_length (l := pre) (p := fun x => decide (x.1.kind = 2)); omega
    have HK := Lib.hid hk; have G0 := Lib.hid g0; have HB := Lib.hid hB; have HSZ := Lib.hid hsz
    clear hk g0 hB hsz cX
    by_cases h2 : ki = 2
    · have q2 : (ki == 2) = true := by simpa using h2
      have HC := Lib.hid (show (pre ++ [(⟨⟨J, ki, l, t, u, A0, ac, P, B0, bc, N⟩, hx⟩ : Mem Lk)]).countP (fun x => decide (x.1.kind = 2)) = k + 1 by rw [List.countP_append, HK.out]; simp [h2])
      clear h2
      gi_wp2
      refine ⟨(KeepsOthers.setCell _ _ _).from _, Kq.set W _ HQG.out HAG.out, ?_, HB.out.setCell (p := ⟨w.heap.size, 0, none⟩) (Nat.le_refl _) _, Nat.le_trans HSZ.out (by simp [World.setCell])⟩
      have h9 := G0.out.set 0 (.int .i64 ((k : Int) + 1))
      rw [HC.out]
      exact h9
    · have q2 : (ki == 2) = false := by simpa using h2
      have HC := Lib.hid (show (pre ++ [(⟨⟨J, ki, l, t, u, A0, ac, P, B0, bc, N⟩, hx⟩ : Mem Lk)]).countP (fun x => decide (x.1.kind = 2)) = pre.countP (fun x => decide (x.1.kind = 2)) by rw [List.countP_append]; simp [h2])
      clear h2
      gi_wp2
      exact ⟨KeepsFrom.refl _ _, Kq.refl _ _ _, by rw [HC.out]; exact G0.out, HB.out, HSZ.out⟩
  case done =>
    rintro D ys W hD hys ⟨g0, hB, hsz⟩ hK
    have c0 := g0.cell 0
    simp only [List.getElem?_toArray, List.getElem?_cons_zero] at c0
    gi_wp2
    refine ⟨by simp, .inl ⟨_, _, rfl, run_takeDeferred hK, ?_⟩⟩
    refine ⟨.int .i64 (dirsN S.l), ?_, rfl, hB.trans (belowK_b (w := w) (Nat.le_refl _) _ D _ _ (by have := hB2.size; omega) hK rfl rfl)⟩
    have hcnt : (ys.countP (fun x => decide (x.1.kind = 2))) = dirsN S.l := by
      unfold dirsN
      rw [lift_plain hys hpl, List.countP_map]
      rfl
    simp [results, Tryz.f84, go_sem, hcnt]
end
end Go.Proofs.YtamndllolppmoaaGreatDoor

/-! The project's Words: of all nodes. -/
namespace Go.Proofs.YtamndllolppmoaaGreatDoor
open Wd Ino Sm U Go.RowKit Go.ChangeShapes Go.WideShapes Go.Shelf
set_option linter.unusedVariables false
attribute [local go_sem] Oper.semAt_some
set_option maxRecDepth 100000
def wordsNod (n : Nod) : Nat := 7 + n.pages.length + wsum n.names
def wordsS (l : List Nod) : Nat := 2 + (l.map wordsNod).sum
theorem sum_le {α : Type} {f : α → Nat} {B : Nat} : ∀ (l : List α), (∀ x ∈ l, f x ≤ B) → (l.map f).sum ≤ l.length * B
  | [], _ => by simp
  | x :: l, h => by
    have h1 := h x List.mem_cons_self
    have h2 := sum_le l (fun y hy => h y (List.mem_cons_of_mem _ hy))
    rw [List.map_cons, List.sum_cons, List.length_cons, Nat.add_mul]; omega
theorem words_node {S : Stt} (hs : SmS S.l) {n : Nod} (h : n ∈ S.l) : wordsNod n ≤ 140000 := by
  have sm := hs n h
  have h1 := wsum_partM (l := n.names) sm.sz (Nat.le_trans sm.q (by decide)) n.names.length
  rw [List.take_length] at h1
  have h2 := sm.p
  unfold wordsNod
  omega
section
variable {w : World} {base m g b : Nat} {S : Stt}
set_option maxHeartbeats 8000000 in
theorem pWords_in (n0 : Nat) (hn : 3 ≤ n0) (h : PSt w base m g b S) (ha : AscS S.l) (hs : SmS S.l) (hl : S.l.length ≤ 1000) (hm : m < 999900) : CallsIn Fence.wide n0 Tryz.prog 21 #[SPtr g] w fun e w' => e = .returned (.int .i64 (wordsS S.l)) ∧ Below w.heap.size w w' := by
  have h1 : 1 ≤ n0 := by omega
  have KO := Lib.hid (fun wx (hb : Below w.heap.size w wx) => pInOrder h hb ha hs hl hm)
  have hfol : Tryz.prog.follows .mixedOrders = true := by kernel_rfl
  have KM := Lib.hid (pMade h)
  have HSM := Lib.hid hs
  unfold SPtr at *
  refine callsIn_of_wp_marks Tryz.func21 rfl trivial ?_ rfl
  simp only [Tryz.ntmps21, List.size_toArray, List.length_cons, List.length_nil, Nat.reduceAdd, Nat.reduceSub, Array.replicate_succ, Array.replicate_zero, List.push_toArray, List.append_toArray, List.nil_append, List.cons_append]
  gi_wp2_with (refine ⟨trivial, ?_⟩; gi_at_call 32; refine (callsIn_wide.2 (KM.out)).mono ?_; rintro e w0 ⟨rfl, hw0⟩)
  obtain ⟨w1, hw1⟩ : ∃ w1, w0.alloc (.cells #[.int .i64 2] 3) = w1 := ⟨_, rfl⟩
  have hb0 := grown_b hw0
  have hb01 : Below w0.heap.size w0 w1 := by rw [← hw1]; exact below_of_grown (World.grownBy_alloc w0 _ none)
  have hs1 : w1.heap.size = w0.heap.size + 1 := by rw [← hw1]; simp
  have hc1 : Cells w1 w0.heap.size 3 #[.int .i64 2] := by rw [← hw1]; exact Cells.new _ _ _
  have hb1 : Below w.heap.size w w1 := hb0.trans (hb01.mono hb0.size)
  have HB1 := Lib.hid hb1; have HB0 := Lib.hid hb0; have HW1 := Lib.hid hw1
  have KO1 := Lib.hid (KO.out _ HB1.out)
  rw [← hw1] at KO1
  clear hw1
  refine ⟨trivial, ?_⟩; gi_at_call 51; refine (callsIn_wide.2 KO1.out).mono ?_; rintro e w2 ⟨q, Lk, v, rfl, hor, hb2⟩
  rw [HW1.out] at hor hb2
  obtain ⟨hq, hcq, hro, hon, hpl⟩ := hor
  obtain ⟨A, c, rfl, hE, hA, hAb⟩ := row_hi (n := 0) hro
  have hm1 : Cells w2 w0.heap.size 3 #[.int .i64 2] := hc1.below' hb2
  have hB2 : Below w.heap.size w w2 := hb1.trans (hb2.mono hb1.size)
  have hlen : Lk.length ≤ 1000 := by have := congrArg List.length hpl; rw [List.length_map] at this; omega
  have hqg : q ≠ w0.heap.size := by omega
  have hqc := hcq.cell 0
  simp only [List.getElem?_toArray, List.getElem?_cons_zero] at hqc
  have hAg : ∀ b off, A = some ⟨b, off, none⟩ → b ≠ w0.heap.size := fun b off e => by have := hAb b off e; omega
  have HAG := Lib.hid hAg; have HA := Lib.hid hA; have HQ := Lib.hid hcq.lt; have HQG := Lib.hid hqg; have HB2 := Lib.hid hB2
  have HON := Lib.hid hon
  have HPL := Lib.hid hpl
  clear KO1 KM
  gi_wp2
  refine wp_inOrder (L := Lk) (q := q) (cap := c) (A := A) hn rfl rfl hqc hcq.lt hA hE hlen
    (fun pre W => Cells W w0.heap.size 3 #[.int .i64 ((2 + (pre.map (fun x => wordsNod x.1.plain)).sum : Nat) : Int)] ∧ Below w.heap.size w W ∧ w2.heap.size ≤ W.heap.size)
    (OwnFrom.and (own_box _ _ _ (fun (pre : List (Mem Lk)) => #[.int .i64 ((2 + (pre.map (fun x => wordsNod x.1.plain)).sum : Nat) : Int)])) (OwnFrom.and (ownFrom_below (Nat.le_refl _) hB2.size) (fun s X Y row hs hg hr => Nat.le_trans hs hg.size)))
    ⟨hm1, hB2, Nat.le_refl _⟩
    (fun x a' W => ∃ Bx, w2.heap.size ≤ Bx ∧ Cells W Bx 38 (ndc x.1) ∧ a' = { tmps := #[.pointer (some ⟨g, 0, none⟩), undef, .int .i64 0, .pointer (some ⟨w0.heap.size, 0, none⟩), undef, .pointer (some ⟨Bx, 0, none⟩), .pointer (some ⟨g, 0, none⟩), .bool true, .bool false, .pointer (some ⟨g, 0, none⟩), .func (.func 89) #[] #[.pointer (some ⟨q, 0, none⟩)], .int .i64 x.1.ino, x.1.val, undef, undef, undef, undef, undef], defers := [] })
    (fun x a' _ X Y row hs hg hr => by obtain ⟨Bx, g1, g2, g3⟩ := hs; exact ⟨Bx, g1, (grownBy_keeps_cells hg (fun r e => (hr r e).2) g2 rfl).trans g2, g3⟩)
    ?assign ?body ?done
  case assign =>
    rintro lp pre ⟨⟨J, ki, l, t, u, A0, ac, P, B0, bc, N⟩, hx⟩ W K ⟨g0, hB, hsz⟩ hK
    have hK' := hK { tmps := #[.pointer (some ⟨g, 0, none⟩), undef, .int .i64 0, .pointer (some ⟨w0.heap.size, 0, none⟩), undef, .pointer (some ⟨W.heap.size, 0, none⟩), .pointer (some ⟨g, 0, none⟩), .bool true, .bool false, .pointer (some ⟨g, 0, none⟩), .func (.func 89) #[] #[.pointer (some ⟨q, 0, none⟩)], .int .i64 J, Nd.val ⟨J, ki, l, t, u, A0, ac, P, B0, bc, N⟩, undef, undef, undef, undef, undef], defers := [] } (W.alloc (.cells (ndc ⟨J, ki, l, t, u, A0, ac, P, B0, bc, N⟩) 38)) ((KeepsOthers.alloc _ _).from _)
      (Kq.grow (below_of_grown (World.grownBy_alloc W _ none)) (Nat.lt_of_lt_of_le HQ.out hsz) (fun b off e => Nat.lt_of_lt_of_le (HA.out b off e) hsz)) ⟨g0.alloc _, hB.alloc hB.size _, Nat.le_trans hsz (by simp)⟩ ⟨W.heap.size, hsz, Cells.new _ _ _, rfl⟩
    unfold Nd.val ndc ncells at hK'
    unfold Nd.val
    dsimp only at hK' ⊢
    clear hK
    gi_wp2
    exact hK'
  case body =>
    rintro lp pre ⟨⟨J, ki, l, t, u, A0, ac, P, B0, bc, N⟩, hx⟩ a' W hl9 ⟨g0, hB, hsz⟩ ⟨Bx, hBx, cX, rfl⟩ hlt
    unfold ndc at cX
    dsimp only at cX
    obtain ⟨z0, z1, z2, z3, z4, z5, z6⟩ := cells7 cX
    have c0 := g0.cell 0
    simp only [List.getElem?_toArray, List.getElem?_cons_zero] at c0
    have hmem : Nd.plain ⟨J, ki, l, t, u, A0, ac, P, B0, bc, N⟩ ∈ S.l := by rw [← HPL.out]; exact List.mem_map_of_mem hx
    have hsm := HSM.out _ hmem
    have hwb := words_node HSM.out hmem
    have how := (HON.out _ hx).below hB
    have h1' : 1 ≤ n0 - 1 - 1 := by omega
    obtain ⟨k, hk⟩ : ∃ k : Nat, 2 + (pre.map (fun x => wordsNod x.1.plain)).sum = k := ⟨_, rfl⟩
    rw [hk] at c0 g0
    obtain ⟨d, hd⟩ : ∃ d : Nat, wordsNod (Nd.plain ⟨J, ki, l, t, u, A0, ac, P, B0, bc, N⟩) = d := ⟨_, rfl⟩
    have hkb : k ≤ 150000000 := by
      have h9 := sum_le (B := 140000) (f := fun x : Mem Lk => wordsNod x.1.plain) pre (fun x _ => words_node HSM.out (by rw [← HPL.out]; exact List.mem_map_of_mem x.2))
      have h10 : pre.length * 140000 ≤ 1000 * 140000 := Nat.mul_le_mul_right _ (by omega)
      omega
    rw [hd] at hwb
    have hw9 : IntKind.i64.wrap ((k : Int) + (d : Int)) = ((k + d : Nat) : Int) := by rw [IntKind.wrap_i64]; omega
    have HS := Lib.hid (show 2 + ((pre ++ [(⟨⟨J, ki, l, t, u, A0, ac, P, B0, bc, N⟩, hx⟩ : Mem Lk)]).map (fun x => wordsNod x.1.plain)).sum = k + d by rw [List.map_append, List.sum_append, ← hk, ← hd]; simp; omega)
    have KW := Lib.hid (fun wx (hb : Below W.heap.size W wx) => iWordsM ⟨J, ki, l, t, u, A0, ac, P, B0, bc, N⟩ wx (how.below hb).in_ ⟨Nat.le_trans hsm.q (by decide), hsm.p, hsm.sz⟩)
    have hdv : Nd.words ⟨J, ki, l, t, u, A0, ac, P, B0, bc, N⟩ = (d : Int) := by rw [← hd]; rfl
    rw [hdv] at KW
    have G0 := Lib.hid g0; have HB := Lib.hid hB; have HSZ := Lib.hid hsz
    have b0 : Below W.heap.size W W.drew := below_drewN (Below.refl _ _) 1
    unfold Nd.val at KW ⊢
    dsimp only at KW ⊢
    clear hk g0 hB hsz hmem hsm how hd hwb hdv cX
    gi_upto_region 6 with fail
    gi_region_with_o (refine ⟨trivial, ?_⟩; gi_at_call 52; refine (CallsIn.inRound lp (callsIn_wide.2 (KW.out _ b0))).mono ?_; rintro e w6 ⟨rfl, hw6⟩; have b6 := b0.trans (below_of_grown_of hw6); have c6 := (G0.out.below' b6).cell 0; have f6 := (G0.out.below' b6).free 0; simp only [List.getElem?_toArray, List.getElem?_cons_zero] at c6)
    all_goals
      have hset := (G0.out.below' b6).set 0 (.int .i64 ((k : Int) + (d : Int)))
      have HSET := Lib.hid hset
      have HB6 := Lib.hid b6
      clear hset b6 c6 f6 hw6
      gi_wp2
      refine ⟨(KeepsFrom.of_grownBy (grown_of_below HB6.out none) (fun j e => by cases e)).trans ((KeepsOthers.setCell _ _ _).from _), (Kq.grow HB6.out (Nat.lt_of_lt_of_le HQ.out HSZ.out) (fun b off e => Nat.lt_of_lt_of_le (HA.out b off e) HSZ.out)).trans (Kq.set _ _ HQG.out HAG.out), ?_, (HB.out.trans (HB6.out.mono HB.out.size)).setCell (p := ⟨w0.heap.size, 0, none⟩) HB0.out.size _, Nat.le_trans HSZ.out (Nat.le_trans HB6.out.size (by simp [World.setCell]))⟩
      rw [HS.out]
      first | exact HSET.out | (have h9 := HSET.out; rw [← hw9] at *; exact h9)
  case done =>
    rintro D ys W hD hys ⟨g0, hB, hsz⟩ hK
    have hcnt : 2 + (ys.map (fun x => wordsNod x.1.plain)).sum = wordsS S.l := by
      unfold wordsS
      rw [lift_plain hys hpl, List.map_map]
      rfl
    rw [hcnt] at g0
    have c0 := g0.cell 0
    simp only [List.getElem?_toArray, List.getElem?_cons_zero] at c0
    gi_wp2
    refine ⟨by simp, .inl ⟨_, _, rfl, run_takeDeferred hK, ?_⟩⟩
    refine ⟨.int .i64 (wordsS S.l), ?_, rfl, hB.trans (belowK_b (w := w) (Nat.le_refl _) _ D _ _ (by have := hB2.size; omega) hK rfl rfl)⟩
    simp [results, Tryz.f21, go_sem]
end
end Go.Proofs.YtamndllolppmoaaGreatDoor
