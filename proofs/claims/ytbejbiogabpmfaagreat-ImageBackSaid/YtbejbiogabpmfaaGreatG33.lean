import Derived.Test.YtbejbiogabpmfaaGreatG32
import Derived.Test.YtbejbiogabpmfaaGreatG07
import Derived.Test.YtbejbiogabpmfaaGreatG14
import Derived.Test.YtbejbiogabpmfaaGreatG24
import Derived.Test.YtbejbiogabpmfaaGreatG31

/-! The project's mayStand and rightNodes. -/
namespace Go.Proofs.YtbejbiogabpmfaaGreat
open Wd Ino Sm U Go.RowKit Go.ChangeShapes Go.WideShapes Go.Sort
set_option linter.unusedVariables false
set_option maxRecDepth 100000
section
variable {w : World} {base m g b : Nat} {S : Stt}
def mayS (l : List Nod) (d i : Int) : Bool := decide (kindS l i = 1) || (decide (kindS l i = 2) && (!decide (i = 1) && decide (upS l i = d)))
theorem pMayStand (h : PSt w base m g b S) (d i : Int) (hi : i64R i) : Calls Tryz.prog 169 #[SPtr g, .int .i64 d, .int .i64 i] w (Grows (.bool (mayS S.l d i)) w) := by
  obtain ⟨n, hn, ho, lk⟩ := h.look hi
  have hU : upS S.l i = n.up := by unfold upS; rw [← hn]; rfl
  have KI1 := Lib.hid (pIs h i 1 hi)
  have KI2 := Lib.hid (fun wx (hb : Below w.heap.size w wx) => pIs (h.below hb) i 2 hi)
  have LK := Lib.hid lk
  have HC := Lib.hid h
  unfold mayS
  rw [hU]
  obtain ⟨K1, hK1⟩ : ∃ q, decide (kindS S.l i = 1) = q := ⟨_, rfl⟩
  obtain ⟨K2, hK2⟩ : ∃ q, decide (kindS S.l i = 2) = q := ⟨_, rfl⟩
  rw [hK1] at KI1 ⊢
  rw [hK2] at KI2 ⊢
  obtain ⟨j, ki, l, t, u, A, ac, P, B, bc, N⟩ := n
  unfold Nd.val at LK
  dsimp only at LK ⊢
  clear h lk ho hn hU hK1 hK2
  unfold SPtr at *
  go_enter Tryz.func169, Tryz.ntmps169
  go_wp2_with fail
  refine (KI1.out).mono ?_
  rintro e w1 ⟨rfl, hw1⟩
  have HB1 := Lib.hid (grown_b hw1); have HG1 := Lib.hid hw1
  cases K1 with
  | true =>
    clear hw1
    go_wp2
    go_ret
    exact ⟨rfl, HG1.out⟩
  | false =>
    clear hw1
    go_wp2_with fail
    refine (KI2.out _ HB1.out).mono ?_
    rintro e w2 ⟨rfl, hw2⟩
    have HG2 := Lib.hid (grow_trans HG1.out hw2)
    clear hw2
    cases K2 with
    | false =>
      go_wp2
      go_ret
      exact ⟨rfl, HG2.out⟩
    | true =>
      by_cases e1 : i = 1
      · have q2 : (i != 1) = false := by simpa using e1
        have Q1 := Lib.hid (decide_eq_true e1)
        clear e1
        go_wp2
        go_ret
        exact ⟨by rw [Q1.out]; rfl, HG2.out⟩
      · have q2 : (i != 1) = true := by simpa using e1
        have Q1 := Lib.hid (decide_eq_false e1)
        have hb := grown_b HG2.out
        have c0 := (HC.out.below hb).c0
        have lk0 := LK.out _ (hb.block b HC.out.blt)
        have q3 : decide (u = d) = (u == d) := by by_cases hh : u = d <;> simp [hh]
        have Q3 := Lib.hid q3
        clear e1 hb q3
        go_wp2
        go_ret
        exact ⟨by rw [Q1.out, Q3.out]; rfl, HG2.out⟩
end
end Go.Proofs.YtbejbiogabpmfaaGreat
namespace Go.Proofs.YtbejbiogabpmfaaGreat
open Wd Ino Sm U Go.RowKit Go.ChangeShapes Go.WideShapes Go.Shelf
set_option linter.unusedVariables false
attribute [local go_sem] Oper.semAt_some
set_option maxRecDepth 100000
section
variable {w : World} {base m g b : Nat} {S : Stt}
set_option maxHeartbeats 8000000 in
theorem pRightNodes_in (n0 : Nat) (hn : 3 ≤ n0) (h : PSt w base m g b S) (iv : Inv S) {k0 : Nat} (nm : Num k0 S) (hk0 : k0 ≤ 900) (hm : m < 999900) : CallsIn Fence.wide n0 Tryz.prog 119 #[SPtr g] w fun e w' => e = .returned (.bool true) ∧ Below w.heap.size w w' := by
  have h1 : 1 ≤ n0 := by omega
  have hs := iv.smN nm hk0
  have KO := Lib.hid (fun wx (hb : Below w.heap.size w wx) => pInOrder h hb iv.asc hs (by have := nm.len; omega) hm)
  have HH := Lib.hid h; have HSM := Lib.hid hs; have IV := Lib.hid iv
  obtain ⟨w1, hw1⟩ : ∃ w1, (w.alloc (.cells #[SPtr g] 31)).alloc (.cells #[.bool false] 4) = w1 := ⟨_, rfl⟩
  have hbe : Below w.heap.size w (w.alloc (.cells #[SPtr g] 31)) := below_of_grown (World.grownBy_alloc w _ none)
  have hb1 : Below w.heap.size w w1 := by rw [← hw1]; exact hbe.alloc (by simp) _
  have hs1 : w1.heap.size = w.heap.size + 2 := by rw [← hw1]; simp
  have hcs : Cells w1 w.heap.size 31 #[SPtr g] := by rw [← hw1]; exact (Cells.new _ _ _).alloc _
  have hcr : Cells w1 (w.heap.size + 1) 4 #[.bool false] := by rw [← hw1]; have := Cells.new (w.alloc (.cells #[SPtr g] 31)) 4 #[.bool false]; simpa using this
  have HB1 := Lib.hid hb1; have HS1 := Lib.hid hs1; have HW1 := Lib.hid hw1
  have KO1 := Lib.hid (KO.out _ hb1)
  rw [← hw1] at KO1
  unfold SPtr at *
  clear hs1 hw1 hbe
  refine callsIn_of_wp_marks Tryz.func119 rfl trivial ?_ rfl
  simp only [Tryz.ntmps119, List.size_toArray, List.length_cons, List.length_nil, Nat.reduceAdd, Nat.reduceSub, Array.replicate_succ, Array.replicate_zero, List.push_toArray, List.append_toArray, List.nil_append, List.cons_append]
  gi_wp2_with (refine ⟨trivial, ?_⟩; gi_at_call 57; refine (callsIn_wide.2 KO1.out).mono ?_; rintro e w2 ⟨q, Lk, v, rfl, hor, hb2⟩)
  rw [HW1.out] at hor hb2
  obtain ⟨hq, hcq, hro, hon, hpl⟩ := hor
  obtain ⟨A, c, rfl, hE, hA, hAb⟩ := row_hi (n := 0) hro
  have hs1 := HS1.out
  have hB2 : Below w.heap.size w w2 := hb1.trans (hb2.mono hb1.size)
  have hlen : Lk.length ≤ 1000 := by have := congrArg List.length hpl; rw [List.length_map] at this; have := nm.len; omega
  have hqc := hcq.cell 0
  simp only [List.getElem?_toArray, List.getElem?_cons_zero] at hqc
  have hcs2 := hcs.below' hb2
  have hcr2 := hcr.below' hb2
  have HA := Lib.hid hA; have HQ := Lib.hid hcq.lt; have HB2 := Lib.hid hB2; have HON := Lib.hid hon; have HPL := Lib.hid hpl
  have hinv : ∀ n ∈ Lk, Nd.plain n ∈ S.l := fun n hn => by rw [← hpl]; exact List.mem_map_of_mem hn
  have HINV := Lib.hid hinv
  clear KO1 hinv
  refine wp_inOrder (L := Lk) (q := q) (cap := c) (A := A) hn rfl rfl hqc hcq.lt hA hE hlen
    (fun pre W => Cells W w.heap.size 31 #[.pointer (some ⟨g, 0, none⟩)] ∧ Cells W (w.heap.size + 1) 4 #[.bool false] ∧ Below w.heap.size w W ∧ w2.heap.size ≤ W.heap.size)
    (OwnFrom.and (own_box _ _ _ (fun _ => #[.pointer (some ⟨g, 0, none⟩)])) (OwnFrom.and (own_box _ _ _ (fun _ => #[.bool false])) (OwnFrom.and (ownFrom_below (Nat.le_refl _) hB2.size) (fun s X Y row hs hg hr => Nat.le_trans hs hg.size))))
    ⟨hcs2, hcr2, hB2, Nat.le_refl _⟩
    (fun x a' W => ∃ Bx, w2.heap.size ≤ Bx ∧ Cells W Bx 51 (ndc x.1) ∧ a' = { tmps := #[.pointer (some ⟨g, 0, none⟩), .pointer (some ⟨w.heap.size, 0, none⟩), .pointer (some ⟨w.heap.size + 1, 0, none⟩), .int .i64 x.1.ino, .pointer (some ⟨Bx, 0, none⟩), .pointer (some ⟨g, 0, none⟩), .func (.func 85) #[] #[.pointer (some ⟨q, 0, none⟩)], .int .i64 x.1.ino, x.1.val, undef, undef, undef, undef, undef, undef, undef, undef, undef, undef, undef, undef, undef, undef, undef, undef, undef, undef, undef], defers := [] })
    (fun x a' _ X Y row hs hg hr => by obtain ⟨Bx, g1, g2, g3⟩ := hs; exact ⟨Bx, g1, (grownBy_keeps_cells hg (fun r e => (hr r e).2) g2 rfl).trans g2, g3⟩)
    ?assign ?body ?done
  case assign =>
    rintro lp pre ⟨⟨J, ki, l, t, u, A0, ac, P, B0, bc, N⟩, hx⟩ W K ⟨g0, g1, hB, hsz⟩ hK
    have hK' := hK { tmps := #[.pointer (some ⟨g, 0, none⟩), .pointer (some ⟨w.heap.size, 0, none⟩), .pointer (some ⟨w.heap.size + 1, 0, none⟩), .int .i64 J, .pointer (some ⟨W.heap.size, 0, none⟩), .pointer (some ⟨g, 0, none⟩), .func (.func 85) #[] #[.pointer (some ⟨q, 0, none⟩)], .int .i64 J, Nd.val ⟨J, ki, l, t, u, A0, ac, P, B0, bc, N⟩, undef, undef, undef, undef, undef, undef, undef, undef, undef, undef, undef, undef, undef, undef, undef, undef, undef, undef, undef], defers := [] } (W.alloc (.cells (ndc ⟨J, ki, l, t, u, A0, ac, P, B0, bc, N⟩) 51)) ((KeepsOthers.alloc _ _).from _)
      (Kq.grow (below_of_grown (World.grownBy_alloc W _ none)) (Nat.lt_of_lt_of_le HQ.out hsz) (fun b off e => Nat.lt_of_lt_of_le (HA.out b off e) hsz)) ⟨g0.alloc _, g1.alloc _, hB.alloc hB.size _, Nat.le_trans hsz (by simp)⟩ ⟨W.heap.size, hsz, Cells.new _ _ _, rfl⟩
    unfold Nd.val ndc ncells at hK'
    unfold Nd.val
    dsimp only at hK' ⊢
    clear hK
    gi_wp2
    exact hK'
  case body =>
    rintro lp pre ⟨⟨J, ki, l, t, u, A0, ac, P, B0, bc, N⟩, hx⟩ a' W hl9 ⟨g0, g1, hB, hsz⟩ ⟨Bx, hBx, cX, rfl⟩ hlt
    unfold ndc at cX
    dsimp only at cX
    have hmem := HINV.out _ hx
    have hsm := HSM.out _ hmem
    have how := (HON.out _ hx).below hB
    have h1' : 1 ≤ n0 - 1 - 1 := by omega
    have hrt : rightB J ki l t u P.length N.length = true := IV.out.right _ hmem
    have hrn : decide (RightN N) = true := decide_eq_true (IV.out.names _ hmem)
    have hle : J ≤ S.last := IV.out.last _ hmem
    have KR := Lib.hid (iRight J ki l t u A0 B0 P.length ac N.length bc hsm.size W)
    rw [hrt] at KR
    have KD := Lib.hid (fun wx (hb : Below W.heap.size W wx) => dRight (c := bc) ((how.below hb).ens.2) (Nat.le_refl _) (Nat.le_trans hsm.q (by decide)) hsm.sz)
    dsimp only at KD
    rw [hrn] at KD
    obtain ⟨z0, z1, z2, z3, z4, z5, z6⟩ := cells7 cX
    have q9 : decide (J > S.last) = false := decide_eq_false (by omega)
    have CX := Lib.hid cX; have G0 := Lib.hid g0; have G1 := Lib.hid g1; have HB := Lib.hid hB; have HSZ := Lib.hid hsz
    unfold nv at KR
    unfold Nd.val
    dsimp only
    clear hmem hsm how hrt hrn g0 g1 hB hsz cX
    gi_wp2_with (first
      | (refine ⟨trivial, ?_⟩; gi_at_call 167; refine (CallsIn.inRound lp (callsIn_wide.2 KR.out)).mono ?_; rintro e w6 ⟨rfl, hw6⟩; have HB6 := Lib.hid (grown_b hw6); obtain ⟨v0, v1, v2, v3, v4, v5, v6⟩ := cells7 (CX.out.below' (grown_b hw6)); clear hw6)
      | (refine ⟨trivial, ?_⟩; gi_at_call 168; refine (CallsIn.inRound lp (callsIn_wide.2 (KD.out _ HB6.out))).mono ?_; rintro e w7 ⟨rfl, hw7⟩; have HB7 := Lib.hid (HB6.out.trans ((grown_b hw7).mono HB6.out.size)); have s0 := (G0.out.below' HB7.out).cell 0; have s1 := (HH.out.below (HB.out.trans (HB7.out.mono HB.out.size))).c1; simp only [List.getElem?_toArray, List.getElem?_cons_zero] at s0; clear hw7))
    exact ⟨KeepsFrom.of_grownBy (grown_of_below HB7.out none) (fun j e => by cases e), Kq.grow HB7.out (Nat.lt_of_lt_of_le HQ.out HSZ.out) (fun b off e => Nat.lt_of_lt_of_le (HA.out b off e) HSZ.out), G0.out.below' HB7.out, G1.out.below' HB7.out, HB.out.trans (HB7.out.mono HB.out.size), Nat.le_trans HSZ.out HB7.out.size⟩
  case done =>
    rintro D ys W hD hys ⟨g0, g1, hB, hsz⟩ hK
    have c0 := g0.cell 0
    simp only [List.getElem?_toArray, List.getElem?_cons_zero] at c0
    have KI := Lib.hid (pIs (HH.out.below hB) 1 2 (by unfold i64R; omega))
    have hk2 : decide (kindS S.l 1 = 2) = true := by
      obtain ⟨r, hr, hrk⟩ := IV.out.root
      exact decide_eq_true (by rw [kind_some hr]; exact hrk)
    rw [hk2] at KI
    unfold SPtr at KI
    have G1 := Lib.hid g1; have HB := Lib.hid hB; have HKD := Lib.hid hK; have HD := Lib.hid hD; have HSZ := Lib.hid hsz
    clear g0 g1 hB hK hk2 hsz
    gi_wp2_with (refine ⟨trivial, ?_⟩; gi_at_call 137; refine (callsIn_wide.2 KI.out).mono ?_; rintro e w6 ⟨rfl, hw6⟩; have HB6 := Lib.hid (grown_b hw6); have hc6 := G1.out.below' (grown_b hw6); have HC6 := Lib.hid hc6; have f6 := hc6.free 0; have r6 := hc6.cell 0; simp only [List.getElem?_toArray, List.getElem?_cons_zero] at r6; clear hw6 hc6)
    have hDl : D < W.heap.size := (Array.getElem?_eq_some_iff.1 HKD.out).1
    have hK' := (KeepsOthers.setCell w6 ⟨w.heap.size + 1, 0, none⟩ (.bool true)).same D _ ((HB6.out.block D hDl).trans HKD.out) rfl
    refine ⟨by simp, .inl ⟨_, _, rfl, run_takeDeferred hK', ?_⟩⟩
    have hR2 : Cells (w6.setCell ⟨w.heap.size + 1, 0, none⟩ (.bool true)) (w.heap.size + 1) 4 #[.bool true] := HC6.out.set 0 (.bool true)
    have hR3 := (grownBy_keeps_cells (grownBy_putObj' _ D (.deferred none)) (fun r e => by cases e; exact ⟨_, hK', rfl⟩) hR2 rfl).trans hR2
    have cR3 := Cells.cell hR3 0
    simp at cR3
    refine ⟨.bool true, ?_, rfl, ((HB.out.trans (HB6.out.mono HB.out.size)).setCell (p := ⟨w.heap.size + 1, 0, none⟩) (by simp) _).trans (belowK_b (w := w) (Nat.le_refl _) _ D _ _ (by have := HB2.out.size; have := HD.out; omega) hK' rfl rfl)⟩
    simp [results, Tryz.f119, go_sem, cR3]
end
end Go.Proofs.YtbejbiogabpmfaaGreat

/-! The project's rightWays. -/
namespace Go.Proofs.YtbejbiogabpmfaaGreat
open Wd Ino Sm U Go.RowKit Go.ChangeShapes Go.WideShapes Go.Shelf Go.Sort
set_option linter.unusedVariables false
set_option maxRecDepth 100000
def RyRel (S : Stt) (w : World) (f i : Value) (wr : World) : Prop := ∃ (F : List Int) (k : Nat), k ≤ F.length ∧ i = .int .i64 k ∧ Bf S k 0 F ∧ OwnI wr w.heap.size f F ∧ Below w.heap.size w wr
def RxRel (S : Stt) (w wo : World) (i : Nat) (d : Int) (N : List Ent) (f j : Value) (wr : World) : Prop := ∃ (F : List Int) (k : Nat), k ≤ N.length ∧ j = .int .i64 k ∧ F[i]? = some d ∧ Bf S i k F ∧ OwnI wr w.heap.size f F ∧ Below w.heap.size w wr
section
variable {w : World} {base m g b : Nat} {S : Stt}
set_option maxHeartbeats 16000000 in
theorem pRightWays (h : PSt w base m g b S) (iv : Inv S) {k0 : Nat} (nm : Num k0 S) (hk0 : k0 ≤ 900) (hm : m < 999900) : Calls Tryz.prog 121 #[SPtr g] w fun e w' => e = .returned (.bool true) ∧ Below w.heap.size w w' := by
  have hs := iv.smN nm hk0
  have hl : S.l.length ≤ 1000 := by have := nm.len; omega
  have KD := Lib.hid (fun wx (hb : Below w.heap.size w wx) => (callsIn_wide (n := 3)).1 (pDirs_in 3 (Nat.le_refl _) (h.below hb) iv.asc hs hl hm))
  have HH := Lib.hid h; have HSM := Lib.hid hs; have IV := Lib.hid iv; have HL := Lib.hid hl
  have H1 := Lib.hid (Bf.start iv)
  have HC0 := Lib.hid h.c0
  clear h iv nm hs hl
  unfold SPtr at *
  go_enter Tryz.func121, Tryz.ntmps121
  have HOW := Lib.hid (show OwnI (w.alloc (.cells #[.int .i64 1] 3)) w.heap.size (.slice (some ⟨w.heap.size, 0, none⟩) 1 1) [1] from ⟨rfl, Or.inr ⟨w.heap.size, 1, #[.int .i64 1], rfl, Nat.le_refl _, Cells.new _ _ _, Nat.le_refl _, by unfold maxLen; omega, rfl, rfl⟩⟩)
  have HB0 := Lib.hid (show Below w.heap.size w (w.alloc (.cells #[.int .i64 1] 3)) from below_of_grown (World.grownBy_alloc w _ none))
  go_wp2
  go_loopw [3, 4] (fun f i wr => RyRel S w f i wr) (fun f i _ => S.l.length - (intOf i).toNat)
  case atStart => exact ⟨[1], 0, by decide, rfl, H1.out, HOW.out, HB0.out⟩
  case round =>
    obtain ⟨F, k, hk, rfl, hbf, how, hB⟩ := hrel
    obtain ⟨wo, rfl⟩ : ∃ wo : World, wo = wr := ⟨_, rfl⟩
    have hFl := hbf.len
    obtain ⟨A, c, rfl, hrow⟩ := how.row
    have c0 := (HH.out.below hB).c0
    have HB := Lib.hid hB; have HOW2 := Lib.hid how; have HFL := Lib.hid hFl
    by_cases hlt : k < F.length
    · obtain ⟨b1, o1, d, rfl, hb1, hd, cx⟩ := getI hrow hlt
      have hlt2 : (k : Int) < (F.length : Int) := Int.ofNat_lt.2 hlt
      have hkd := hbf.kind d (List.mem_of_getElem? hd)
      obtain ⟨nd, hnd, hndm, hndi, hns⟩ := names_of hkd
      have hdi : i64R d := by rw [← hndi]; exact (HSM.out _ hndm).ino
      obtain ⟨n, hn, ho, lk⟩ := HH.out.look hdi
      have lk0 := lk wo (hB.block b HH.out.blt)
      have lk1 := lk wo.drew (hB.block b HH.out.blt)
      have hN : namesS S.l d = n.names := by unfold namesS; rw [← hn]; rfl
      have hmem : n.plain = nd := by rw [hn]; exact getS_some hnd
      obtain ⟨J, ki, l, t, u, A0, ac, P, B0, bc, N⟩ := n
      have HSMN := Lib.hid (HSM.out _ hndm)
      have HMEM := Lib.hid hmem
      have hNl : N.length ≤ 1000 := by have := Nat.le_trans (HSM.out _ hndm).q (show _ ≤ 1000 by decide); rw [← hmem] at this; exact this
      have hkb : k ≤ 1000 := by have := HL.out; omega
      have HO := Lib.hid ho; have HN := Lib.hid hN; have HD := Lib.hid hd; have HBF := Lib.hid hbf; have HLT := Lib.hid hlt
      unfold Nd.val at lk0 lk1
      dsimp only at lk0 lk1
      clear hB how hFl hrow hlt hd hkd hnd hndm hndi hns hdi hn ho lk hN hmem hbf hk
      go_wp2
      go_region
      go_wp2
      go_loopw [3, 25] (fun f j wr => RxRel S w wo k d N f j wr) (fun f j _ => N.length - (intOf j).toNat)
      case atStart => exact ⟨F, 0, Nat.zero_le _, rfl, HD.out, HBF.out, own_below HOW2.out (below_drewN (Below.refl _ _) 1), below_drewN HB.out 1⟩
      case round =>
        obtain ⟨F2, j, hj, rfl, hd2, hbf2, how2, hB2⟩ := hrel
        have hF2 := hbf2.len
        by_cases hjl : j < N.length
        · obtain ⟨e, he⟩ : ∃ e, N[j]? = some e := ⟨_, List.getElem?_eq_getElem hjl⟩
          have hon := (HO.out.below hB2).ens.2
          obtain ⟨b2, o2, hA2, hbb, x0, x1⟩ := ens_cells hon he
          dsimp only at hA2 x0 x1
          have hjl2 : (j : Int) < (N.length : Int) := Int.ofNat_lt.2 hjl
          have hxi : i64R e.n := by have := HSMN.out.nm; rw [← HMEM.out] at this; exact this e (List.mem_of_getElem? he)
          have hen : (namesS S.l d)[j]? = some e := by rw [HN.out]; exact he
          have KI := Lib.hid (fun wx (hb : Below wr.heap.size wr wx) => pIs (HH.out.below (hB2.trans (hb.mono hB2.size))) e.n 2 hxi)
          have hC := Cells.new wr 103 #[.string e.s, .int .i64 e.n]
          have hbA : Below wr.heap.size wr (wr.alloc (.cells #[.string e.s, .int .i64 e.n] 103)) := below_of_grown (World.grownBy_alloc wr _ none)
          have HC := Lib.hid hC; have HBA := Lib.hid hbA; have HEN := Lib.hid hen; have HJL := Lib.hid hjl
          have HOW3 := Lib.hid how2; have HBF2 := Lib.hid hbf2; have HB2 := Lib.hid hB2; have HD2 := Lib.hid hd2; have HF2 := Lib.hid hF2
          subst hA2
          unfold SPtr at KI
          by_cases hkk : kindS S.l e.n = 2
          · rw [decide_eq_true hkk] at KI
            have HBN := Lib.hid (hbf2.new IV.out hd2 hen hkk)
            clear hC hbA hen hjl how2 hbf2 hB2 hd2 hF2 he hj hbb hon hkk hxi
            go_wp2_with fail
            refine (KI.out _ HBA.out).mono ?_
            rintro e' w3 ⟨rfl, hw3⟩
            have hb3 : Below wr.heap.size wr w3 := HBA.out.trans ((grown_b hw3).mono HBA.out.size)
            have hc3 := (HC.out.below' (grown_b hw3)).cell 1
            simp only [List.getElem?_toArray, List.getElem?_cons_zero, List.getElem?_cons_succ] at hc3
            obtain ⟨A3, c3, rfl, _⟩ := HOW3.out.row
            have HO2 := Lib.hid (show (w3.alloc (.cells #[.int .i64 e.n] 3)).ownsRow w.heap.size 3 1 (.slice A3 F2.length c3) F2.length (F2.map iv) from own_below HOW3.out (hb3.trans ((below_of_grown (World.grownBy_alloc w3 _ none)).mono hb3.size)))
            have HR2 := Lib.hid (Row.one w3 (.int .i64 e.n) 3)
            have hle2 : F2.length + 1 ≤ 1001 := by have := HF2.out; have := HL.out; omega
            have HB3 := Lib.hid (HB2.out.trans (hb3.mono HB2.out.size))
            have hz3 := HB3.out.size
            clear hw3 hb3
            go_wp2_with (at_builtin; refine wpList_append_row _ rfl (.tmp 33) (.tmp 36) 40 rfl w.heap.size 3 (.int .i64 0) 8 Tryz.underlying40 infoI rfl (.slice A3 F2.length c3) F2.length (F2.map iv) rfl HO2.out _ (some ⟨w3.heap.size, 0, none⟩) 1 1 [.int .i64 e.n] rfl HR2.out (by simp [Value.oneCell']) (by unfold maxLen; omega) (by omega) (by simp <;> omega) ?_; intro v5 w5 hown5 hgr5 hat5; have HO5 := Lib.hid hown5; have HB5 := Lib.hid ((HB3.out.alloc hz3 (.cells #[.int .i64 e.n] 3)).grown hgr5 (by simp <;> omega) (own_base HO2.out)); clear hown5 hgr5 hat5)
            go_roundw
            case rel => exact ⟨F2 ++ [e.n], j + 1, HJL.out, by go_num, by rw [List.getElem?_append_left (List.getElem?_eq_some_iff.1 HD2.out).1]; exact HD2.out, HBN.out, by unfold OwnI; rw [List.length_append, List.map_append]; exact HO5.out, HB5.out⟩
            case measure => simp [intOf]; have := HJL.out; omega
          · rw [decide_eq_false hkk] at KI
            have HBN := Lib.hid (hbf2.skip hd2 hen hkk)
            clear hC hbA hen hjl how2 hbf2 hB2 hd2 hF2 he hj hbb hon hkk hxi
            go_wp2_with fail
            refine (KI.out _ HBA.out).mono ?_
            rintro e' w3 ⟨rfl, hw3⟩
            have hb3 : Below wr.heap.size wr w3 := HBA.out.trans ((grown_b hw3).mono HBA.out.size)
            have HB3 := Lib.hid hb3
            clear hw3 hb3
            go_wp2
            go_roundw
            case rel => exact ⟨F2, j + 1, HJL.out, by go_num, HD2.out, HBN.out, own_below HOW3.out HB3.out, HB2.out.trans (HB3.out.mono HB2.out.size)⟩
            case measure => simp [intOf]; have := HJL.out; omega
        · obtain rfl : j = N.length := by omega
          have HBT := Lib.hid (Bf.turn IV.out hd2 (by rw [HN.out]; exact hbf2))
          have hkl := (List.getElem?_eq_some_iff.1 hd2).1
          have HKL := Lib.hid hkl; have HOW3 := Lib.hid how2; have HB2 := Lib.hid hB2; have HF2 := Lib.hid hF2
          clear hd2 hbf2 how2 hB2 hF2 hj hjl hkl
          go_wp2
          go_roundw
          case rel => exact ⟨F2, k + 1, HKL.out, by go_num, HBT.out, HOW3.out, HB2.out⟩
          case measure => simp [intOf]; have := HKL.out; have := HF2.out; omega
    · obtain rfl : k = F.length := by omega
      have HE := Lib.hid (Bf.end_ IV.out hbf)
      have KD2 := Lib.hid (KD.out wo hB)
      clear hB how hFl hrow hlt hbf hk
      go_wp2_with fail
      refine KD2.out.mono ?_
      rintro e' w3 ⟨rfl, hw3⟩
      have HB3 := Lib.hid (HB.out.trans (hw3.mono HB.out.size))
      have q1 : ((F.length : Int) == (dirsN S.l : Int)) = true := by rw [HE.out]; simp
      clear hw3
      go_wp2
      go_ret
      exact ⟨rfl, HB3.out⟩
end
end Go.Proofs.YtbejbiogabpmfaaGreat
