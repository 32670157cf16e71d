import Derived.Test.YtamndllolppmoaaGreatDoorG17

/-! The project's State: a page is written. -/
namespace Go.Proofs.YtamndllolppmoaaGreatDoor
open Wd Ino Sm Go.RowKit Go.ChangeShapes Go.WideShapes Go.Sort
set_option linter.unusedVariables false
set_option maxRecDepth 100000
theorem OwnNd.ok {w : World} {base : Nat} {n : Nd} (h : OwnNd w base n) (sm : SmN n.plain) : n.Ok w w.heap.size :=
  (OwnN.mk (w := w) (base := base) (V := n.val) rfl h.1 h.2).ok sm.ino sm.kind sm.links sm.size sm.up sm.pg (fun e he => ⟨by have := sm.sz e he; unfold maxLen; omega, sm.nm e he⟩)
theorem ownI_one {W : Nat} (w : World) (x : Int) (hW : W ≤ w.heap.size) : OwnI (w.alloc (.cells #[.int .i64 x] 3)) W (.slice (some ⟨w.heap.size, 0, none⟩) 1 1) [x] := by
  refine ⟨rfl, .inr ⟨w.heap.size, 1, #[.int .i64 x], rfl, hW, Cells.new _ _ _, Nat.le_refl _, by decide, rfl, rfl⟩⟩
section
variable {w : World} {base m g b : Nat} {S : Stt}
set_option maxHeartbeats 4000000 in
theorem pWrite (h : PSt w base m g b S) (bs : Bas S) (hm : m < 999900) (e : Eff) (eb : EfB e) (ref : Int) (hpo : putOk e.page e.size = true) :
    Calls Tryz.prog 79 #[SPtr g, e.val, .int .i64 ref] w (RGo (writeS S e ref) S base m g b w) := by
  have hfol : Tryz.prog.follows .mixedOrders = true := by kernel_rfl
  obtain ⟨w1, hw1⟩ : ∃ w1, w.alloc (.cells (effCells e) 50) = w1 := ⟨_, rfl⟩
  have hg1 : Below w.heap.size w w1 := by rw [← hw1]; exact below_of_grown (World.grownBy_alloc w (.cells (effCells e) 50) none)
  have hc1 : Cells w1 w.heap.size 50 (effCells e) := by rw [← hw1]; exact Cells.new w 50 (effCells e)
  have h1 := h.below hg1
  obtain ⟨n, hn, ho, lk⟩ := h1.look eb.ino'
  obtain ⟨j, ki, l, t, u, A0, ac, P, B, bc, N⟩ := n
  obtain ⟨w2, hw2⟩ : ∃ w2, w1.alloc (.cells (ncells 0 0 0 0 0 (.slice none 0 0) (.slice none 0 0)) 38) = w2 := ⟨_, rfl⟩
  have hg2 : Below w1.heap.size w1 w2 := by rw [← hw2]; exact below_of_grown (World.grownBy_alloc _ _ none)
  have lk1 := lk w1.drew rfl
  have lk2 := lk w2.drew (hg2.block b h1.blt)
  have c01 := h1.c0
  have c02 := (h1.below hg2).c0
  obtain ⟨_, e1, _, _, _, _, _, _, _⟩ := cells9 hc1
  obtain ⟨_, f1, _, _, _, _, _, _, _⟩ := cells9 (hc1.below' hg2)
  have hz : Cells w2 w1.heap.size 38 (ncells 0 0 0 0 0 (.slice none 0 0) (.slice none 0 0)) := by rw [← hw2]; exact Cells.new _ _ _
  have HZ := Lib.hid hz
  have HG2 := Lib.hid hg2
  obtain ⟨kind, ino, dir, dst, page, size, name, other, A, cp, data⟩ := e
  unfold Eff.val
  unfold effCells at hw1
  unfold ncells at hw2
  unfold Nd.val at lk1 lk2
  dsimp only at *
  unfold SPtr at *
  go_enter Tryz.func79, Tryz.ntmps79
  go_upto_region 1 with fail
  go_cut [8] from 10 to 16 (fun p wx => p = .pointer (some ⟨w1.heap.size, 0, none⟩) ∧ Cells wx w1.heap.size 38 (ncells j ki l t u (.slice A0 P.length ac) (.slice B N.length bc)) ∧ Below w1.heap.size w1 wx)
  case first =>
    obtain ⟨z0, z1, z2, z3, z4, z5, z6⟩ := cells7 hz
    have r0 := hz.free 0; have r1 := hz.free 1; have r2 := hz.free 2; have r3 := hz.free 3; have r4 := hz.free 4; have r5 := hz.free 5; have r6 := hz.free 6
    clear hz
    go_region
    obtain ⟨wz, hwz⟩ : ∃ wz, set7 w2 w1.heap.size j ki l t u (.slice A0 P.length ac) (.slice B N.length bc) = wz := ⟨_, rfl⟩
    have hcz : Cells wz w1.heap.size 38 (ncells j ki l t u (.slice A0 P.length ac) (.slice B N.length bc)) := by rw [← hwz]; exact set7_cells (w := w2) HZ.out
    have hbz : Below w1.heap.size w1 wz := by rw [← hwz]; exact set7_below (w := w2) HG2.out (Nat.le_refl _)
    unfold set7 at hwz
    rw [hwz]
    have HCZ := Lib.hid hcz; have HBZ := Lib.hid hbz
    clear hwz hcz hbz z0 z1 z2 z3 z4 z5 z6 r0 r1 r2 r3 r4 r5 r6
    go_wp2_with fail
    go_meet
    exact ⟨rfl, HCZ.out, HBZ.out.drew⟩
  case rest =>
    obtain ⟨rfl, hcn, hbw⟩ := hcut
    have h3 := h1.below hbw
    have hsm := bs.sm.get ino
    rw [← hn] at hsm
    have hD : writeS S ⟨kind, ino, dir, dst, page, size, name, other, A, cp, data⟩ ref = if ki = 1 ∧ t ≤ size then some (⟨modS S.l ino (putNod page ref size), S.last⟩, oneP (putV P page size)) else none := by
      unfold writeS kindS; rw [← hn]; rfl
    have HD := Lib.hid hD
    have ho3 := ho.below hbw
    have KP := Lib.hid (iPut ⟨j, ki, l, t, u, A0, ac, P, B, bc, N⟩ page ref size eb.size wc (ho3.ok hsm) hsm.p (Nat.le_trans hsm.q (by decide)) hsm.sz)
    have H3 := Lib.hid h3; have HCN := Lib.hid hcn
    have HBW := Lib.hid (And.intro hg1 hbw)
    have EB := Lib.hid eb; have HM := Lib.hid hm; have HN := Lib.hid hn; have HPO := Lib.hid hpo
    obtain ⟨z0, z1, z2, z3, z4, z5, z6⟩ := cells7 hcn
    have c0 := h3.c0
    obtain ⟨_, y1, _, _, y4, y5, _, _, _⟩ := cells9 (e := ⟨kind, ino, dir, dst, page, size, name, other, A, cp, data⟩) (hc1.below' hbw)
    have HC1 := Lib.hid (hc1.below' hbw)
    unfold Nd.val at KP
    dsimp only at KP
    clear hcn hbw hw1 hw2 lk1 lk2 lk c01 c02 e1 f1 HZ HG2 hz h1 hg1 hg2 hc1 h3 hsm hD hn ho ho3 h bs eb hpo hm
    by_cases hk : ki = 1
    · have q0 : (ki != 1) = false := by simpa using hk
      by_cases hl : t ≤ size
      · have q1 : decide (size < t) = false := decide_eq_false (by omega)
        have HD2 := Lib.hid (show writeS S ⟨kind, ino, dir, dst, page, size, name, other, A, cp, data⟩ ref = some (⟨modS S.l ino (putNod page ref size), S.last⟩, oneP (putV P page size)) by rw [HD.out, if_pos ⟨hk, hl⟩])
        have HA := Lib.hid (show ∃ n0, atS S.l ino = some n0 ∧ (⟨j, ki, l, t, u, A0, ac, P, B, bc, N⟩ : Nd).plain = n0 by
          obtain ⟨n0, a0, a1⟩ := at_of_kind (l := S.l) (i := ino) (by unfold kindS; rw [← HN.out]; show ki ≠ 0; omega)
          exact ⟨n0, a0, HN.out.trans a1⟩)
        clear hk hl
        go_wp2_with fail
        refine (KP.out).mono ?_
        rintro e' w5 ⟨V, A5, ac5, B5, bc5, rfl, ho5, hb5⟩
        rw [if_pos HPO.out] at ho5 ⊢
        rw [if_pos HPO.out] at ho5
        dsimp only at ho5
        obtain ⟨rfl, ow5⟩ := ho5.nd
        have HC5 := Lib.hid (HCN.out.below' hb5)
        have r0 := HC5.out.free 0; have r1 := HC5.out.free 1; have r2 := HC5.out.free 2; have r3 := HC5.out.free 3; have r4 := HC5.out.free 4; have r5 := HC5.out.free 5; have r6 := HC5.out.free 6
        obtain ⟨z0, z1, z2, z3, z4, z5, z6⟩ := cells7 HC5.out
        unfold Nd.val
        dsimp only
        have OW5 := Lib.hid ow5; have HB5 := Lib.hid hb5
        obtain ⟨st, hst⟩ : ∃ st, putV P page size = st := ⟨_, rfl⟩
        rw [hst] at HD2
        rw [hst]
        clear ow5 hb5 ho5 hst
        go_wp2_with fail
        obtain ⟨w6, hw6⟩ : ∃ w6, set7 w5 w1.heap.size j ki l size u (.slice A5 (putP P page ref size).length ac5) (.slice B5 N.length bc5) = w6 := ⟨_, rfl⟩
        have hc6 : Cells w6 w1.heap.size 38 (ncells j ki l size u (.slice A5 (putP P page ref size).length ac5) (.slice B5 N.length bc5)) := by rw [← hw6]; exact set7_cells HC5.out
        have hb6 : Below w1.heap.size w1 w6 := by rw [← hw6]; exact set7_below (HBW.out.2.trans (HB5.out.mono HBW.out.2.size)) (Nat.le_refl _)
        have hk6 : ∀ q, q ≠ w1.heap.size → w6.heap[q]? = w5.heap[q]? := fun q hq => by rw [← hw6]; exact set7_heap hq
        have hK6 : KeepC [38] w5 w6 := fun q t cs ht hc => by
          refine (hk6 q (fun e => ht ?_)).trans hc
          subst e
          have : t = 38 := Decidable.byContradiction fun hne => hc.ne HC5.out hne rfl
          rw [this]; exact List.mem_singleton.2 rfl
        have h5 := H3.out.below HB5.out
        have h6 := h5.keep hK6 (by decide) (by decide) (by decide) (hk6 b (fun e => by
          obtain ⟨G, hG, _⟩ := h5.mp
          exact hG.cells HC5.out e))
        have he6 := hK6 _ _ _ (by decide) (HC1.out.below' HB5.out)
        have T6 := Lib.hid (Trn.of (S := [g, b]) (HBW.out.1.trans (hb6.mono HBW.out.1.size)))
        have ow6 := OW5.out.keep hK6 (by decide) (by decide)
        unfold set7 at hw6
        rw [hw6]
        obtain ⟨z0, z1, z2, z3, z4, z5, z6⟩ := cells7 hc6
        obtain ⟨_, y1, _, _, _, _, _, _, _⟩ := cells9 (e := ⟨kind, ino, dir, dst, page, size, name, other, A, cp, data⟩) he6
        have c0 := h6.c0
        have H6 := Lib.hid h6; have OW6 := Lib.hid ow6
        have HBS := Lib.hid (show base ≤ wc.heap.size by have := H3.out.lo; have := H3.out.cells.lt; omega)
        clear hw6 hc6 hb6 hk6 hK6 h5 h6 he6 ow6 r0 r1 r2 r3 r4 r5 r6
        go_still_tail 7, (by kernel_rfl)
        change wpList _ _ _ _ _ w6.drew
        obtain ⟨n0, a0, a1⟩ := HA.out
        have hm2 : m < 1000000 := by have := HM.out; omega
        obtain ⟨w7, hrun, hP7, hT7⟩ := (H6.out.below (Below.refl _ _).drew).store hm2 EB.out.ino' (x := ino) (n := ⟨j, ki, l, size, u, A5, ac5, putP P page ref size, B5, bc5, N⟩)
          ((OW6.out.below (Below.refl _ _).drew).mono HBS.out)
          (l' := modS S.l ino (putNod page ref size)) (fun x => by rw [at_modS (f := putNod page ref size) (fun _ => rfl) a0, ← a1]; rfl)
        have HP7 := Lib.hid hP7
        have T7 := Lib.hid (T6.out.drew.trans (Trn.map hT7 (S := [g, b]) (List.mem_cons_of_mem _ (List.mem_singleton.2 rfl))))
        unfold Nd.val at hrun
        dsimp only at hrun
        clear hT7 hP7 a0 a1
        by_cases hs0 : st = 0
        · have q3 : (st == 0) = true := by simpa using hs0
          have HOP := Lib.hid (show oneP st = [] by unfold oneP; rw [if_pos hs0])
          clear hs0
          go_wp2_with fail
          go_ret2
          rw [HD2.out, HOP.out]
          exact ⟨_, rfl, OwnI.nil _ _, HP7.out.more (by omega), T7.out⟩
        · have q3 : (st == 0) = false := by simpa using hs0
          have HOP := Lib.hid (show oneP st = [st] by unfold oneP; rw [if_neg hs0])
          clear hs0
          go_wp2_with fail
          go_ret2
          rw [HD2.out, HOP.out]
          exact ⟨_, rfl, ownI_one w7 st T7.out.size, (HP7.out.below (below_of_grown (World.grownBy_alloc _ _ none))).more (by omega), T7.out.alloc _⟩
      · have q1 : decide (size < t) = true := decide_eq_true (by omega)
        have HD2 := Lib.hid (show writeS S ⟨kind, ino, dir, dst, page, size, name, other, A, cp, data⟩ ref = none by rw [HD.out, if_neg (fun hh => hl hh.2)])
        clear hk hl
        go_wp2
        go_ret2
        rw [HD2.out]
        exact ⟨_, rfl, OwnI.nil _ _, H3.out.more (by omega), Trn.of (HBW.out.1.trans (HBW.out.2.mono HBW.out.1.size))⟩
    · have q0 : (ki != 1) = true := by simpa using hk
      have HD2 := Lib.hid (show writeS S ⟨kind, ino, dir, dst, page, size, name, other, A, cp, data⟩ ref = none by rw [HD.out, if_neg (fun hh => hk hh.1)])
      clear hk
      go_wp2
      go_ret2
      rw [HD2.out]
      exact ⟨_, rfl, OwnI.nil _ _, H3.out.more (by omega), Trn.of (HBW.out.1.trans (HBW.out.2.mono HBW.out.1.size))⟩
end
end Go.Proofs.YtamndllolppmoaaGreatDoor

/-! The project's State: a name goes, and what it named. -/
namespace Go.Proofs.YtamndllolppmoaaGreatDoor
open Wd Ino Sm Go.RowKit Go.ChangeShapes Go.WideShapes Go.Sort
set_option linter.unusedVariables false
set_option maxRecDepth 100000
theorem at_leave {l : List Nod} {d : Int} {s : ByteArray} {i : Int} {n : Nod} (h : atS l i = some n) : ∃ n1, atS (leaveS l d s) i = some n1 ∧ n1.links = n.links ∧ n1.kind = n.kind := by
  refine ⟨if i = d then cutNm s n else n, ?_, ?_, ?_⟩
  · unfold leaveS; rw [atS_mod (f := cutNm s) (fun _ => rfl), h]; rfl
  · split <;> rfl
  · split <;> rfl
theorem loose_at {l : List Nod} {i k : Int} (hk : k ≠ 0) (h : looseS l i k = true) : ∃ n, atS l i = some n ∧ n.kind = k ∧ n.names = [] ∧ i ≠ 1 := by
  unfold looseS at h
  rw [Bool.and_eq_true, Bool.and_eq_true] at h
  obtain ⟨h1, h2, h3⟩ := h
  have h1 := of_decide_eq_true h1
  obtain ⟨n, a, b⟩ := at_of_kind (l := l) (i := i) (by omega)
  refine ⟨n, a, ?_, ?_, by simpa using h2⟩
  · unfold kindS at h1; rw [b] at h1; exact h1
  · have h3 := of_decide_eq_true h3; unfold namesS at h3; rw [b] at h3; exact h3
theorem has_at {l : List Nod} {d : Int} {s : ByteArray} {i : Int} (h : hasS l d s i = true) : ∃ n, atS l d = some n ∧ hasN s n.names = true ∧ inoN s n.names = i := by
  unfold hasS at h
  rw [Bool.and_eq_true] at h
  obtain ⟨n, a, b⟩ := at_of_has h.1
  have h2 := of_decide_eq_true h.2
  unfold namesS at h h2
  rw [b] at h h2
  exact ⟨n, a, h.1, h2⟩
section
variable {w : World} {base m g b : Nat} {S : Stt}
set_option maxHeartbeats 4000000 in
theorem pRemove (h : PSt w base m g b S) (bs : Bas S) (hm : m < 999900) (e : Eff) (eb : EfB e) (k : Int) (hk : k ≠ 0) :
    Calls Tryz.prog 76 #[SPtr g, e.val, .int .i64 k] w (BGo (removeS S e k) S base m g b w) := by
  obtain ⟨w1, hw1⟩ : ∃ w1, w.alloc (.cells (effCells e) 50) = w1 := ⟨_, rfl⟩
  have hg1 : Below w.heap.size w w1 := by rw [← hw1]; exact below_of_grown (World.grownBy_alloc w (.cells (effCells e) 50) none)
  have hc1 : Cells w1 w.heap.size 50 (effCells e) := by rw [← hw1]; exact Cells.new w 50 (effCells e)
  have h1 := h.below hg1
  have KH := Lib.hid (pHas h1 bs.sm e.dir eb.dir e.name e.ino)
  have KL := Lib.hid (fun wx (hb : ∃ q os, wx = grow (w1.drewN q) os) => pLoose (h1.below (grown_b hb)) e.ino k eb.ino')
  obtain ⟨X, hX⟩ : ∃ K, hasS S.l e.dir e.name e.ino = K := ⟨_, rfl⟩
  obtain ⟨Y, hY⟩ : ∃ K, looseS S.l e.ino k = K := ⟨_, rfl⟩
  rw [hX] at KH
  rw [hY] at KL
  have HX := Lib.hid hX; have HY := Lib.hid hY
  obtain ⟨_, e1, e2, _, _, _, e6, _, _⟩ := cells9 hc1
  have HK := Lib.hid hk
  have HD := Lib.hid (show removeS S e k = if (X && Y) = true then some ⟨forgetS S.l e.dir e.name e.ino, S.last⟩ else none by unfold removeS; rw [hX, hY])
  have H1 := Lib.hid h1; have HC1 := Lib.hid hc1; have HG1 := Lib.hid hg1; have HM := Lib.hid hm; have EB := Lib.hid eb; have BS := Lib.hid bs
  have NO : removeS S e k = none → ∀ wx, (∃ q os, wx = grow (w1.drewN q) os) → BGo (removeS S e k) S base m g b w (.returned (.bool false)) wx := fun he wx hg => by
    rw [he]
    exact ⟨rfl, (H1.out.below (grown_b hg)).more (by omega), (Trn.of (HG1.out.trans ((grown_b hg).mono HG1.out.size)))⟩
  have HNO := Lib.hid NO
  obtain ⟨kind, ino, dir, dst, page, size, name, other, A, cp, data⟩ := e
  unfold Eff.val
  unfold effCells at hw1
  dsimp only at *
  unfold SPtr at *
  clear h h1 hc1 hg1 hm eb bs hX hY hk NO
  go_enter Tryz.func76, Tryz.ntmps76
  go_wp2_with fail
  clear hw1
  refine (KH.out).mono ?_
  rintro e' w2 ⟨rfl, hw2⟩
  have HG2 := Lib.hid hw2
  have HC2 := Lib.hid (HC1.out.below' (grown_b hw2))
  obtain ⟨_, f1, f2, _, _, _, f6, _, _⟩ := cells9 (e := ⟨kind, ino, dir, dst, page, size, name, other, A, cp, data⟩) HC2.out
  have KL2 := Lib.hid (KL.out _ hw2)
  clear hw2 KH e1 e2 e6
  cases X with
  | false =>
    go_wp2
    go_ret
    exact HNO.out (by rw [HD.out]; rfl) _ HG2.out
  | true =>
    go_wp2_with fail
    refine (KL2.out).mono ?_
    rintro e' w3 ⟨rfl, hw3⟩
    have HG3 := Lib.hid (grow_trans HG2.out hw3)
    have HC3 := Lib.hid (HC2.out.below' (grown_b hw3))
    obtain ⟨_, g1, g2, _, _, _, g6, _, _⟩ := cells9 (e := ⟨kind, ino, dir, dst, page, size, name, other, A, cp, data⟩) HC3.out
    clear hw3 KL KL2 f1 f2 f6
    cases Y with
    | false =>
      go_wp2
      go_ret
      exact HNO.out (by rw [HD.out]; rfl) _ HG3.out
    | true =>
      obtain ⟨n0, a0, _, _⟩ := has_at HX.out
      obtain ⟨n1, b0, _, _, _⟩ := loose_at HK.out HY.out
      obtain ⟨n2, c0, c1, _⟩ := at_leave (d := dir) (s := name) b0
      have hlk := BS.out.lk n1 (atS_mem b0)
      have KF := Lib.hid (pForget (H1.out.below (grown_b HG3.out)) BS.out.sm (by have := HM.out; omega) dir EB.out.dir a0 name ino EB.out.ino' c0 (by omega) (by omega))
      have HD2 := Lib.hid (show removeS S ⟨kind, ino, dir, dst, page, size, name, other, A, cp, data⟩ k = some ⟨forgetS S.l dir name ino, S.last⟩ by rw [HD.out]; rfl)
      unfold SPtr at KF
      clear a0 b0 c0 c1 hlk
      go_wp2_with fail
      refine (KF.out).mono ?_
      rintro e' w4 ⟨rfl, h4, t4⟩
      have H4 := Lib.hid h4
      have T4 := Lib.hid ((Trn.of (S := [g, b]) (HG1.out.trans ((grown_b HG3.out).mono HG1.out.size))).trans t4)
      clear h4 t4
      go_wp2
      go_ret
      rw [HD2.out]
      exact ⟨rfl, H4.out.more (by omega), T4.out⟩
end
end Go.Proofs.YtamndllolppmoaaGreatDoor

/-! The project's State: a name moves. -/
namespace Go.Proofs.YtamndllolppmoaaGreatDoor
open Wd Ino Sm Go.RowKit Go.ChangeShapes Go.WideShapes Go.Sort
set_option linter.unusedVariables false
set_option maxRecDepth 100000
theorem SmN.cut {n : Nod} (h : SmN n) (s : ByteArray) : SmN (cutNm s n) :=
  ⟨h.p, Nat.le_trans (dropN_len s n.names) h.q, fun e he => h.sz e (mem_dropN he), h.ino, h.kind, h.links, h.size, h.up, h.pg, fun e he => h.nm e (mem_dropN he)⟩
theorem SmS.leave {l : List Nod} (h : SmS l) (d : Int) (s : ByteArray) : SmS (leaveS l d s) := h.mod fun n _ sn => sn.cut s
theorem SmS.rm {l : List Nod} (h : SmS l) (i : Int) : SmS (rmS l i) := fun n hn => h n (List.mem_filter.1 hn).1
theorem leave_links {l : List Nod} (hl : ∀ n ∈ l, 0 ≤ n.links ∧ n.links ≤ 16) (d : Int) (s : ByteArray) : ∀ n ∈ leaveS l d s, 0 ≤ n.links ∧ n.links ≤ 16 := fun n hn => by
  unfold leaveS modS at hn
  obtain ⟨a, ha, rfl⟩ := List.mem_map.1 hn
  split
  · exact hl a ha
  · exact hl a ha
theorem SmS.forget {l : List Nod} (h : SmS l) (hl : ∀ n ∈ l, 0 ≤ n.links ∧ n.links ≤ 16) (d : Int) (s : ByteArray) (i : Int) : SmS (forgetS l d s i) := by
  unfold forgetS
  split
  · exact (h.leave d s).rm i
  · exact (h.leave d s).mod fun n hn sn => sn.links_ (by have := leave_links hl d s n hn; unfold i64R; omega)
theorem forget_at {l : List Nod} {d : Int} {s : ByteArray} {i j : Int} (hj : j ≠ i) : atS (forgetS l d s i) j = (atS l j).map (fun n => if j = d then cutNm s n else n) := by
  have hl : atS (leaveS l d s) j = (atS l j).map (fun n => if j = d then cutNm s n else n) := by unfold leaveS; exact atS_mod (f := cutNm s) (fun _ => rfl) j
  unfold forgetS
  split
  · rw [atS_rm, if_neg hj, hl]
  · rw [atS_mod (f := lessLk) (fun _ => rfl), hl]
    cases atS l j with
    | none => rfl
    | some n => simp [hj]
theorem forget_some {l : List Nod} {d : Int} {s : ByteArray} {i j : Int} (hj : j ≠ i) {n : Nod} (h : atS l j = some n) : ∃ n1, atS (forgetS l d s i) j = some n1 ∧ n1.kind = n.kind := by
  rw [forget_at hj, h]
  refine ⟨_, rfl, ?_⟩
  show (if j = d then cutNm s n else n).kind = n.kind
  split <;> rfl
theorem kind_some {l : List Nod} {i : Int} {n : Nod} (h : atS l i = some n) : kindS l i = n.kind := by unfold kindS; rw [getS_some h]
theorem some_mod {l : List Nod} {d : Int} {f : Nod → Nod} (hf : ∀ n, (f n).ino = n.ino) {i : Int} {n : Nod} (h : atS l i = some n) : ∃ n1, atS (modS l d f) i = some n1 := by
  rw [atS_mod hf, h]; exact ⟨_, rfl⟩
section
variable {w : World} {base m g b : Nat} {S : Stt}
set_option maxHeartbeats 8000000 in
theorem pRename (h : PSt w base m g b S) (bs : Bas S) (hm : m < 999900) (e : Eff) (eb : EfB e) (hth : ∀ d s i, hasS S.l d s i = true → ∃ n, atS S.l i = some n) (hkz0 : ∀ n ∈ S.l, n.kind ≠ 0) :
    Calls Tryz.prog 77 #[SPtr g, e.val] w (BGo (renameS S e) S base m g b w) := by
  have hfol : Tryz.prog.follows .mixedOrders = true := by kernel_rfl
  obtain ⟨w1, hw1⟩ : ∃ w1, w.alloc (.cells (effCells e) 50) = w1 := ⟨_, rfl⟩
  have hg1 : Below w.heap.size w w1 := by rw [← hw1]; exact below_of_grown (World.grownBy_alloc w (.cells (effCells e) 50) none)
  have hc1 : Cells w1 w.heap.size 50 (effCells e) := by rw [← hw1]; exact Cells.new w 50 (effCells e)
  have h1 := h.below hg1
  obtain ⟨n, hn, ho, lk⟩ := h1.look eb.ino'
  have hK : kindS S.l e.ino = n.kind := by unfold kindS; rw [← hn]; rfl
  obtain ⟨j, ki, l, t, u, A0, ac, P, B, bc, N⟩ := n
  have lk1 := lk w1.drew rfl
  have c01 := h1.c0
  obtain ⟨_, e1, _, _, _, _, _, _, _⟩ := cells9 hc1
  have H1 := Lib.hid h1; have HC1 := Lib.hid hc1; have HG1 := Lib.hid hg1; have HM := Lib.hid hm; have EB := Lib.hid eb; have BS := Lib.hid bs
  dsimp only at hK
  have HK := Lib.hid hK
  have NO : renameS S e = none → ∀ wx, (∃ q os, wx = grow (w1.drewN q) os) → BGo (renameS S e) S base m g b w (.returned (.bool false)) wx := fun he wx hg => by
    rw [he]
    exact ⟨rfl, (H1.out.below (grown_b hg)).more (by omega), (Trn.of (HG1.out.trans ((grown_b hg).mono HG1.out.size)))⟩
  have HNO := Lib.hid NO
  have KH := Lib.hid (fun wx (hb : ∃ q os, wx = grow (w1.drewN q) os) => pHas (h1.below (grown_b hb)) bs.sm e.dir eb.dir e.name e.ino)
  have KI := Lib.hid (fun wx (hb : ∃ q os, wx = grow (w1.drewN q) os) => pIs (h1.below (grown_b hb)) e.dst 2 eb.dst)
  have KW := Lib.hid (fun wx (hb : ∃ q os, wx = grow (w1.drewN q) os) => pWithin (h1.below (grown_b hb)) bs.sm bs.way bs.pos e.dst e.ino eb.dst)
  obtain ⟨X, hX⟩ : ∃ K, hasS S.l e.dir e.name e.ino = K := ⟨_, rfl⟩
  obtain ⟨Y, hY⟩ : ∃ K, decide (kindS S.l e.dst = 2) = K := ⟨_, rfl⟩
  obtain ⟨Z, hZ⟩ : ∃ K, withinS S.l e.dst e.ino = K := ⟨_, rfl⟩
  rw [hX] at KH
  rw [hY] at KI
  rw [hZ] at KW
  have HX := Lib.hid hX; have HY := Lib.hid hY; have HZ := Lib.hid hZ
  have HD := Lib.hid (show renameS S e = if (X && (Y && !(decide (ki = 2) && Z))) = true then
    (if hasN e.other (namesS S.l e.dst) = true then
      (if (!decide (inoN e.other (namesS S.l e.dst) = e.ino) && looseS S.l (inoN e.other (namesS S.l e.dst)) ki) = true then some ⟨moveS (forgetS S.l e.dst e.other (inoN e.other (namesS S.l e.dst))) e, S.last⟩ else none)
    else some ⟨moveS S.l e, S.last⟩)
    else none by unfold renameS; rw [hX, hY, hZ, hK])
  obtain ⟨kind, ino, dir, dst, page, size, name, other, A, cp, data⟩ := e
  unfold Eff.val
  unfold effCells at hw1
  unfold Nd.val at lk1
  dsimp only at *
  unfold SPtr at *
  clear h h1 hc1 hg1 hm eb bs hX hY hZ hK NO hn ho lk
  go_enter Tryz.func77, Tryz.ntmps77
  go_upto_region 1 with fail
  clear hw1
  go_cut [5] from 9 to 15 (fun k wx => k = .int .i64 ki ∧ wx = w1.drew)
  case first =>
    go_region
    go_wp2_with fail
    go_meet
    exact ⟨rfl, rfl⟩
  case rest =>
  obtain ⟨rfl, rfl⟩ := hcut
  have HG2 := Lib.hid (show ∃ q os, w1.drew = grow (w1.drewN q) os from ⟨1, #[], by rw [grow_empty]; rfl⟩)
  obtain ⟨w2, hw2⟩ : ∃ w2, w1.drew = w2 := ⟨_, rfl⟩
  rw [hw2] at HG2 ⊢
  clear hw2 lk1 c01 e1
  have HC2 := Lib.hid (HC1.out.below' (grown_b HG2.out))
  obtain ⟨R, hR⟩ : ∃ R, (X && (Y && !(decide (ki = 2) && Z))) = R := ⟨_, rfl⟩
  have HR0 := Lib.hid hR
  rw [hR] at HD
  clear hR
  go_upto_region 2 with fail
  go_cut [43] from 16 to 43 (fun c wx => c = .bool (!R) ∧ ∃ q os, wx = grow (w1.drewN q) os)
  case first =>
    obtain ⟨_, e1, e2, e3, _, _, e6, _, _⟩ := cells9 (e := ⟨kind, ino, dir, dst, page, size, name, other, A, cp, data⟩) HC2.out
    have KH2 := Lib.hid (KH.out _ HG2.out)
    go_wp2_with fail
    refine (KH2.out).mono ?_
    rintro e' w3 ⟨rfl, hw3⟩
    have HG3 := Lib.hid (grow_trans HG2.out hw3)
    clear hw3 KH KH2 e1 e2 e3 e6
    have HC3 := Lib.hid (HC1.out.below' (grown_b HG3.out))
    obtain ⟨_, e1, e2, e3, _, _, e6, _, _⟩ := cells9 (e := ⟨kind, ino, dir, dst, page, size, name, other, A, cp, data⟩) HC3.out
    cases X with
    | false =>
      have hr := HR0.out
      rw [Bool.false_and] at hr
      subst hr
      go_wp2
      go_meet
      exact ⟨rfl, HG3.out⟩
    | true =>
      have KI3 := Lib.hid (KI.out _ HG3.out)
      go_wp2_with fail
      refine (KI3.out).mono ?_
      rintro e' w4 ⟨rfl, hw4⟩
      have HG4 := Lib.hid (grow_trans HG3.out hw4)
      clear hw4 KI KI3 e1 e2 e3 e6
      have HC4 := Lib.hid (HC1.out.below' (grown_b HG4.out))
      obtain ⟨_, e1, e2, e3, _, _, e6, _, _⟩ := cells9 (e := ⟨kind, ino, dir, dst, page, size, name, other, A, cp, data⟩) HC4.out
      cases Y with
      | false =>
        have hr := HR0.out
        rw [Bool.false_and, Bool.true_and] at hr
        subst hr
        go_wp2
        go_meet
        exact ⟨rfl, HG4.out⟩
      | true =>
        by_cases hkd : ki = 2
        · have q1 : (ki == 2) = true := by simpa using hkd
          have hr := HR0.out
          rw [decide_eq_true hkd, Bool.true_and, Bool.true_and, Bool.true_and] at hr
          subst hr
          have KW4 := Lib.hid (KW.out _ HG4.out)
          clear hkd
          go_wp2_with fail
          refine (KW4.out).mono ?_
          rintro e' w5 ⟨rfl, hw5⟩
          have HG5 := Lib.hid (grow_trans HG4.out hw5)
          clear hw5
          cases Z <;> (go_wp2; go_meet; exact ⟨rfl, HG5.out⟩)
        · have q1 : (ki == 2) = false := by simpa using hkd
          have hr := HR0.out
          rw [decide_eq_false hkd, Bool.false_and, Bool.true_and, Bool.true_and] at hr
          subst hr
          clear hkd
          go_wp2
          go_meet
          exact ⟨rfl, HG4.out⟩
  case rest =>
  obtain ⟨rfl, hgx⟩ := hcut
  have HG5 := Lib.hid hgx
  clear hgx HG2 HC2 KH KI KW
  cases R with
  | false =>
    go_wp2
    go_ret
    exact HNO.out (by rw [HD.out]; rfl) _ HG5.out
  | true =>
  have h5 := H1.out.below (grown_b HG5.out)
  have hdst : kindS S.l dst = 2 := by
    have h1 := HR0.out
    have h2 := HY.out
    cases X <;> cases Y <;> simp_all
  obtain ⟨nt0, at0, at9⟩ := at_of_kind (l := S.l) (i := dst) (by rw [hdst]; decide)
  have hdir := has_at (show hasS S.l dir name ino = true by
    have h1 := HR0.out
    rw [HX.out]
    cases X <;> simp_all)
  have hino : ∃ n, atS S.l ino = some n ∧ n.kind = ki := by
    obtain ⟨n, hn⟩ := hth dir name ino (by
      have h1 := HR0.out
      rw [HX.out]
      cases X <;> simp_all)
    exact ⟨n, hn, by rw [← kind_some hn]; exact HK.out⟩
  obtain ⟨nd0, ad0, ad1, ad2⟩ := hdir
  obtain ⟨n2, hn2, ho2, lk2⟩ := h5.look EB.out.dst
  have hsm2 := BS.out.sm.get dst
  rw [← hn2] at hsm2
  have hN2 : namesS S.l dst = n2.names := by unfold namesS; rw [← hn2]; rfl
  have hnt : nt0.names = n2.names := by rw [← hN2]; unfold namesS; rw [at9]
  rw [hN2] at HD
  have hE2 := ho2.ens.2
  have hq2 : n2.names.length ≤ 1000 := Nat.le_trans hsm2.q (by decide)
  have KF := Lib.hid (fun n os => Grows.inAt (fun n os => dFind (c := n2.bc) (hE2.below (below_grow' wc n os)) (below_grow' wc n os).size hq2 other) n os)
  have LK2 : ∀ (n : Nat) (os : Array Obj), _ := fun n os => lk2 (grow (wc.drewN n) os) ((below_grow' wc n os).block b h5.blt)
  have HC5 := Lib.hid (HC1.out.below' (grown_b HG5.out))
  obtain ⟨_, _, _, e3, _, _, _, e7, _⟩ := cells9 (e := ⟨kind, ino, dir, dst, page, size, name, other, A, cp, data⟩) HC5.out
  have x3 := cell_grown (a := ⟨w.heap.size, 3, none⟩) HC5.out.lt e3
  have x7 := cell_grown (a := ⟨w.heap.size, 7, none⟩) HC5.out.lt e7
  have y0 := cell_grown (a := ⟨g, 0, none⟩) h5.cells.lt h5.c0
  obtain ⟨HH, hH⟩ : ∃ K, hasN other n2.names = K := ⟨_, rfl⟩
  obtain ⟨I, hI⟩ : ∃ K, inoN other n2.names = K := ⟨_, rfl⟩
  have HRI := Lib.hid (show HH = true → i64R I from fun hh => by
    obtain ⟨e, he, _, h3⟩ := has_mem (hH.trans hh)
    rw [← hI, ← h3]
    exact hsm2.nm e he)
  have HNT := Lib.hid hnt
  rw [hH, hI] at KF
  rw [hH, hI] at HD
  have H5 := Lib.hid h5; have AT0 := Lib.hid at0; have AD0 := Lib.hid ad0; have AD1 := Lib.hid ad1; have AD2 := Lib.hid ad2; have HH0 := Lib.hid hH
  have HI0 := Lib.hid hI
  have AI0 := Lib.hid (show ∃ n, atS S.l ino = some n ∧ n.kind = ki by
    exact hino)
  obtain ⟨j2, ki2, l2, t2, u2, A2, ac2, P2, B2, bc2, N2⟩ := n2
  unfold Nd.val at LK2
  dsimp only at LK2 KF HNT
  clear h5 hdst at0 at9 ad0 ad1 ad2 hn2 ho2 lk2 hsm2 hN2 hnt hE2 hq2 e3 e7 hH hI
  go_upto_region 4 with fail
  refine wp_region_quiet_grown hfol (by kernel_rfl) ?_
  repeat (go_big_quiet_step (first | (go_at_call 35; (with_reducible exact KF.out _ _))))
  refine wpQuiet_nil ?_
  intro _ hw'
  obtain ⟨⟨nr, osr⟩, hw''⟩ := hw'
  subst hw''
  have HG6 := Lib.hid (grow_trans HG5.out (show ∃ q os, grow (wc.drewN nr) osr = grow (wc.drewN q) os from ⟨nr, osr, rfl⟩))
  obtain ⟨w6, hw6⟩ : ∃ w6, grow (wc.drewN nr) osr = w6 := ⟨_, rfl⟩
  dsimp only
  rw [hw6] at HG6 ⊢
  clear hw6 x3 x7 y0 KF LK2 HC5 H5
  have P6 := Lib.hid (H1.out.below (grown_b HG6.out))
  have C6 := Lib.hid (HC1.out.below' (grown_b HG6.out))
  have T6 := Lib.hid (Trn.of (S := [g, b]) (HG1.out.trans ((grown_b HG6.out).mono HG1.out.size)))
  cases HH with
  | false =>
    have HR := Lib.hid (show renameS S ⟨kind, ino, dir, dst, page, size, name, other, A, cp, data⟩ = some ⟨moveS S.l ⟨kind, ino, dir, dst, page, size, name, other, A, cp, data⟩, S.last⟩ by rw [HD.out]; simp)
    have P1 := P6; have C1 := C6; have T1 := T6
    have S1 := Lib.hid BS.out.sm
    have AD := Lib.hid (show ∃ n, atS S.l dir = some n from ⟨_, AD0.out⟩)
    have AT := Lib.hid (show ∃ n, atS S.l dst = some n from ⟨_, AT0.out⟩)
    have AI := Lib.hid (show ∃ n, atS S.l ino = some n ∧ n.kind = ki from AI0.out)
    obtain ⟨_, g1, g2, g3, _, _, g6, g7, _⟩ := cells9 (e := ⟨kind, ino, dir, dst, page, size, name, other, A, cp, data⟩) C1.out
    obtain ⟨nd, ad⟩ := AD.out
    have KV := Lib.hid (pLeave P1.out S1.out (by have := HM.out; omega) dir EB.out.dir ad name)
    unfold SPtr at KV
    clear ad
    go_wp2_with fail
    refine (KV.out).mono ?_
    rintro e' wl ⟨rfl, hl4, tl4⟩
    have hcl := P1.out.keepC tl4 _ _ _ (by decide) C1.out
    have TL := Lib.hid (T1.out.trans tl4)
    obtain ⟨nt, at0⟩ := AT.out
    obtain ⟨nt1, at1⟩ := some_mod (d := dir) (f := cutNm name) (fun _ => rfl) at0
    have KE := Lib.hid (pEnter hl4 (SmS.leave S1.out dir name) (by have := HM.out; omega) dst EB.out.dst at1 other EB.out.other ino)
    have PL := Lib.hid hl4; have CL := Lib.hid hcl
    obtain ⟨_, g1, g2, g3, _, _, g6, g7, _⟩ := cells9 (e := ⟨kind, ino, dir, dst, page, size, name, other, A, cp, data⟩) hcl
    unfold SPtr at KE
    clear hl4 tl4 hcl at0 at1 KV
    go_wp2_with fail
    refine (KE.out).mono ?_
    rintro e' we ⟨rfl, he4, te4⟩
    have hce := PL.out.keepC te4 _ _ _ (by decide) CL.out
    have TE := Lib.hid (TL.out.trans te4)
    have PE := Lib.hid he4
    obtain ⟨_, g1, g2, g3, _, _, g6, g7, _⟩ := cells9 (e := ⟨kind, ino, dir, dst, page, size, name, other, A, cp, data⟩) hce
    by_cases hkd : ki = 2
    · have q9 : (ki == 2) = true := by simpa using hkd
      obtain ⟨ni, ai, ak⟩ := AI.out
      obtain ⟨n1, a1⟩ := some_mod (d := dir) (f := cutNm name) (fun _ => rfl) ai
      obtain ⟨n2, a2⟩ := some_mod (d := dst) (f := putNm other ino) (fun _ => rfl) a1
      have KU := Lib.hid (pMoveTo he4 (by have := HM.out; omega) ino EB.out.ino' a2 dst)
      have HX9 := Lib.hid (show moveS S.l ⟨kind, ino, dir, dst, page, size, name, other, A, cp, data⟩ = modS (enterS (leaveS S.l dir name) dst other ino) ino (setUp dst) by
        unfold moveS; dsimp only; rw [if_pos (by rw [kind_some ai, ak]; exact hkd)])
      unfold SPtr at KU
      clear he4 te4 hce hkd ai ak a1 a2 KE
      go_wp2_with fail
      refine (KU.out).mono ?_
      rintro e' wu ⟨rfl, hu4, tu4⟩
      have PU := Lib.hid hu4; have TU := Lib.hid (TE.out.trans tu4)
      clear hu4 tu4
      go_wp2
      go_ret
      rw [HR.out, HX9.out]
      exact ⟨rfl, PU.out.more (by omega), TU.out⟩
    · have q9 : (ki == 2) = false := by simpa using hkd
      obtain ⟨ni, ai, ak⟩ := AI.out
      have HX9 := Lib.hid (show moveS S.l ⟨kind, ino, dir, dst, page, size, name, other, A, cp, data⟩ = enterS (leaveS S.l dir name) dst other ino by
        unfold moveS; dsimp only; rw [if_neg (by rw [kind_some ai, ak]; exact hkd)])
      clear he4 te4 hce hkd ai ak KE
      go_wp2
      go_ret
      rw [HR.out, HX9.out]
      exact ⟨rfl, PE.out.more (by omega), TE.out⟩
  | true =>
    have hri := HRI.out rfl
    by_cases hei : I = ino
    · have q5 : (I == ino) = true := by simpa using hei
      have HX5 := Lib.hid (show renameS S ⟨kind, ino, dir, dst, page, size, name, other, A, cp, data⟩ = none by rw [HD.out, decide_eq_true hei]; simp)
      obtain ⟨_, g1, g2, g3, _, _, g6, g7, _⟩ := cells9 (e := ⟨kind, ino, dir, dst, page, size, name, other, A, cp, data⟩) C6.out
      clear hei hri
      go_wp2
      go_ret
      exact HNO.out HX5.out _ HG6.out
    · have q5 : (I == ino) = false := by simpa using hei
      obtain ⟨_, g1, g2, g3, _, _, g6, g7, _⟩ := cells9 (e := ⟨kind, ino, dir, dst, page, size, name, other, A, cp, data⟩) C6.out
      have KLo := Lib.hid (pLoose P6.out I ki hri)
      obtain ⟨Lo, hLo⟩ : ∃ L, looseS S.l I ki = L := ⟨_, rfl⟩
      rw [hLo] at KLo
      have HLo := Lib.hid hLo
      rw [hLo, decide_eq_false hei] at HD
      have HEI := Lib.hid hei; have HII := Lib.hid hri
      unfold SPtr at KLo
      clear hei hLo hri
      go_wp2_with fail
      refine (KLo.out).mono ?_
      rintro e' w7 ⟨rfl, hw7⟩
      have HG7 := Lib.hid (grow_trans HG6.out hw7)
      clear hw7 KLo g1 g2 g3 g6 g7
      have P7 := Lib.hid (H1.out.below (grown_b HG7.out))
      have C7 := Lib.hid (HC1.out.below' (grown_b HG7.out))
      have T7 := Lib.hid (Trn.of (S := [g, b]) (HG1.out.trans ((grown_b HG7.out).mono HG1.out.size)))
      obtain ⟨_, g1, g2, g3, _, _, g6, g7, _⟩ := cells9 (e := ⟨kind, ino, dir, dst, page, size, name, other, A, cp, data⟩) C7.out
      cases Lo with
      | false =>
        have HX5 := Lib.hid (show renameS S ⟨kind, ino, dir, dst, page, size, name, other, A, cp, data⟩ = none by rw [HD.out]; simp)
        go_wp2
        go_ret
        exact HNO.out HX5.out _ HG7.out
      | true =>
        have HR := Lib.hid (show renameS S ⟨kind, ino, dir, dst, page, size, name, other, A, cp, data⟩ = some ⟨moveS (forgetS S.l dst other I) ⟨kind, ino, dir, dst, page, size, name, other, A, cp, data⟩, S.last⟩ by rw [HD.out]; simp)
        obtain ⟨ni0, ai0, ak0⟩ := AI0.out
        have hkz : ki ≠ 0 ∨ ki = 0 := by omega
        obtain ⟨ns, as0, as1⟩ : ∃ n, atS S.l I = some n ∧ n.names = [] := by
          by_cases hk0 : ki = 0
          · exact absurd (ak0.trans hk0) (hkz0 ni0 (atS_mem ai0))
          · obtain ⟨n, a1, _, a3, _⟩ := loose_at hk0 HLo.out
            exact ⟨n, a1, a3⟩
        have hlk := BS.out.lk ns (atS_mem as0)
        obtain ⟨ns2, as2, as3, _⟩ := at_leave (d := dst) (s := other) as0
        have hdI : dir ≠ I := fun e => by
          have h1 := AD0.out
          rw [e, as0] at h1
          have h2 := AD1.out
          rw [← Option.some.inj h1, as1] at h2
          cases h2
        have htI : dst ≠ I := fun e => by
          have h1 := AT0.out
          rw [e, as0] at h1
          have h2 := HNT.out
          rw [← Option.some.inj h1, as1] at h2
          have h3 := HH0.out
          rw [← h2] at h3
          cases h3
        have KFo := Lib.hid (pForget P7.out BS.out.sm (by have := HM.out; omega) dst EB.out.dst AT0.out other I HII.out as2 (by omega) (by omega))
        obtain ⟨xd, xd1, _⟩ := forget_some (d := dst) (s := other) hdI AD0.out
        obtain ⟨xt, xt1, _⟩ := forget_some (d := dst) (s := other) htI AT0.out
        obtain ⟨xi, xi1, xi2⟩ := forget_some (d := dst) (s := other) (fun e => HEI.out e.symm) ai0
        have S1 := Lib.hid (SmS.forget BS.out.sm BS.out.lk dst other I)
        have AD := Lib.hid (show ∃ n, atS (forgetS S.l dst other I) dir = some n from ⟨_, xd1⟩)
        have AT := Lib.hid (show ∃ n, atS (forgetS S.l dst other I) dst = some n from ⟨_, xt1⟩)
        have AI := Lib.hid (show ∃ n, atS (forgetS S.l dst other I) ino = some n ∧ n.kind = ki from ⟨_, xi1, xi2.trans ak0⟩)
        unfold SPtr at KFo
        clear ai0 ak0 hkz as0 as1 hlk as2 as3 hdI htI xd1 xt1 xi1 xi2
        go_wp2_with fail
        refine (KFo.out).mono ?_
        rintro e' w8 ⟨rfl, h8, t8⟩
        have C1 := Lib.hid (P7.out.keepC t8 _ _ _ (by decide) C7.out)
        have P1 := Lib.hid h8
        have T1 := Lib.hid (T7.out.trans t8)
        clear h8 t8 g1 g2 g3 g6 g7 KFo
        obtain ⟨_, g1, g2, g3, _, _, g6, g7, _⟩ := cells9 (e := ⟨kind, ino, dir, dst, page, size, name, other, A, cp, data⟩) C1.out
        obtain ⟨nd, ad⟩ := AD.out
        have KV := Lib.hid (pLeave P1.out S1.out (by have := HM.out; omega) dir EB.out.dir ad name)
        unfold SPtr at KV
        clear ad
        go_wp2_with fail
        refine (KV.out).mono ?_
        rintro e' wl ⟨rfl, hl4, tl4⟩
        have hcl := P1.out.keepC tl4 _ _ _ (by decide) C1.out
        have TL := Lib.hid (T1.out.trans tl4)
        obtain ⟨nt, at0⟩ := AT.out
        obtain ⟨nt1, at1⟩ := some_mod (d := dir) (f := cutNm name) (fun _ => rfl) at0
        have KE := Lib.hid (pEnter hl4 (SmS.leave S1.out dir name) (by have := HM.out; omega) dst EB.out.dst at1 other EB.out.other ino)
        have PL := Lib.hid hl4; have CL := Lib.hid hcl
        obtain ⟨_, g1, g2, g3, _, _, g6, g7, _⟩ := cells9 (e := ⟨kind, ino, dir, dst, page, size, name, other, A, cp, data⟩) hcl
        unfold SPtr at KE
        clear hl4 tl4 hcl at0 at1 KV
        go_wp2_with fail
        refine (KE.out).mono ?_
        rintro e' we ⟨rfl, he4, te4⟩
        have hce := PL.out.keepC te4 _ _ _ (by decide) CL.out
        have TE := Lib.hid (TL.out.trans te4)
        have PE := Lib.hid he4
        obtain ⟨_, g1, g2, g3, _, _, g6, g7, _⟩ := cells9 (e := ⟨kind, ino, dir, dst, page, size, name, other, A, cp, data⟩) hce
        by_cases hkd : ki = 2
        · have q9 : (ki == 2) = true := by simpa using hkd
          obtain ⟨ni, ai, ak⟩ := AI.out
          obtain ⟨n1, a1⟩ := some_mod (d := dir) (f := cutNm name) (fun _ => rfl) ai
          obtain ⟨n2, a2⟩ := some_mod (d := dst) (f := putNm other ino) (fun _ => rfl) a1
          have KU := Lib.hid (pMoveTo he4 (by have := HM.out; omega) ino EB.out.ino' a2 dst)
          have HX9 := Lib.hid (show moveS (forgetS S.l dst other I) ⟨kind, ino, dir, dst, page, size, name, other, A, cp, data⟩ = modS (enterS (leaveS (forgetS S.l dst other I) dir name) dst other ino) ino (setUp dst) by
            unfold moveS; dsimp only; rw [if_pos (by rw [kind_some ai, ak]; exact hkd)])
          unfold SPtr at KU
          clear he4 te4 hce hkd ai ak a1 a2 KE
          go_wp2_with fail
          refine (KU.out).mono ?_
          rintro e' wu ⟨rfl, hu4, tu4⟩
          have PU := Lib.hid hu4; have TU := Lib.hid (TE.out.trans tu4)
          clear hu4 tu4
          go_wp2
          go_ret
          rw [HR.out, HX9.out]
          exact ⟨rfl, PU.out.more (by omega), TU.out⟩
        · have q9 : (ki == 2) = false := by simpa using hkd
          obtain ⟨ni, ai, ak⟩ := AI.out
          have HX9 := Lib.hid (show moveS (forgetS S.l dst other I) ⟨kind, ino, dir, dst, page, size, name, other, A, cp, data⟩ = enterS (leaveS (forgetS S.l dst other I) dir name) dst other ino by
            unfold moveS; dsimp only; rw [if_neg (by rw [kind_some ai, ak]; exact hkd)])
          clear he4 te4 hce hkd ai ak KE
          go_wp2
          go_ret
          rw [HR.out, HX9.out]
          exact ⟨rfl, PE.out.more (by omega), TE.out⟩
end
end Go.Proofs.YtamndllolppmoaaGreatDoor
