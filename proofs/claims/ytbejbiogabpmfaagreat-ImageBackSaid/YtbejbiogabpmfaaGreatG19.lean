import Derived.Test.YtbejbiogabpmfaaGreatG16

/-! The project's State: a file goes. -/
namespace Go.Proofs.YtbejbiogabpmfaaGreat
open Wd Ino Sm Go.RowKit Go.ChangeShapes Go.WideShapes Go.Sort
set_option linter.unusedVariables false
set_option maxRecDepth 100000
structure Bas (S : Stt) : Prop where
  sm : SmS S.l
  last : ∀ n ∈ S.l, n.ino ≤ S.last
  lr : i64R S.last
  lk : ∀ n ∈ S.l, 0 ≤ n.links ∧ n.links ≤ 16
  way : WayUp S.l
  pos : 0 < S.l.length
/-- it tells refs that go, and whether it was done -/
def RGo (o : Option (Stt × List Int)) (S : Stt) (base m g b : Nat) (w : World) (e : Ending) (w' : World) : Prop :=
  ∃ v, e = .returned (.tuple #[v, .bool o.isSome]) ∧ OwnI w' w.heap.size v ((o.map Prod.snd).getD []) ∧ PSt w' base (m + 8) g b ((o.map Prod.fst).getD S) ∧ Trn w w' [g, b]
section
variable {w : World} {base m g b : Nat} {S : Stt}
set_option maxHeartbeats 4000000 in
theorem pDrop (h : PSt w base m g b S) (bs : Bas S) (hm : m < 999900) (e : Eff) (eb : EfB e) :
    Calls Tryz.prog 96 #[SPtr g, e.val] w (RGo (dropS S e) S base m g b w) := by
  have hfol : Tryz.prog.follows .mixedOrders = true := by kernel_rfl
  obtain ⟨w1, hw1⟩ : ∃ w1, w.alloc (.cells (effCells e) 64) = w1 := ⟨_, rfl⟩
  have hg1 : Below w.heap.size w w1 := by rw [← hw1]; exact below_of_grown (World.grownBy_alloc w (.cells (effCells e) 64) none)
  have hc1 : Cells w1 w.heap.size 64 (effCells e) := by rw [← hw1]; exact Cells.new w 64 (effCells e)
  have h1 := h.below hg1
  obtain ⟨n, hn, ho, lk⟩ := h1.look eb.ino'
  obtain ⟨j, ki, l, t, u, A0, ac, P, B, bc, N⟩ := n
  obtain ⟨w2, hw2⟩ : ∃ w2, w1.alloc (.cells (ncells 0 0 0 0 0 (.slice none 0 0) (.slice none 0 0)) 51) = w2 := ⟨_, rfl⟩
  have hg2 : Below w1.heap.size w1 w2 := by rw [← hw2]; exact below_of_grown (World.grownBy_alloc _ _ none)
  have lk1 := lk w1.drew rfl
  have lk2 := lk w2.drew (hg2.block b h1.blt)
  have c01 := h1.c0
  have c02 := (h1.below hg2).c0
  obtain ⟨_, e1, _, _, _, _, _, _, _⟩ := cells9 hc1
  obtain ⟨_, f1, _, _, _, _, _, _, _⟩ := cells9 (hc1.below' hg2)
  have hz : Cells w2 w1.heap.size 51 (ncells 0 0 0 0 0 (.slice none 0 0) (.slice none 0 0)) := by rw [← hw2]; exact Cells.new _ _ _
  have HZ := Lib.hid hz
  have HG2 := Lib.hid hg2
  obtain ⟨kind, ino, dir, dst, page, size, name, other, A, cp, data⟩ := e
  unfold Eff.val
  unfold effCells at hw1
  unfold ncells at hw2
  unfold Nd.val at lk1 lk2
  dsimp only at *
  unfold SPtr at *
  go_enter Tryz.func96, Tryz.ntmps96
  go_upto_region 1 with fail
  go_cut [6] from 8 to 13 (fun p wx => p = .pointer (some ⟨w1.heap.size, 0, none⟩) ∧ Cells wx w1.heap.size 51 (ncells j ki l t u (.slice A0 P.length ac) (.slice B N.length bc)) ∧ Below w1.heap.size w1 wx)
  case first =>
    obtain ⟨z0, z1, z2, z3, z4, z5, z6⟩ := cells7 hz
    have r0 := hz.free 0; have r1 := hz.free 1; have r2 := hz.free 2; have r3 := hz.free 3; have r4 := hz.free 4; have r5 := hz.free 5; have r6 := hz.free 6
    clear hz
    go_region
    obtain ⟨wz, hwz⟩ : ∃ wz, set7 w2 w1.heap.size j ki l t u (.slice A0 P.length ac) (.slice B N.length bc) = wz := ⟨_, rfl⟩
    have hcz : Cells wz w1.heap.size 51 (ncells j ki l t u (.slice A0 P.length ac) (.slice B N.length bc)) := by rw [← hwz]; exact set7_cells (w := w2) HZ.out
    have hbz : Below w1.heap.size w1 wz := by rw [← hwz]; exact set7_below (w := w2) HG2.out (Nat.le_refl _)
    unfold set7 at hwz
    rw [hwz]
    have HCZ := Lib.hid hcz; have HBZ := Lib.hid hbz
    clear hwz hcz hbz z0 z1 z2 z3 z4 z5 z6 r0 r1 r2 r3 r4 r5 r6
    go_wp2_with fail
    go_meet
    exact ⟨rfl, HCZ.out, HBZ.out.drew⟩
  case rest =>
    obtain ⟨rfl, hcn, hbw⟩ := hcut
    have h3 := h1.below hbw
    have hsm := bs.sm.get ino
    have hD : dropS S ⟨kind, ino, dir, dst, page, size, name, other, A, cp, data⟩ = if ki = 1 ∧ l = 0 then some (⟨rmS S.l ino, S.last⟩, refsP P) else none := by
      unfold dropS kindS; rw [← hn]; rfl
    have hP : P.length ≤ 1000 := by have := hsm.p; rw [← hn] at this; exact this
    have HD := Lib.hid hD
    have H3 := Lib.hid h3; have HO := Lib.hid (ho.below hbw); have HCN := Lib.hid hcn
    have T3 := Lib.hid (Trn.of (S := [g, b]) (hg1.trans (hbw.mono hg1.size)))
    have HI := Lib.hid eb.ino'
    obtain ⟨z0, z1, z2, z3, z4, z5, z6⟩ := cells7 hcn
    have c0 := h3.c0
    obtain ⟨_, y1, _, _, _, _, _, _, _⟩ := cells9 (e := ⟨kind, ino, dir, dst, page, size, name, other, A, cp, data⟩) (hc1.below' hbw)
    clear hcn hbw hw1 hw2 lk1 lk2 lk c01 c02 e1 f1 HZ HG2 hz h1 hg1 hg2 hc1 h3 hsm hD hn ho h bs eb
    by_cases hk : ki = 1
    · have q0 : (ki != 1) = false := by simpa using hk
      by_cases hl : l = 0
      · have q1 : (l != 0) = false := by simpa using hl
        have HD2 := Lib.hid (show dropS S ⟨kind, ino, dir, dst, page, size, name, other, A, cp, data⟩ = some (⟨rmS S.l ino, S.last⟩, refsP P) by rw [HD.out, if_pos ⟨hk, hl⟩])
        clear hk hl
        go_wp2_with fail
        go_still_tail 6, (by kernel_rfl)
        change wpList _ _ _ _ _ wc.drew
        obtain ⟨w4, hrun, hP4, hT4⟩ := (H3.out.below (Below.refl _ _).drew).drop HI.out (l' := rmS S.l ino) (fun x => atS_rm _ _ _) 0
        have hk4 : KeepC [] wc w4 := fun q t cs _ hc => by
          have h5 : q ≠ b := fun e => by
            subst e
            obtain ⟨G, hG, _⟩ := H3.out.mp
            exact hG.cells hc rfl
          exact (turned_block hT4 h5).trans hc
        have hcn4 := hk4 _ _ _ (by simp) HCN.out
        obtain ⟨z0, z1, z2, z3, z4, z5, z6⟩ := cells7 hcn4
        have ho4 := HO.out.keep hk4 (by simp) (by simp)
        have KR := Lib.hid (iRefs ⟨j, ki, l, t, u, A0, ac, P, B, bc, N⟩ w4 ho4.in_ hP)
        have HP4 := Lib.hid hP4
        have HT4 := Lib.hid (T3.out.drew.trans (Trn.map hT4 (S := [g, b]) (List.mem_cons_of_mem _ (List.mem_singleton.2 rfl))))
        unfold Nd.val at KR
        dsimp only at KR
        clear hP4 hT4 hk4 hcn4 ho4
        go_wp2_with fail
        refine (KR.out).mono ?_
        rintro e' w5 ⟨v, rfl, ho5, hb5⟩
        obtain ⟨A5, c5, rfl, _⟩ := ho5.row
        have HO5 := Lib.hid ho5; have HB5 := Lib.hid hb5
        clear ho5 hb5
        go_wp2
        go_ret2
        rw [HD2.out]
        exact ⟨_, rfl, HO5.out.mono HT4.out.size, (HP4.out.below HB5.out).more (by omega), HT4.out.trans (Trn.of HB5.out)⟩
      · have q1 : (l != 0) = true := by simpa using hl
        have HD2 := Lib.hid (show dropS S ⟨kind, ino, dir, dst, page, size, name, other, A, cp, data⟩ = none by rw [HD.out, if_neg (fun hh => hl hh.2)])
        clear hk hl
        go_wp2
        go_ret2
        rw [HD2.out]
        exact ⟨_, rfl, OwnI.nil _ _, H3.out.more (by omega), T3.out⟩
    · have q0 : (ki != 1) = true := by simpa using hk
      have HD2 := Lib.hid (show dropS S ⟨kind, ino, dir, dst, page, size, name, other, A, cp, data⟩ = none by rw [HD.out, if_neg (fun hh => hk hh.1)])
      clear hk
      go_wp2
      go_ret2
      rw [HD2.out]
      exact ⟨_, rfl, OwnI.nil _ _, H3.out.more (by omega), T3.out⟩
end
end Go.Proofs.YtbejbiogabpmfaaGreat

/-! The project's State: a link more. -/
namespace Go.Proofs.YtbejbiogabpmfaaGreat
open Wd Ino Sm Go.RowKit Go.ChangeShapes Go.WideShapes Go.Sort
set_option linter.unusedVariables false
set_option maxRecDepth 100000
theorem SmS.mod {l : List Nod} (h : SmS l) {i : Int} {f : Nod → Nod} (hf : ∀ n ∈ l, SmN n → SmN (f n)) : SmS (modS l i f) := fun a ha => by
  unfold modS at ha
  obtain ⟨n, hn, rfl⟩ := List.mem_map.1 ha
  split
  · exact hf n hn (h n hn)
  · exact h n hn
theorem SmN.links_ {n : Nod} (h : SmN n) {x : Int} (hx : i64R x) : SmN { n with links := x } := ⟨h.p, h.q, h.sz, h.ino, h.kind, hx, h.size, h.up, h.pg, h.nm⟩
section
variable {w : World} {base m g b : Nat} {S : Stt}
set_option maxHeartbeats 4000000 in
theorem pLink (h : PSt w base m g b S) (bs : Bas S) (hm : m < 999900) (e : Eff) (eb : EfB e) :
    Calls Tryz.prog 91 #[SPtr g, e.val] w (BGo (linkS S e) S base m g b w) := by
  have hfol : Tryz.prog.follows .mixedOrders = true := by kernel_rfl
  obtain ⟨w1, hw1⟩ : ∃ w1, w.alloc (.cells (effCells e) 64) = w1 := ⟨_, rfl⟩
  have hg1 : Below w.heap.size w w1 := by rw [← hw1]; exact below_of_grown (World.grownBy_alloc w (.cells (effCells e) 64) none)
  have hc1 : Cells w1 w.heap.size 64 (effCells e) := by rw [← hw1]; exact Cells.new w 64 (effCells e)
  have h1 := h.below hg1
  obtain ⟨n, hn, ho, lk⟩ := h1.look eb.ino'
  obtain ⟨j, ki, l, t, u, A0, ac, P, B, bc, N⟩ := n
  obtain ⟨w2, hw2⟩ : ∃ w2, w1.alloc (.cells (ncells 0 0 0 0 0 (.slice none 0 0) (.slice none 0 0)) 51) = w2 := ⟨_, rfl⟩
  have hg2 : Below w1.heap.size w1 w2 := by rw [← hw2]; exact below_of_grown (World.grownBy_alloc _ _ none)
  have lk1 := lk w1.drew rfl
  have lk2 := lk w2.drew (hg2.block b h1.blt)
  have c01 := h1.c0
  have c02 := (h1.below hg2).c0
  obtain ⟨_, e1, _, _, _, _, _, _, _⟩ := cells9 hc1
  obtain ⟨_, f1, _, _, _, _, _, _, _⟩ := cells9 (hc1.below' hg2)
  have hz : Cells w2 w1.heap.size 51 (ncells 0 0 0 0 0 (.slice none 0 0) (.slice none 0 0)) := by rw [← hw2]; exact Cells.new _ _ _
  have HZ := Lib.hid hz
  have HG2 := Lib.hid hg2
  have KF0 := Lib.hid (fun wx (hb : Below w1.heap.size w1 wx) => pFree (h1.below hb) bs.sm e.dir eb.dir e.name)
  obtain ⟨kind, ino, dir, dst, page, size, name, other, A, cp, data⟩ := e
  unfold Eff.val
  unfold effCells at hw1
  unfold ncells at hw2
  unfold Nd.val at lk1 lk2
  dsimp only at *
  unfold SPtr at *
  go_enter Tryz.func91, Tryz.ntmps91
  go_upto_region 1 with fail
  go_cut [5] from 7 to 12 (fun p wx => p = .pointer (some ⟨w1.heap.size, 0, none⟩) ∧ Cells wx w1.heap.size 51 (ncells j ki l t u (.slice A0 P.length ac) (.slice B N.length bc)) ∧ Below w1.heap.size w1 wx)
  case first =>
    obtain ⟨z0, z1, z2, z3, z4, z5, z6⟩ := cells7 hz
    have r0 := hz.free 0; have r1 := hz.free 1; have r2 := hz.free 2; have r3 := hz.free 3; have r4 := hz.free 4; have r5 := hz.free 5; have r6 := hz.free 6
    clear hz
    go_region
    obtain ⟨wz, hwz⟩ : ∃ wz, set7 w2 w1.heap.size j ki l t u (.slice A0 P.length ac) (.slice B N.length bc) = wz := ⟨_, rfl⟩
    have hcz : Cells wz w1.heap.size 51 (ncells j ki l t u (.slice A0 P.length ac) (.slice B N.length bc)) := by rw [← hwz]; exact set7_cells (w := w2) HZ.out
    have hbz : Below w1.heap.size w1 wz := by rw [← hwz]; exact set7_below (w := w2) HG2.out (Nat.le_refl _)
    unfold set7 at hwz
    rw [hwz]
    have HCZ := Lib.hid hcz; have HBZ := Lib.hid hbz
    clear hwz hcz hbz z0 z1 z2 z3 z4 z5 z6 r0 r1 r2 r3 r4 r5 r6
    go_wp2_with fail
    go_meet
    exact ⟨rfl, HCZ.out, HBZ.out.drew⟩
  case rest =>
    obtain ⟨rfl, hcn, hbw⟩ := hcut
    have h3 := h1.below hbw
    have KF := Lib.hid (KF0.out _ hbw)
    obtain ⟨F, hF⟩ : ∃ F, freeS S.l dir name = F := ⟨_, rfl⟩
    have HF := Lib.hid hF
    rw [hF] at KF
    have hD : linkS S ⟨kind, ino, dir, dst, page, size, name, other, A, cp, data⟩ = if (F && (decide (ki = 1) && (decide (1 ≤ l) && decide (l < 16)))) = true then some ⟨enterS (modS S.l ino moreLk) dir name ino, S.last⟩ else none := by
      unfold linkS kindS; rw [← hn, hF]; rfl
    have HD := Lib.hid hD
    have H3 := Lib.hid h3; have HO := Lib.hid (ho.below hbw); have HCN := Lib.hid hcn
    have T3 := Lib.hid (Trn.of (S := [g, b]) (hg1.trans (hbw.mono hg1.size)))
    have HBW := Lib.hid (And.intro hg1 hbw)
    have EB := Lib.hid eb; have BS := Lib.hid bs; have HM := Lib.hid hm; have HN := Lib.hid hn
    obtain ⟨z0, z1, z2, z3, z4, z5, z6⟩ := cells7 hcn
    have c0 := h3.c0
    obtain ⟨_, y1, y2, _, _, _, y6, _, _⟩ := cells9 (e := ⟨kind, ino, dir, dst, page, size, name, other, A, cp, data⟩) (hc1.below' hbw)
    have HC1 := Lib.hid (hc1.below' hbw)
    have hw0 : ∀ q os, Cells (grow (wc.drewN q) os) w1.heap.size 51 (ncells j ki l t u (.slice A0 P.length ac) (.slice B N.length bc)) := fun q os => HCN.out.below' (below_grow' _ _ _)
    have HW0 := Lib.hid hw0
    have NO : linkS S ⟨kind, ino, dir, dst, page, size, name, other, A, cp, data⟩ = none → ∀ wx, (∃ q os, wx = grow (wc.drewN q) os) → BGo (linkS S ⟨kind, ino, dir, dst, page, size, name, other, A, cp, data⟩) S base m g b w (.returned (.bool false)) wx := fun he wx hg => by
      rw [he]
      exact ⟨rfl, (H3.out.below (grown_b hg)).more (by omega), T3.out.trans (Trn.of (grown_b hg))⟩
    have HNO := Lib.hid NO
    clear hcn hbw hw1 hw2 lk1 lk2 lk c01 c02 e1 f1 HZ HG2 hz h1 hg1 hg2 hc1 h3 hD hn ho h bs eb KF0 hF hw0 NO hm
    go_wp2_with fail
    refine (KF.out).mono ?_
    rintro e' w5 ⟨rfl, hw5⟩
    have HG5 := Lib.hid hw5
    obtain ⟨q5, os5, rfl⟩ := hw5
    have hcn := HW0.out q5 os5
    obtain ⟨z0, z1, z2, z3, z4, z5, z6⟩ := cells7 hcn
    obtain ⟨w5, hw5⟩ : ∃ w5, grow (wc.drewN q5) os5 = w5 := ⟨_, rfl⟩
    rw [hw5] at HG5 hcn z0 z1 z2 z3 z4 z5 z6 ⊢
    have HC5 := Lib.hid hcn
    clear hw5 hcn
    cases F with
    | false =>
      go_wp2
      go_ret
      exact HNO.out (by rw [HD.out]; rfl) _ HG5.out
    | true =>
      by_cases hk : ki = 1
      · have q0 : (ki != 1) = false := by simpa using hk
        by_cases hl : 1 ≤ l
        · have q1 : decide (l < 1) = false := decide_eq_false (by omega)
          by_cases hl2 : l < 16
          · have q2 : decide (16 ≤ l) = false := decide_eq_false (by omega)
            have q3 : decide (l ≥ 16) = false := decide_eq_false (by omega)
            have HD2 := Lib.hid (show linkS S ⟨kind, ino, dir, dst, page, size, name, other, A, cp, data⟩ = some ⟨enterS (modS S.l ino moreLk) dir name ino, S.last⟩ by rw [HD.out, decide_eq_true hk, decide_eq_true hl, decide_eq_true hl2]; rfl)
            have w9 : wrap64 (l + 1) = l + 1 := by unfold wrap64; omega
            have HA := Lib.hid (show ∃ n0, atS S.l ino = some n0 ∧ (⟨j, ki, l, t, u, A0, ac, P, B, bc, N⟩ : Nd).plain = n0 by
              obtain ⟨n0, a0, a1⟩ := at_of_kind (l := S.l) (i := ino) (by unfold kindS; rw [← HN.out]; show ki ≠ 0; omega)
              exact ⟨n0, a0, HN.out.trans a1⟩)
            have r2 := HC5.out.free 2
            have HLB := Lib.hid (And.intro hl hl2)
            clear hk hl hl2
            go_wp2_with fail
            obtain ⟨w6, hw6⟩ : ∃ w6, w5.setCell ⟨w1.heap.size, 2, none⟩ (.int .i64 (l + 1)) = w6 := ⟨_, rfl⟩
            have h5 := H3.out.below (grown_b HG5.out)
            have hk6 : KeepC [51] w5 w6 := fun q t cs ht hc => by
              rw [← hw6]
              exact hc.far (fun e => ht (by
                subst e
                have : t = 51 := Decidable.byContradiction fun hne => hc.ne HC5.out hne rfl
                rw [this]; exact List.mem_singleton.2 rfl)) _
            have hb6 : w6.heap[b]? = w5.heap[b]? := by
              rw [← hw6]
              exact Below.heap_setCell w5 _ _ b (fun e => by
                obtain ⟨G, hG, _⟩ := h5.mp
                exact hG.cells HC5.out e)
            have h6 := h5.keep hk6 (by decide) (by decide) (by decide) hb6
            have hc6 : Cells w6 w1.heap.size 51 (ncells j ki (l + 1) t u (.slice A0 P.length ac) (.slice B N.length bc)) := by rw [← hw6]; exact HC5.out.set 2 _
            have he6 := hk6 _ _ _ (by decide) (HC1.out.below' (grown_b HG5.out))
            have hb06 : Below w1.heap.size w1 w6 := by rw [← hw6]; exact (HBW.out.2.trans ((grown_b HG5.out).mono HBW.out.2.size)).setCell (p := ⟨w1.heap.size, 2, none⟩) (Nat.le_refl _) _
            have T6 := Lib.hid (Trn.of (S := [g, b]) (HBW.out.1.trans (hb06.mono HBW.out.1.size)))
            have ho6 := (HO.out.below (grown_b HG5.out)).keep hk6 (by decide) (by decide)
            obtain ⟨z0, z1, z2, z3, z4, z5, z6⟩ := cells7 hc6
            obtain ⟨_, y1, _, _, _, _, _, _, _⟩ := cells9 (e := ⟨kind, ino, dir, dst, page, size, name, other, A, cp, data⟩) he6
            have c0 := h6.c0
            have H6 := Lib.hid h6; have HO6 := Lib.hid ho6; have HE6 := Lib.hid he6
            rw [hw6]
            clear hw6 h5 hk6 hb6 h6 hc6 he6 hb06 ho6 r2
            go_still_tail 7, (by kernel_rfl)
            change wpList _ _ _ _ _ w6.drew
            obtain ⟨n0, a0, a1⟩ := HA.out
            have hm2 : m < 1000000 := by have := HM.out; omega
            obtain ⟨w7, hrun, hP7, hT7⟩ := (H6.out.below (Below.refl _ _).drew).store hm2 EB.out.ino' (x := ino) (n := ⟨j, ki, l + 1, t, u, A0, ac, P, B, bc, N⟩)
              (show OwnNd _ base ⟨j, ki, l, t, u, A0, ac, P, B, bc, N⟩ from HO6.out.below (Below.refl _ _).drew)
              (l' := modS S.l ino moreLk) (fun x => by rw [at_modS (f := moreLk) (fun _ => rfl) a0, ← a1]; rfl)
            have hk7 : KeepC [] w6 w7 := fun q t cs _ hc => by
              have h5 : q ≠ b := fun e => by
                subst e
                obtain ⟨G, hG, _⟩ := H6.out.mp
                exact hG.cells hc rfl
              exact (turned_block hT7 h5).trans hc
            have he7 := hk7 _ _ _ (by simp) HE6.out
            obtain ⟨_, y1, y2, _, _, _, y6, _, _⟩ := cells9 (e := ⟨kind, ino, dir, dst, page, size, name, other, A, cp, data⟩) he7
            have hsm : SmS (modS S.l ino moreLk) := BS.out.sm.mod fun n hn sn => sn.links_ (by have := BS.out.lk n hn; unfold i64R; omega)
            obtain ⟨nd, d0, _, _⟩ := free_at HF.out
            have KE := Lib.hid (pEnter hP7 hsm (by have := HM.out; omega) dir EB.out.dir (n0 := if dir = ino then moreLk nd else nd) (by rw [atS_mod (f := moreLk) (fun _ => rfl), d0]; rfl) name EB.out.name ino)
            have T7 := Lib.hid (T6.out.drew.trans (Trn.map hT7 (S := [g, b]) (List.mem_cons_of_mem _ (List.mem_singleton.2 rfl))))
            unfold Nd.val at hrun
            dsimp only at hrun
            unfold SPtr at KE
            clear hT7 hP7 hk7 he7 hsm d0 a0 a1
            go_wp2_with fail
            refine (KE.out).mono ?_
            rintro e' w8 ⟨rfl, h8, t8⟩
            have H8 := Lib.hid h8; have T8 := Lib.hid (T7.out.trans t8)
            clear h8 t8
            go_wp2
            go_ret
            rw [HD2.out]
            exact ⟨rfl, H8.out.more (by omega), T8.out⟩
          · have q2 : decide (16 ≤ l) = true := decide_eq_true (by omega)
            have q3 : decide (l ≥ 16) = true := decide_eq_true (by omega)
            have HX := Lib.hid (show linkS S ⟨kind, ino, dir, dst, page, size, name, other, A, cp, data⟩ = none by rw [HD.out, decide_eq_false hl2]; simp)
            clear hk hl hl2
            go_wp2
            go_ret
            exact HNO.out HX.out _ HG5.out
        · have q1 : decide (l < 1) = true := decide_eq_true (by omega)
          have HX := Lib.hid (show linkS S ⟨kind, ino, dir, dst, page, size, name, other, A, cp, data⟩ = none by rw [HD.out, decide_eq_false hl]; simp)
          clear hk hl
          go_wp2
          go_ret
          exact HNO.out HX.out _ HG5.out
      · have q0 : (ki != 1) = true := by simpa using hk
        have HX := Lib.hid (show linkS S ⟨kind, ino, dir, dst, page, size, name, other, A, cp, data⟩ = none by rw [HD.out, decide_eq_false hk]; rfl)
        clear hk
        go_wp2
        go_ret
        exact HNO.out HX.out _ HG5.out
end
end Go.Proofs.YtbejbiogabpmfaaGreat

/-! The project's State: a page is written. -/
namespace Go.Proofs.YtbejbiogabpmfaaGreat
open Wd Ino Sm Go.RowKit Go.ChangeShapes Go.WideShapes Go.Sort
set_option linter.unusedVariables false
set_option maxRecDepth 100000
theorem OwnNd.ok {w : World} {base : Nat} {n : Nd} (h : OwnNd w base n) (sm : SmN n.plain) : n.Ok w w.heap.size :=
  (OwnN.mk (w := w) (base := base) (V := n.val) rfl h.1 h.2).ok sm.ino sm.kind sm.links sm.size sm.up sm.pg (fun e he => ⟨by have := sm.sz e he; unfold maxLen; omega, sm.nm e he⟩)
theorem ownI_one {W : Nat} (w : World) (x : Int) (hW : W ≤ w.heap.size) : OwnI (w.alloc (.cells #[.int .i64 x] 3)) W (.slice (some ⟨w.heap.size, 0, none⟩) 1 1) [x] := by
  refine ⟨rfl, .inr ⟨w.heap.size, 1, #[.int .i64 x], rfl, hW, Cells.new _ _ _, Nat.le_refl _, by decide, rfl, rfl⟩⟩
section
variable {w : World} {base m g b : Nat} {S : Stt}
set_option maxHeartbeats 4000000 in
theorem pWrite (h : PSt w base m g b S) (bs : Bas S) (hm : m < 999900) (e : Eff) (eb : EfB e) (ref : Int) (hpo : putOk e.page e.size = true) :
    Calls Tryz.prog 95 #[SPtr g, e.val, .int .i64 ref] w (RGo (writeS S e ref) S base m g b w) := by
  have hfol : Tryz.prog.follows .mixedOrders = true := by kernel_rfl
  obtain ⟨w1, hw1⟩ : ∃ w1, w.alloc (.cells (effCells e) 64) = w1 := ⟨_, rfl⟩
  have hg1 : Below w.heap.size w w1 := by rw [← hw1]; exact below_of_grown (World.grownBy_alloc w (.cells (effCells e) 64) none)
  have hc1 : Cells w1 w.heap.size 64 (effCells e) := by rw [← hw1]; exact Cells.new w 64 (effCells e)
  have h1 := h.below hg1
  obtain ⟨n, hn, ho, lk⟩ := h1.look eb.ino'
  obtain ⟨j, ki, l, t, u, A0, ac, P, B, bc, N⟩ := n
  obtain ⟨w2, hw2⟩ : ∃ w2, w1.alloc (.cells (ncells 0 0 0 0 0 (.slice none 0 0) (.slice none 0 0)) 51) = w2 := ⟨_, rfl⟩
  have hg2 : Below w1.heap.size w1 w2 := by rw [← hw2]; exact below_of_grown (World.grownBy_alloc _ _ none)
  have lk1 := lk w1.drew rfl
  have lk2 := lk w2.drew (hg2.block b h1.blt)
  have c01 := h1.c0
  have c02 := (h1.below hg2).c0
  obtain ⟨_, e1, _, _, _, _, _, _, _⟩ := cells9 hc1
  obtain ⟨_, f1, _, _, _, _, _, _, _⟩ := cells9 (hc1.below' hg2)
  have hz : Cells w2 w1.heap.size 51 (ncells 0 0 0 0 0 (.slice none 0 0) (.slice none 0 0)) := by rw [← hw2]; exact Cells.new _ _ _
  have HZ := Lib.hid hz
  have HG2 := Lib.hid hg2
  obtain ⟨kind, ino, dir, dst, page, size, name, other, A, cp, data⟩ := e
  unfold Eff.val
  unfold effCells at hw1
  unfold ncells at hw2
  unfold Nd.val at lk1 lk2
  dsimp only at *
  unfold SPtr at *
  go_enter Tryz.func95, Tryz.ntmps95
  go_upto_region 1 with fail
  go_cut [8] from 10 to 16 (fun p wx => p = .pointer (some ⟨w1.heap.size, 0, none⟩) ∧ Cells wx w1.heap.size 51 (ncells j ki l t u (.slice A0 P.length ac) (.slice B N.length bc)) ∧ Below w1.heap.size w1 wx)
  case first =>
    obtain ⟨z0, z1, z2, z3, z4, z5, z6⟩ := cells7 hz
    have r0 := hz.free 0; have r1 := hz.free 1; have r2 := hz.free 2; have r3 := hz.free 3; have r4 := hz.free 4; have r5 := hz.free 5; have r6 := hz.free 6
    clear hz
    go_region
    obtain ⟨wz, hwz⟩ : ∃ wz, set7 w2 w1.heap.size j ki l t u (.slice A0 P.length ac) (.slice B N.length bc) = wz := ⟨_, rfl⟩
    have hcz : Cells wz w1.heap.size 51 (ncells j ki l t u (.slice A0 P.length ac) (.slice B N.length bc)) := by rw [← hwz]; exact set7_cells (w := w2) HZ.out
    have hbz : Below w1.heap.size w1 wz := by rw [← hwz]; exact set7_below (w := w2) HG2.out (Nat.le_refl _)
    unfold set7 at hwz
    rw [hwz]
    have HCZ := Lib.hid hcz; have HBZ := Lib.hid hbz
    clear hwz hcz hbz z0 z1 z2 z3 z4 z5 z6 r0 r1 r2 r3 r4 r5 r6
    go_wp2_with fail
    go_meet
    exact ⟨rfl, HCZ.out, HBZ.out.drew⟩
  case rest =>
    obtain ⟨rfl, hcn, hbw⟩ := hcut
    have h3 := h1.below hbw
    have hsm := bs.sm.get ino
    rw [← hn] at hsm
    have hD : writeS S ⟨kind, ino, dir, dst, page, size, name, other, A, cp, data⟩ ref = if ki = 1 ∧ t ≤ size then some (⟨modS S.l ino (putNod page ref size), S.last⟩, oneP (putV P page size)) else none := by
      unfold writeS kindS; rw [← hn]; rfl
    have HD := Lib.hid hD
    have ho3 := ho.below hbw
    have KP := Lib.hid (iPut ⟨j, ki, l, t, u, A0, ac, P, B, bc, N⟩ page ref size eb.size wc (ho3.ok hsm) hsm.p (Nat.le_trans hsm.q (by decide)) hsm.sz)
    have H3 := Lib.hid h3; have HCN := Lib.hid hcn
    have HBW := Lib.hid (And.intro hg1 hbw)
    have EB := Lib.hid eb; have HM := Lib.hid hm; have HN := Lib.hid hn; have HPO := Lib.hid hpo
    obtain ⟨z0, z1, z2, z3, z4, z5, z6⟩ := cells7 hcn
    have c0 := h3.c0
    obtain ⟨_, y1, _, _, y4, y5, _, _, _⟩ := cells9 (e := ⟨kind, ino, dir, dst, page, size, name, other, A, cp, data⟩) (hc1.below' hbw)
    have HC1 := Lib.hid (hc1.below' hbw)
    unfold Nd.val at KP
    dsimp only at KP
    clear hcn hbw hw1 hw2 lk1 lk2 lk c01 c02 e1 f1 HZ HG2 hz h1 hg1 hg2 hc1 h3 hsm hD hn ho ho3 h bs eb hpo hm
    by_cases hk : ki = 1
    · have q0 : (ki != 1) = false := by simpa using hk
      by_cases hl : t ≤ size
      · have q1 : decide (size < t) = false := decide_eq_false (by omega)
        have HD2 := Lib.hid (show writeS S ⟨kind, ino, dir, dst, page, size, name, other, A, cp, data⟩ ref = some (⟨modS S.l ino (putNod page ref size), S.last⟩, oneP (putV P page size)) by rw [HD.out, if_pos ⟨hk, hl⟩])
        have HA := Lib.hid (show ∃ n0, atS S.l ino = some n0 ∧ (⟨j, ki, l, t, u, A0, ac, P, B, bc, N⟩ : Nd).plain = n0 by
          obtain ⟨n0, a0, a1⟩ := at_of_kind (l := S.l) (i := ino) (by unfold kindS; rw [← HN.out]; show ki ≠ 0; omega)
          exact ⟨n0, a0, HN.out.trans a1⟩)
        clear hk hl
        go_wp2_with fail
        refine (KP.out).mono ?_
        rintro e' w5 ⟨V, A5, ac5, B5, bc5, rfl, ho5, hb5⟩
        rw [if_pos HPO.out] at ho5 ⊢
        rw [if_pos HPO.out] at ho5
        dsimp only at ho5
        obtain ⟨rfl, ow5⟩ := ho5.nd
        have HC5 := Lib.hid (HCN.out.below' hb5)
        have r0 := HC5.out.free 0; have r1 := HC5.out.free 1; have r2 := HC5.out.free 2; have r3 := HC5.out.free 3; have r4 := HC5.out.free 4; have r5 := HC5.out.free 5; have r6 := HC5.out.free 6
        obtain ⟨z0, z1, z2, z3, z4, z5, z6⟩ := cells7 HC5.out
        unfold Nd.val
        dsimp only
        have OW5 := Lib.hid ow5; have HB5 := Lib.hid hb5
        obtain ⟨st, hst⟩ : ∃ st, putV P page size = st := ⟨_, rfl⟩
        rw [hst] at HD2
        rw [hst]
        clear ow5 hb5 ho5 hst
        go_wp2_with fail
        obtain ⟨w6, hw6⟩ : ∃ w6, set7 w5 w1.heap.size j ki l size u (.slice A5 (putP P page ref size).length ac5) (.slice B5 N.length bc5) = w6 := ⟨_, rfl⟩
        have hc6 : Cells w6 w1.heap.size 51 (ncells j ki l size u (.slice A5 (putP P page ref size).length ac5) (.slice B5 N.length bc5)) := by rw [← hw6]; exact set7_cells HC5.out
        have hb6 : Below w1.heap.size w1 w6 := by rw [← hw6]; exact set7_below (HBW.out.2.trans (HB5.out.mono HBW.out.2.size)) (Nat.le_refl _)
        have hk6 : ∀ q, q ≠ w1.heap.size → w6.heap[q]? = w5.heap[q]? := fun q hq => by rw [← hw6]; exact set7_heap hq
        have hK6 : KeepC [51] w5 w6 := fun q t cs ht hc => by
          refine (hk6 q (fun e => ht ?_)).trans hc
          subst e
          have : t = 51 := Decidable.byContradiction fun hne => hc.ne HC5.out hne rfl
          rw [this]; exact List.mem_singleton.2 rfl
        have h5 := H3.out.below HB5.out
        have h6 := h5.keep hK6 (by decide) (by decide) (by decide) (hk6 b (fun e => by
          obtain ⟨G, hG, _⟩ := h5.mp
          exact hG.cells HC5.out e))
        have he6 := hK6 _ _ _ (by decide) (HC1.out.below' HB5.out)
        have T6 := Lib.hid (Trn.of (S := [g, b]) (HBW.out.1.trans (hb6.mono HBW.out.1.size)))
        have ow6 := OW5.out.keep hK6 (by decide) (by decide)
        unfold set7 at hw6
        rw [hw6]
        obtain ⟨z0, z1, z2, z3, z4, z5, z6⟩ := cells7 hc6
        obtain ⟨_, y1, _, _, _, _, _, _, _⟩ := cells9 (e := ⟨kind, ino, dir, dst, page, size, name, other, A, cp, data⟩) he6
        have c0 := h6.c0
        have H6 := Lib.hid h6; have OW6 := Lib.hid ow6
        have HBS := Lib.hid (show base ≤ wc.heap.size by have := H3.out.lo; have := H3.out.cells.lt; omega)
        clear hw6 hc6 hb6 hk6 hK6 h5 h6 he6 ow6 r0 r1 r2 r3 r4 r5 r6
        go_still_tail 7, (by kernel_rfl)
        change wpList _ _ _ _ _ w6.drew
        obtain ⟨n0, a0, a1⟩ := HA.out
        have hm2 : m < 1000000 := by have := HM.out; omega
        obtain ⟨w7, hrun, hP7, hT7⟩ := (H6.out.below (Below.refl _ _).drew).store hm2 EB.out.ino' (x := ino) (n := ⟨j, ki, l, size, u, A5, ac5, putP P page ref size, B5, bc5, N⟩)
          ((OW6.out.below (Below.refl _ _).drew).mono HBS.out)
          (l' := modS S.l ino (putNod page ref size)) (fun x => by rw [at_modS (f := putNod page ref size) (fun _ => rfl) a0, ← a1]; rfl)
        have HP7 := Lib.hid hP7
        have T7 := Lib.hid (T6.out.drew.trans (Trn.map hT7 (S := [g, b]) (List.mem_cons_of_mem _ (List.mem_singleton.2 rfl))))
        unfold Nd.val at hrun
        dsimp only at hrun
        clear hT7 hP7 a0 a1
        by_cases hs0 : st = 0
        · have q3 : (st == 0) = true := by simpa using hs0
          have HOP := Lib.hid (show oneP st = [] by unfold oneP; rw [if_pos hs0])
          clear hs0
          go_wp2_with fail
          go_ret2
          rw [HD2.out, HOP.out]
          exact ⟨_, rfl, OwnI.nil _ _, HP7.out.more (by omega), T7.out⟩
        · have q3 : (st == 0) = false := by simpa using hs0
          have HOP := Lib.hid (show oneP st = [st] by unfold oneP; rw [if_neg hs0])
          clear hs0
          go_wp2_with fail
          go_ret2
          rw [HD2.out, HOP.out]
          exact ⟨_, rfl, ownI_one w7 st T7.out.size, (HP7.out.below (below_of_grown (World.grownBy_alloc _ _ none))).more (by omega), T7.out.alloc _⟩
      · have q1 : decide (size < t) = true := decide_eq_true (by omega)
        have HD2 := Lib.hid (show writeS S ⟨kind, ino, dir, dst, page, size, name, other, A, cp, data⟩ ref = none by rw [HD.out, if_neg (fun hh => hl hh.2)])
        clear hk hl
        go_wp2
        go_ret2
        rw [HD2.out]
        exact ⟨_, rfl, OwnI.nil _ _, H3.out.more (by omega), Trn.of (HBW.out.1.trans (HBW.out.2.mono HBW.out.1.size))⟩
    · have q0 : (ki != 1) = true := by simpa using hk
      have HD2 := Lib.hid (show writeS S ⟨kind, ino, dir, dst, page, size, name, other, A, cp, data⟩ ref = none by rw [HD.out, if_neg (fun hh => hk hh.1)])
      clear hk
      go_wp2
      go_ret2
      rw [HD2.out]
      exact ⟨_, rfl, OwnI.nil _ _, H3.out.more (by omega), Trn.of (HBW.out.1.trans (HBW.out.2.mono HBW.out.1.size))⟩
end
end Go.Proofs.YtbejbiogabpmfaaGreat

/-! The project's State: a name goes, and what it named. -/
namespace Go.Proofs.YtbejbiogabpmfaaGreat
open Wd Ino Sm Go.RowKit Go.ChangeShapes Go.WideShapes Go.Sort
set_option linter.unusedVariables false
set_option maxRecDepth 100000
theorem at_leave {l : List Nod} {d : Int} {s : ByteArray} {i : Int} {n : Nod} (h : atS l i = some n) : ∃ n1, atS (leaveS l d s) i = some n1 ∧ n1.links = n.links ∧ n1.kind = n.kind := by
  refine ⟨if i = d then cutNm s n else n, ?_, ?_, ?_⟩
  · unfold leaveS; rw [atS_mod (f := cutNm s) (fun _ => rfl), h]; rfl
  · split <;> rfl
  · split <;> rfl
theorem loose_at {l : List Nod} {i k : Int} (hk : k ≠ 0) (h : looseS l i k = true) : ∃ n, atS l i = some n ∧ n.kind = k ∧ n.names = [] ∧ i ≠ 1 := by
  unfold looseS at h
  rw [Bool.and_eq_true, Bool.and_eq_true] at h
  obtain ⟨h1, h2, h3⟩ := h
  have h1 := of_decide_eq_true h1
  obtain ⟨n, a, b⟩ := at_of_kind (l := l) (i := i) (by omega)
  refine ⟨n, a, ?_, ?_, by simpa using h2⟩
  · unfold kindS at h1; rw [b] at h1; exact h1
  · have h3 := of_decide_eq_true h3; unfold namesS at h3; rw [b] at h3; exact h3
theorem has_at {l : List Nod} {d : Int} {s : ByteArray} {i : Int} (h : hasS l d s i = true) : ∃ n, atS l d = some n ∧ hasN s n.names = true ∧ inoN s n.names = i := by
  unfold hasS at h
  rw [Bool.and_eq_true] at h
  obtain ⟨n, a, b⟩ := at_of_has h.1
  have h2 := of_decide_eq_true h.2
  unfold namesS at h h2
  rw [b] at h h2
  exact ⟨n, a, h.1, h2⟩
section
variable {w : World} {base m g b : Nat} {S : Stt}
set_option maxHeartbeats 4000000 in
theorem pRemove (h : PSt w base m g b S) (bs : Bas S) (hm : m < 999900) (e : Eff) (eb : EfB e) (k : Int) (hk : k ≠ 0) :
    Calls Tryz.prog 92 #[SPtr g, e.val, .int .i64 k] w (BGo (removeS S e k) S base m g b w) := by
  obtain ⟨w1, hw1⟩ : ∃ w1, w.alloc (.cells (effCells e) 64) = w1 := ⟨_, rfl⟩
  have hg1 : Below w.heap.size w w1 := by rw [← hw1]; exact below_of_grown (World.grownBy_alloc w (.cells (effCells e) 64) none)
  have hc1 : Cells w1 w.heap.size 64 (effCells e) := by rw [← hw1]; exact Cells.new w 64 (effCells e)
  have h1 := h.below hg1
  have KH := Lib.hid (pHas h1 bs.sm e.dir eb.dir e.name e.ino)
  have KL := Lib.hid (fun wx (hb : ∃ q os, wx = grow (w1.drewN q) os) => pLoose (h1.below (grown_b hb)) e.ino k eb.ino')
  obtain ⟨X, hX⟩ : ∃ K, hasS S.l e.dir e.name e.ino = K := ⟨_, rfl⟩
  obtain ⟨Y, hY⟩ : ∃ K, looseS S.l e.ino k = K := ⟨_, rfl⟩
  rw [hX] at KH
  rw [hY] at KL
  have HX := Lib.hid hX; have HY := Lib.hid hY
  obtain ⟨_, e1, e2, _, _, _, e6, _, _⟩ := cells9 hc1
  have HK := Lib.hid hk
  have HD := Lib.hid (show removeS S e k = if (X && Y) = true then some ⟨forgetS S.l e.dir e.name e.ino, S.last⟩ else none by unfold removeS; rw [hX, hY])
  have H1 := Lib.hid h1; have HC1 := Lib.hid hc1; have HG1 := Lib.hid hg1; have HM := Lib.hid hm; have EB := Lib.hid eb; have BS := Lib.hid bs
  have NO : removeS S e k = none → ∀ wx, (∃ q os, wx = grow (w1.drewN q) os) → BGo (removeS S e k) S base m g b w (.returned (.bool false)) wx := fun he wx hg => by
    rw [he]
    exact ⟨rfl, (H1.out.below (grown_b hg)).more (by omega), (Trn.of (HG1.out.trans ((grown_b hg).mono HG1.out.size)))⟩
  have HNO := Lib.hid NO
  obtain ⟨kind, ino, dir, dst, page, size, name, other, A, cp, data⟩ := e
  unfold Eff.val
  unfold effCells at hw1
  dsimp only at *
  unfold SPtr at *
  clear h h1 hc1 hg1 hm eb bs hX hY hk NO
  go_enter Tryz.func92, Tryz.ntmps92
  go_wp2_with fail
  clear hw1
  refine (KH.out).mono ?_
  rintro e' w2 ⟨rfl, hw2⟩
  have HG2 := Lib.hid hw2
  have HC2 := Lib.hid (HC1.out.below' (grown_b hw2))
  obtain ⟨_, f1, f2, _, _, _, f6, _, _⟩ := cells9 (e := ⟨kind, ino, dir, dst, page, size, name, other, A, cp, data⟩) HC2.out
  have KL2 := Lib.hid (KL.out _ hw2)
  clear hw2 KH e1 e2 e6
  cases X with
  | false =>
    go_wp2
    go_ret
    exact HNO.out (by rw [HD.out]; rfl) _ HG2.out
  | true =>
    go_wp2_with fail
    refine (KL2.out).mono ?_
    rintro e' w3 ⟨rfl, hw3⟩
    have HG3 := Lib.hid (grow_trans HG2.out hw3)
    have HC3 := Lib.hid (HC2.out.below' (grown_b hw3))
    obtain ⟨_, g1, g2, _, _, _, g6, _, _⟩ := cells9 (e := ⟨kind, ino, dir, dst, page, size, name, other, A, cp, data⟩) HC3.out
    clear hw3 KL KL2 f1 f2 f6
    cases Y with
    | false =>
      go_wp2
      go_ret
      exact HNO.out (by rw [HD.out]; rfl) _ HG3.out
    | true =>
      obtain ⟨n0, a0, _, _⟩ := has_at HX.out
      obtain ⟨n1, b0, _, _, _⟩ := loose_at HK.out HY.out
      obtain ⟨n2, c0, c1, _⟩ := at_leave (d := dir) (s := name) b0
      have hlk := BS.out.lk n1 (atS_mem b0)
      have KF := Lib.hid (pForget (H1.out.below (grown_b HG3.out)) BS.out.sm (by have := HM.out; omega) dir EB.out.dir a0 name ino EB.out.ino' c0 (by omega) (by omega))
      have HD2 := Lib.hid (show removeS S ⟨kind, ino, dir, dst, page, size, name, other, A, cp, data⟩ k = some ⟨forgetS S.l dir name ino, S.last⟩ by rw [HD.out]; rfl)
      unfold SPtr at KF
      clear a0 b0 c0 c1 hlk
      go_wp2_with fail
      refine (KF.out).mono ?_
      rintro e' w4 ⟨rfl, h4, t4⟩
      have H4 := Lib.hid h4
      have T4 := Lib.hid ((Trn.of (S := [g, b]) (HG1.out.trans ((grown_b HG3.out).mono HG1.out.size))).trans t4)
      clear h4 t4
      go_wp2
      go_ret
      rw [HD2.out]
      exact ⟨rfl, H4.out.more (by omega), T4.out⟩
end
end Go.Proofs.YtbejbiogabpmfaaGreat
