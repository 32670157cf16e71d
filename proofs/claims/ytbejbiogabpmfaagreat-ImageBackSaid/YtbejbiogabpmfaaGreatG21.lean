import Derived.Test.YtbejbiogabpmfaaGreatG19

/-! The project's State: a file's size. -/
namespace Go.Proofs.YtbejbiogabpmfaaGreat
open Wd Ino Sm Go.RowKit Go.ChangeShapes Go.WideShapes Go.Sort
set_option linter.unusedVariables false
set_option maxRecDepth 100000
section
variable {w : World} {base m g b : Nat} {S : Stt}
def CutT (w1 : World) (j ki l size u : Int) (Q : List Int) (N : List Ent) (R : List Int) (p G : Value) (wx : World) : Prop :=
  ∃ gb A5 ac5 B5 bc5 A6 c6, p = .pointer (some ⟨gb, 0, none⟩) ∧ G = .slice A6 R.length c6 ∧ Cells wx gb 51 (ncells j ki l size u (.slice A5 Q.length ac5) (.slice B5 N.length bc5)) ∧
    OwnNd wx w1.heap.size ⟨j, ki, l, size, u, A5, ac5, Q, B5, bc5, N⟩ ∧ OwnI wx w1.heap.size G R ∧ Below w1.heap.size w1 wx ∧ w1.heap.size ≤ gb
theorem first_below {w2 wa wb w3 : World} (ha : Below w2.heap.size w2 wa) (hb : Below w2.heap.size w2 wb) (h : Below wa.heap.size wa w3 ∨ Below wb.heap.size wb w3) : Below w2.heap.size w2 w3 := by
  rcases h with h | h
  · exact ha.trans (h.mono ha.size)
  · exact hb.trans (h.mono hb.size)
set_option maxHeartbeats 4000000 in
theorem pTrunc (h : PSt w base m g b S) (bs : Bas S) (hm : m < 999900) (e : Eff) (eb : EfB e) (hz0 : inB e.size 0 16384 = true) :
    Calls Tryz.prog 94 #[SPtr g, e.val] w (RGo (truncS S e) S base m g b w) := by
  have hfol : Tryz.prog.follows .mixedOrders = true := by kernel_rfl
  obtain ⟨w1, hw1⟩ : ∃ w1, w.alloc (.cells (effCells e) 64) = w1 := ⟨_, rfl⟩
  have hg1 : Below w.heap.size w w1 := by rw [← hw1]; exact below_of_grown (World.grownBy_alloc w (.cells (effCells e) 64) none)
  have hc1 : Cells w1 w.heap.size 64 (effCells e) := by rw [← hw1]; exact Cells.new w 64 (effCells e)
  have h1 := h.below hg1
  have KI := Lib.hid (pIs h1 e.ino 1 eb.ino')
  obtain ⟨K, hK⟩ : ∃ K, decide (kindS S.l e.ino = 1) = K := ⟨_, rfl⟩
  rw [hK] at KI
  have HK := Lib.hid hK
  obtain ⟨_, e1, _, _, _, _, _, _, _⟩ := cells9 hc1
  have H1 := Lib.hid h1; have HC1 := Lib.hid hc1; have HG1 := Lib.hid hg1; have HM := Lib.hid hm; have EB := Lib.hid eb; have BS := Lib.hid bs; have HZ0 := Lib.hid hz0
  obtain ⟨kind, ino, dir, dst, page, size, name, other, A, cp, data⟩ := e
  unfold Eff.val
  unfold effCells at hw1
  dsimp only at *
  unfold SPtr at *
  clear h h1 hc1 hg1 hm eb bs hz0 hK
  go_enter Tryz.func94, Tryz.ntmps94
  go_wp2_with fail
  clear hw1
  refine (KI.out).mono ?_
  rintro e' w2 ⟨rfl, hw2⟩
  have H2 := Lib.hid (H1.out.below (grown_b hw2))
  have HC2 := Lib.hid (HC1.out.below' (grown_b hw2))
  have T2 := Lib.hid (Trn.of (S := [g, b]) (HG1.out.trans ((grown_b hw2).mono HG1.out.size)))
  clear hw2 KI e1
  cases K with
  | false =>
    have HD2 := Lib.hid (show truncS S ⟨kind, ino, dir, dst, page, size, name, other, A, cp, data⟩ = none by unfold truncS; rw [if_neg (of_decide_eq_false HK.out)])
    go_wp2
    go_ret2
    rw [HD2.out]
    exact ⟨_, rfl, OwnI.nil _ _, H2.out.more (by omega), T2.out⟩
  | true =>
    have hk := of_decide_eq_true HK.out
    obtain ⟨n, hn, ho, lk⟩ := H2.out.look EB.out.ino'
    have hsm := BS.out.sm.get ino
    rw [← hn] at hsm
    have HA := Lib.hid (show ∃ n0, atS S.l ino = some n0 ∧ n.plain = n0 by
      obtain ⟨n0, a0, a1⟩ := at_of_kind (l := S.l) (i := ino) (by rw [hk]; decide)
      exact ⟨n0, a0, hn.trans a1⟩)
    have HD2 := Lib.hid (show truncS S ⟨kind, ino, dir, dst, page, size, name, other, A, cp, data⟩ = some (⟨modS S.l ino (resNod size), S.last⟩, refsP (n.pages.drop (needP size).toNat)) by
      unfold truncS; rw [if_pos hk, ← hn]; rfl)
    obtain ⟨j, ki, l, t, u, A0, ac, P, B, bc, N⟩ := n
    have KR := Lib.hid (fun wx (hb : Below w2.heap.size w2 wx) => iResize ⟨j, ki, l, t, u, A0, ac, P, B, bc, N⟩ size EB.out.size wx ((ho.below hb).ok hsm) hsm.p (Nat.le_trans hsm.q (by decide)) hsm.sz)
    obtain ⟨Zn, hZn⟩ : ∃ Z, Obj.cells (ncells 0 0 0 0 0 (.slice none 0 0) (.slice none 0 0)) 51 = Z := ⟨_, rfl⟩
    have b0 : Below w2.heap.size w2 w2.drew := below_drewN (Below.refl _ _) 1
    have b2 : Below w2.heap.size w2 (w2.alloc Zn).drew := ((Below.refl _ _).alloc (Nat.le_refl _) Zn).drew
    have lk1 := lk w2.drew rfl
    have lk2 := lk (w2.alloc Zn).drew (b2.block b H2.out.blt)
    have c01 := H2.out.c0
    have c02 : (w2.alloc Zn).cell? ⟨g, 0, none⟩ = some (.map (some b)) := (H2.out.below (below_of_grown (World.grownBy_alloc w2 Zn none))).c0
    obtain ⟨_, e1, _, _, _, e5, _, _, _⟩ := cells9 (e := ⟨kind, ino, dir, dst, page, size, name, other, A, cp, data⟩) HC2.out
    obtain ⟨_, f1, _, _, _, f5, _, _, _⟩ := cells9 (e := ⟨kind, ino, dir, dst, page, size, name, other, A, cp, data⟩) (HC2.out.below' (below_of_grown (World.grownBy_alloc w2 Zn none)))
    have HB0 := Lib.hid b0; have HB2 := Lib.hid b2
    have HZ2 := Lib.hid (show Cells (w2.alloc Zn).drew w2.heap.size 51 (ncells 0 0 0 0 0 (.slice none 0 0) (.slice none 0 0)) by rw [← hZn]; exact Cells.new w2 _ _)
    rw [← hZn] at lk2 c02 f1 f5 HB2 HZ2
    unfold ncells at lk2 c02 f1 f5 HB2 HZ2
    unfold Nd.val at lk1 lk2 KR
    dsimp only at lk1 lk2 KR
    clear hn ho hsm lk hk hZn b0 b2
    go_upto_region 3 with fail
    go_cut [6, 7] from 13 to 25 (fun p G wx => CutT w2 j ki l size u (fitP P (needP size).toNat) N (refsP (P.drop (needP size).toNat)) p G wx)
    case first =>
      go_region_with (first
        | (go_at_call 142; (with_reducible refine (KR.out _ HB0.out).mono ?_); rintro e' w3 ⟨V, A5, ac5, B5, bc5, G5, rfl, ho5, hG5, hb5⟩; rw [if_pos HZ0.out, if_pos HZ0.out] at ho5; rw [if_pos HZ0.out] at hG5; obtain ⟨rfl, ow5⟩ := ho5.nd; obtain ⟨A6, c6, rfl, _⟩ := hG5.row; unfold Nd.val; dsimp only)
        | (go_at_call 142; (with_reducible refine (KR.out _ HB2.out).mono ?_); rintro e' w3 ⟨V, A5, ac5, B5, bc5, G5, rfl, ho5, hG5, hb5⟩; rw [if_pos HZ0.out, if_pos HZ0.out] at ho5; rw [if_pos HZ0.out] at hG5; have hz := HZ2.out.below' hb5; obtain ⟨z0, z1, z2, z3, z4, z5, z6⟩ := cells7 hz; have r0 := hz.free 0; have r1 := hz.free 1; have r2 := hz.free 2; have r3 := hz.free 3; have r4 := hz.free 4; have r5 := hz.free 5; have r6 := hz.free 6; have HZ3 := Lib.hid hz; clear hz; obtain ⟨rfl, ow5⟩ := ho5.nd; obtain ⟨A6, c6, rfl, _⟩ := hG5.row; unfold Nd.val; dsimp only))
      all_goals
        have HOW := Lib.hid ow5
        have HGI := Lib.hid hG5
        have HBB := Lib.hid hb5
        clear ow5 hG5 hb5 ho5
        first
        | (obtain ⟨wz, hwz⟩ : ∃ wz, set7 w3 w2.heap.size j ki l size u (.slice A5 (fitP P (needP size).toNat).length ac5) (.slice B5 N.length bc5) = wz := ⟨_, rfl⟩
           have hbB : Below w2.heap.size w2 w3 := HB2.out.trans (HBB.out.mono HB2.out.size)
           have hcz : Cells wz w2.heap.size 51 (ncells j ki l size u (.slice A5 (fitP P (needP size).toNat).length ac5) (.slice B5 N.length bc5)) := by rw [← hwz]; exact set7_cells HZ3.out
           have hbz : Below w2.heap.size w2 wz := by rw [← hwz]; exact set7_below hbB (Nat.le_refl _)
           have hoz : OwnNd wz w2.heap.size ⟨j, ki, l, size, u, A5, ac5, fitP P (needP size).toNat, B5, bc5, N⟩ := by
             rw [← hwz]
             exact ⟨OwnI.mono (own_set7 HOW.out.1 (by simp)) (by simp), OwnE.mono (own_set7 HOW.out.2 (by simp)) (by simp)⟩
           have hgz : OwnI wz w2.heap.size (.slice A6 (refsP (P.drop (needP size).toNat)).length c6) (refsP (P.drop (needP size).toNat)) := by
             rw [← hwz]
             exact OwnI.mono (own_set7 HGI.out (by simp)) (by simp)
           have HCZ := Lib.hid hcz; have HBZ := Lib.hid hbz; have HOZ := Lib.hid hoz; have HGZ := Lib.hid hgz
           unfold set7 at hwz
           rw [hwz]
           clear hwz hcz hbz hoz hgz hbB z0 z1 z2 z3 z4 z5 z6 r0 r1 r2 r3 r4 r5 r6
           go_wp2_with fail
           go_meet
           exact ⟨_, A5, ac5, B5, bc5, A6, c6, rfl, rfl, HCZ.out, HOZ.out, HGZ.out, HBZ.out, Nat.le_refl _⟩)
        | (obtain ⟨wz, hwz⟩ : ∃ wz, w3.alloc (.cells (ncells j ki l size u (.slice A5 (fitP P (needP size).toNat).length ac5) (.slice B5 N.length bc5)) 51) = wz := ⟨_, rfl⟩
           have hbB : Below w2.heap.size w2 w3 := (first_below HB0.out HB2.out (by first | exact .inl HBB.out | exact .inr HBB.out))
           have hbA : Below w3.heap.size w3 wz := by rw [← hwz]; exact below_of_grown (World.grownBy_alloc w3 _ none)
           have hcz : Cells wz w3.heap.size 51 (ncells j ki l size u (.slice A5 (fitP P (needP size).toNat).length ac5) (.slice B5 N.length bc5)) := by rw [← hwz]; exact Cells.new _ _ _
           have hbz : Below w2.heap.size w2 wz := hbB.trans (hbA.mono hbB.size)
           have hoz : OwnNd wz w2.heap.size ⟨j, ki, l, size, u, A5, ac5, fitP P (needP size).toNat, B5, bc5, N⟩ := HOW.out.below hbA
           have hgz : OwnI wz w2.heap.size (.slice A6 (refsP (P.drop (needP size).toNat)).length c6) (refsP (P.drop (needP size).toNat)) := HGI.out.below hbA
           have HCZ := Lib.hid hcz; have HBZ := Lib.hid hbz; have HOZ := Lib.hid hoz; have HGZ := Lib.hid hgz; have HSZ := Lib.hid hbB.size
           unfold ncells at hwz
           rw [hwz]
           clear hwz hcz hbz hoz hgz hbB hbA
           go_wp2_with fail
           go_meet
           exact ⟨_, A5, ac5, B5, bc5, A6, c6, rfl, rfl, HCZ.out, HOZ.out, HGZ.out, HBZ.out, HSZ.out⟩)
    case rest =>
    obtain ⟨gb, A5, ac5, B5, bc5, A6, c6, rfl, rfl, hcb, how, hgi, hbw, hgb⟩ := hcut
    have h3 := H2.out.below hbw
    have he3 := HC2.out.below' hbw
    have T3 := Lib.hid (T2.out.trans (Trn.of hbw))
    obtain ⟨z0, z1, z2, z3, z4, z5, z6⟩ := cells7 hcb
    obtain ⟨_, y1, _, _, _, _, _, _, _⟩ := cells9 (e := ⟨kind, ino, dir, dst, page, size, name, other, A, cp, data⟩) he3
    have c0 := h3.c0
    have H3 := Lib.hid h3; have HOW := Lib.hid how; have HGI := Lib.hid hgi
    have HBS := Lib.hid (show base ≤ w2.heap.size by have := H2.out.lo; have := H2.out.cells.lt; omega)
    have HTS := Lib.hid T2.out.size
    clear lk1 lk2 c01 c02 e1 e5 f1 f5 hcb how hgi hbw hgb h3 he3 KR
    go_wp2_with fail
    go_still_tail 7, (by kernel_rfl)
    change wpList _ _ _ _ _ wc.drew
    obtain ⟨n0, a0, a1⟩ := HA.out
    have hm2 : m < 1000000 := by have := HM.out; omega
    obtain ⟨w7, hrun, hP7, hT7⟩ := (H3.out.below (Below.refl _ _).drew).store hm2 EB.out.ino' (x := ino) (n := ⟨j, ki, l, size, u, A5, ac5, fitP P (needP size).toNat, B5, bc5, N⟩)
      ((HOW.out.below (Below.refl _ _).drew).mono HBS.out)
      (l' := modS S.l ino (resNod size)) (fun x => by rw [at_modS (f := resNod size) (fun _ => rfl) a0, ← a1]; rfl)
    have hk7 : KeepC [] wc w7 := fun q t cs _ hc => by
      have h5 : q ≠ b := fun e => by
        subst e
        obtain ⟨G, hG, _⟩ := H3.out.mp
        exact hG.cells hc rfl
      exact (turned_block hT7 h5).trans hc
    have HP7 := Lib.hid hP7
    have HGI7 := Lib.hid (show OwnI w7 w.heap.size (.slice A6 (refsP (P.drop (needP size).toNat)).length c6) (refsP (P.drop (needP size).toNat)) from OwnI.mono (hk7.own (by simp) HGI.out) HTS.out)
    have T7 := Lib.hid (T3.out.drew.trans (Trn.map hT7 (S := [g, b]) (List.mem_cons_of_mem _ (List.mem_singleton.2 rfl))))
    unfold Nd.val at hrun
    dsimp only at hrun
    clear hT7 hP7 a0 a1 hk7
    go_wp2_with fail
    go_ret2
    rw [HD2.out]
    exact ⟨_, rfl, HGI7.out, HP7.out.more (by omega), T7.out⟩
end
end Go.Proofs.YtbejbiogabpmfaaGreat
