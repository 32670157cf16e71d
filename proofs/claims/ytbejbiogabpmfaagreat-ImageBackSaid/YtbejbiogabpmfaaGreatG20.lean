import Derived.Test.YtbejbiogabpmfaaGreatG19

/-! The project's State: a name moves. -/
namespace Go.Proofs.YtbejbiogabpmfaaGreat
open Wd Ino Sm Go.RowKit Go.ChangeShapes Go.WideShapes Go.Sort
set_option linter.unusedVariables false
set_option maxRecDepth 100000
theorem SmN.cut {n : Nod} (h : SmN n) (s : ByteArray) : SmN (cutNm s n) :=
  ⟨h.p, Nat.le_trans (dropN_len s n.names) h.q, fun e he => h.sz e (mem_dropN he), h.ino, h.kind, h.links, h.size, h.up, h.pg, fun e he => h.nm e (mem_dropN he)⟩
theorem SmS.leave {l : List Nod} (h : SmS l) (d : Int) (s : ByteArray) : SmS (leaveS l d s) := h.mod fun n _ sn => sn.cut s
theorem SmS.rm {l : List Nod} (h : SmS l) (i : Int) : SmS (rmS l i) := fun n hn => h n (List.mem_filter.1 hn).1
theorem leave_links {l : List Nod} (hl : ∀ n ∈ l, 0 ≤ n.links ∧ n.links ≤ 16) (d : Int) (s : ByteArray) : ∀ n ∈ leaveS l d s, 0 ≤ n.links ∧ n.links ≤ 16 := fun n hn => by
  unfold leaveS modS at hn
  obtain ⟨a, ha, rfl⟩ := List.mem_map.1 hn
  split
  · exact hl a ha
  · exact hl a ha
theorem SmS.forget {l : List Nod} (h : SmS l) (hl : ∀ n ∈ l, 0 ≤ n.links ∧ n.links ≤ 16) (d : Int) (s : ByteArray) (i : Int) : SmS (forgetS l d s i) := by
  unfold forgetS
  split
  · exact (h.leave d s).rm i
  · exact (h.leave d s).mod fun n hn sn => sn.links_ (by have := leave_links hl d s n hn; unfold i64R; omega)
theorem forget_at {l : List Nod} {d : Int} {s : ByteArray} {i j : Int} (hj : j ≠ i) : atS (forgetS l d s i) j = (atS l j).map (fun n => if j = d then cutNm s n else n) := by
  have hl : atS (leaveS l d s) j = (atS l j).map (fun n => if j = d then cutNm s n else n) := by unfold leaveS; exact atS_mod (f := cutNm s) (fun _ => rfl) j
  unfold forgetS
  split
  · rw [atS_rm, if_neg hj, hl]
  · rw [atS_mod (f := lessLk) (fun _ => rfl), hl]
    cases atS l j with
    | none => rfl
    | some n => simp [hj]
theorem forget_some {l : List Nod} {d : Int} {s : ByteArray} {i j : Int} (hj : j ≠ i) {n : Nod} (h : atS l j = some n) : ∃ n1, atS (forgetS l d s i) j = some n1 ∧ n1.kind = n.kind := by
  rw [forget_at hj, h]
  refine ⟨_, rfl, ?_⟩
  show (if j = d then cutNm s n else n).kind = n.kind
  split <;> rfl
theorem kind_some {l : List Nod} {i : Int} {n : Nod} (h : atS l i = some n) : kindS l i = n.kind := by unfold kindS; rw [getS_some h]
theorem some_mod {l : List Nod} {d : Int} {f : Nod → Nod} (hf : ∀ n, (f n).ino = n.ino) {i : Int} {n : Nod} (h : atS l i = some n) : ∃ n1, atS (modS l d f) i = some n1 := by
  rw [atS_mod hf, h]; exact ⟨_, rfl⟩
section
variable {w : World} {base m g b : Nat} {S : Stt}
set_option maxHeartbeats 8000000 in
theorem pRename (h : PSt w base m g b S) (bs : Bas S) (hm : m < 999900) (e : Eff) (eb : EfB e) (hth : ∀ d s i, hasS S.l d s i = true → ∃ n, atS S.l i = some n) (hkz0 : ∀ n ∈ S.l, n.kind ≠ 0) :
    Calls Tryz.prog 93 #[SPtr g, e.val] w (BGo (renameS S e) S base m g b w) := by
  have hfol : Tryz.prog.follows .mixedOrders = true := by kernel_rfl
  obtain ⟨w1, hw1⟩ : ∃ w1, w.alloc (.cells (effCells e) 64) = w1 := ⟨_, rfl⟩
  have hg1 : Below w.heap.size w w1 := by rw [← hw1]; exact below_of_grown (World.grownBy_alloc w (.cells (effCells e) 64) none)
  have hc1 : Cells w1 w.heap.size 64 (effCells e) := by rw [← hw1]; exact Cells.new w 64 (effCells e)
  have h1 := h.below hg1
  obtain ⟨n, hn, ho, lk⟩ := h1.look eb.ino'
  have hK : kindS S.l e.ino = n.kind := by unfold kindS; rw [← hn]; rfl
  obtain ⟨j, ki, l, t, u, A0, ac, P, B, bc, N⟩ := n
  have lk1 := lk w1.drew rfl
  have c01 := h1.c0
  obtain ⟨_, e1, _, _, _, _, _, _, _⟩ := cells9 hc1
  have H1 := Lib.hid h1; have HC1 := Lib.hid hc1; have HG1 := Lib.hid hg1; have HM := Lib.hid hm; have EB := Lib.hid eb; have BS := Lib.hid bs
  dsimp only at hK
  have HK := Lib.hid hK
  have NO : renameS S e = none → ∀ wx, (∃ q os, wx = grow (w1.drewN q) os) → BGo (renameS S e) S base m g b w (.returned (.bool false)) wx := fun he wx hg => by
    rw [he]
    exact ⟨rfl, (H1.out.below (grown_b hg)).more (by omega), (Trn.of (HG1.out.trans ((grown_b hg).mono HG1.out.size)))⟩
  have HNO := Lib.hid NO
  have KH := Lib.hid (fun wx (hb : ∃ q os, wx = grow (w1.drewN q) os) => pHas (h1.below (grown_b hb)) bs.sm e.dir eb.dir e.name e.ino)
  have KI := Lib.hid (fun wx (hb : ∃ q os, wx = grow (w1.drewN q) os) => pIs (h1.below (grown_b hb)) e.dst 2 eb.dst)
  have KW := Lib.hid (fun wx (hb : ∃ q os, wx = grow (w1.drewN q) os) => pWithin (h1.below (grown_b hb)) bs.sm bs.way bs.pos e.dst e.ino eb.dst)
  obtain ⟨X, hX⟩ : ∃ K, hasS S.l e.dir e.name e.ino = K := ⟨_, rfl⟩
  obtain ⟨Y, hY⟩ : ∃ K, decide (kindS S.l e.dst = 2) = K := ⟨_, rfl⟩
  obtain ⟨Z, hZ⟩ : ∃ K, withinS S.l e.dst e.ino = K := ⟨_, rfl⟩
  rw [hX] at KH
  rw [hY] at KI
  rw [hZ] at KW
  have HX := Lib.hid hX; have HY := Lib.hid hY; have HZ := Lib.hid hZ
  have HD := Lib.hid (show renameS S e = if (X && (Y && !(decide (ki = 2) && Z))) = true then
    (if hasN e.other (namesS S.l e.dst) = true then
      (if (!decide (inoN e.other (namesS S.l e.dst) = e.ino) && looseS S.l (inoN e.other (namesS S.l e.dst)) ki) = true then some ⟨moveS (forgetS S.l e.dst e.other (inoN e.other (namesS S.l e.dst))) e, S.last⟩ else none)
    else some ⟨moveS S.l e, S.last⟩)
    else none by unfold renameS; rw [hX, hY, hZ, hK])
  obtain ⟨kind, ino, dir, dst, page, size, name, other, A, cp, data⟩ := e
  unfold Eff.val
  unfold effCells at hw1
  unfold Nd.val at lk1
  dsimp only at *
  unfold SPtr at *
  clear h h1 hc1 hg1 hm eb bs hX hY hZ hK NO hn ho lk
  go_enter Tryz.func93, Tryz.ntmps93
  go_upto_region 1 with fail
  clear hw1
  go_cut [5] from 9 to 15 (fun k wx => k = .int .i64 ki ∧ wx = w1.drew)
  case first =>
    go_region
    go_wp2_with fail
    go_meet
    exact ⟨rfl, rfl⟩
  case rest =>
  obtain ⟨rfl, rfl⟩ := hcut
  have HG2 := Lib.hid (show ∃ q os, w1.drew = grow (w1.drewN q) os from ⟨1, #[], by rw [grow_empty]; rfl⟩)
  obtain ⟨w2, hw2⟩ : ∃ w2, w1.drew = w2 := ⟨_, rfl⟩
  rw [hw2] at HG2 ⊢
  clear hw2 lk1 c01 e1
  have HC2 := Lib.hid (HC1.out.below' (grown_b HG2.out))
  obtain ⟨R, hR⟩ : ∃ R, (X && (Y && !(decide (ki = 2) && Z))) = R := ⟨_, rfl⟩
  have HR0 := Lib.hid hR
  rw [hR] at HD
  clear hR
  go_upto_region 2 with fail
  go_cut [43] from 16 to 43 (fun c wx => c = .bool (!R) ∧ ∃ q os, wx = grow (w1.drewN q) os)
  case first =>
    obtain ⟨_, e1, e2, e3, _, _, e6, _, _⟩ := cells9 (e := ⟨kind, ino, dir, dst, page, size, name, other, A, cp, data⟩) HC2.out
    have KH2 := Lib.hid (KH.out _ HG2.out)
    go_wp2_with fail
    refine (KH2.out).mono ?_
    rintro e' w3 ⟨rfl, hw3⟩
    have HG3 := Lib.hid (grow_trans HG2.out hw3)
    clear hw3 KH KH2 e1 e2 e3 e6
    have HC3 := Lib.hid (HC1.out.below' (grown_b HG3.out))
    obtain ⟨_, e1, e2, e3, _, _, e6, _, _⟩ := cells9 (e := ⟨kind, ino, dir, dst, page, size, name, other, A, cp, data⟩) HC3.out
    cases X with
    | false =>
      have hr := HR0.out
      rw [Bool.false_and] at hr
      subst hr
      go_wp2
      go_meet
      exact ⟨rfl, HG3.out⟩
    | true =>
      have KI3 := Lib.hid (KI.out _ HG3.out)
      go_wp2_with fail
      refine (KI3.out).mono ?_
      rintro e' w4 ⟨rfl, hw4⟩
      have HG4 := Lib.hid (grow_trans HG3.out hw4)
      clear hw4 KI KI3 e1 e2 e3 e6
      have HC4 := Lib.hid (HC1.out.below' (grown_b HG4.out))
      obtain ⟨_, e1, e2, e3, _, _, e6, _, _⟩ := cells9 (e := ⟨kind, ino, dir, dst, page, size, name, other, A, cp, data⟩) HC4.out
      cases Y with
      | false =>
        have hr := HR0.out
        rw [Bool.false_and, Bool.true_and] at hr
        subst hr
        go_wp2
        go_meet
        exact ⟨rfl, HG4.out⟩
      | true =>
        by_cases hkd : ki = 2
        · have q1 : (ki == 2) = true := by simpa using hkd
          have hr := HR0.out
          rw [decide_eq_true hkd, Bool.true_and, Bool.true_and, Bool.true_and] at hr
          subst hr
          have KW4 := Lib.hid (KW.out _ HG4.out)
          clear hkd
          go_wp2_with fail
          refine (KW4.out).mono ?_
          rintro e' w5 ⟨rfl, hw5⟩
          have HG5 := Lib.hid (grow_trans HG4.out hw5)
          clear hw5
          cases Z <;> (go_wp2; go_meet; exact ⟨rfl, HG5.out⟩)
        · have q1 : (ki == 2) = false := by simpa using hkd
          have hr := HR0.out
          rw [decide_eq_false hkd, Bool.false_and, Bool.true_and, Bool.true_and] at hr
          subst hr
          clear hkd
          go_wp2
          go_meet
          exact ⟨rfl, HG4.out⟩
  case rest =>
  obtain ⟨rfl, hgx⟩ := hcut
  have HG5 := Lib.hid hgx
  clear hgx HG2 HC2 KH KI KW
  cases R with
  | false =>
    go_wp2
    go_ret
    exact HNO.out (by rw [HD.out]; rfl) _ HG5.out
  | true =>
  have h5 := H1.out.below (grown_b HG5.out)
  have hdst : kindS S.l dst = 2 := by
    have h1 := HR0.out
    have h2 := HY.out
    cases X <;> cases Y <;> simp_all
  obtain ⟨nt0, at0, at9⟩ := at_of_kind (l := S.l) (i := dst) (by rw [hdst]; decide)
  have hdir := has_at (show hasS S.l dir name ino = true by
    have h1 := HR0.out
    rw [HX.out]
    cases X <;> simp_all)
  have hino : ∃ n, atS S.l ino = some n ∧ n.kind = ki := by
    obtain ⟨n, hn⟩ := hth dir name ino (by
      have h1 := HR0.out
      rw [HX.out]
      cases X <;> simp_all)
    exact ⟨n, hn, by rw [← kind_some hn]; exact HK.out⟩
  obtain ⟨nd0, ad0, ad1, ad2⟩ := hdir
  obtain ⟨n2, hn2, ho2, lk2⟩ := h5.look EB.out.dst
  have hsm2 := BS.out.sm.get dst
  rw [← hn2] at hsm2
  have hN2 : namesS S.l dst = n2.names := by unfold namesS; rw [← hn2]; rfl
  have hnt : nt0.names = n2.names := by rw [← hN2]; unfold namesS; rw [at9]
  rw [hN2] at HD
  have hE2 := ho2.ens.2
  have hq2 : n2.names.length ≤ 1000 := Nat.le_trans hsm2.q (by decide)
  have KF := Lib.hid (fun n os => Grows.inAt (fun n os => dFind (c := n2.bc) (hE2.below (below_grow' wc n os)) (below_grow' wc n os).size hq2 other) n os)
  have LK2 : ∀ (n : Nat) (os : Array Obj), _ := fun n os => lk2 (grow (wc.drewN n) os) ((below_grow' wc n os).block b h5.blt)
  have HC5 := Lib.hid (HC1.out.below' (grown_b HG5.out))
  obtain ⟨_, _, _, e3, _, _, _, e7, _⟩ := cells9 (e := ⟨kind, ino, dir, dst, page, size, name, other, A, cp, data⟩) HC5.out
  have x3 := cell_grown (a := ⟨w.heap.size, 3, none⟩) HC5.out.lt e3
  have x7 := cell_grown (a := ⟨w.heap.size, 7, none⟩) HC5.out.lt e7
  have y0 := cell_grown (a := ⟨g, 0, none⟩) h5.cells.lt h5.c0
  obtain ⟨HH, hH⟩ : ∃ K, hasN other n2.names = K := ⟨_, rfl⟩
  obtain ⟨I, hI⟩ : ∃ K, inoN other n2.names = K := ⟨_, rfl⟩
  have HRI := Lib.hid (show HH = true → i64R I from fun hh => by
    obtain ⟨e, he, _, h3⟩ := has_mem (hH.trans hh)
    rw [← hI, ← h3]
    exact hsm2.nm e he)
  have HNT := Lib.hid hnt
  rw [hH, hI] at KF
  rw [hH, hI] at HD
  have H5 := Lib.hid h5; have AT0 := Lib.hid at0; have AD0 := Lib.hid ad0; have AD1 := Lib.hid ad1; have AD2 := Lib.hid ad2; have HH0 := Lib.hid hH
  have HI0 := Lib.hid hI
  have AI0 := Lib.hid (show ∃ n, atS S.l ino = some n ∧ n.kind = ki by
    exact hino)
  obtain ⟨j2, ki2, l2, t2, u2, A2, ac2, P2, B2, bc2, N2⟩ := n2
  unfold Nd.val at LK2
  dsimp only at LK2 KF HNT
  clear h5 hdst at0 at9 ad0 ad1 ad2 hn2 ho2 lk2 hsm2 hN2 hnt hE2 hq2 e3 e7 hH hI
  go_upto_region 4 with fail
  refine wp_region_quiet_grown hfol (by kernel_rfl) ?_
  repeat (go_big_quiet_step (first | (go_at_call 139; (with_reducible exact KF.out _ _))))
  refine wpQuiet_nil ?_
  intro _ hw'
  obtain ⟨⟨nr, osr⟩, hw''⟩ := hw'
  subst hw''
  have HG6 := Lib.hid (grow_trans HG5.out (show ∃ q os, grow (wc.drewN nr) osr = grow (wc.drewN q) os from ⟨nr, osr, rfl⟩))
  obtain ⟨w6, hw6⟩ : ∃ w6, grow (wc.drewN nr) osr = w6 := ⟨_, rfl⟩
  dsimp only
  rw [hw6] at HG6 ⊢
  clear hw6 x3 x7 y0 KF LK2 HC5 H5
  have P6 := Lib.hid (H1.out.below (grown_b HG6.out))
  have C6 := Lib.hid (HC1.out.below' (grown_b HG6.out))
  have T6 := Lib.hid (Trn.of (S := [g, b]) (HG1.out.trans ((grown_b HG6.out).mono HG1.out.size)))
  cases HH with
  | false =>
    have HR := Lib.hid (show renameS S ⟨kind, ino, dir, dst, page, size, name, other, A, cp, data⟩ = some ⟨moveS S.l ⟨kind, ino, dir, dst, page, size, name, other, A, cp, data⟩, S.last⟩ by rw [HD.out]; simp)
    have P1 := P6; have C1 := C6; have T1 := T6
    have S1 := Lib.hid BS.out.sm
    have AD := Lib.hid (show ∃ n, atS S.l dir = some n from ⟨_, AD0.out⟩)
    have AT := Lib.hid (show ∃ n, atS S.l dst = some n from ⟨_, AT0.out⟩)
    have AI := Lib.hid (show ∃ n, atS S.l ino = some n ∧ n.kind = ki from AI0.out)
    obtain ⟨_, g1, g2, g3, _, _, g6, g7, _⟩ := cells9 (e := ⟨kind, ino, dir, dst, page, size, name, other, A, cp, data⟩) C1.out
    obtain ⟨nd, ad⟩ := AD.out
    have KV := Lib.hid (pLeave P1.out S1.out (by have := HM.out; omega) dir EB.out.dir ad name)
    unfold SPtr at KV
    clear ad
    go_wp2_with fail
    refine (KV.out).mono ?_
    rintro e' wl ⟨rfl, hl4, tl4⟩
    have hcl := P1.out.keepC tl4 _ _ _ (by decide) C1.out
    have TL := Lib.hid (T1.out.trans tl4)
    obtain ⟨nt, at0⟩ := AT.out
    obtain ⟨nt1, at1⟩ := some_mod (d := dir) (f := cutNm name) (fun _ => rfl) at0
    have KE := Lib.hid (pEnter hl4 (SmS.leave S1.out dir name) (by have := HM.out; omega) dst EB.out.dst at1 other EB.out.other ino)
    have PL := Lib.hid hl4; have CL := Lib.hid hcl
    obtain ⟨_, g1, g2, g3, _, _, g6, g7, _⟩ := cells9 (e := ⟨kind, ino, dir, dst, page, size, name, other, A, cp, data⟩) hcl
    unfold SPtr at KE
    clear hl4 tl4 hcl at0 at1 KV
    go_wp2_with fail
    refine (KE.out).mono ?_
    rintro e' we ⟨rfl, he4, te4⟩
    have hce := PL.out.keepC te4 _ _ _ (by decide) CL.out
    have TE := Lib.hid (TL.out.trans te4)
    have PE := Lib.hid he4
    obtain ⟨_, g1, g2, g3, _, _, g6, g7, _⟩ := cells9 (e := ⟨kind, ino, dir, dst, page, size, name, other, A, cp, data⟩) hce
    by_cases hkd : ki = 2
    · have q9 : (ki == 2) = true := by simpa using hkd
      obtain ⟨ni, ai, ak⟩ := AI.out
      obtain ⟨n1, a1⟩ := some_mod (d := dir) (f := cutNm name) (fun _ => rfl) ai
      obtain ⟨n2, a2⟩ := some_mod (d := dst) (f := putNm other ino) (fun _ => rfl) a1
      have KU := Lib.hid (pMoveTo he4 (by have := HM.out; omega) ino EB.out.ino' a2 dst)
      have HX9 := Lib.hid (show moveS S.l ⟨kind, ino, dir, dst, page, size, name, other, A, cp, data⟩ = modS (enterS (leaveS S.l dir name) dst other ino) ino (setUp dst) by
        unfold moveS; dsimp only; rw [if_pos (by rw [kind_some ai, ak]; exact hkd)])
      unfold SPtr at KU
      clear he4 te4 hce hkd ai ak a1 a2 KE
      go_wp2_with fail
      refine (KU.out).mono ?_
      rintro e' wu ⟨rfl, hu4, tu4⟩
      have PU := Lib.hid hu4; have TU := Lib.hid (TE.out.trans tu4)
      clear hu4 tu4
      go_wp2
      go_ret
      rw [HR.out, HX9.out]
      exact ⟨rfl, PU.out.more (by omega), TU.out⟩
    · have q9 : (ki == 2) = false := by simpa using hkd
      obtain ⟨ni, ai, ak⟩ := AI.out
      have HX9 := Lib.hid (show moveS S.l ⟨kind, ino, dir, dst, page, size, name, other, A, cp, data⟩ = enterS (leaveS S.l dir name) dst other ino by
        unfold moveS; dsimp only; rw [if_neg (by rw [kind_some ai, ak]; exact hkd)])
      clear he4 te4 hce hkd ai ak KE
      go_wp2
      go_ret
      rw [HR.out, HX9.out]
      exact ⟨rfl, PE.out.more (by omega), TE.out⟩
  | true =>
    have hri := HRI.out rfl
    by_cases hei : I = ino
    · have q5 : (I == ino) = true := by simpa using hei
      have HX5 := Lib.hid (show renameS S ⟨kind, ino, dir, dst, page, size, name, other, A, cp, data⟩ = none by rw [HD.out, decide_eq_true hei]; simp)
      obtain ⟨_, g1, g2, g3, _, _, g6, g7, _⟩ := cells9 (e := ⟨kind, ino, dir, dst, page, size, name, other, A, cp, data⟩) C6.out
      clear hei hri
      go_wp2
      go_ret
      exact HNO.out HX5.out _ HG6.out
    · have q5 : (I == ino) = false := by simpa using hei
      obtain ⟨_, g1, g2, g3, _, _, g6, g7, _⟩ := cells9 (e := ⟨kind, ino, dir, dst, page, size, name, other, A, cp, data⟩) C6.out
      have KLo := Lib.hid (pLoose P6.out I ki hri)
      obtain ⟨Lo, hLo⟩ : ∃ L, looseS S.l I ki = L := ⟨_, rfl⟩
      rw [hLo] at KLo
      have HLo := Lib.hid hLo
      rw [hLo, decide_eq_false hei] at HD
      have HEI := Lib.hid hei; have HII := Lib.hid hri
      unfold SPtr at KLo
      clear hei hLo hri
      go_wp2_with fail
      refine (KLo.out).mono ?_
      rintro e' w7 ⟨rfl, hw7⟩
      have HG7 := Lib.hid (grow_trans HG6.out hw7)
      clear hw7 KLo g1 g2 g3 g6 g7
      have P7 := Lib.hid (H1.out.below (grown_b HG7.out))
      have C7 := Lib.hid (HC1.out.below' (grown_b HG7.out))
      have T7 := Lib.hid (Trn.of (S := [g, b]) (HG1.out.trans ((grown_b HG7.out).mono HG1.out.size)))
      obtain ⟨_, g1, g2, g3, _, _, g6, g7, _⟩ := cells9 (e := ⟨kind, ino, dir, dst, page, size, name, other, A, cp, data⟩) C7.out
      cases Lo with
      | false =>
        have HX5 := Lib.hid (show renameS S ⟨kind, ino, dir, dst, page, size, name, other, A, cp, data⟩ = none by rw [HD.out]; simp)
        go_wp2
        go_ret
        exact HNO.out HX5.out _ HG7.out
      | true =>
        have HR := Lib.hid (show renameS S ⟨kind, ino, dir, dst, page, size, name, other, A, cp, data⟩ = some ⟨moveS (forgetS S.l dst other I) ⟨kind, ino, dir, dst, page, size, name, other, A, cp, data⟩, S.last⟩ by rw [HD.out]; simp)
        obtain ⟨ni0, ai0, ak0⟩ := AI0.out
        have hkz : ki ≠ 0 ∨ ki = 0 := by omega
        obtain ⟨ns, as0, as1⟩ : ∃ n, atS S.l I = some n ∧ n.names = [] := by
          by_cases hk0 : ki = 0
          · exact absurd (ak0.trans hk0) (hkz0 ni0 (atS_mem ai0))
          · obtain ⟨n, a1, _, a3, _⟩ := loose_at hk0 HLo.out
            exact ⟨n, a1, a3⟩
        have hlk := BS.out.lk ns (atS_mem as0)
        obtain ⟨ns2, as2, as3, _⟩ := at_leave (d := dst) (s := other) as0
        have hdI : dir ≠ I := fun e => by
          have h1 := AD0.out
          rw [e, as0] at h1
          have h2 := AD1.out
          rw [← Option.some.inj h1, as1] at h2
          cases h2
        have htI : dst ≠ I := fun e => by
          have h1 := AT0.out
          rw [e, as0] at h1
          have h2 := HNT.out
          rw [← Option.some.inj h1, as1] at h2
          have h3 := HH0.out
          rw [← h2] at h3
          cases h3
        have KFo := Lib.hid (pForget P7.out BS.out.sm (by have := HM.out; omega) dst EB.out.dst AT0.out other I HII.out as2 (by omega) (by omega))
        obtain ⟨xd, xd1, _⟩ := forget_some (d := dst) (s := other) hdI AD0.out
        obtain ⟨xt, xt1, _⟩ := forget_some (d := dst) (s := other) htI AT0.out
        obtain ⟨xi, xi1, xi2⟩ := forget_some (d := dst) (s := other) (fun e => HEI.out e.symm) ai0
        have S1 := Lib.hid (SmS.forget BS.out.sm BS.out.lk dst other I)
        have AD := Lib.hid (show ∃ n, atS (forgetS S.l dst other I) dir = some n from ⟨_, xd1⟩)
        have AT := Lib.hid (show ∃ n, atS (forgetS S.l dst other I) dst = some n from ⟨_, xt1⟩)
        have AI := Lib.hid (show ∃ n, atS (forgetS S.l dst other I) ino = some n ∧ n.kind = ki from ⟨_, xi1, xi2.trans ak0⟩)
        unfold SPtr at KFo
        clear ai0 ak0 hkz as0 as1 hlk as2 as3 hdI htI xd1 xt1 xi1 xi2
        go_wp2_with fail
        refine (KFo.out).mono ?_
        rintro e' w8 ⟨rfl, h8, t8⟩
        have C1 := Lib.hid (P7.out.keepC t8 _ _ _ (by decide) C7.out)
        have P1 := Lib.hid h8
        have T1 := Lib.hid (T7.out.trans t8)
        clear h8 t8 g1 g2 g3 g6 g7 KFo
        obtain ⟨_, g1, g2, g3, _, _, g6, g7, _⟩ := cells9 (e := ⟨kind, ino, dir, dst, page, size, name, other, A, cp, data⟩) C1.out
        obtain ⟨nd, ad⟩ := AD.out
        have KV := Lib.hid (pLeave P1.out S1.out (by have := HM.out; omega) dir EB.out.dir ad name)
        unfold SPtr at KV
        clear ad
        go_wp2_with fail
        refine (KV.out).mono ?_
        rintro e' wl ⟨rfl, hl4, tl4⟩
        have hcl := P1.out.keepC tl4 _ _ _ (by decide) C1.out
        have TL := Lib.hid (T1.out.trans tl4)
        obtain ⟨nt, at0⟩ := AT.out
        obtain ⟨nt1, at1⟩ := some_mod (d := dir) (f := cutNm name) (fun _ => rfl) at0
        have KE := Lib.hid (pEnter hl4 (SmS.leave S1.out dir name) (by have := HM.out; omega) dst EB.out.dst at1 other EB.out.other ino)
        have PL := Lib.hid hl4; have CL := Lib.hid hcl
        obtain ⟨_, g1, g2, g3, _, _, g6, g7, _⟩ := cells9 (e := ⟨kind, ino, dir, dst, page, size, name, other, A, cp, data⟩) hcl
        unfold SPtr at KE
        clear hl4 tl4 hcl at0 at1 KV
        go_wp2_with fail
        refine (KE.out).mono ?_
        rintro e' we ⟨rfl, he4, te4⟩
        have hce := PL.out.keepC te4 _ _ _ (by decide) CL.out
        have TE := Lib.hid (TL.out.trans te4)
        have PE := Lib.hid he4
        obtain ⟨_, g1, g2, g3, _, _, g6, g7, _⟩ := cells9 (e := ⟨kind, ino, dir, dst, page, size, name, other, A, cp, data⟩) hce
        by_cases hkd : ki = 2
        · have q9 : (ki == 2) = true := by simpa using hkd
          obtain ⟨ni, ai, ak⟩ := AI.out
          obtain ⟨n1, a1⟩ := some_mod (d := dir) (f := cutNm name) (fun _ => rfl) ai
          obtain ⟨n2, a2⟩ := some_mod (d := dst) (f := putNm other ino) (fun _ => rfl) a1
          have KU := Lib.hid (pMoveTo he4 (by have := HM.out; omega) ino EB.out.ino' a2 dst)
          have HX9 := Lib.hid (show moveS (forgetS S.l dst other I) ⟨kind, ino, dir, dst, page, size, name, other, A, cp, data⟩ = modS (enterS (leaveS (forgetS S.l dst other I) dir name) dst other ino) ino (setUp dst) by
            unfold moveS; dsimp only; rw [if_pos (by rw [kind_some ai, ak]; exact hkd)])
          unfold SPtr at KU
          clear he4 te4 hce hkd ai ak a1 a2 KE
          go_wp2_with fail
          refine (KU.out).mono ?_
          rintro e' wu ⟨rfl, hu4, tu4⟩
          have PU := Lib.hid hu4; have TU := Lib.hid (TE.out.trans tu4)
          clear hu4 tu4
          go_wp2
          go_ret
          rw [HR.out, HX9.out]
          exact ⟨rfl, PU.out.more (by omega), TU.out⟩
        · have q9 : (ki == 2) = false := by simpa using hkd
          obtain ⟨ni, ai, ak⟩ := AI.out
          have HX9 := Lib.hid (show moveS (forgetS S.l dst other I) ⟨kind, ino, dir, dst, page, size, name, other, A, cp, data⟩ = enterS (leaveS (forgetS S.l dst other I) dir name) dst other ino by
            unfold moveS; dsimp only; rw [if_neg (by rw [kind_some ai, ak]; exact hkd)])
          clear he4 te4 hce hkd ai ak KE
          go_wp2
          go_ret
          rw [HR.out, HX9.out]
          exact ⟨rfl, PE.out.more (by omega), TE.out⟩
end
end Go.Proofs.YtbejbiogabpmfaaGreat
