import Derived.Test.YtbejbiogabpmfaaGreatG18
import Derived.Test.YtbejbiogabpmfaaGreatG26
import Derived.Test.YtbejbiogabpmfaaGreatG22

/-! The document's State: an effect of kind 1 is done. -/
namespace Go.Proofs.YtbejbiogabpmfaaGreat
open Wd Ino Sm Go.RowKit Go.ChangeShapes Go.WideShapes Go.Sort
set_option linter.unusedVariables false
set_option maxRecDepth 100000
theorem Inv.free_eq {S : Stt} (h : Inv S) (d : Int) (s : ByteArray) : freeS S.l d s = (decide (kindS S.l d = 2) && decide (namedS S.l d s = 0)) := by
  unfold freeS
  by_cases hk : kindS S.l d = 2
  · rw [decide_eq_true hk, Bool.true_and, Bool.true_and]
    obtain ⟨n, a, b⟩ := at_of_kind (l := S.l) (i := d) (by rw [hk]; decide)
    have hN : namesS S.l d = n.names := by unfold namesS; rw [b]
    rw [hN]
    cases hh : hasN s n.names with
    | false =>
      have : namedS S.l d s = 0 := by unfold namedS; rw [if_pos hk, hN, inoN_none hh]
      rw [decide_eq_true this]; rfl
    | true =>
      have : ¬ namedS S.l d s = 0 := fun h0 => by
        have h1 := named_not h.names hk h0 a
        rw [hh] at h1; cases h1
      rw [decide_eq_false this]; rfl
  · rw [decide_eq_false hk]; rfl
theorem OwnNs.ne {w : World} {base gL n c q : Nat} {l : List Nd} {T : TypeId} {cs : Array Value} (h : OwnNs w base (.slice (some ⟨gL, 0, none⟩) n c) l) (hc : Cells w q T cs) (hT : T ≠ 51) : gL ≠ q := by
  rcases h.2 with ⟨h0, _⟩ | ⟨g', cap, cur, hv, hb, hh, _⟩
  · cases h0
  · injection hv with hv _ _
    injection hv with hv
    injection hv with hv
    subst hv
    exact fun e => (show Cells w gL 51 cur from hh).ne hc (fun h => hT h.symm) e
theorem OwnNs.lt {w : World} {base gL n c : Nat} {l : List Nd} (h : OwnNs w base (.slice (some ⟨gL, 0, none⟩) n c) l) : gL < w.heap.size := by
  rcases h.2 with ⟨h0, _⟩ | ⟨g', cap, cur, hv, hb, hh, _⟩
  · cases h0
  · injection hv with hv _ _
    injection hv with hv
    injection hv with hv
    subst hv
    exact (show Cells w gL 51 cur from hh).lt
theorem DSx.setLast {w : World} {base g : Nat} {Ls : List Nd} {v : Value} {S : Stt} (h : DSx w base g Ls v S) (L : Int) : DSx (w.setCell ⟨g, 1, none⟩ (.int .i64 L)) base g Ls v ⟨S.l, L⟩ :=
  have hk := KeepC.set h.cells 1 (.int .i64 L)
  ⟨h.lo, h.cells.set 1 _, hk.rowP (by decide) h.row, fun n hn => (h.own n hn).keep hk (by decide) (by decide), h.eq⟩
section
variable {w w' : World} {base g : Nat} {Ls : List Nd} {v : Value} {S : Stt}
set_option maxHeartbeats 8000000 in
theorem rDo1 (h : DSx w base g Ls v S) (hown : OwnNs w base v Ls) (iv : Inv S) {k0 : Nat} (nm : Num k0 S) (hk0 : k0 ≤ 900) (e : Eff) (ec : EfC e) (ref : Int) (hrf : i64R ref) (hK : e.kind = 1) :
    Calls Tryz.prog 63 #[SPtr g, e.val, .int .i64 ref] w (DX (stepS S e ref) S base g Ls w) := by
  have hfol : Tryz.prog.follows .mixedOrders = true := by kernel_rfl
  obtain ⟨w1, hw1⟩ : ∃ w1, w.alloc (.cells (effCells e) 64) = w1 := ⟨_, rfl⟩
  have hg1 : Below w.heap.size w w1 := by rw [← hw1]; exact below_of_grown (World.grownBy_alloc w (.cells (effCells e) 64) none)
  have hc1 : Cells w1 w.heap.size 64 (effCells e) := by rw [← hw1]; exact Cells.new w 64 (effCells e)
  have h1 := h.below hg1
  have hlen : Ls.length ≤ 901 := by rw [← h.len]; have := nm.len; omega
  have hle : Ls.length ≤ 1000 := by omega
  obtain ⟨x0, x1, x2, x3, x4, x5, x6, x7, x8⟩ := cells9 hc1
  have ka := rAt h1 hle e.ino
  obtain ⟨I, hI⟩ : ∃ I, atI S.l e.ino = I := ⟨_, rfl⟩
  rw [hI] at ka
  have KA := Lib.hid ka; have HI := Lib.hid hI
  clear ka hI
  have SM := Lib.hid (iv.smN nm hk0); have BD := Lib.hid (iv.bad nm hk0); have IV := Lib.hid iv; have EC := Lib.hid ec; have H1 := Lib.hid h1; have OW1 := Lib.hid (hown.below hg1); have HC1 := Lib.hid hc1; have HG1 := Lib.hid hg1; have HLE := Lib.hid hle; have HLN := Lib.hid hlen
  have HBASE := Lib.hid (show base ≤ w.heap.size by have := h.lo; have := h.cells.lt; omega)
  have HRF := Lib.hid hrf
  have HS := Lib.hid (show stepS S e ref = bareS (makeS S e) by unfold stepS; rw [hK]; simp)
  have HBW := Lib.hid (fun wx (hb : ∃ q os, wx = grow (w1.drewN q) os) => show Below base w wx from (HG1.out.trans ((grown_b hb).mono HG1.out.size)).mono HBASE.out)
  have HNO := Lib.hid (show bareS (makeS S e) = none → ∀ wx, (∃ q os, wx = grow (w1.drewN q) os) → DX (stepS S e ref) S base g Ls w (.returned (.tuple #[.slice none 0 0, .bool false])) wx from fun hn wx hg => by
    rw [HS.out, hn]
    exact ⟨none, 0, 0, Ls, v, rfl, H1.out.below (grown_b hg), Nat.le_succ _, HBW.out wx hg⟩)
  obtain ⟨D0, hD⟩ : ∃ K, kindS S.l e.dir = K := ⟨_, rfl⟩
  obtain ⟨N0, hN⟩ : ∃ K, namedS S.l e.dir e.name = K := ⟨_, rfl⟩
  obtain ⟨R, hR⟩ : ∃ R, (decide (D0 = 2) && (decide (N0 = 0) && decide (e.ino = S.last + 1))) = R := ⟨_, rfl⟩
  have hfr : (freeS S.l e.dir e.name && decide (e.ino - 1 = S.last)) = R := by
    rw [← hR, iv.free_eq, hD, hN, Bool.and_assoc]
    congr 2
    exact decide_eq_decide.2 ⟨fun h => by omega, fun h => by omega⟩
  have HFR := Lib.hid hfr; have HRR := Lib.hid hR; have HD := Lib.hid hD; have HN := Lib.hid hN
  have hwl : IntKind.i64.wrap (S.last + 1) = S.last + 1 := by have h1 := iv.last_one; have h2 := iv.most; rw [IntKind.wrap_i64]; omega
  have KT0 := Lib.hid (fun wx (hb : ∃ q os, wx = grow (w1.drewN q) os) => rKind (h1.below (grown_b hb)) hle e.dir)
  have KN0 := Lib.hid (fun wx (hb : ∃ q os, wx = grow (w1.drewN q) os) => rNamed (h1.below (grown_b hb)) hle SM.out e.dir e.name)
  rw [hD] at KT0
  rw [hN] at KN0
  clear hD hN hfr hR
  obtain ⟨kind, ino, dir, dst, page, size, name, other, A, cp, data⟩ := e
  dsimp only at hK
  subst hK
  unfold Eff.val
  unfold effCells at hw1
  dsimp only at *
  unfold SPtr at *
  clear h h1 hown iv nm ec hc1 hg1 hle hlen hrf
  go_enter Tryz.func63, Tryz.ntmps63
  go_wp2_with fail
  clear hw1
  refine (KA.out).mono ?_
  rintro e' w2 ⟨rfl, hw2⟩
  have HG2 := Lib.hid hw2
  have HC2 := Lib.hid (HC1.out.below' (grown_b hw2)); have H2 := Lib.hid (H1.out.below (grown_b hw2)); have OW2 := Lib.hid (OW1.out.below (grown_b hw2))
  clear hw2 x0 x1 x2 x3 x4 x5 x6 x7 x8 KA
  obtain ⟨e0, e1, e2, e3, e4, e5, e6, e7, e8⟩ := cells9 (e := ⟨1, ino, dir, dst, page, size, name, other, A, cp, data⟩) HC2.out
  have KT := Lib.hid (fun n os => Grows.inAt (fun n os => KT0.out (grow (w2.drewN n) os) (grow_trans HG2.out ⟨n, os, rfl⟩)) n os)
  have KN := Lib.hid (fun n os => Grows.inAt (fun n os => KN0.out (grow (w2.drewN n) os) (grow_trans HG2.out ⟨n, os, rfl⟩)) n os)
  have x1 := cell_grown (a := ⟨w.heap.size, 1, none⟩) HC2.out.lt e1
  have x2 := cell_grown (a := ⟨w.heap.size, 2, none⟩) HC2.out.lt e2
  have x6 := cell_grown (a := ⟨w.heap.size, 6, none⟩) HC2.out.lt e6
  have xl := cell_grown (a := ⟨g, 1, none⟩) H2.out.cells.lt H2.out.c1
  go_upto_region 4 with fail
  go_cut [50] from 27 to 50 (fun c wx => c = .bool (!R) ∧ ∃ q os, wx = grow (w1.drewN q) os)
  case first =>
    have hr := HRR.out
    by_cases p1 : D0 = 2
    · have q1 : (D0 != 2) = false := by simpa using p1
      rw [decide_eq_true p1, Bool.true_and] at hr
      by_cases p2 : N0 = 0
      · have q2 : (N0 != 0) = false := by simpa using p2
        rw [decide_eq_true p2, Bool.true_and] at hr
        by_cases p3 : ino = S.last + 1
        · have q3 : (ino != S.last + 1) = false := by simpa using p3
          rw [decide_eq_true p3] at hr
          subst hr
          have HP3 := Lib.hid p3
          clear p1 p2 p3
          refine wp_region_quiet_grown hfol (by kernel_rfl) ?_
          repeat (go_big_quiet_step (first | (go_at_call 100; (with_reducible exact KT.out _ _)) | (go_at_call 101; (with_reducible exact KN.out _ _))))
          refine wpQuiet_nil ?_
          intro _ hw'
          obtain ⟨⟨nr, osr⟩, hw''⟩ := hw'
          subst hw''
          have HG3 := Lib.hid (grow_trans HG2.out (show ∃ q os, grow (w2.drewN nr) osr = grow (w2.drewN q) os from ⟨nr, osr, rfl⟩))
          go_wp2_with fail
          go_meet
          exact ⟨rfl, HG3.out⟩
        · have q3 : (ino != S.last + 1) = true := by simpa using p3
          rw [decide_eq_false p3] at hr
          subst hr
          clear p1 p2 p3
          refine wp_region_quiet_grown hfol (by kernel_rfl) ?_
          repeat (go_big_quiet_step (first | (go_at_call 100; (with_reducible exact KT.out _ _)) | (go_at_call 101; (with_reducible exact KN.out _ _))))
          refine wpQuiet_nil ?_
          intro _ hw'
          obtain ⟨⟨nr, osr⟩, hw''⟩ := hw'
          subst hw''
          have HG3 := Lib.hid (grow_trans HG2.out (show ∃ q os, grow (w2.drewN nr) osr = grow (w2.drewN q) os from ⟨nr, osr, rfl⟩))
          go_wp2_with fail
          go_meet
          exact ⟨rfl, HG3.out⟩
      · have q2 : (N0 != 0) = true := by simpa using p2
        rw [decide_eq_false p2, Bool.false_and] at hr
        subst hr
        clear p1 p2
        refine wp_region_quiet_grown hfol (by kernel_rfl) ?_
        repeat (go_big_quiet_step (first | (go_at_call 100; (with_reducible exact KT.out _ _)) | (go_at_call 101; (with_reducible exact KN.out _ _))))
        refine wpQuiet_nil ?_
        intro _ hw'
        obtain ⟨⟨nr, osr⟩, hw''⟩ := hw'
        subst hw''
        have HG3 := Lib.hid (grow_trans HG2.out (show ∃ q os, grow (w2.drewN nr) osr = grow (w2.drewN q) os from ⟨nr, osr, rfl⟩))
        go_wp2_with fail
        go_meet
        exact ⟨rfl, HG3.out⟩
    · have q1 : (D0 != 2) = true := by simpa using p1
      rw [decide_eq_false p1, Bool.false_and] at hr
      subst hr
      clear p1
      refine wp_region_quiet_grown hfol (by kernel_rfl) ?_
      repeat (go_big_quiet_step (first | (go_at_call 100; (with_reducible exact KT.out _ _)) | (go_at_call 101; (with_reducible exact KN.out _ _))))
      refine wpQuiet_nil ?_
      intro _ hw'
      obtain ⟨⟨nr, osr⟩, hw''⟩ := hw'
      subst hw''
      have HG3 := Lib.hid (grow_trans HG2.out (show ∃ q os, grow (w2.drewN nr) osr = grow (w2.drewN q) os from ⟨nr, osr, rfl⟩))
      go_wp2_with fail
      go_meet
      exact ⟨rfl, HG3.out⟩
  case rest =>
  obtain ⟨rfl, hgx⟩ := hcut
  have HG5 := Lib.hid hgx
  clear hgx HG2 HC2 H2 OW2 KN KT KN0 KT0 e0 e1 e2 e3 e4 e5 e6 e7 e8 x1 x2 x6 xl hwl
  cases R with
  | false =>
    go_wp2
    go_ret2
    exact HNO.out (by unfold makeS bareS; dsimp only; rw [HFR.out]; rfl) _ HG5.out
  | true =>
  have hr := HRR.out
  simp only [Bool.and_eq_true, decide_eq_true_eq] at hr
  obtain ⟨r1, r2, r3⟩ := hr
  obtain ⟨n0, a0, _⟩ := at_of_kind (l := S.l) (i := dir) (by rw [HD.out, r1]; decide)
  have an0 := named_not IV.out.names (HD.out.trans r1) (HN.out.trans r2) a0
  have hfb := HFR.out
  simp only [Bool.and_eq_true, decide_eq_true_eq] at hfb
  have HMK := Lib.hid (show stepS S ⟨1, ino, dir, dst, page, size, name, other, A, cp, data⟩ ref = some (⟨enterS S.l dir name ino ++ [newNod ino page dir], ino⟩, []) by
    rw [HS.out]; unfold makeS bareS; dsimp only; rw [HFR.out, if_pos rfl, IV.out.make_order (e := ⟨1, ino, dir, dst, page, size, name, other, A, cp, data⟩) hfb.1 hfb.2]; rfl)
  have D5 := Lib.hid (H1.out.below (grown_b HG5.out)); have OW5 := Lib.hid (OW1.out.below (grown_b HG5.out)); have C5 := Lib.hid (HC1.out.below' (grown_b HG5.out))
  have B5 := Lib.hid (HBW.out wc HG5.out)
  have HUP := Lib.hid (show (page = 2 → newUp page dir = dir) ∧ (page ≠ 2 → newUp page dir = 0) from ⟨fun h => by unfold newUp; rw [if_pos h], fun h => by unfold newUp; rw [if_neg h]⟩)
  have HA0 := Lib.hid (And.intro a0 an0)
  clear r1 r2 r3 a0 an0 hfb
  by_cases hp : page = 2
  · have q5 : (page == 2) = true := by simpa using hp
    have hup : newUp page dir = dir := HUP.out.1 hp
    have HU := Lib.hid hup
    clear hp hup
    have hb3 : Below wc.heap.size wc (wc.alloc (.cells #[.int .i64 ino, .int .i64 page, .int .i64 1, .int .i64 0, .int .i64 0, .slice none 0 0, .slice none 0 0] 51)) := below_of_grown (World.grownBy_alloc wc _ none)
    have CZ := Lib.hid (C5.out.below' hb3)
    have hb4 : Below wc.heap.size wc (wc.alloc (.cells #[.int .i64 ino, .int .i64 page, .int .i64 1, .int .i64 0, .int .i64 dir, .slice none 0 0, .slice none 0 0] 51)) := below_of_grown (World.grownBy_alloc wc _ none)
    have hcn : Cells (wc.alloc (.cells #[.int .i64 ino, .int .i64 page, .int .i64 1, .int .i64 0, .int .i64 dir, .slice none 0 0, .slice none 0 0] 51)) wc.heap.size 51 (ncells ino page 1 0 dir (.slice none 0 0) (.slice none 0 0)) := Cells.new _ _ _
    obtain ⟨d0, d1, d2, d3, d4, d5, d6, d7, d8⟩ := cells9 (e := ⟨1, ino, dir, dst, page, size, name, other, A, cp, data⟩) CZ.out
    have C4 := Lib.hid (C5.out.below' hb4); have CN := Lib.hid hcn; have HB4 := Lib.hid hb4
    have KP := Lib.hid (rPutSO (D5.out.below hb4) (OW5.out.below hb4) HLE.out SM.out BD.out.asc dir HA0.out.1 name HA0.out.2 ino)
    obtain ⟨e0, e1, e2, e3, e4, e5, e6, e7, e8⟩ := cells9 (e := ⟨1, ino, dir, dst, page, size, name, other, A, cp, data⟩) C5.out
    obtain ⟨f0, f1, f2, f3, f4, f5, f6, f7, f8⟩ := cells9 (e := ⟨1, ino, dir, dst, page, size, name, other, A, cp, data⟩) C4.out
    unfold SPtr at KP
    clear hb4 hcn hb3
    go_wp2_with fail
    refine (KP.out).mono ?_
    rintro e' w5 ⟨rfl, L5, v5, D6, OW6, hl6, hb6, gL, cL, hvL, t6⟩
    obtain ⟨A5, c5, rfl, _, _⟩ := D6.form
    have hgL : gL < wc.heap.size := OwnNs.lt (by rw [← hvL]; exact OW5.out)
    have CN5 := Lib.hid (show Cells w5 wc.heap.size 51 _ from (t6.block _ CN.out.lt (by simp; omega)).trans CN.out)
    have HT6 := Lib.hid t6
    have hgw : w.heap.size < w1.heap.size := HC1.out.lt
    have hgE : gL ≠ w.heap.size := fun hh => by
      rw [hvL, hh] at OW5
      exact OwnNs.ne OW5.out C5.out (by decide) rfl
    have C6 := Lib.hid (show Cells w5 w.heap.size 64 _ from (t6.block _ C4.out.lt (by simp; exact fun hh => hgE hh.symm)).trans C4.out)
    obtain ⟨z0, z1, z2, z3, z4, z5, z6⟩ := cells7 CN5.out
    have D6H := Lib.hid D6; have OW6H := Lib.hid OW6; have HB6 := Lib.hid ((B5.out.trans (HB4.out.mono (by have := B5.out.size; have := HBASE.out; omega))).trans hb6); have HL6 := Lib.hid hl6
    have y0 := D6.c0
    have g4 : Below w5.heap.size w5 (w5.alloc (.cells #[.int .i64 ino, .int .i64 page, .int .i64 1, .int .i64 0, .int .i64 dir, .slice none 0 0, .slice none 0 0] 51)) := below_of_grown (World.grownBy_alloc w5 _ none)
    have b3 : Below (w5.alloc (.cells #[.int .i64 ino, .int .i64 page, .int .i64 1, .int .i64 0, .int .i64 dir, .slice none 0 0, .slice none 0 0] 51)).heap.size (w5.alloc (.cells #[.int .i64 ino, .int .i64 page, .int .i64 1, .int .i64 0, .int .i64 dir, .slice none 0 0, .slice none 0 0] 51)) (w5.alloc (.cells #[.int .i64 ino, .int .i64 page, .int .i64 1, .int .i64 0, .int .i64 dir, .slice none 0 0, .slice none 0 0] 51)).drew := below_drewN (Below.refl _ _) 1
    have D7 := Lib.hid ((D6.below g4).below b3); have OW7 := Lib.hid ((OW6.below g4).below b3); have HB7 := Lib.hid ((HB6.out.trans (g4.mono (by have := HB6.out.size; have := HBASE.out; omega))).trans (b3.mono (by have := HB6.out.size; have := HBASE.out; have := g4.size; omega)))
    have C7 := Lib.hid ((C6.out.below' g4).below' b3)
    have y4 := (D6.below g4).c0
    have HSB := Lib.hid (show base ≤ (w5.alloc (.cells #[.int .i64 ino, .int .i64 page, .int .i64 1, .int .i64 0, .int .i64 dir, .slice none 0 0, .slice none 0 0] 51)).drew.heap.size from by have := HB7.out.size; have := HBASE.out; omega)
    clear D6 OW6 hl6 hb6 hvL t6 hgL hgw hgE b3 g4 e0 e1 e2 e3 e4 e5 e6 e7 e8 f0 f1 f2 f3 f4 f5 f6 f7 f8 KP d0 d1 d2 d3 d4 d5 d6 d7 d8
    go_upto_region 10 with fail
    go_region_law (first
      | (refine step_append_nds (by rfl) (.tmp 74) (.tmp 76) (by rfl) (m := [(Nd.mk ino page 1 0 dir none 0 [] none 0 [])]) (by rfl) (by rfl) OW7.out (nds_one w5 (Nd.mk ino page 1 0 dir none 0 [] none 0 [])) (by have := HLN.out; have := HL6.out; simp; omega) HSB.out ?_; intro v6 w6 hown6 hgr6 hat6
         have hc6 := D7.out.cells.grown hgr6 (ne_own D7.out.cells OW7.out (by decide))
         have hk6 := KeepC.grown OW7.out hgr6
         obtain ⟨A6, c6, rfl, _, _⟩ := ownK_form (RowP.of hown6)
         have y6 := hc6.cell 0
         have f6 := hc6.free 0))
    all_goals
      have hks := KeepC.set hc6 0 (.slice A6 (L5 ++ [Nd.mk ino page 1 0 dir none 0 [] none 0 []]).length c6)
      have C8 := hks _ _ _ (by decide) (C7.out.grown hgr6 (ne_own C7.out OW7.out (by decide)))
      have hD := DSx.mk (w := w6.setCell ⟨g, 0, none⟩ (.slice A6 (L5 ++ [Nd.mk ino page 1 0 dir none 0 [] none 0 []]).length c6)) (base := base) (g := g) (Ls := L5 ++ [Nd.mk ino page 1 0 dir none 0 [] none 0 []]) (v := .slice A6 (L5 ++ [Nd.mk ino page 1 0 dir none 0 [] none 0 []]).length c6) (S := ⟨enterS S.l dir name ino ++ [newNod ino page dir], S.last⟩)
        D7.out.lo (hc6.set 0 _) (RowP.of (hks.own (by decide) hown6)) (fun m hm => by
          rcases List.mem_append.1 hm with hm | hm
          · exact ((D7.out.own m hm).keep hk6 (by decide) (by decide)).keep hks (by decide) (by decide)
          · rw [List.mem_singleton.1 hm]; exact OwnNd.zero _ _)
        (by
          show (L5 ++ [_]).map Nd.plain = enterS S.l dir name ino ++ [newNod ino page dir]
          rw [List.map_append, show L5.map Nd.plain = enterS S.l dir name ino from D7.out.eq]; unfold newNod; rw [HU.out]; rfl)
      have hB8 := (HB7.out.grown hgr6 (by have := HB7.out.size; have := HBASE.out; omega) (fun q hq => own_base OW7.out q hq)).setCell (p := ⟨g, 0, none⟩) D7.out.lo (.slice A6 (L5 ++ [Nd.mk ino page 1 0 dir none 0 [] none 0 []]).length c6)
      have hln : (L5 ++ [Nd.mk ino page 1 0 dir none 0 [] none 0 []]).length = L5.length + 1 := by simp
      rw [hln] at hD hB8 C8
      have HD9 := Lib.hid (hD.setLast ino); have HB9 := Lib.hid (hB8.setCell (p := ⟨g, 1, none⟩) D7.out.lo (.int .i64 ino))
      obtain ⟨_, f1, _, _, _, _, _, _, _⟩ := cells9 (e := ⟨1, ino, dir, dst, page, size, name, other, A, cp, data⟩) C8
      have l1 := hD.cells.cell 1
      have l2 := hD.cells.free 1
      have HLL := Lib.hid (show (L5 ++ [Nd.mk ino page 1 0 dir none 0 [] none 0 []]).length ≤ Ls.length + 1 by have := HL6.out; simp; omega)
      clear hD hB8 hln hks C8 hc6 hk6 y6 f6 hown6 hgr6 hat6 y0 y4 z0 z1 z2 z3 z4 z5 z6
      go_wp2
      go_ret2
      rw [HMK.out]
      exact ⟨none, 0, 0, _, _, rfl, HD9.out, HLL.out, HB9.out⟩
  · have q5 : (page == 2) = false := by simpa using hp
    have hup : newUp page dir = 0 := HUP.out.2 hp
    have HU := Lib.hid hup
    clear hp hup
    have hb3 : Below wc.heap.size wc (wc.alloc (.cells #[.int .i64 ino, .int .i64 page, .int .i64 1, .int .i64 0, .int .i64 0, .slice none 0 0, .slice none 0 0] 51)) := below_of_grown (World.grownBy_alloc wc _ none)
    have CZ := Lib.hid (C5.out.below' hb3)
    have hb4 : Below wc.heap.size wc (wc.alloc (.cells #[.int .i64 ino, .int .i64 page, .int .i64 1, .int .i64 0, .int .i64 0, .slice none 0 0, .slice none 0 0] 51)) := below_of_grown (World.grownBy_alloc wc _ none)
    have hcn : Cells (wc.alloc (.cells #[.int .i64 ino, .int .i64 page, .int .i64 1, .int .i64 0, .int .i64 0, .slice none 0 0, .slice none 0 0] 51)) wc.heap.size 51 (ncells ino page 1 0 0 (.slice none 0 0) (.slice none 0 0)) := Cells.new _ _ _
    obtain ⟨d0, d1, d2, d3, d4, d5, d6, d7, d8⟩ := cells9 (e := ⟨1, ino, dir, dst, page, size, name, other, A, cp, data⟩) CZ.out
    have C4 := Lib.hid (C5.out.below' hb4); have CN := Lib.hid hcn; have HB4 := Lib.hid hb4
    have KP := Lib.hid (rPutSO (D5.out.below hb4) (OW5.out.below hb4) HLE.out SM.out BD.out.asc dir HA0.out.1 name HA0.out.2 ino)
    obtain ⟨e0, e1, e2, e3, e4, e5, e6, e7, e8⟩ := cells9 (e := ⟨1, ino, dir, dst, page, size, name, other, A, cp, data⟩) C5.out
    obtain ⟨f0, f1, f2, f3, f4, f5, f6, f7, f8⟩ := cells9 (e := ⟨1, ino, dir, dst, page, size, name, other, A, cp, data⟩) C4.out
    unfold SPtr at KP
    clear hb4 hcn hb3
    go_wp2_with fail
    refine (KP.out).mono ?_
    rintro e' w5 ⟨rfl, L5, v5, D6, OW6, hl6, hb6, gL, cL, hvL, t6⟩
    obtain ⟨A5, c5, rfl, _, _⟩ := D6.form
    have hgL : gL < wc.heap.size := OwnNs.lt (by rw [← hvL]; exact OW5.out)
    have CN5 := Lib.hid (show Cells w5 wc.heap.size 51 _ from (t6.block _ CN.out.lt (by simp; omega)).trans CN.out)
    have HT6 := Lib.hid t6
    have hgw : w.heap.size < w1.heap.size := HC1.out.lt
    have hgE : gL ≠ w.heap.size := fun hh => by
      rw [hvL, hh] at OW5
      exact OwnNs.ne OW5.out C5.out (by decide) rfl
    have C6 := Lib.hid (show Cells w5 w.heap.size 64 _ from (t6.block _ C4.out.lt (by simp; exact fun hh => hgE hh.symm)).trans C4.out)
    obtain ⟨z0, z1, z2, z3, z4, z5, z6⟩ := cells7 CN5.out
    have D6H := Lib.hid D6; have OW6H := Lib.hid OW6; have HB6 := Lib.hid ((B5.out.trans (HB4.out.mono (by have := B5.out.size; have := HBASE.out; omega))).trans hb6); have HL6 := Lib.hid hl6
    have y0 := D6.c0
    have g4 : Below w5.heap.size w5 (w5.alloc (.cells #[.int .i64 ino, .int .i64 page, .int .i64 1, .int .i64 0, .int .i64 0, .slice none 0 0, .slice none 0 0] 51)) := below_of_grown (World.grownBy_alloc w5 _ none)
    have b3 : Below (w5.alloc (.cells #[.int .i64 ino, .int .i64 page, .int .i64 1, .int .i64 0, .int .i64 0, .slice none 0 0, .slice none 0 0] 51)).heap.size (w5.alloc (.cells #[.int .i64 ino, .int .i64 page, .int .i64 1, .int .i64 0, .int .i64 0, .slice none 0 0, .slice none 0 0] 51)) (w5.alloc (.cells #[.int .i64 ino, .int .i64 page, .int .i64 1, .int .i64 0, .int .i64 0, .slice none 0 0, .slice none 0 0] 51)).drew := below_drewN (Below.refl _ _) 1
    have D7 := Lib.hid ((D6.below g4).below b3); have OW7 := Lib.hid ((OW6.below g4).below b3); have HB7 := Lib.hid ((HB6.out.trans (g4.mono (by have := HB6.out.size; have := HBASE.out; omega))).trans (b3.mono (by have := HB6.out.size; have := HBASE.out; have := g4.size; omega)))
    have C7 := Lib.hid ((C6.out.below' g4).below' b3)
    have y4 := (D6.below g4).c0
    have HSB := Lib.hid (show base ≤ (w5.alloc (.cells #[.int .i64 ino, .int .i64 page, .int .i64 1, .int .i64 0, .int .i64 0, .slice none 0 0, .slice none 0 0] 51)).drew.heap.size from by have := HB7.out.size; have := HBASE.out; omega)
    clear D6 OW6 hl6 hb6 hvL t6 hgL hgw hgE b3 g4 e0 e1 e2 e3 e4 e5 e6 e7 e8 f0 f1 f2 f3 f4 f5 f6 f7 f8 KP d0 d1 d2 d3 d4 d5 d6 d7 d8
    go_upto_region 10 with fail
    go_region_law (first
      | (refine step_append_nds (by rfl) (.tmp 74) (.tmp 76) (by rfl) (m := [(Nd.mk ino page 1 0 0 none 0 [] none 0 [])]) (by rfl) (by rfl) OW7.out (nds_one w5 (Nd.mk ino page 1 0 0 none 0 [] none 0 [])) (by have := HLN.out; have := HL6.out; simp; omega) HSB.out ?_; intro v6 w6 hown6 hgr6 hat6
         have hc6 := D7.out.cells.grown hgr6 (ne_own D7.out.cells OW7.out (by decide))
         have hk6 := KeepC.grown OW7.out hgr6
         obtain ⟨A6, c6, rfl, _, _⟩ := ownK_form (RowP.of hown6)
         have y6 := hc6.cell 0
         have f6 := hc6.free 0))
    all_goals
      have hks := KeepC.set hc6 0 (.slice A6 (L5 ++ [Nd.mk ino page 1 0 0 none 0 [] none 0 []]).length c6)
      have C8 := hks _ _ _ (by decide) (C7.out.grown hgr6 (ne_own C7.out OW7.out (by decide)))
      have hD := DSx.mk (w := w6.setCell ⟨g, 0, none⟩ (.slice A6 (L5 ++ [Nd.mk ino page 1 0 0 none 0 [] none 0 []]).length c6)) (base := base) (g := g) (Ls := L5 ++ [Nd.mk ino page 1 0 0 none 0 [] none 0 []]) (v := .slice A6 (L5 ++ [Nd.mk ino page 1 0 0 none 0 [] none 0 []]).length c6) (S := ⟨enterS S.l dir name ino ++ [newNod ino page dir], S.last⟩)
        D7.out.lo (hc6.set 0 _) (RowP.of (hks.own (by decide) hown6)) (fun m hm => by
          rcases List.mem_append.1 hm with hm | hm
          · exact ((D7.out.own m hm).keep hk6 (by decide) (by decide)).keep hks (by decide) (by decide)
          · rw [List.mem_singleton.1 hm]; exact OwnNd.zero _ _)
        (by
          show (L5 ++ [_]).map Nd.plain = enterS S.l dir name ino ++ [newNod ino page dir]
          rw [List.map_append, show L5.map Nd.plain = enterS S.l dir name ino from D7.out.eq]; unfold newNod; rw [HU.out]; rfl)
      have hB8 := (HB7.out.grown hgr6 (by have := HB7.out.size; have := HBASE.out; omega) (fun q hq => own_base OW7.out q hq)).setCell (p := ⟨g, 0, none⟩) D7.out.lo (.slice A6 (L5 ++ [Nd.mk ino page 1 0 0 none 0 [] none 0 []]).length c6)
      have hln : (L5 ++ [Nd.mk ino page 1 0 0 none 0 [] none 0 []]).length = L5.length + 1 := by simp
      rw [hln] at hD hB8 C8
      have HD9 := Lib.hid (hD.setLast ino); have HB9 := Lib.hid (hB8.setCell (p := ⟨g, 1, none⟩) D7.out.lo (.int .i64 ino))
      obtain ⟨_, f1, _, _, _, _, _, _, _⟩ := cells9 (e := ⟨1, ino, dir, dst, page, size, name, other, A, cp, data⟩) C8
      have l1 := hD.cells.cell 1
      have l2 := hD.cells.free 1
      have HLL := Lib.hid (show (L5 ++ [Nd.mk ino page 1 0 0 none 0 [] none 0 []]).length ≤ Ls.length + 1 by have := HL6.out; simp; omega)
      clear hD hB8 hln hks C8 hc6 hk6 y6 f6 hown6 hgr6 hat6 y0 y4 z0 z1 z2 z3 z4 z5 z6
      go_wp2
      go_ret2
      rw [HMK.out]
      exact ⟨none, 0, 0, _, _, rfl, HD9.out, HLL.out, HB9.out⟩
end
end Go.Proofs.YtbejbiogabpmfaaGreat

/-! The document's State: an effect of kind 2 is done. -/
namespace Go.Proofs.YtbejbiogabpmfaaGreat
open Wd Ino Sm Go.RowKit Go.ChangeShapes Go.WideShapes Go.Sort
set_option linter.unusedVariables false
set_option maxRecDepth 100000

section
variable {w w' : World} {base g : Nat} {Ls : List Nd} {v : Value} {S : Stt}
set_option maxHeartbeats 8000000 in
theorem rDo2 (h : DSx w base g Ls v S) (hown : OwnNs w base v Ls) (iv : Inv S) {k0 : Nat} (nm : Num k0 S) (hk0 : k0 ≤ 900) (e : Eff) (ec : EfC e) (ref : Int) (hrf : i64R ref) (hK : e.kind = 2) :
    Calls Tryz.prog 63 #[SPtr g, e.val, .int .i64 ref] w (DX (stepS S e ref) S base g Ls w) := by
  have hfol : Tryz.prog.follows .mixedOrders = true := by kernel_rfl
  obtain ⟨w1, hw1⟩ : ∃ w1, w.alloc (.cells (effCells e) 64) = w1 := ⟨_, rfl⟩
  have hg1 : Below w.heap.size w w1 := by rw [← hw1]; exact below_of_grown (World.grownBy_alloc w (.cells (effCells e) 64) none)
  have hc1 : Cells w1 w.heap.size 64 (effCells e) := by rw [← hw1]; exact Cells.new w 64 (effCells e)
  have h1 := h.below hg1
  have hlen : Ls.length ≤ 901 := by rw [← h.len]; have := nm.len; omega
  have hle : Ls.length ≤ 1000 := by omega
  obtain ⟨x0, x1, x2, x3, x4, x5, x6, x7, x8⟩ := cells9 hc1
  have ka := rAt h1 hle e.ino
  obtain ⟨I, hI⟩ : ∃ I, atI S.l e.ino = I := ⟨_, rfl⟩
  rw [hI] at ka
  have KA := Lib.hid ka; have HI := Lib.hid hI
  clear ka hI
  have SM := Lib.hid (iv.smN nm hk0); have BD := Lib.hid (iv.bad nm hk0); have IV := Lib.hid iv; have EC := Lib.hid ec; have H1 := Lib.hid h1; have OW1 := Lib.hid (hown.below hg1); have HC1 := Lib.hid hc1; have HG1 := Lib.hid hg1; have HLE := Lib.hid hle; have HLN := Lib.hid hlen
  have HBASE := Lib.hid (show base ≤ w.heap.size by have := h.lo; have := h.cells.lt; omega)
  have HRF := Lib.hid hrf
  have HS := Lib.hid (show stepS S e ref = bareS (linkS S e) by unfold stepS; rw [hK]; simp)
  have HBW := Lib.hid (fun wx (hb : ∃ q os, wx = grow (w1.drewN q) os) => show Below base w wx from (HG1.out.trans ((grown_b hb).mono HG1.out.size)).mono HBASE.out)
  have HNO := Lib.hid (show bareS (linkS S e) = none → ∀ wx, (∃ q os, wx = grow (w1.drewN q) os) → DX (stepS S e ref) S base g Ls w (.returned (.tuple #[.slice none 0 0, .bool false])) wx from fun hn wx hg => by
    rw [HS.out, hn]
    exact ⟨none, 0, 0, Ls, v, rfl, H1.out.below (grown_b hg), Nat.le_succ _, HBW.out wx hg⟩)
  obtain ⟨D0, hD⟩ : ∃ K, kindS S.l e.dir = K := ⟨_, rfl⟩
  obtain ⟨N0, hN⟩ : ∃ K, namedS S.l e.dir e.name = K := ⟨_, rfl⟩
  obtain ⟨K0, hK0⟩ : ∃ K, kindS S.l e.ino = K := ⟨_, rfl⟩
  obtain ⟨LK, hLK⟩ : ∃ K, (getS S.l e.ino).links = K := ⟨_, rfl⟩
  obtain ⟨R, hR⟩ : ∃ R, (decide (D0 = 2) && (decide (N0 = 0) && (decide (K0 = 1) && (decide (1 ≤ LK) && decide (LK < 16))))) = R := ⟨_, rfl⟩
  have hfr : (freeS S.l e.dir e.name && (decide (kindS S.l e.ino = 1) && (decide (1 ≤ (getS S.l e.ino).links) && decide ((getS S.l e.ino).links < 16)))) = R := by
    rw [← hR, iv.free_eq, hD, hN, hK0, hLK, Bool.and_assoc]
  have HFR := Lib.hid hfr; have HRR := Lib.hid hR; have HD := Lib.hid hD; have HN := Lib.hid hN; have HK0 := Lib.hid hK0; have HLK := Lib.hid hLK
  have KT0 := Lib.hid (fun wx (hb : ∃ q os, wx = grow (w1.drewN q) os) => rKind (h1.below (grown_b hb)) hle e.dir)
  have KN0 := Lib.hid (fun wx (hb : ∃ q os, wx = grow (w1.drewN q) os) => rNamed (h1.below (grown_b hb)) hle SM.out e.dir e.name)
  have KI0 := Lib.hid (fun wx (hb : ∃ q os, wx = grow (w1.drewN q) os) => rKind (h1.below (grown_b hb)) hle e.ino)
  rw [hD] at KT0
  rw [hN] at KN0
  rw [hK0] at KI0
  clear hD hN hfr hR hK0 hLK
  obtain ⟨kind, ino, dir, dst, page, size, name, other, A, cp, data⟩ := e
  dsimp only at hK
  subst hK
  unfold Eff.val
  unfold effCells at hw1
  dsimp only at *
  unfold SPtr at *
  clear h h1 hown iv nm ec hc1 hg1 hle hlen hrf
  go_enter Tryz.func63, Tryz.ntmps63
  go_wp2_with fail
  clear hw1
  refine (KA.out).mono ?_
  rintro e' w2 ⟨rfl, hw2⟩
  have HG2 := Lib.hid hw2
  have HC2 := Lib.hid (HC1.out.below' (grown_b hw2)); have H2 := Lib.hid (H1.out.below (grown_b hw2)); have OW2 := Lib.hid (OW1.out.below (grown_b hw2))
  clear hw2 x0 x1 x2 x3 x4 x5 x6 x7 x8 KA
  obtain ⟨e0, e1, e2, e3, e4, e5, e6, e7, e8⟩ := cells9 (e := ⟨2, ino, dir, dst, page, size, name, other, A, cp, data⟩) HC2.out
  have hr := HRR.out
  go_wp2_with fail
  refine (KT0.out w2 HG2.out).mono ?_
  rintro e' w3 ⟨rfl, hwn⟩
  have HG3 := Lib.hid (grow_trans HG2.out hwn)
  have C3 := Lib.hid (HC1.out.below' (grown_b HG3.out))
  clear hwn e0 e1 e2 e3 e4 e5 e6 e7 e8
  obtain ⟨e0, e1, e2, e3, e4, e5, e6, e7, e8⟩ := cells9 (e := ⟨2, ino, dir, dst, page, size, name, other, A, cp, data⟩) C3.out
  by_cases p1 : D0 = 2
  · have q1 : (D0 != 2) = false := by simpa using p1
    rw [decide_eq_true p1, Bool.true_and] at hr
    go_wp2_with fail
    refine (KN0.out w3 HG3.out).mono ?_
    rintro e' w4 ⟨rfl, hwn⟩
    have HG4 := Lib.hid (grow_trans HG3.out hwn)
    have C4 := Lib.hid (HC1.out.below' (grown_b HG4.out))
    clear hwn e0 e1 e2 e3 e4 e5 e6 e7 e8
    obtain ⟨e0, e1, e2, e3, e4, e5, e6, e7, e8⟩ := cells9 (e := ⟨2, ino, dir, dst, page, size, name, other, A, cp, data⟩) C4.out
    by_cases p2 : N0 = 0
    · have q2 : (N0 != 0) = false := by simpa using p2
      rw [decide_eq_true p2, Bool.true_and] at hr
      go_wp2_with fail
      refine (KI0.out w4 HG4.out).mono ?_
      rintro e' w5 ⟨rfl, hwn⟩
      have HG5 := Lib.hid (grow_trans HG4.out hwn)
      have C5 := Lib.hid (HC1.out.below' (grown_b HG5.out))
      clear hwn e0 e1 e2 e3 e4 e5 e6 e7 e8
      obtain ⟨e0, e1, e2, e3, e4, e5, e6, e7, e8⟩ := cells9 (e := ⟨2, ino, dir, dst, page, size, name, other, A, cp, data⟩) C5.out
      by_cases p3 : K0 = 1
      · have q3 : (K0 != 1) = false := by simpa using p3
        rw [decide_eq_true p3, Bool.true_and] at hr
        obtain ⟨n0, a0, a1⟩ := at_of_kind (l := S.l) (i := ino) (by rw [HK0.out, p3]; decide)
        have D5 := H1.out.below (grown_b HG5.out)
        obtain ⟨n, kx, gL, cL, p4, p5, p6, hv, hcl, hbb, hkx, ho, hx⟩ := D5.at_ a0
        have hI2 : I = (kx : Int) := HI.out.symm.trans p6
        have hl2 : n.links = LK := by rw [← HLK.out, a1, ← p5]; rfl
        subst hv hI2
        have hlt2 : (kx : Int) < (Ls.length : Int) := Int.ofNat_lt.2 hkx
        have hxl := (hx 2 _ rfl).1
        rw [hl2] at hxl
        have xg := D5.c0
        clear hx a0 a1 p4 p5 p6 ho hl2 D5
        by_cases p7 : 1 ≤ LK
        · have q7 : decide (LK < 1) = false := decide_eq_false (by omega)
          rw [decide_eq_true p7, Bool.true_and] at hr
          by_cases p8 : LK < 16
          · have q8 : decide (15 < LK) = false := decide_eq_false (by omega)
            rw [decide_eq_true p8] at hr
            subst hr
            clear p1 p2 p3 p7 p8
            have hr := HRR.out
            simp only [Bool.and_eq_true, decide_eq_true_eq] at hr
            obtain ⟨r1, r2, r3, r4, r5⟩ := hr
            obtain ⟨n0, a0, _⟩ := at_of_kind (l := S.l) (i := dir) (by rw [HD.out, r1]; decide)
            have an0 := named_not IV.out.names (HD.out.trans r1) (HN.out.trans r2) a0
            obtain ⟨m0, am0, am1⟩ := at_of_kind (l := S.l) (i := ino) (by rw [HK0.out, r3]; decide)
            obtain ⟨m2, am2⟩ := some_mod (d := dir) (f := putNm name ino) (fun _ => rfl) am0
            have hmk : m2.links = LK := by
              rw [← HLK.out, am1]
              have h9 : atS (enterS S.l dir name ino) ino = some (if ino = dir then putNm name ino m0 else m0) := by unfold enterS; rw [atS_mod (f := putNm name ino) (fun _ => rfl), am0]; rfl
              have h10 := am2
              unfold enterS at h9
              rw [h9] at h10
              injection h10 with h10
              rw [← h10]
              split <;> rfl
            have HMK := Lib.hid (show stepS S ⟨2, ino, dir, dst, page, size, name, other, A, cp, data⟩ ref = some (⟨modS (enterS S.l dir name ino) ino moreLk, S.last⟩, []) by
              rw [HS.out]; unfold linkS bareS; dsimp only; rw [HFR.out, if_pos rfl]
              unfold enterS
              rw [mod_comm (l := S.l) (i := ino) (d := dir) (f := putNm name ino) (g := moreLk) (fun _ => rfl) (fun _ => rfl) (fun _ => rfl)]; rfl)
            have D5 := Lib.hid (H1.out.below (grown_b HG5.out)); have OW5 := Lib.hid (OW1.out.below (grown_b HG5.out)); have C5 := Lib.hid (HC1.out.below' (grown_b HG5.out))
            have B5 := Lib.hid (HBW.out w5 HG5.out)
            have KP := Lib.hid (rPutS D5.out HLE.out SM.out BD.out.asc dir a0 name an0 ino)
            have HAM := Lib.hid (And.intro am2 hmk); have HRL := Lib.hid (And.intro r4 r5)
            obtain ⟨e0, e1, e2, e3, e4, e5, e6, e7, e8⟩ := cells9 (e := ⟨2, ino, dir, dst, page, size, name, other, A, cp, data⟩) C5.out
            unfold SPtr at KP
            clear r1 r2 r3 r4 r5 a0 an0 am0 am1 am2 hmk
            go_wp2_with fail
            refine (KP.out).mono ?_
            rintro e' w6 ⟨rfl, L3, v3, D3, hl3, hb3, hk3⟩
            have CE := Lib.hid (hk3 _ _ _ (by decide) C5.out)
            have BE := Lib.hid (B5.out.trans hb3); have HL3 := Lib.hid hl3; have PE := Lib.hid D3
            obtain ⟨e0, e1, e2, e3, e4, e5, e6, e7, e8⟩ := cells9 (e := ⟨2, ino, dir, dst, page, size, name, other, A, cp, data⟩) CE.out
            obtain ⟨n4, k4, gL4, c4, p1, p2, p3, hv4, _, hbb4, hkx4, ho4, _⟩ := D3.at_ HAM.out.1
            subst hv4
            have KA4 := Lib.hid (fun wx (hb : Below w6.heap.size w6 wx) => rAt (D3.below hb) (Nat.le_trans HL3.out HLE.out) ino)
            rw [p3] at KA4
            have hlt4 : (k4 : Int) < (L3.length : Int) := Int.ofNat_lt.2 hkx4
            obtain ⟨cur4, hcur4, _⟩ := D3.blk hkx4
            have hJ : n4.ino = ino := by
              have h6 := atS_ino HAM.out.1
              rw [← p2] at h6
              exact h6
            have hlk4 : n4.links = LK := by have h6 := HAM.out.2; rw [← p2] at h6; exact h6
            have HP1 := Lib.hid p1; have HO4 := Lib.hid ho4; have HCU := Lib.hid hcur4; have HJ := Lib.hid hJ; have HBB4 := Lib.hid hbb4; have HLK4 := Lib.hid hlk4
            have HX2 := Lib.hid (D3.row_cells p1 2 _ rfl)
            obtain ⟨J, ki, l, t, u, A0, ac, P, B, bc, N⟩ := n4
            dsimp only at HX2 HJ HLK4
            have b0 : Below w6.heap.size w6 w6.drew := below_drewN (Below.refl _ _) 1
            have S9 := Lib.hid (show ∀ w' : World, (∀ q, q < w6.heap.size → q ≠ gL4 → w'.heap[q]? = w6.heap[q]?) → w'.cell? ⟨g, 0, none⟩ = some (.slice (some ⟨gL4, 0, none⟩) L3.length c4) ∧ w'.cell? ⟨w.heap.size, 1, none⟩ = some (.int .i64 ino) from fun w' hk => by
              have d1 : Cells w' g _ _ := (hk g D3.cells.lt (D3.cells.ne HCU.out (by decide))).trans D3.cells
              have d2 : Cells w' w.heap.size _ _ := (hk _ CE.out.lt (CE.out.ne HCU.out (by decide))).trans CE.out
              exact ⟨d1.cell 0, d2.cell 1⟩)
            have HA3 := Lib.hid (show AscS (enterS S.l dir name ino) from asc_mod BD.out.asc (fun _ => rfl))
            have c0 := D3.c0
            have xx := HX2.out.1
            have w9 : IntKind.i64.wrap (l + 1) = l + 1 := by have h1 := HRL.out.1; have h2 := HRL.out.2; have h3 := HLK4.out; rw [IntKind.wrap_i64]; omega
            clear D3 hl3 hb3 hk3 p1 p2 p3 hbb4 ho4 hcur4 hJ hlk4
            unfold SPtr at KA4
            go_upto_region 17 with fail
            go_region_with
              (first
              | (go_at_call 99; (with_reducible refine (KA4.out _ b0).mono ?_); rintro e' w7 ⟨rfl, hw7⟩; have b3 := b0.trans (below_of_grown_of hw7); have s3 := S9.out _ (fun q hq _ => b3.block q hq); have s30 := s3.1; have s31 := s3.2; have y2 := (HCU.out.below' b3).cell (k4 * 7 + 2); rw [← HCU.out.cell (k4 * 7 + 2), HX2.out.1] at y2; have z2 := (HCU.out.below' b3).free (k4 * 7 + 2)))
            all_goals
              have h6 := (PE.out.below b3).set HP1.out HA3.out (n' := ⟨J, ki, l + 1, t, u, A0, ac, P, B, bc, N⟩) (f := moreLk) rfl (j := 2) (u := .int .i64 (l + 1)) (by decide) rfl (HO4.out.below b3)
              dsimp only at h6
              rw [show J = ino from HJ.out] at h6
              have H6 := Lib.hid h6
              have HB6 := Lib.hid (show Below base w (w7.setCell ⟨gL4, k4 * 7 + 2, none⟩ (.int .i64 (l + 1))) from (BE.out.trans (b3.mono (by have := BE.out.size; have := HBASE.out; omega))).setCell (p := ⟨gL4, k4 * 7 + 2, none⟩) HBB4.out _)
              have HLL := Lib.hid (show (L3.set k4 ⟨ino, ki, l + 1, t, u, A0, ac, P, B, bc, N⟩).length ≤ Ls.length + 1 by rw [List.length_set]; exact Nat.le_succ_of_le HL3.out)
              clear h6 hw7 y2 z2 s3 s30 s31
              go_wp2
              go_ret2
              rw [HMK.out]
              exact ⟨none, 0, 0, _, _, rfl, H6.out, HLL.out, HB6.out⟩
          · have q8 : decide (15 < LK) = true := decide_eq_true (by omega)
            rw [decide_eq_false p8] at hr
            subst hr
            clear p1 p2 p3 p7 p8
            go_wp2
            go_ret2
            exact HNO.out (by unfold linkS bareS; dsimp only; rw [HFR.out]; rfl) _ HG5.out
        · have q7 : decide (LK < 1) = true := decide_eq_true (by omega)
          rw [decide_eq_false p7, Bool.false_and] at hr
          subst hr
          clear p1 p2 p3 p7
          go_wp2
          go_ret2
          exact HNO.out (by unfold linkS bareS; dsimp only; rw [HFR.out]; rfl) _ HG5.out
      · have q3 : (K0 != 1) = true := by simpa using p3
        rw [decide_eq_false p3, Bool.false_and] at hr
        subst hr
        clear p1 p2 p3
        go_wp2
        go_ret2
        exact HNO.out (by unfold linkS bareS; dsimp only; rw [HFR.out]; rfl) _ HG5.out
    · have q2 : (N0 != 0) = true := by simpa using p2
      rw [decide_eq_false p2, Bool.false_and] at hr
      subst hr
      clear p1 p2
      go_wp2
      go_ret2
      exact HNO.out (by unfold linkS bareS; dsimp only; rw [HFR.out]; rfl) _ HG4.out
  · have q1 : (D0 != 2) = true := by simpa using p1
    rw [decide_eq_false p1, Bool.false_and] at hr
    subst hr
    clear p1
    go_wp2
    go_ret2
    exact HNO.out (by unfold linkS bareS; dsimp only; rw [HFR.out]; rfl) _ HG3.out
end
end Go.Proofs.YtbejbiogabpmfaaGreat
