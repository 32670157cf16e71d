import Derived.Test.YtbejbiogabpmfaaGreatG23
import Derived.Test.YtbejbiogabpmfaaGreatG22
import Derived.Test.YtbejbiogabpmfaaGreatG07

/-! The document's State: a name moves. -/
namespace Go.Proofs.YtbejbiogabpmfaaGreat
open Wd Ino Sm Go.RowKit Go.ChangeShapes Go.WideShapes Go.Sort
set_option linter.unusedVariables false
set_option maxRecDepth 100000
/-- the document's rename, plainly -/
def renD (S : Stt) (e : Eff) : Option Stt :=
  if (!decide (kindS S.l e.ino = 0) && (decide (namedS S.l e.dir e.name = e.ino) && (decide (kindS S.l e.dst = 2) && !(decide (kindS S.l e.ino = 2) && withinS S.l e.dst e.ino)))) = true then
    (if namedS S.l e.dst e.other = 0 then some ⟨moveS S.l e, S.last⟩
     else if (!decide (namedS S.l e.dst e.other = e.ino) && offB S.l e.dst e.other (namedS S.l e.dst e.other) (kindS S.l e.ino)) = true then some ⟨moveS (offS S.l e.dst e.other (namedS S.l e.dst e.other) (kindS S.l e.ino)) e, S.last⟩ else none)
  else none
/-- what the document's state has for its changes to be done -/
structure Bad (S : Stt) : Prop extends Bas S where
  asc : AscS S.l
  top : upS S.l 1 = 1
  kk : ∀ n ∈ S.l, n.kind = 1 ∨ n.kind = 2
  rn : ∀ n ∈ S.l, RightN n.names
theorem has_drop {s u : ByteArray} {l : List Ent} (h : hasN s l = false) : hasN s (dropN u l) = false := has_false.2 fun e he => has_false.1 h e (mem_dropN he)
theorem off_some {l : List Nod} {d : Int} {s : ByteArray} {i k j : Int} {n : Nod} (h : atS l j = some n) (hj : k = 2 → j ≠ i) : ∃ n1, atS (offS l d s i k) j = some n1 ∧ n1.kind = n.kind ∧ n1.names = (if j = d then dropN s n.names else n.names) := by
  have hl : atS (leaveS l d s) j = some (if j = d then cutNm s n else n) := by unfold leaveS; rw [atS_mod (f := cutNm s) (fun _ => rfl), h]; rfl
  unfold offS
  by_cases hk : k = 2
  · rw [if_pos hk, atS_rm, if_neg (hj hk), hl]
    exact ⟨_, rfl, by split <;> rfl, by split <;> rfl⟩
  · rw [if_neg hk, atS_mod (f := lessLk) (fun _ => rfl), hl]
    refine ⟨_, rfl, ?_, ?_⟩
    · show (if j = i then lessLk (if j = d then cutNm s n else n) else (if j = d then cutNm s n else n)).kind = n.kind
      split <;> split <;> rfl
    · show (if j = i then lessLk (if j = d then cutNm s n else n) else (if j = d then cutNm s n else n)).names = _
      split <;> split <;> rfl
theorem SmS.off {l : List Nod} (h : SmS l) (hl : ∀ n ∈ l, 0 ≤ n.links ∧ n.links ≤ 16) (d : Int) (s : ByteArray) (i k : Int) : SmS (offS l d s i k) := by
  unfold offS
  split
  · exact (h.leave d s).rm i
  · exact (h.leave d s).mod fun n hn sn => sn.links_ (by have := leave_links hl d s n hn; unfold i64R; omega)
theorem AscS.off {l : List Nod} (h : AscS l) (d : Int) (s : ByteArray) (i k : Int) : AscS (offS l d s i k) := by
  unfold offS
  split
  · exact asc_rm (h.leave d s) i
  · exact asc_mod (h.leave d s) (fun _ => rfl)
theorem named_has {l : List Nod} {d : Int} {s : ByteArray} (h : namedS l d s ≠ 0) : kindS l d = 2 ∧ ∃ n, atS l d = some n ∧ hasN s n.names = true ∧ inoN s n.names = namedS l d s := by
  unfold namedS at h
  by_cases hk : kindS l d = 2
  · rw [if_pos hk] at h
    obtain ⟨n, h1, h2⟩ := at_of_kind (l := l) (i := d) (by rw [hk]; decide)
    have hN : namesS l d = n.names := by unfold namesS; rw [h2]
    rw [hN] at h
    refine ⟨hk, n, h1, ?_, by unfold namedS; rw [if_pos hk, hN]⟩
    cases hh : hasN s n.names with
    | true => rfl
    | false => exact absurd (inoN_none hh) h
  · rw [if_neg hk] at h; exact absurd rfl h
theorem named_not {l : List Nod} {d : Int} {s : ByteArray} (hr : ∀ n ∈ l, RightN n.names) (hk : kindS l d = 2) (h : namedS l d s = 0) {n : Nod} (hn : atS l d = some n) : hasN s n.names = false := by
  unfold namedS at h
  rw [if_pos hk] at h
  have hN : namesS l d = n.names := by unfold namesS; rw [getS_some hn]
  rw [hN] at h
  cases hh : hasN s n.names with
  | false => rfl
  | true =>
    obtain ⟨e, he, _, h3⟩ := has_mem hh
    have ho := (hr n (atS_mem hn)).1 e he
    unfold okE at ho
    simp only [Bool.and_eq_true, decide_eq_true_eq] at ho
    omega
section
variable {w w' : World} {base g : Nat} {Ls : List Nd} {v : Value} {S : Stt}
set_option maxHeartbeats 8000000 in
theorem rRename (h : DSx w base g Ls v S) (hlen : Ls.length ≤ 1000) (bd : Bad S) (e : Eff) (eb : EfB e) :
    Calls Tryz.prog 104 #[SPtr g, e.val] w (OGo (renD S e).isSome ((renD S e).getD S) S base g Ls w) := by
  have hfol : Tryz.prog.follows .mixedOrders = true := by kernel_rfl
  obtain ⟨w1, hw1⟩ : ∃ w1, w.alloc (.cells (effCells e) 64) = w1 := ⟨_, rfl⟩
  have hg1 : Below w.heap.size w w1 := by rw [← hw1]; exact below_of_grown (World.grownBy_alloc w (.cells (effCells e) 64) none)
  have hc1 : Cells w1 w.heap.size 64 (effCells e) := by rw [← hw1]; exact Cells.new w 64 (effCells e)
  have h1 := h.below hg1
  obtain ⟨_, e1, e2, e3, _, _, e6, e7, _⟩ := cells9 hc1
  have H1 := Lib.hid h1; have HC1 := Lib.hid hc1; have HG1 := Lib.hid hg1; have EB := Lib.hid eb; have BD := Lib.hid bd; have HLE := Lib.hid hlen
  have HBASE := Lib.hid (show base ≤ w.heap.size by have := h.lo; have := h.cells.lt; omega)
  obtain ⟨K0, hK⟩ : ∃ K, kindS S.l e.ino = K := ⟨_, rfl⟩
  obtain ⟨N0, hN⟩ : ∃ K, namedS S.l e.dir e.name = K := ⟨_, rfl⟩
  obtain ⟨T0, hT⟩ : ∃ K, kindS S.l e.dst = K := ⟨_, rfl⟩
  obtain ⟨Z, hZ⟩ : ∃ K, withinS S.l e.dst e.ino = K := ⟨_, rfl⟩
  obtain ⟨O0, hO⟩ : ∃ K, namedS S.l e.dst e.other = K := ⟨_, rfl⟩
  have HK := Lib.hid hK; have HN := Lib.hid hN; have HT := Lib.hid hT; have HZ := Lib.hid hZ; have HO := Lib.hid hO
  obtain ⟨R, hR⟩ : ∃ R, (!decide (K0 = 0) && (decide (N0 = e.ino) && (decide (T0 = 2) && !(decide (K0 = 2) && Z)))) = R := ⟨_, rfl⟩
  have HD := Lib.hid (show renD S e = if R = true then (if O0 = 0 then some ⟨moveS S.l e, S.last⟩ else if (!decide (O0 = e.ino) && offB S.l e.dst e.other O0 K0) = true then some ⟨moveS (offS S.l e.dst e.other O0 K0) e, S.last⟩ else none) else none by unfold renD; rw [hK, hN, hT, hZ, hO, hR])
  have NO : renD S e = none → ∀ wx, (∃ q os, wx = grow (w1.drewN q) os) → OGo (renD S e).isSome ((renD S e).getD S) S base g Ls w (.returned (.bool false)) wx := fun he wx hg => by
    rw [he]
    exact ⟨rfl, Ls, v, by rw [if_neg (by decide)]; exact H1.out.below (grown_b hg), Nat.le_refl _, (HG1.out.trans ((grown_b hg).mono HG1.out.size)).mono HBASE.out, KeepC.of (HG1.out.trans ((grown_b hg).mono HG1.out.size))⟩
  have HNO := Lib.hid NO
  have KK := Lib.hid (rKind h1 hlen e.ino)
  rw [hK] at KK
  have KN0 := Lib.hid (fun wx (hb : ∃ q os, wx = grow (w1.drewN q) os) => rNamed (h1.below (grown_b hb)) hlen bd.sm e.dir e.name)
  have KT0 := Lib.hid (fun wx (hb : ∃ q os, wx = grow (w1.drewN q) os) => rKind (h1.below (grown_b hb)) hlen e.dst)
  have KW0 := Lib.hid (fun wx (hb : ∃ q os, wx = grow (w1.drewN q) os) => rWithin (h1.below (grown_b hb)) hlen bd.way bd.pos bd.top e.dst e.ino)
  have KO0 := Lib.hid (fun wx (hb : ∃ q os, wx = grow (w1.drewN q) os) => rNamed (h1.below (grown_b hb)) hlen bd.sm e.dst e.other)
  rw [hN] at KN0
  rw [hT] at KT0
  rw [hZ] at KW0
  rw [hO] at KO0
  obtain ⟨kind, ino, dir, dst, page, size, name, other, A, cp, data⟩ := e
  have HRR := Lib.hid hR
  unfold Eff.val
  unfold effCells at hw1
  dsimp only at *
  unfold SPtr at *
  clear h h1 hc1 hg1 eb bd hlen hK hN hT hZ hO NO hR
  go_enter Tryz.func104, Tryz.ntmps104
  go_wp2_with fail
  clear hw1
  refine (KK.out).mono ?_
  rintro e' w2 ⟨rfl, hw2⟩
  have HG2 := Lib.hid hw2
  have HC2 := Lib.hid (HC1.out.below' (grown_b hw2))
  have KN := Lib.hid (fun n os => Grows.inAt (fun n os => KN0.out (grow (w2.drewN n) os) (grow_trans hw2 ⟨n, os, rfl⟩)) n os)
  have KT := Lib.hid (fun n os => Grows.inAt (fun n os => KT0.out (grow (w2.drewN n) os) (grow_trans hw2 ⟨n, os, rfl⟩)) n os)
  have KW := Lib.hid (fun n os => Grows.inAt (fun n os => KW0.out (grow (w2.drewN n) os) (grow_trans hw2 ⟨n, os, rfl⟩)) n os)
  clear hw2 e1 e2 e3 e6 e7 KK
  obtain ⟨_, e1, e2, e3, _, _, e6, e7, _⟩ := cells9 (e := ⟨kind, ino, dir, dst, page, size, name, other, A, cp, data⟩) HC2.out
  have x1 := cell_grown (a := ⟨w.heap.size, 1, none⟩) HC2.out.lt e1
  have x2 := cell_grown (a := ⟨w.heap.size, 2, none⟩) HC2.out.lt e2
  have x3 := cell_grown (a := ⟨w.heap.size, 3, none⟩) HC2.out.lt e3
  have x6 := cell_grown (a := ⟨w.heap.size, 6, none⟩) HC2.out.lt e6
  go_upto_region 2 with fail
  go_cut [42] from 12 to 42 (fun c wx => c = .bool (!R) ∧ ∃ q os, wx = grow (w1.drewN q) os)
  case first =>
    by_cases p1 : K0 = 0
    · have q1 : (K0 == 0) = true := by simpa using p1
      have hr := HRR.out
      rw [decide_eq_true p1, Bool.not_true, Bool.false_and] at hr
      subst hr
      clear p1
      refine wp_region_quiet_grown hfol (by kernel_rfl) ?_
      repeat (go_big_quiet_step (first | (go_at_call 101; (with_reducible exact KN.out _ _)) | (go_at_call 100; (with_reducible exact KT.out _ _)) | (go_at_call 147; (with_reducible exact KW.out _ _))))
      refine wpQuiet_nil ?_
      intro _ hw'
      obtain ⟨⟨nr, osr⟩, hw''⟩ := hw'
      subst hw''
      have HG3 := Lib.hid (grow_trans HG2.out (show ∃ q os, grow (w2.drewN nr) osr = grow (w2.drewN q) os from ⟨nr, osr, rfl⟩))
      go_wp2_with fail
      go_meet
      exact ⟨rfl, HG3.out⟩
    · have q1 : (K0 == 0) = false := by simpa using p1
      have hr := HRR.out
      rw [decide_eq_false p1, Bool.not_false, Bool.true_and] at hr
      by_cases p2 : N0 = ino
      · have q2 : (N0 != ino) = false := by simpa using p2
        rw [decide_eq_true p2, Bool.true_and] at hr
        by_cases p3 : T0 = 2
        · have q3 : (T0 != 2) = false := by simpa using p3
          rw [decide_eq_true p3, Bool.true_and] at hr
          by_cases p4 : K0 = 2
          · have q4 : (K0 == 2) = true := by simpa using p4
            rw [decide_eq_true p4, Bool.true_and] at hr
            subst hr
            clear p1 p2 p3 p4
            cases Z
            all_goals
              refine wp_region_quiet_grown hfol (by kernel_rfl) ?_
              repeat (go_big_quiet_step (first | (go_at_call 101; (with_reducible exact KN.out _ _)) | (go_at_call 100; (with_reducible exact KT.out _ _)) | (go_at_call 147; (with_reducible exact KW.out _ _))))
              refine wpQuiet_nil ?_
              intro _ hw'
              obtain ⟨⟨nr, osr⟩, hw''⟩ := hw'
              subst hw''
              have HG3 := Lib.hid (grow_trans HG2.out (show ∃ q os, grow (w2.drewN nr) osr = grow (w2.drewN q) os from ⟨nr, osr, rfl⟩))
              go_wp2_with fail
              go_meet
              exact ⟨rfl, HG3.out⟩
          · have q4 : (K0 == 2) = false := by simpa using p4
            rw [decide_eq_false p4, Bool.false_and, Bool.not_false] at hr
            subst hr
            clear p1 p2 p3 p4
            refine wp_region_quiet_grown hfol (by kernel_rfl) ?_
            repeat (go_big_quiet_step (first | (go_at_call 101; (with_reducible exact KN.out _ _)) | (go_at_call 100; (with_reducible exact KT.out _ _)) | (go_at_call 147; (with_reducible exact KW.out _ _))))
            refine wpQuiet_nil ?_
            intro _ hw'
            obtain ⟨⟨nr, osr⟩, hw''⟩ := hw'
            subst hw''
            have HG3 := Lib.hid (grow_trans HG2.out (show ∃ q os, grow (w2.drewN nr) osr = grow (w2.drewN q) os from ⟨nr, osr, rfl⟩))
            go_wp2_with fail
            go_meet
            exact ⟨rfl, HG3.out⟩
        · have q3 : (T0 != 2) = true := by simpa using p3
          rw [decide_eq_false p3, Bool.false_and] at hr
          subst hr
          clear p1 p2 p3
          refine wp_region_quiet_grown hfol (by kernel_rfl) ?_
          repeat (go_big_quiet_step (first | (go_at_call 101; (with_reducible exact KN.out _ _)) | (go_at_call 100; (with_reducible exact KT.out _ _)) | (go_at_call 147; (with_reducible exact KW.out _ _))))
          refine wpQuiet_nil ?_
          intro _ hw'
          obtain ⟨⟨nr, osr⟩, hw''⟩ := hw'
          subst hw''
          have HG3 := Lib.hid (grow_trans HG2.out (show ∃ q os, grow (w2.drewN nr) osr = grow (w2.drewN q) os from ⟨nr, osr, rfl⟩))
          go_wp2_with fail
          go_meet
          exact ⟨rfl, HG3.out⟩
      · have q2 : (N0 != ino) = true := by simpa using p2
        rw [decide_eq_false p2, Bool.false_and] at hr
        subst hr
        clear p1 p2
        refine wp_region_quiet_grown hfol (by kernel_rfl) ?_
        repeat (go_big_quiet_step (first | (go_at_call 101; (with_reducible exact KN.out _ _)) | (go_at_call 100; (with_reducible exact KT.out _ _)) | (go_at_call 147; (with_reducible exact KW.out _ _))))
        refine wpQuiet_nil ?_
        intro _ hw'
        obtain ⟨⟨nr, osr⟩, hw''⟩ := hw'
        subst hw''
        have HG3 := Lib.hid (grow_trans HG2.out (show ∃ q os, grow (w2.drewN nr) osr = grow (w2.drewN q) os from ⟨nr, osr, rfl⟩))
        go_wp2_with fail
        go_meet
        exact ⟨rfl, HG3.out⟩
  case rest =>
  obtain ⟨rfl, hgx⟩ := hcut
  have HG5 := Lib.hid hgx
  clear hgx HG2 HC2 KN KT KW KN0 KT0 KW0 e1 e2 e3 e6 e7 x1 x2 x3 x6
  cases R with
  | false =>
    go_wp2
    go_ret
    exact HNO.out (by rw [HD.out]; rfl) _ HG5.out
  | true =>
  have hkz : K0 ≠ 0 := fun hh => by
    have := HRR.out
    rw [hh] at this
    simp at this
  have hnd : N0 = ino := Decidable.byContradiction fun hh => by
    have := HRR.out
    rw [decide_eq_false hh] at this
    simp at this
  have htd : T0 = 2 := Decidable.byContradiction fun hh => by
    have := HRR.out
    rw [decide_eq_false hh] at this
    simp at this
  obtain ⟨ni0, ai0, ai9⟩ := at_of_kind (l := S.l) (i := ino) (by rw [HK.out]; exact hkz)
  have hik : ni0.kind = K0 := by rw [← kind_some ai0]; exact HK.out
  obtain ⟨_, nd0, ad0, ad1, ad2⟩ := named_has (l := S.l) (d := dir) (s := name) (by rw [HN.out, hnd]; have h9 : 1 ≤ ino := EB.out.ino.1; intro h; omega)
  obtain ⟨nt0, at0, at9⟩ := at_of_kind (l := S.l) (i := dst) (by rw [HT.out, htd]; decide)
  have HNT := Lib.hid (fun (h : O0 = 0) => named_not BD.out.rn (HT.out.trans htd) (HO.out.trans h) at0)
  have AI0 := Lib.hid (And.intro ai0 hik); have AD0 := Lib.hid (And.intro ad0 (And.intro ad1 (ad2.trans (HN.out.trans hnd)))); have AT0 := Lib.hid (And.intro at0 htd); have HKZ := Lib.hid hkz
  have KO := Lib.hid (KO0.out _ HG5.out)
  have HC5 := Lib.hid (HC1.out.below' (grown_b HG5.out))
  clear hkz hnd htd ai0 ai9 hik ad0 ad1 ad2 at0 at9 KO0
  obtain ⟨_, f1, f2, f3, _, _, f6, f7, _⟩ := cells9 (e := ⟨kind, ino, dir, dst, page, size, name, other, A, cp, data⟩) HC5.out
  go_wp2_with fail
  refine (KO.out).mono ?_
  rintro e' w6 ⟨rfl, hw6⟩
  have HG6 := Lib.hid (grow_trans HG5.out hw6)
  have D6 := H1.out.below (grown_b HG6.out)
  have C6 := Lib.hid (HC1.out.below' (grown_b HG6.out))
  have B6 := Lib.hid ((HG1.out.trans ((grown_b HG6.out).mono HG1.out.size)))
  have P6 := Lib.hid D6
  clear hw6 D6 KO f1 f2 f3 f6 f7 HC5
  by_cases ho : O0 = 0
  · have q5 : (O0 != 0) = false := by simpa using ho
    have HR := Lib.hid (show renD S ⟨kind, ino, dir, dst, page, size, name, other, A, cp, data⟩ = some ⟨moveS S.l ⟨kind, ino, dir, dst, page, size, name, other, A, cp, data⟩, S.last⟩ by rw [HD.out, if_pos trivial, if_pos ho])
    have AT := Lib.hid (show ∃ n, atS S.l dst = some n ∧ hasN other n.names = false from ⟨nt0, AT0.out.1, HNT.out ho⟩)
    have AD := Lib.hid (show ∃ n, atS S.l dir = some n from ⟨_, AD0.out.1⟩)
    have AI := Lib.hid (show ∃ n, atS S.l ino = some n ∧ n.kind = K0 from ⟨_, AI0.out.1, AI0.out.2⟩)
    have PX := P6; have CX := C6
    have HLX := Lib.hid (Nat.le_refl Ls.length)
    have BX := Lib.hid (B6.out.mono HBASE.out); have KX := Lib.hid (KeepC.of (Ts := [51, 75]) B6.out)
    have S1 := Lib.hid BD.out.sm; have A1 := Lib.hid BD.out.asc
    clear ho
    obtain ⟨_, f1, f2, f3, _, _, f6, f7, _⟩ := cells9 (e := ⟨kind, ino, dir, dst, page, size, name, other, A, cp, data⟩) CX.out
    obtain ⟨nd, ad⟩ := AD.out
    have KV := Lib.hid (rCutS PX.out (Nat.le_trans HLX.out HLE.out) S1.out A1.out dir ad name)
    unfold SPtr at KV
    clear ad
    go_wp2_with fail
    refine (KV.out).mono ?_
    rintro e' wl ⟨rfl, L2, v2, D2, hl2, hb2, hk2⟩
    have CL := Lib.hid (hk2 _ _ _ (by decide) CX.out)
    have BL := Lib.hid (BX.out.trans hb2); have KL := Lib.hid (KX.out.trans hk2); have HL2 := Lib.hid (Nat.le_trans hl2 HLX.out)
    obtain ⟨nt, at0, an0⟩ := AT.out
    have hat1 : ∃ n1, atS (leaveS S.l dir name) dst = some n1 ∧ hasN other n1.names = false := by
      refine ⟨if dst = dir then cutNm name nt else nt, by unfold leaveS; rw [atS_mod (f := cutNm name) (fun _ => rfl), at0]; rfl, ?_⟩
      split
      · exact has_drop an0
      · exact an0
    obtain ⟨nt1, at1, an1⟩ := hat1
    have KE := Lib.hid (rPutS D2 (Nat.le_trans HL2.out HLE.out) (SmS.leave S1.out dir name) (A1.out.leave dir name) dst at1 other an1 ino)
    obtain ⟨_, f1, f2, f3, _, _, f6, f7, _⟩ := cells9 (e := ⟨kind, ino, dir, dst, page, size, name, other, A, cp, data⟩) CL.out
    unfold SPtr at KE
    clear D2 hl2 hb2 hk2 at0 an0 at1 an1 KV
    go_wp2_with fail
    refine (KE.out).mono ?_
    rintro e' we ⟨rfl, L3, v3, D3, hl3, hb3, hk3⟩
    have CE := Lib.hid (hk3 _ _ _ (by decide) CL.out)
    have BE := Lib.hid (BL.out.trans hb3); have KE2 := Lib.hid (KL.out.trans hk3); have HL3 := Lib.hid (Nat.le_trans hl3 HL2.out)
    have PE := Lib.hid D3
    obtain ⟨_, f1, f2, f3, _, _, f6, f7, _⟩ := cells9 (e := ⟨kind, ino, dir, dst, page, size, name, other, A, cp, data⟩) CE.out
    obtain ⟨ni, ai, ak⟩ := AI.out
    by_cases hkd : K0 = 2
    · have q9 : (K0 == 2) = true := by simpa using hkd
      obtain ⟨n1, a1⟩ := some_mod (d := dir) (f := cutNm name) (fun _ => rfl) ai
      obtain ⟨n2, a2⟩ := some_mod (d := dst) (f := putNm other ino) (fun _ => rfl) a1
      have HX9 := Lib.hid (show moveS S.l ⟨kind, ino, dir, dst, page, size, name, other, A, cp, data⟩ = modS (enterS (leaveS S.l dir name) dst other ino) ino (setUp dst) by
        unfold moveS; dsimp only; rw [if_pos (by rw [kind_some ai, ak]; exact hkd)])
      have KA := Lib.hid (fun wx (hb : Below we.heap.size we wx) => rAt (D3.below hb) (Nat.le_trans HL3.out HLE.out) ino)
      obtain ⟨n4, k4, gL4, c4, p1, p2, p3, hv4, _, hbb4, hkx4, ho4, _⟩ := D3.at_ a2
      subst hv4
      rw [p3] at KA
      have hlt4 : (k4 : Int) < (L3.length : Int) := Int.ofNat_lt.2 hkx4
      obtain ⟨cur4, hcur4, _⟩ := D3.blk hkx4
      have hJ : n4.ino = ino := by
        have h6 := atS_ino a2
        rw [← p2] at h6
        exact h6
      have HP1 := Lib.hid p1; have HO4 := Lib.hid ho4; have HCU := Lib.hid hcur4; have HJ := Lib.hid hJ; have HBB4 := Lib.hid hbb4
      have hx4 := (D3.row_cells p1 4 _ rfl)
      have HX4 := Lib.hid hx4
      obtain ⟨J, ki, l, t, u, A0, ac, P, B, bc, N⟩ := n4
      dsimp only at HX4 HJ
      have b0 : Below we.heap.size we we.drew := below_drewN (Below.refl _ _) 1
      have S9 := Lib.hid (show ∀ w' : World, (∀ q, q < we.heap.size → q ≠ gL4 → w'.heap[q]? = we.heap[q]?) → w'.cell? ⟨g, 0, none⟩ = some (.slice (some ⟨gL4, 0, none⟩) L3.length c4) ∧ w'.cell? ⟨w.heap.size, 1, none⟩ = some (.int .i64 ino) ∧ w'.cell? ⟨w.heap.size, 3, none⟩ = some (.int .i64 dst) from fun w' hk => by
        have d1 : Cells w' g _ _ := (hk g D3.cells.lt (D3.cells.ne HCU.out (by decide))).trans D3.cells
        have d2 : Cells w' w.heap.size _ _ := (hk _ CE.out.lt (CE.out.ne HCU.out (by decide))).trans CE.out
        exact ⟨d1.cell 0, d2.cell 1, d2.cell 3⟩)
      have HA3 := Lib.hid (show AscS (enterS (leaveS S.l dir name) dst other ino) from asc_mod (A1.out.leave dir name) (fun _ => rfl))
      clear D3 hl3 hb3 hk3 hkd ai ak a1 a2 p1 p2 p3 hbb4 ho4 hcur4 hJ hx4 f1 f2 f3 f6 f7
      unfold SPtr at KA
      go_upto_region 11 with fail
      go_region_held3 (fun w' => w'.cell? ⟨g, 0, none⟩ = some (.slice (some ⟨gL4, 0, none⟩) L3.length c4) ∧ w'.cell? ⟨w.heap.size, 1, none⟩ = some (.int .i64 ino) ∧ w'.cell? ⟨w.heap.size, 3, none⟩ = some (.int .i64 dst))
        (first | exact S9.out _ (fun q hq _ => b0.block q hq) | exact S9.out _ (fun q hq _ => b3.block q hq) | exact S9.out _ (fun q hq hne => (Below.heap_setCell _ _ _ q hne).trans (b3.block q hq)))
        (first
        | (go_at_call 99; (with_reducible refine (KA.out _ b0).mono ?_); rintro e' w3 ⟨rfl, hw3⟩; have b3 := b0.trans (below_of_grown_of hw3); have y4 := (HCU.out.below' b3).cell (k4 * 7 + 4); rw [← HCU.out.cell (k4 * 7 + 4), HX4.out.1] at y4; have z4 := (HCU.out.below' b3).free (k4 * 7 + 4)))
      all_goals
        have h6 := (PE.out.below b3).set HP1.out HA3.out (n' := ⟨J, ki, l, t, dst, A0, ac, P, B, bc, N⟩) (f := setUp dst) rfl (j := 4) (u := .int .i64 dst) (by decide) rfl (HO4.out.below b3)
        dsimp only at h6
        rw [show J = ino from HJ.out] at h6
        have H6 := Lib.hid h6
        have HB6 := Lib.hid (show Below base w (w3.setCell ⟨gL4, k4 * 7 + 4, none⟩ (.int .i64 dst)) from (BE.out.trans (b3.mono (by have := PE.out.lo; have := PE.out.cells.lt; omega))).setCell (p := ⟨gL4, k4 * 7 + 4, none⟩) HBB4.out _)
        have HK6 := Lib.hid ((KE2.out.trans (KeepC.of b3)).trans ((KeepC.set (HCU.out.below' b3) (k4 * 7 + 4) (.int .i64 dst)).more (Us := [51, 75]) (fun x hx => List.mem_cons.2 (.inl (List.mem_singleton.1 hx)))))
        have HLN := Lib.hid (show (L3.set k4 ⟨ino, ki, l, t, dst, A0, ac, P, B, bc, N⟩).length ≤ Ls.length by rw [List.length_set]; exact HL3.out)
        clear h6 hw3 y4 z4
        go_wp2
        go_ret
        rw [HR.out]
        exact ⟨rfl, _, _, by rw [show (some (⟨moveS S.l ⟨kind, ino, dir, dst, page, size, name, other, A, cp, data⟩, S.last⟩ : Stt)).isSome = true from rfl, if_pos rfl]; show DSx _ _ _ _ _ ⟨moveS S.l _, S.last⟩; rw [HX9.out]; exact H6.out, HLN.out, HB6.out, HK6.out⟩
    · have q9 : (K0 == 2) = false := by simpa using hkd
      have HX9 := Lib.hid (show moveS S.l ⟨kind, ino, dir, dst, page, size, name, other, A, cp, data⟩ = enterS (leaveS S.l dir name) dst other ino by
        unfold moveS; dsimp only; rw [if_neg (by rw [kind_some ai, ak]; exact hkd)])
      clear D3 hl3 hb3 hk3 hkd ai ak
      go_wp2
      go_ret
      rw [HR.out]
      exact ⟨rfl, _, _, by rw [show (some (⟨moveS S.l ⟨kind, ino, dir, dst, page, size, name, other, A, cp, data⟩, S.last⟩ : Stt)).isSome = true from rfl, if_pos rfl]; show DSx _ _ _ _ _ ⟨moveS S.l _, S.last⟩; rw [HX9.out]; exact PE.out, HL3.out, BE.out, KE2.out⟩
  · have q5 : (O0 != 0) = true := by simpa using ho
    by_cases hoi : O0 = ino
    · have q6 : (O0 == ino) = true := by simpa using hoi
      have HX5 := Lib.hid (show renD S ⟨kind, ino, dir, dst, page, size, name, other, A, cp, data⟩ = none by rw [HD.out, if_pos trivial, if_neg ho, decide_eq_true hoi]; rfl)
      obtain ⟨_, f1, f2, f3, _, _, f6, f7, _⟩ := cells9 (e := ⟨kind, ino, dir, dst, page, size, name, other, A, cp, data⟩) C6.out
      clear ho hoi
      go_wp2
      go_ret
      exact HNO.out HX5.out _ HG6.out
    · have q6 : (O0 == ino) = false := by simpa using hoi
      have KF := Lib.hid (rOff P6.out HLE.out BD.out.sm BD.out.asc BD.out.lk dst other O0 K0 (by rw [← AI0.out.2]; exact BD.out.kk ni0 (atS_mem AI0.out.1)))
      obtain ⟨OB, hOB⟩ : ∃ L, offB S.l dst other O0 K0 = L := ⟨_, rfl⟩
      rw [hOB] at KF
      have HOB := Lib.hid hOB
      rw [hOB, if_pos trivial, if_neg ho, decide_eq_false hoi, Bool.not_false, Bool.true_and] at HD
      obtain ⟨_, f1, f2, f3, _, _, f6, f7, _⟩ := cells9 (e := ⟨kind, ino, dir, dst, page, size, name, other, A, cp, data⟩) C6.out
      have HOO := Lib.hid ho
      unfold SPtr at KF
      clear ho hoi hOB
      go_wp2_with fail
      refine (KF.out).mono ?_
      rintro e' w7 ⟨rfl, L7, v7, D7, hl7, hb7, hk7⟩
      have CX := Lib.hid (hk7 _ _ _ (by decide) C6.out)
      have BX := Lib.hid ((B6.out.mono HBASE.out).trans hb7); have KX := Lib.hid ((KeepC.of (Ts := [51, 75]) B6.out).trans hk7)
      have HLX := Lib.hid hl7
      clear hl7 hb7 hk7 KF f1 f2 f3 f6 f7
      cases OB with
      | false =>
        have HX5 := Lib.hid (show renD S ⟨kind, ino, dir, dst, page, size, name, other, A, cp, data⟩ = none by rw [HD.out]; rfl)
        have HD7 := Lib.hid D7
        clear D7
        go_wp2
        go_ret
        rw [HX5.out]
        exact ⟨rfl, L7, v7, HD7.out, HLX.out, BX.out, KX.out⟩
      | true =>
        have PX := Lib.hid (show DSx w7 base g L7 v7 ⟨offS S.l dst other O0 K0, S.last⟩ from D7)
        have HR := Lib.hid (show renD S ⟨kind, ino, dir, dst, page, size, name, other, A, cp, data⟩ = some ⟨moveS (offS S.l dst other O0 K0) ⟨kind, ino, dir, dst, page, size, name, other, A, cp, data⟩, S.last⟩ by rw [HD.out]; rfl)
        have hemp : K0 = 2 → namesS S.l O0 = [] := fun h2 => by
          have h3 := HOB.out
          unfold offB at h3
          rw [decide_eq_true h2] at h3
          simp only [Bool.not_true, Bool.false_or, Bool.and_eq_true, decide_eq_true_eq] at h3
          exact h3.2.2.2.1
        have hdO : K0 = 2 → dir ≠ O0 := fun h2 e => by
          have h3 := hemp h2
          have h4 := AD0.out.2.1
          rw [← e] at h3
          unfold namesS at h3
          rw [getS_some AD0.out.1] at h3
          rw [h3] at h4
          cases h4
        have htO : K0 = 2 → dst ≠ O0 := fun h2 e => by
          have h3 := hemp h2
          obtain ⟨_, nx, x1, x2, _⟩ := named_has (l := S.l) (d := dst) (s := other) (by rw [HO.out]; exact HOO.out)
          rw [← e] at h3
          unfold namesS at h3
          rw [getS_some x1] at h3
          rw [h3] at x2
          cases x2
        have hiO : K0 = 2 → ino ≠ O0 := fun _ e => by
          have := q6
          rw [e] at this
          simp at this
        obtain ⟨xd, xd1, _⟩ := off_some (d := dst) (s := other) (i := O0) (k := K0) AD0.out.1 hdO
        obtain ⟨xt, xt1, _, xt3⟩ := off_some (d := dst) (s := other) (i := O0) (k := K0) AT0.out.1 htO
        obtain ⟨xi, xi1, xi2, _⟩ := off_some (d := dst) (s := other) (i := O0) (k := K0) AI0.out.1 hiO
        have S1 := Lib.hid (SmS.off BD.out.sm BD.out.lk dst other O0 K0)
        have A1 := Lib.hid (BD.out.asc.off dst other O0 K0)
        have AD := Lib.hid (show ∃ n, atS (offS S.l dst other O0 K0) dir = some n from ⟨_, xd1⟩)
        have AT := Lib.hid (show ∃ n, atS (offS S.l dst other O0 K0) dst = some n ∧ hasN other n.names = false from ⟨_, xt1, by rw [xt3, if_pos rfl]; exact has_dropN _ _⟩)
        have AI := Lib.hid (show ∃ n, atS (offS S.l dst other O0 K0) ino = some n ∧ n.kind = K0 from ⟨_, xi1, xi2.trans AI0.out.2⟩)
        clear D7 hemp hdO htO hiO xd1 xt1 xt3 xi1 xi2
        obtain ⟨_, f1, f2, f3, _, _, f6, f7, _⟩ := cells9 (e := ⟨kind, ino, dir, dst, page, size, name, other, A, cp, data⟩) CX.out
        obtain ⟨nd, ad⟩ := AD.out
        have KV := Lib.hid (rCutS PX.out (Nat.le_trans HLX.out HLE.out) S1.out A1.out dir ad name)
        unfold SPtr at KV
        clear ad
        go_wp2_with fail
        refine (KV.out).mono ?_
        rintro e' wl ⟨rfl, L2, v2, D2, hl2, hb2, hk2⟩
        have CL := Lib.hid (hk2 _ _ _ (by decide) CX.out)
        have BL := Lib.hid (BX.out.trans hb2); have KL := Lib.hid (KX.out.trans hk2); have HL2 := Lib.hid (Nat.le_trans hl2 HLX.out)
        obtain ⟨nt, at0, an0⟩ := AT.out
        have hat1 : ∃ n1, atS (leaveS (offS S.l dst other O0 K0) dir name) dst = some n1 ∧ hasN other n1.names = false := by
          refine ⟨if dst = dir then cutNm name nt else nt, by unfold leaveS; rw [atS_mod (f := cutNm name) (fun _ => rfl), at0]; rfl, ?_⟩
          split
          · exact has_drop an0
          · exact an0
        obtain ⟨nt1, at1, an1⟩ := hat1
        have KE := Lib.hid (rPutS D2 (Nat.le_trans HL2.out HLE.out) (SmS.leave S1.out dir name) (A1.out.leave dir name) dst at1 other an1 ino)
        obtain ⟨_, f1, f2, f3, _, _, f6, f7, _⟩ := cells9 (e := ⟨kind, ino, dir, dst, page, size, name, other, A, cp, data⟩) CL.out
        unfold SPtr at KE
        clear D2 hl2 hb2 hk2 at0 an0 at1 an1 KV
        go_wp2_with fail
        refine (KE.out).mono ?_
        rintro e' we ⟨rfl, L3, v3, D3, hl3, hb3, hk3⟩
        have CE := Lib.hid (hk3 _ _ _ (by decide) CL.out)
        have BE := Lib.hid (BL.out.trans hb3); have KE2 := Lib.hid (KL.out.trans hk3); have HL3 := Lib.hid (Nat.le_trans hl3 HL2.out)
        have PE := Lib.hid D3
        obtain ⟨_, f1, f2, f3, _, _, f6, f7, _⟩ := cells9 (e := ⟨kind, ino, dir, dst, page, size, name, other, A, cp, data⟩) CE.out
        obtain ⟨ni, ai, ak⟩ := AI.out
        by_cases hkd : K0 = 2
        · have q9 : (K0 == 2) = true := by simpa using hkd
          obtain ⟨n1, a1⟩ := some_mod (d := dir) (f := cutNm name) (fun _ => rfl) ai
          obtain ⟨n2, a2⟩ := some_mod (d := dst) (f := putNm other ino) (fun _ => rfl) a1
          have HX9 := Lib.hid (show moveS (offS S.l dst other O0 K0) ⟨kind, ino, dir, dst, page, size, name, other, A, cp, data⟩ = modS (enterS (leaveS (offS S.l dst other O0 K0) dir name) dst other ino) ino (setUp dst) by
            unfold moveS; dsimp only; rw [if_pos (by rw [kind_some ai, ak]; exact hkd)])
          have KA := Lib.hid (fun wx (hb : Below we.heap.size we wx) => rAt (D3.below hb) (Nat.le_trans HL3.out HLE.out) ino)
          obtain ⟨n4, k4, gL4, c4, p1, p2, p3, hv4, _, hbb4, hkx4, ho4, _⟩ := D3.at_ a2
          subst hv4
          rw [p3] at KA
          have hlt4 : (k4 : Int) < (L3.length : Int) := Int.ofNat_lt.2 hkx4
          obtain ⟨cur4, hcur4, _⟩ := D3.blk hkx4
          have hJ : n4.ino = ino := by
            have h6 := atS_ino a2
            rw [← p2] at h6
            exact h6
          have HP1 := Lib.hid p1; have HO4 := Lib.hid ho4; have HCU := Lib.hid hcur4; have HJ := Lib.hid hJ; have HBB4 := Lib.hid hbb4
          have hx4 := (D3.row_cells p1 4 _ rfl)
          have HX4 := Lib.hid hx4
          obtain ⟨J, ki, l, t, u, A0, ac, P, B, bc, N⟩ := n4
          dsimp only at HX4 HJ
          have b0 : Below we.heap.size we we.drew := below_drewN (Below.refl _ _) 1
          have S9 := Lib.hid (show ∀ w' : World, (∀ q, q < we.heap.size → q ≠ gL4 → w'.heap[q]? = we.heap[q]?) → w'.cell? ⟨g, 0, none⟩ = some (.slice (some ⟨gL4, 0, none⟩) L3.length c4) ∧ w'.cell? ⟨w.heap.size, 1, none⟩ = some (.int .i64 ino) ∧ w'.cell? ⟨w.heap.size, 3, none⟩ = some (.int .i64 dst) from fun w' hk => by
            have d1 : Cells w' g _ _ := (hk g D3.cells.lt (D3.cells.ne HCU.out (by decide))).trans D3.cells
            have d2 : Cells w' w.heap.size _ _ := (hk _ CE.out.lt (CE.out.ne HCU.out (by decide))).trans CE.out
            exact ⟨d1.cell 0, d2.cell 1, d2.cell 3⟩)
          have HA3 := Lib.hid (show AscS (enterS (leaveS (offS S.l dst other O0 K0) dir name) dst other ino) from asc_mod (A1.out.leave dir name) (fun _ => rfl))
          clear D3 hl3 hb3 hk3 hkd ai ak a1 a2 p1 p2 p3 hbb4 ho4 hcur4 hJ hx4 f1 f2 f3 f6 f7
          unfold SPtr at KA
          go_upto_region 11 with fail
          go_region_held3 (fun w' => w'.cell? ⟨g, 0, none⟩ = some (.slice (some ⟨gL4, 0, none⟩) L3.length c4) ∧ w'.cell? ⟨w.heap.size, 1, none⟩ = some (.int .i64 ino) ∧ w'.cell? ⟨w.heap.size, 3, none⟩ = some (.int .i64 dst))
            (first | exact S9.out _ (fun q hq _ => b0.block q hq) | exact S9.out _ (fun q hq _ => b3.block q hq) | exact S9.out _ (fun q hq hne => (Below.heap_setCell _ _ _ q hne).trans (b3.block q hq)))
            (first
            | (go_at_call 99; (with_reducible refine (KA.out _ b0).mono ?_); rintro e' w3 ⟨rfl, hw3⟩; have b3 := b0.trans (below_of_grown_of hw3); have y4 := (HCU.out.below' b3).cell (k4 * 7 + 4); rw [← HCU.out.cell (k4 * 7 + 4), HX4.out.1] at y4; have z4 := (HCU.out.below' b3).free (k4 * 7 + 4)))
          all_goals
            have h6 := (PE.out.below b3).set HP1.out HA3.out (n' := ⟨J, ki, l, t, dst, A0, ac, P, B, bc, N⟩) (f := setUp dst) rfl (j := 4) (u := .int .i64 dst) (by decide) rfl (HO4.out.below b3)
            dsimp only at h6
            rw [show J = ino from HJ.out] at h6
            have H6 := Lib.hid h6
            have HB6 := Lib.hid (show Below base w (w3.setCell ⟨gL4, k4 * 7 + 4, none⟩ (.int .i64 dst)) from (BE.out.trans (b3.mono (by have := PE.out.lo; have := PE.out.cells.lt; omega))).setCell (p := ⟨gL4, k4 * 7 + 4, none⟩) HBB4.out _)
            have HK6 := Lib.hid ((KE2.out.trans (KeepC.of b3)).trans ((KeepC.set (HCU.out.below' b3) (k4 * 7 + 4) (.int .i64 dst)).more (Us := [51, 75]) (fun x hx => List.mem_cons.2 (.inl (List.mem_singleton.1 hx)))))
            have HLN := Lib.hid (show (L3.set k4 ⟨ino, ki, l, t, dst, A0, ac, P, B, bc, N⟩).length ≤ Ls.length by rw [List.length_set]; exact HL3.out)
            clear h6 hw3 y4 z4
            go_wp2
            go_ret
            rw [HR.out]
            exact ⟨rfl, _, _, by rw [show (some (⟨moveS (offS S.l dst other O0 K0) ⟨kind, ino, dir, dst, page, size, name, other, A, cp, data⟩, S.last⟩ : Stt)).isSome = true from rfl, if_pos rfl]; show DSx _ _ _ _ _ ⟨moveS (offS S.l dst other O0 K0) _, S.last⟩; rw [HX9.out]; exact H6.out, HLN.out, HB6.out, HK6.out⟩
        · have q9 : (K0 == 2) = false := by simpa using hkd
          have HX9 := Lib.hid (show moveS (offS S.l dst other O0 K0) ⟨kind, ino, dir, dst, page, size, name, other, A, cp, data⟩ = enterS (leaveS (offS S.l dst other O0 K0) dir name) dst other ino by
            unfold moveS; dsimp only; rw [if_neg (by rw [kind_some ai, ak]; exact hkd)])
          clear D3 hl3 hb3 hk3 hkd ai ak
          go_wp2
          go_ret
          rw [HR.out]
          exact ⟨rfl, _, _, by rw [show (some (⟨moveS (offS S.l dst other O0 K0) ⟨kind, ino, dir, dst, page, size, name, other, A, cp, data⟩, S.last⟩ : Stt)).isSome = true from rfl, if_pos rfl]; show DSx _ _ _ _ _ ⟨moveS (offS S.l dst other O0 K0) _, S.last⟩; rw [HX9.out]; exact PE.out, HL3.out, BE.out, KE2.out⟩
end
end Go.Proofs.YtbejbiogabpmfaaGreat

/-! What all states have that effects come to, plainly. -/
namespace Go.Proofs.YtbejbiogabpmfaaGreat
open Wd Ino
set_option linter.unusedVariables false
def rightNd (n : Nod) : Bool := rightB n.ino n.kind n.links n.size n.up n.pages.length n.names.length
structure Inv (S : Stt) : Prop where
  asc : AscS S.l
  right : ∀ n ∈ S.l, rightNd n = true
  names : ∀ n ∈ S.l, RightN n.names
  last : ∀ n ∈ S.l, n.ino ≤ S.last
  most : S.last ≤ 1048576
  root : ∃ r, atS S.l 1 = some r ∧ r.kind = 2
  there : ∀ d ∈ S.l, ∀ e ∈ d.names, ∃ n, atS S.l e.n = some n ∧ (n.kind = 2 → e.n ≠ 1 ∧ n.up = d.ino)
  cnt : ∀ n ∈ S.l, n.ino ≠ 1 → (cntS S.l n.ino : Int) = n.links
  reach : ∀ i, kindS S.l i = 2 → ∃ k, Rch S.l k i
/-- bounds that grow with the number of effects -/
structure Num (k : Nat) (S : Stt) : Prop where
  len : S.l.length ≤ k + 1
  nm : ∀ n ∈ S.l, n.names.length ≤ k
  pg : ∀ n ∈ S.l, ∀ x ∈ n.pages, i64R x
theorem right_ino {n : Nod} (h : rightNd n = true) : 1 ≤ n.ino ∧ n.ino ≤ 1048576 ∧ 0 ≤ n.links ∧ n.links ≤ 16 ∧ (n.kind = 1 ∨ n.kind = 2) := by
  unfold rightNd rightB at h
  by_cases h1 : (inB n.ino 1 1048576 && inB n.links 0 16) = true
  · rw [if_pos h1] at h
    simp only [inB, Bool.and_eq_true, decide_eq_true_eq] at h1
    refine ⟨h1.1.1, h1.1.2, h1.2.1, h1.2.2, ?_⟩
    by_cases k1 : n.kind = 1
    · exact .inl k1
    · rw [if_neg k1] at h
      by_cases k2 : n.kind = 2
      · exact .inr k2
      · rw [if_neg k2] at h; cases h
  · rw [if_neg h1] at h; cases h
theorem right_file {n : Nod} (h : rightNd n = true) (hk : n.kind = 1) : n.up = 0 ∧ n.names = [] ∧ 0 ≤ n.size ∧ n.size ≤ 16384 ∧ (n.pages.length : Int) = needP n.size := by
  unfold rightNd rightB at h
  split at h
  · try rw [if_pos hk] at h
    unfold fileB at h
    simp only [inB, Bool.and_eq_true, decide_eq_true_eq, beq_iff_eq] at h
    exact ⟨h.1.1.1, List.eq_nil_of_length_eq_zero (by have := h.1.1.2; omega), h.1.2.1, h.1.2.2, h.2⟩
  · cases h
theorem right_dir {n : Nod} (h : rightNd n = true) (hk : n.kind = 2) : n.size = 0 ∧ n.pages = [] ∧ n.links = 1 ∧ (n.ino = 1 → n.up = 1) ∧ 1 ≤ n.up ∧ n.up ≤ 1048576 := by
  unfold rightNd rightB at h
  split at h
  · rw [if_neg (by omega)] at h
    unfold dirB at h
    rw [Bool.and_eq_true, Bool.and_eq_true, Bool.and_eq_true] at h
    unfold upB at h
    have h7 : n.size = 0 := by simpa using h.1.1.1
    have h8 : (n.pages.length : Int) = 0 := by simpa using h.1.1.2
    have h9 : n.links = 1 := by simpa using h.1.2
    refine ⟨h7, List.eq_nil_of_length_eq_zero (by omega), h9, fun h1 => ?_, ?_⟩
    · have h2 := h.2
      rw [if_pos h1] at h2
      simpa using h2
    · have h2 := h.2
      split at h2
      · have : n.up = 1 := by simpa using h2
        omega
      · simp only [inB, Bool.and_eq_true, decide_eq_true_eq] at h2
        exact h2
  · cases h
/-! how long a way is -/
theorem nodup_len : ∀ (xs ys : List Int), xs.Pairwise (· ≠ ·) → (∀ x ∈ xs, x ∈ ys) → xs.length ≤ ys.length
  | [], _, _, _ => Nat.zero_le _
  | x :: xs, ys, hp, h => by
    have hp' := List.pairwise_cons.1 hp
    have h1 := nodup_len xs (ys.erase x) hp'.2 (fun y hy => by
      have h2 := h y (List.mem_cons_of_mem _ hy)
      exact (List.mem_erase_of_ne (fun e => hp'.1 y hy e.symm)).2 h2)
    have h2 := List.length_erase_of_mem (h x List.mem_cons_self)
    have h3 : 0 < ys.length := List.length_pos_of_mem (h x List.mem_cons_self)
    rw [List.length_cons]
    omega
theorem way_list {l : List Nod} (hr : ∃ r, atS l 1 = some r) : ∀ {k : Nat} {i : Int}, Rch l k i → ∃ xs : List Int, xs.length = k + 1 ∧ xs.Pairwise (· ≠ ·) ∧ (∀ x ∈ xs, ∃ n, atS l x = some n) ∧ ∀ x ∈ xs, ∃ j, j ≤ k ∧ Rch l j x
  | 0, i, h => ⟨[i], rfl, List.pairwise_singleton _ _, fun x hx => by
      have h' : i = 1 := h
      rw [List.mem_singleton.1 hx, h']; exact hr, fun x hx => ⟨0, Nat.le_refl _, by rw [List.mem_singleton.1 hx]; exact h⟩⟩
  | k + 1, i, h => by
    obtain ⟨xs, h1, h2, h3, h4⟩ := way_list hr h.2.2
    refine ⟨i :: xs, by rw [List.length_cons, h1], List.pairwise_cons.2 ⟨fun y hy e => ?_, h2⟩, fun x hx => ?_, fun x hx => ?_⟩
    · obtain ⟨j, hj, hr⟩ := h4 y hy
      rw [← e] at hr
      have := Rch.uniq h hr
      omega
    · rcases List.mem_cons.1 hx with rfl | hx
      · obtain ⟨n, a, _⟩ := at_of_kind (l := l) (i := x) (by rw [h.2.1]; decide)
        exact ⟨n, a⟩
      · exact h3 x hx
    · rcases List.mem_cons.1 hx with rfl | hx
      · exact ⟨k + 1, Nat.le_refl _, h⟩
      · obtain ⟨j, hj, hr⟩ := h4 x hx
        exact ⟨j, by omega, hr⟩
theorem Inv.way {S : Stt} (h : Inv S) : WayUp S.l := fun i hi => by
  obtain ⟨k, hk⟩ := h.reach i hi
  refine ⟨k, ?_, hk⟩
  obtain ⟨r, hr, _⟩ := h.root
  obtain ⟨xs, h1, h2, h3, _⟩ := way_list ⟨r, hr⟩ hk
  have h4 := nodup_len xs (S.l.map Nod.ino) h2 (fun x hx => by
    obtain ⟨n, hn⟩ := h3 x hx
    exact List.mem_map.2 ⟨n, atS_mem hn, atS_ino hn⟩)
  rw [List.length_map] at h4
  omega
theorem okE_parts {e : Ent} (h : okE e = true) : nameN e.s.toList = 0 ∧ 1 ≤ e.n ∧ e.n ≤ 1048576 := by
  unfold okE at h
  simpa only [Bool.and_eq_true, decide_eq_true_eq] using h
end Go.Proofs.YtbejbiogabpmfaaGreat
