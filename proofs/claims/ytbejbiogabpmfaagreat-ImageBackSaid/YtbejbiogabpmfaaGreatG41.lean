import Derived.Test.YtbejbiogabpmfaaGreatG38
import Derived.Test.YtbejbiogabpmfaaGreatG39
import Derived.Test.YtbejbiogabpmfaaGreatG40
import Derived.ProofKit
import Derived.OpenShut
import Derived.Carry
import Derived.SizedLaws
import Derived.Deep.Slices
import Derived.Deep.Grids
import Derived.Lib.SmallJoins
import Derived.Laws.Cover2
import Derived.Test.YtbejbiogabpmfaaGreatG01

/-! The law ImageBack. -/
namespace Go.Proofs.YtbejbiogabpmfaaGreat
open Wd Ino Sm U Go.RowKit Go.ChangeShapes Go.WideShapes Go.Shelf Go.Sort
set_option linter.unusedVariables false
set_option maxRecDepth 100000
theorem Small.setI {l : List Nat} (h : Small l) (j : Nat) {z : Nat} (hz : z < 18446744073709551616) : Small (l.set j z) := fun x hx => by
  rcases List.mem_or_eq_of_mem_set hx with hx | hx
  · exact h x hx
  · rw [hx]; exact hz
def IbRel (w : World) (l : List Dd) (g b gx : Nat) (i : Value) (wr : World) : Prop := ∃ k : Nat, k ≤ l.length ∧ i = .int .i64 k ∧ Two wr w.heap.size (1 + 8 * k) g b gx (runI l k) (runI l k) ∧ Below w.heap.size w wr
theorem Trn.two_belowI {w w' : World} {g b B : Nat} (t : Trn w w' [g, b]) (hB : B ≤ w.heap.size) (h1 : B ≤ g) (h2 : B ≤ b) : Below B w w' := t.below hB (fun x hx => by
  rcases List.mem_cons.1 hx with rfl | hx
  · exact h1
  · rw [List.mem_singleton.1 hx]; exact h2)
set_option maxHeartbeats 32000000 in
theorem iback_law {w : World} {A : Option Addr} {c : Nat} {l : List Dd} (h : Dds w w.heap.size A l) (hsz : l.length * 112 ≤ 140737488351232) (at_ : Int) (hat : i64R at_) (z : Nat) (hz : z < 18446744073709551616) : Calls Tryz.prog 5 #[.slice A l.length c, .int .i64 at_, .int .u64 (z : Int)] w (TrueB w) := by
  have hfol : Tryz.prog.follows .mixedOrders = true := by kernel_rfl
  have KA := Lib.hid (imAwake_true w)
  have HD := Lib.hid h; have HSZ := Lib.hid hsz; have HAT := Lib.hid hat; have HZ := Lib.hid hz
  obtain ⟨F1, hF1⟩ : ∃ F, fewD l = F := ⟨_, rfl⟩
  have HF1 := Lib.hid hF1
  clear h hsz hat hz hF1
  go_enter Tryz.func5, Tryz.ntmps5
  go_wp2_with fail
  refine (KA.out).mono ?_
  rintro e w1 ⟨rfl, hb1⟩
  have B1 := Lib.hid hb1
  have KF := Lib.hid (few_law (c := c) ((HD.out.below B1.out).more B1.out.size) HSZ.out)
  clear hb1 KA
  go_wp2_with fail
  refine (KF.out).mono ?_
  rintro e w2 ⟨rfl, hb2⟩
  have B2 := Lib.hid (B1.out.trans (hb2.mono B1.out.size))
  clear hb2 KF
  rw [HF1.out]
  cases F1 with
  | false =>
    go_wp2
    go_ret
    exact ⟨rfl, B2.out⟩
  | true =>
  have KP := Lib.hid (pNew w2)
  go_wp2_with fail
  refine (KP.out).mono ?_
  rintro e w5 ⟨g, b, rfl, hb5, P5⟩
  have B45 := Lib.hid hb5; have P5H := Lib.hid P5
  have KX := Lib.hid (rNew w5)
  clear hb5 P5 KP
  go_wp2_with fail
  refine (KX.out).mono ?_
  rintro e w6 ⟨gx, Lx, vx, rfl, X6, hb6⟩
  have B6 := Lib.hid (B45.out.trans (hb6.mono B45.out.size))
  have hx6 : DSx w6 w2.heap.size gx Lx vx newStt := ⟨Nat.le_trans B45.out.size X6.lo, X6.cells, ⟨X6.row.1, by
    rcases X6.row.2 with h3 | ⟨gg, cap, cur, h3, h4, h5⟩
    · exact .inl h3
    · exact .inr ⟨gg, cap, cur, h3, Nat.le_trans B45.out.size h4, h5⟩⟩, fun n hn => (X6.own n hn).mono B45.out.size, X6.eq⟩
  have T6 := Lib.hid (Two.mk (P5H.out.below hb6) ⟨Lx, vx, hx6⟩)
  have hfl := fewD_iff.1 HF1.out
  have HF := Lib.hid hfl.1; have HL := Lib.hid hfl.2
  clear X6 hb6 hx6 KX hfl
  unfold SPtr
  go_wp2
  go_loopw [25] (fun i wr => IbRel w2 l g b gx i wr) (fun i _ => l.length - (intOf i).toNat)
  case atStart => exact ⟨0, Nat.zero_le _, rfl, T6.out, B6.out⟩
  case round =>
    obtain ⟨k, hk, rfl, T, hb⟩ := hrel
    have hbw : Below w.heap.size w wr := B2.out.trans (hb.mono B2.out.size)
    by_cases hlt : k < l.length
    · obtain ⟨d, hd⟩ : ∃ d, l[k]? = some d := ⟨_, List.getElem?_eq_getElem hlt⟩
      have hD := HD.out.below hbw
      obtain ⟨bb, off, rfl, hbB, x0, x1, x2, x3, x4, x5, x6, x7, x8, x9⟩ := dds_cells hD hd
      have hkl : (k : Int) < (l.length : Int) := by omega
      have hdm := List.mem_of_getElem? hd
      have hiv := Inv.runI l k
      have hk30 : k ≤ 30 := Nat.le_trans hk HL.out
      have hnm := Num.runI (l := l) k hk (by omega)
      have hok := (hD.ok d hdm).e
      have hfe := HF.out d hdm
      have hsn := runI_at hd
      have hrf : i64R ((k : Int) + 1) := by unfold i64R; omega
      obtain ⟨⟨kind, ino, dir, dst, page, size, name, other, Ae, cp, data⟩, ref⟩ := d
      dsimp only at x0 x1 x2 x3 x4 x5 x6 x7 x8 x9 hok hfe hsn
      obtain ⟨S, hS⟩ : ∃ S, runI l k = S := ⟨_, rfl⟩
      rw [hS] at T hiv hnm hsn
      obtain ⟨w7, hw7⟩ : ∃ w7, wr.alloc (.cells #[.int .i64 kind, .int .i64 ino, .int .i64 dir, .int .i64 dst, .int .i64 page, .int .i64 size, .string name, .string other, .slice Ae data.length cp, .int .i64 ref] 66) = w7 := ⟨_, rfl⟩
      have hb7 : Below wr.heap.size wr w7 := by rw [← hw7]; exact below_of_grown (World.grownBy_alloc wr _ none)
      have hc7 : Cells w7 wr.heap.size 66 #[.int .i64 kind, .int .i64 ino, .int .i64 dir, .int .i64 dst, .int .i64 page, .int .i64 size, .string name, .string other, .slice Ae data.length cp, .int .i64 ref] := by rw [← hw7]; exact Cells.new _ _ _
      have z0 := hc7.cell 0; have z1 := hc7.cell 1; have z2 := hc7.cell 2; have z3 := hc7.cell 3; have z4 := hc7.cell 4; have z5 := hc7.cell 5; have z6 := hc7.cell 6; have z7 := hc7.cell 7; have z8 := hc7.cell 8; have z9 := hc7.cell 9
      simp only [List.getElem?_toArray, List.getElem?_cons_succ, List.getElem?_cons_zero] at z0 z1 z2 z3 z4 z5 z6 z7 z8 z9
      have T7 := T.below hb7
      have hok7 : Eff.Ok ⟨kind, ino, dir, dst, page, size, name, other, Ae, cp, data⟩ w7 w.heap.size := hok.below (hb7.mono hbw.size)
      have HB7 := Lib.hid (hb.trans (hb7.mono hb.size))
      have hq1 : wrap64 ((k : Int) + 1) = (k : Int) + 1 := by unfold wrap64; omega
      have KA := Lib.hid (pApply T7.p (hiv.fit hnm (by omega)) (by omega) ⟨kind, ino, dir, dst, page, size, name, other, Ae, cp, data⟩ (hok7.more (Nat.le_trans hbw.size hb7.size)) hfe ((k : Int) + 1))
      have KR := Lib.hid (fun wx (b3 : Below w2.heap.size w7 wx) (Lx : List Nd) (vx : Value) (x : DSx wx w2.heap.size gx Lx vx S) => rApply x hiv hnm (by omega) ⟨kind, ino, dir, dst, page, size, name, other, Ae, cp, data⟩ ((hok7.below (b3.mono B2.out.size)).more (Nat.le_trans B2.out.size (Nat.le_trans HB7.out.size b3.size))) hfe ((k : Int) + 1) hrf)
      have T7H := Lib.hid T7; have HC7 := Lib.hid hc7; have HSN := Lib.hid hsn; have HKL := Lib.hid hlt
      unfold Eff.val SPtr at KA KR
      dsimp only at KA KR
      clear T7 hb7 hc7 hok7 hok hfe hrf hsn hS hiv hnm hD hd hdm T hb hbB hbw
      go_wp2_with fail
      refine (KA.out).mono ?_
      rintro e' w8 ⟨A4, c4, l4, rfl, P4, t4⟩
      obtain ⟨Lx3, vx3, X3⟩ := T7H.out.x
      have X4 := X3.far T7H.out.p t4
      have C4 := Lib.hid (T7H.out.p.keepC t4 _ _ _ (by decide) HC7.out)
      have B48 := Lib.hid (t4.two_belowI (B := w2.heap.size) HB7.out.size T7H.out.p.lo T7H.out.p.lob)
      have KR4 := Lib.hid (KR.out w8 B48.out _ _ X4)
      have P4H := Lib.hid P4; have X4H := Lib.hid X4
      clear P4 t4 X3 X4 KA KR z0 z1 z2 z3 z4 z5 z6 z7 z8 z9 x0 x1 x2 x3 x4 x5 x6 x7 x8 x9
      have z0 := C4.out.cell 0; have z1 := C4.out.cell 1; have z2 := C4.out.cell 2; have z3 := C4.out.cell 3; have z4 := C4.out.cell 4; have z5 := C4.out.cell 5; have z6 := C4.out.cell 6; have z7 := C4.out.cell 7; have z8 := C4.out.cell 8; have z9 := C4.out.cell 9
      simp only [List.getElem?_toArray, List.getElem?_cons_succ, List.getElem?_cons_zero] at z0 z1 z2 z3 z4 z5 z6 z7 z8 z9
      go_wp2_with fail
      refine (KR4.out).mono ?_
      rintro e' w9 ⟨A5, c5, l5, Lx5, vx5, rfl, X5, t5⟩
      have P5 := P4H.out.far X4H.out.cells t5
      have T5 := Lib.hid ((Two.mk P5 ⟨Lx5, vx5, X5⟩).more (m' := 1 + 8 * (k + 1)) (by omega))
      have B9 := Lib.hid ((HB7.out.trans B48.out).trans (t5.below (B := w2.heap.size) (by have := HB7.out.size; have := B48.out.size; omega) (fun x hx => by rw [List.mem_singleton.1 hx]; exact X4H.out.lo)))
      clear P5 X5 t5 KR4 z0 z1 z2 z3 z4 z5 z6 z7 z8 z9
      go_wp2
      go_roundw
      case rel => exact ⟨k + 1, HKL.out, by go_num, by rw [HSN.out]; exact T5.out, B9.out⟩
      case measure => simp [intOf]; have := HKL.out; omega
    · obtain rfl : k = l.length := by omega
      have hiv := Inv.runI l l.length
      have hnm := Num.runI (l := l) l.length (Nat.le_refl _) (by have := HL.out; omega)
      have hor := OneRef.runJ (l := l) l.length (Nat.le_refl _)
      have hps := PosR.runJ (l := l) l.length (Nat.le_refl _)
      obtain ⟨S, hS⟩ : ∃ S, runI l l.length = S := ⟨_, rfl⟩
      rw [hS] at hiv hnm T hor hps
      obtain ⟨m, hm⟩ : ∃ m, 1 + 8 * l.length = m := ⟨_, rfl⟩
      have hm2 : m ≤ 1000 := by have := HL.out; omega
      rw [hm] at T
      obtain ⟨NN, hNN⟩ : ∃ N, l.length = N := ⟨_, rfl⟩
      have hNL : NN ≤ 30 := by have := HL.out; omega
      rw [hNN] at hnm hor
      have sm := hiv.smN hnm (by omega)
      have mo := imgW_most sm hnm hNL
      have P1 := PF.inv T.p hiv hnm (by omega) (by omega)
      obtain ⟨Ls, vS, X1⟩ := T.x
      have hsm := imgW_small sm (by have := hnm.len; omega)
      have hlz : okZ S.last := by have h1 := hiv.most; have h2 := (inv_last hiv); obtain ⟨r, hr, _⟩ := hiv.root; have h3 := hiv.last r (atS_mem hr); have h4 := (right_ino (hiv.right r (atS_mem hr))).1; unfold okZ; omega
      have KP := Lib.hid (iPutAll P1 (inv_last hiv).2 mo)
      have KO := Lib.hid (fun (wx : World) (g7 cap7 : Nat) (hcap : (imgW S).length + 1 ≤ cap7) (hr : Row wx wx.heap.size (some ⟨g7, 0, none⟩) ((imgW S).length + 1) ((imgW S ++ [sum (imgW S)]).map wd)) => iOf_good hiv hnm (by omega) hor.nodup (okN.of hiv hnm (by omega) hor (by omega) hps) hlz hsm rfl hcap (by omega) hr (Nat.le_refl _))
      have KL := Lib.hid (fun (wx : World) (base g8 b8 : Nat) (hp : PSt wx base S.l.length g8 b8 S) (hb : Below wr.heap.size wr wx) => alike_any hp hiv.asc sm (by have := hnm.len; omega) (by have := hnm.len; omega) (X1.below hb))
      have KN := Lib.hid (fun (wx : World) (hb : Below wr.heap.size wr wx) => iNeedAll (P1.below hb) (inv_last hiv).2)
      have HSM := Lib.hid hsm; have HMO := Lib.hid mo
      have HB := Lib.hid (B2.out.trans (hb.mono B2.out.size))
      clear hiv hnm hor hps hS hm hm2 hNN hNL sm mo P1 X1 T hb hsm hlz hlt hk
      unfold SPtr at KP KL KN
      go_wp2_with fail
      refine (KP.out).mono ?_
      rintro e w7 ⟨g7, cap7, cs7, rfl, hc7, ht7, hlo7, hb7, hcap7⟩
      have R7 := Lib.hid (sealed_row hc7 ht7 (by rw [List.length_map, List.length_append]; rfl))
      have B7 := Lib.hid hb7; have C7 := Lib.hid hc7; have HT7 := Lib.hid ht7; have HLO := Lib.hid hlo7; have HCAP := Lib.hid hcap7
      have KO7 := Lib.hid (KO.out w7 g7 cap7 hcap7 R7.out)
      clear hc7 ht7 hb7 hlo7 hcap7 KP KO
      go_wp2_with fail
      refine (KO7.out).mono ?_
      rintro e w8 ⟨g8, b8, base8, rfl, hlo8, P8, hb8⟩
      have B8 := Lib.hid (B7.out.trans (hb8.mono B7.out.size))
      have KL8 := Lib.hid (KL.out w8 base8 g8 b8 P8 B8.out)
      have C8 := Lib.hid (C7.out.below' hb8)
      clear P8 hb8 hlo8 KO7 KL
      unfold SPtr
      go_wp2_with fail
      refine (KL8.out).mono ?_
      rintro e w9 ⟨rfl, hb9⟩
      have B9 := Lib.hid (B8.out.trans (hb9.mono B8.out.size))
      have C9 := Lib.hid (C8.out.below' hb9)
      have KN9 := Lib.hid (KN.out w9 B9.out)
      clear hb9 KL8 KN
      go_wp2_with fail
      refine (KN9.out).mono ?_
      rintro e w10 ⟨rfl, hb10⟩
      have B10 := Lib.hid (B9.out.trans (hb10.mono B9.out.size))
      have C10 := Lib.hid (C9.out.below' hb10)
      clear hb10 KN9
      have hlen : (imgW S ++ [sum (imgW S)]).length = (imgW S).length + 1 := by rw [List.length_append]; rfl
      obtain ⟨L, hLn⟩ : ∃ L, (imgW S).length = L := ⟨_, rfl⟩
      have hL2 := HMO.out
      have hcap := HCAP.out
      have ht7 := HT7.out
      rw [hLn] at hlen hL2 hcap ht7 ⊢
      have HLN := Lib.hid hLn; have HLEN := Lib.hid hlen; have HT := Lib.hid ht7
      have q0 : (((L + 1 : Nat) : Int) != ((L + 1 : Nat) : Int)) = false := by simp
      clear hLn hlen ht7 R7
      by_cases hneg : at_ < 0
      · have q1 : decide (at_ < 0) = true := decide_eq_true hneg
        clear hneg
        go_wp2
        go_ret
        exact ⟨rfl, HB.out.trans (B10.out.mono HB.out.size)⟩
      · have q1 : decide (at_ < 0) = false := decide_eq_false hneg
        by_cases hbig : ((L + 1 : Nat) : Int) ≤ at_
        · have q2 : decide (((L + 1 : Nat) : Int) ≤ at_) = true := decide_eq_true hbig
          have q3 : decide (at_ ≥ ((L + 1 : Nat) : Int)) = true := decide_eq_true hbig
          clear hneg
          go_wp2
          go_ret
          exact ⟨rfl, HB.out.trans (B10.out.mono HB.out.size)⟩
        · obtain ⟨j, rfl⟩ : ∃ j : Nat, at_ = (j : Int) := ⟨at_.toNat, by omega⟩
          have hj : j < L + 1 := by omega
          have q2 : decide (((L + 1 : Nat) : Int) ≤ (j : Int)) = false := decide_eq_false hbig
          have q3 : decide ((j : Int) ≥ ((L + 1 : Nat) : Int)) = false := decide_eq_false hbig
          have q4 : (j : Int) < ((L + 1 : Nat) : Int) := Int.ofNat_lt.2 hj
          obtain ⟨v, hv⟩ : ∃ v, (imgW S ++ [sum (imgW S)])[j]? = some v := ⟨_, List.getElem?_eq_getElem (by rw [HLEN.out]; exact hj)⟩
          have cv : w10.cell? ⟨g7, j, none⟩ = some (.int .u64 (v : Int)) := by
            rw [C10.out.cell j, ← Array.getElem?_toList, ← List.getElem?_take_of_lt (l := cs7.toList) hj, HT.out, List.getElem?_map, hv]
            rfl
          have fv := C10.out.free j
          have HV := Lib.hid hv; have HJ := Lib.hid hj
          by_cases hvz : v = z
          · have q5 : ((v : Int) == (z : Int)) = true := by rw [hvz]; simp
            clear hneg hbig hv hj hvz
            go_wp2
            go_ret
            exact ⟨rfl, HB.out.trans (B10.out.mono HB.out.size)⟩
          · have q5 : ((v : Int) == (z : Int)) = false := by rw [beq_eq_false_iff_ne]; omega
            have hc11 := C10.out.set j (.int .u64 (z : Int))
            have ht11 : (cs7.setIfInBounds j (.int .u64 (z : Int))).toList.take (L + 1) = ((imgW S ++ [sum (imgW S)]).set j z).map wd := by
              rw [Array.toList_setIfInBounds, List.take_set, HT.out, List.map_set]
              rfl
            have hb11 : Below wr.heap.size w10 (w10.setCell ⟨g7, j, none⟩ (.int .u64 (z : Int))) := (Below.refl _ w10).setCell (p := ⟨g7, j, none⟩) HLO.out _
            have KO : Calls Tryz.prog 21 #[.slice (some ⟨g7, 0, none⟩) (L + 1) cap7] (w10.setCell ⟨g7, j, none⟩ (.int .u64 (z : Int))) (IOfNo (w10.setCell ⟨g7, j, none⟩ (.int .u64 (z : Int)))) := by
              have hrow := sealed_row hc11 ht11 (by rw [List.length_map, List.length_set, HLEN.out])
              by_cases hjl : j < L
              · rw [List.set_append_left (h := by rw [HLN.out]; exact hjl)] at hrow
                have hv2 : (imgW S)[j]? = some v := by have := HV.out; rwa [List.getElem?_append_left (by rw [HLN.out]; exact hjl)] at this
                exact iOf_no (by rw [List.length_set, HLN.out]) (Small.setI HSM.out j HZ.out) (sum_lt _) (fun e => sum_set HSM.out hv2 HZ.out hvz e.symm) hcap (by omega) hrow (Nat.le_refl _)
              · obtain rfl : j = L := by omega
                rw [List.set_append_right (h := by rw [HLN.out]; exact Nat.le_refl _), HLN.out, Nat.sub_self] at hrow
                have hv2 : v = sum (imgW S) := by
                  have := HV.out
                  rw [List.getElem?_append_right (by rw [HLN.out]; exact Nat.le_refl _), HLN.out, Nat.sub_self] at this
                  simpa using this.symm
                exact iOf_no (by rw [HLN.out]) HSM.out HZ.out (fun e => hvz (by rw [hv2, e])) hcap (by omega) hrow (Nat.le_refl _)
            have KOH := Lib.hid KO
            have HB11 := Lib.hid hb11
            clear hneg hbig hv hj hvz hc11 ht11 hb11 KO
            go_wp2_with fail
            refine (KOH.out).mono ?_
            rintro e w12 ⟨rfl, hb12⟩
            have HB12 := Lib.hid hb12
            clear hb12 KOH
            go_wp2
            go_ret
            have h13 := B10.out.trans HB11.out
            have h14 := h13.trans (HB12.out.mono h13.size)
            exact ⟨rfl, HB.out.trans (h14.mono HB.out.size)⟩
theorem iback_walk {w : World} {A : Option Addr} {c : Nat} {l : List Dd} (h : Dds w w.heap.size A l) (hsz : l.length * 112 ≤ 140737488351232) {i : Int} (hi : (Lit.int .i64 i).wf = true) {x : Int} (hx : (Lit.int .u64 x).wf = true) : Calls Tryz.prog 5 #[.slice A l.length c, .int .i64 i, .int .u64 x] w (TrueB w) := by
  have hb : IntKind.u64.min ≤ x ∧ x ≤ IntKind.u64.max := by simpa [Lit.wf] using hx
  have m1 : IntKind.u64.min = 0 := by decide
  have m2 : IntKind.u64.max = 18446744073709551615 := by decide
  obtain ⟨k, rfl⟩ : ∃ k : Nat, x = (k : Int) := ⟨x.toNat, by omega⟩
  exact iback_law h hsz i (i64R_of hi) k (by omega)
end Go.Proofs.YtbejbiogabpmfaaGreat

namespace Wd
open Go Go.RowKit Go.ChangeShapes Go.WideShapes Go.ChangeAt

section
variable {H : Type} {enc : TypeId × Value → H} {P : Program}
variable {w : World} {base : Nat} {spare : Nat → Bool} {held : Bool}

end
end Wd
