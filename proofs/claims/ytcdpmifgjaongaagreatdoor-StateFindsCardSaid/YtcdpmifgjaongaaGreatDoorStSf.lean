import Derived.Test.YtcdpmifgjaongaaGreatDoorG34
import Derived.Test.YtcdpmifgjaongaaGreatDoorG29
/-! The law StateFinds. -/
namespace Go.Proofs.YtcdpmifgjaongaaGreatDoor
open Wd Ino Sm U Go.RowKit Go.ChangeShapes Go.WideShapes Go.Sort
set_option linter.unusedVariables false
set_option maxRecDepth 100000
theorem turn_all {S : Stt} (iv : Inv S) {k0 : Nat} (nm : Num k0 S) (hk0 : k0 ≤ 900) {a page old ref : Int} (h : turnOk S a page old) (hr : i64R ref) : ∃ K : Nat, page = (K : Int) ∧ (getS S.l a).pages[K]? = some old ∧ SmS (modS S.l a (putNod page ref (getS S.l a).size)) ∧ (getS (modS S.l a (putNod page ref (getS S.l a).size)) a).pages = (getS S.l a).pages.set K ref := by
  obtain ⟨h0, K, rfl, hx⟩ := h
  have hs := iv.smN nm hk0
  have hat : ∃ n0, atS S.l a = some n0 ∧ getS S.l a = n0 := by
    cases hn0 : atS S.l a with
    | none =>
      unfold getS at hx
      rw [hn0] at hx
      cases hx
    | some n0 => exact ⟨n0, rfl, getS_some hn0⟩
  obtain ⟨n0, a0, a1⟩ := hat
  rw [a1] at hx ⊢
  have hright := iv.right n0 (atS_mem a0)
  have hkd : n0.kind = 1 := by
    rcases (right_ino hright).2.2.2.2 with h1 | h1
    · exact h1
    · rw [(right_dir hright h1).2.1] at hx
      cases hx
  obtain ⟨_, _, r1, r2, r3⟩ := right_file hright hkd
  have hfit : fitP n0.pages (needP n0.size).toNat = n0.pages := by
    have : (needP n0.size).toNat = n0.pages.length := by omega
    rw [this]
    unfold fitP
    rw [List.take_length, Nat.sub_self, List.replicate_zero, List.append_nil]
  have hput : putP n0.pages (K : Int) ref n0.size = n0.pages.set K ref := by
    unfold putP
    rw [hfit, Int.toNat_natCast]
  have hgn : putNod (K : Int) ref n0.size n0 = { n0 with pages := n0.pages.set K ref } := by
    unfold putNod
    rw [hput]
  refine ⟨K, rfl, hx, fun n hn => ?_, ?_⟩
  · obtain ⟨n1, hn1, rfl⟩ := List.mem_map.1 hn
    split
    · rename_i he
      have : n1 = n0 := by
        have := atS_of_mem iv.asc hn1
        rw [he, a0] at this
        exact (Option.some.inj this).symm
      subst this
      rw [hgn]
      have sm := hs n1 hn1
      exact ⟨by show (n1.pages.set K ref).length ≤ 1000; rw [List.length_set]; exact sm.p, sm.q, sm.sz, sm.ino, sm.kind, sm.links, sm.size, sm.up, fun x hx => by
        rcases List.mem_or_eq_of_mem_set hx with h1 | h1
        · exact sm.pg x h1
        · rw [h1]; exact hr, sm.nm⟩
    · exact hs n1 hn1
  · rw [get_mod (f := putNod (K : Int) ref n0.size) (fun n => rfl), if_pos ⟨rfl, by rw [a0]; rfl⟩, a1, hgn]
theorem plain_node {n k : Nd} (h : n.plain = k.plain) : nodeEq n k = true := by
  rw [nodeEq_iff]
  exact ⟨congrArg Nod.ino h, congrArg Nod.kind h, congrArg Nod.links h, congrArg Nod.size h, congrArg Nod.up h, congrArg Nod.pages h, congrArg Nod.names h⟩
set_option maxHeartbeats 16000000 in
theorem finds_law {w : World} {A : Option Addr} {c : Nat} {l : List Dd} (h : Dds w w.heap.size A l) (hsz : l.length * 112 ≤ 140737488351232) (hM : MaxW w) (p : ByteArray) (a bb page ref : Int) (ha : i64R a) (hbb : i64R bb) (hpg : i64R page) (hrf : i64R ref) : Calls Tryz.prog 3 #[.slice A l.length c, .string p, .int .i64 a, .int .i64 bb, .int .i64 page, .int .i64 ref] w (TrueB w) := by
  have KA := Lib.hid (stAwake_true w hM)
  have HD := Lib.hid h; have HSZ := Lib.hid hsz; have HMW := Lib.hid hM; have HA := Lib.hid ha; have HB := Lib.hid hbb; have HP := Lib.hid hpg; have HR := Lib.hid hrf
  clear h hsz hM ha hbb hpg hrf
  go_enter Tryz.func3, Tryz.ntmps3
  go_wp2_with fail
  refine (KA.out).mono ?_
  rintro e w1 ⟨rfl, hb1⟩
  have B1 := Lib.hid hb1
  have KF := Lib.hid (few_law (c := c) ((HD.out.below hb1).more hb1.size) HSZ.out)
  clear hb1 KA
  go_wp2_with fail
  refine (KF.out).mono ?_
  rintro e w2 ⟨rfl, hb2⟩
  have B2 := Lib.hid (B1.out.trans (hb2.mono B1.out.size))
  clear hb2 KF
  by_cases hf : fewD l = true
  case neg =>
    rw [Bool.not_eq_true] at hf
    rw [hf]
    clear hf
    go_wp2
    go_ret
    exact ⟨rfl, B2.out⟩
  case pos =>
  rw [hf]
  by_cases hlp : 200 < p.size
  · have q1 : decide ((200 : Int) < (p.size : Int)) = true := decide_eq_true (by omega)
    have q2 : decide (200 < p.size) = true := decide_eq_true hlp
    clear hf
    go_wp2
    go_ret
    exact ⟨rfl, B2.out⟩
  · have q1 : decide ((200 : Int) < (p.size : Int)) = false := decide_eq_false (by omega)
    have q2 : decide (200 < p.size) = false := decide_eq_false hlp
    have q3 : ¬ 200 < p.size := hlp
    have hl30 := (fewD_iff.1 hf).2
    have IV := Lib.hid (Inv.runD l)
    have NM := Lib.hid (Num.runD l (fun d hd => (HD.out.ok d hd).ref))
    have hsm := IV.out.smN NM.out (by omega)
    have HSM := Lib.hid hsm
    have KD := Lib.hid (done_law (c := c) ((HD.out.below B2.out).more B2.out.size) hf)
    have HLP := Lib.hid hlp
    obtain ⟨S, hS⟩ : ∃ S, runD l = S := ⟨_, rfl⟩
    rw [hS] at IV NM HSM KD
    have HL30 := Lib.hid hl30
    obtain ⟨m, hm⟩ : ∃ m, 1 + 8 * l.length = m := ⟨_, rfl⟩
    rw [hm] at KD
    have HM := Lib.hid (show m < 999000 by omega)
    clear hf hlp hl30 hsm hS hm
    go_wp2_with fail
    refine (KD.out).mono ?_
    rintro e w3 ⟨g, b, gx, rfl, two, hb3⟩
    have B3 := Lib.hid (B2.out.trans (hb3.mono B2.out.size))
    obtain ⟨hp3, Ls, v, hx3⟩ := two
    have P3 := Lib.hid hp3; have X3 := Lib.hid hx3
    obtain ⟨R1, hR1⟩ : ∃ R, (findS S p).1 = R := ⟨_, rfl⟩
    obtain ⟨R2, hR2⟩ : ∃ R, (findS S p).2 = R := ⟨_, rfl⟩
    have KF1 := Lib.hid (pFind hp3 HSM.out p (by have := HLP.out; omega) (HMW.out.below B3.out HMW.out.lt))
    rw [hR1, hR2] at KF1
    clear hp3 hx3 hb3 KD
    go_wp2_with fail
    refine (KF1.out).mono ?_
    rintro e w4 ⟨rfl, hb4⟩
    have B34 := Lib.hid hb4
    have B4 := Lib.hid (B3.out.trans (hb4.mono B3.out.size))
    have hln : Ls.length ≤ 1000 := by have h1 := X3.out.len; have h2 := NM.out.len; have := HL30.out; omega
    have HLN := Lib.hid hln
    have KF2 := Lib.hid (rFindS (X3.out.below hb4) hln HSM.out IV.out.names p (by have := HLP.out; omega))
    rw [hR1, hR2] at KF2
    clear hb4 KF1 hR1 hR2 hln
    go_wp2_with fail
    refine (KF2.out).mono ?_
    rintro e w5 ⟨rfl, hb5⟩
    have B35 := Lib.hid (B34.out.trans (hb5.mono B34.out.size))
    have B5 := Lib.hid (B3.out.trans (B35.out.mono B3.out.size))
    have r1 : (R1 != R1) = false := by simp
    have r2 : (R2 != R2) = false := by simp
    have KW := Lib.hid (pWithin (P3.out.below B35.out) HSM.out IV.out.way (by obtain ⟨r, hr, _⟩ := IV.out.root; exact List.length_pos_of_mem (atS_mem hr)) a bb HA.out)
    obtain ⟨WB, hWB⟩ : ∃ W, withinS S.l a bb = W := ⟨_, rfl⟩
    rw [hWB] at KW
    clear hb5 KF2
    go_wp2_with fail
    refine (KW.out).mono ?_
    rintro e w6 ⟨rfl, hw6⟩
    have B36 := Lib.hid (B35.out.trans ((grown_b hw6).mono B35.out.size))
    have KX := Lib.hid (rWithin (X3.out.below B36.out) HLN.out IV.out.way (by obtain ⟨r, hr, _⟩ := IV.out.root; exact List.length_pos_of_mem (atS_mem hr)) IV.out.top a bb)
    rw [hWB] at KX
    clear hw6 KW hWB
    go_wp2_with fail
    refine (KX.out).mono ?_
    rintro e w7 ⟨rfl, hw7⟩
    have B37 := Lib.hid (B36.out.trans ((grown_b hw7).mono B36.out.size))
    have r3 : (WB != WB) = false := by simp
    have KG := Lib.hid (pGet (P3.out.below B37.out) HSM.out a HA.out)
    clear hw7 KX
    go_wp2_with fail
    refine (KG.out).mono ?_
    rintro e w8 ⟨n, rfl, hn, ho, hb8⟩
    have B38 := Lib.hid (B37.out.trans (hb8.mono B37.out.size))
    have HN := Lib.hid hn; have HO := Lib.hid ho
    have HB8 := Lib.hid hb8
    obtain ⟨w9, hw9⟩ : ∃ w9, w8.alloc (.cells (ndc n) 38) = w9 := ⟨_, rfl⟩
    have hb9 : Below w8.heap.size w8 w9 := by rw [← hw9]; exact below_of_grown (World.grownBy_alloc w8 _ none)
    have hc9 : Cells w9 w8.heap.size 38 (ndc n) := by rw [← hw9]; exact Cells.new _ _ _
    have hs9 : w9.heap.size = w8.heap.size + 1 := by rw [← hw9]; simp
    have B39 := Lib.hid (B38.out.trans (hb9.mono B38.out.size))
    have B89 := Lib.hid hb9
    have C9 := Lib.hid hc9
    have HS9 := Lib.hid hs9
    have KT := Lib.hid (rAt (X3.out.below B39.out) HLN.out a)
    clear hn ho hb8 hb9 hc9 hs9 KG
    obtain ⟨J, ki, l', t, u, A0, ac, P, B0, bc, N⟩ := n
    unfold Nd.val
    unfold ndc ncells at *
    dsimp only at *
    go_wp2_with fail
    refine (KT.out).mono ?_
    rintro e w10 ⟨rfl, hw10⟩
    have B910 := Lib.hid (grown_b hw10)
    have B310 := Lib.hid (B39.out.trans ((grown_b hw10).mono B39.out.size))
    have C10 := Lib.hid (C9.out.below' (grown_b hw10))
    clear hw10 KT hw9
    cases hat : atS S.l a with
    | none =>
      have HAT := Lib.hid hat
      rw [atI_none hat]
      simp only [Option.isSome_none]
      clear hat
      go_wp2
      go_region
      have b11 : Below w10.heap.size w10 w10.drew := below_drewN (Below.refl _ _) 1
      have P11 := Lib.hid ((P3.out.below B310.out).below b11)
      have C11 := Lib.hid (C10.out.below' b11)
      have HO11 := Lib.hid (((HO.out.below (B89.out)).below B910.out).below b11)
      have B11 := Lib.hid ((B3.out.trans (B310.out.mono B3.out.size)).trans (b11.mono (Nat.le_trans B3.out.size B310.out.size)))
      obtain ⟨w11, hw11⟩ : ∃ w11, w10.drew = w11 := ⟨_, rfl⟩
      rw [hw11] at P11 C11 HO11 B11 ⊢
      clear hw11 b11 C10
      go_wp2_with fail
      refine ((pTurn P11.out IV.out NM.out (by have := HL30.out; omega) (by have := HM.out; omega) a page 0 ref HA.out HP.out)).mono ?_
      rintro e w12 ⟨_, hno, ht⟩
      obtain ⟨rfl, hp12⟩ := hno (fun h => h.1 rfl)
      have kc := P11.out.keepC ht
      have C12 := Lib.hid (kc _ _ _ (by decide) C11.out)
      have HO12 := Lib.hid (HO11.out.keep kc (by decide) (by decide))
      have B12 := Lib.hid (Trn.after B11.out ht (Nat.le_trans B2.out.size (Nat.le_trans P11.out.lo (Nat.le_of_lt P11.out.cells.lt))) (fun x hx => by have h1 := P11.out.lo; have h2 := P11.out.lob; have h3 := B2.out.size; rcases List.mem_cons.1 hx with rfl | hx; exact Nat.le_trans h3 h1; rw [List.mem_singleton.1 hx]; exact Nat.le_trans h3 h2))
      have KG2 := Lib.hid (pGet hp12 HSM.out a HA.out)
      clear hno ht hp12 kc
      go_wp2_with fail
      refine (KG2.out).mono ?_
      rintro e w13 ⟨n', rfl, hn', ho', hb13⟩
      have B13 := Lib.hid (B12.out.trans (hb13.mono B12.out.size))
      obtain ⟨w14, hw14⟩ : ∃ w14, w13.alloc (.cells (ndc n') 38) = w14 := ⟨_, rfl⟩
      have hb14 : Below w13.heap.size w13 w14 := by rw [← hw14]; exact below_of_grown (World.grownBy_alloc w13 _ none)
      have hc14 : Cells w14 w13.heap.size 38 (ndc n') := by rw [← hw14]; exact Cells.new _ _ _
      have hc12 := (C12.out.below' hb13).below' hb14
      obtain ⟨y0, y1, y2, y3, y4, y5, y6⟩ := cells7 hc12
      have B14 := Lib.hid (B13.out.trans (hb14.mono B13.out.size))
      have hsg := HSM.out.get a
      have KN2 := Lib.hid (rSame n' ⟨J, ki, l', t, u, A0, ac, P, B0, bc, N⟩ w14 ((ho'.below hb14).in_) (((HO12.out.below hb13).below hb14).in_) (by have := hsg.p; rw [← hn'] at this; exact this) (by have := hsg.q; rw [← hn'] at this; exact Nat.le_trans this (by decide)))
      rw [plain_node (hn'.trans HN.out.symm)] at KN2
      obtain ⟨J', ki', l2', t', u', A0', ac', P', B0', bc', N'⟩ := n'
      unfold Nd.val at KN2 ⊢
      unfold ndc ncells at hc14 hw14
      dsimp only at KN2 hc14 hw14 ⊢
      obtain ⟨x0, x1, x2, x3, x4, x5, x6⟩ := cells7 hc14
      clear hn' ho' hb13 hb14 hc14 hc12 hsg KG2
      go_wp2_with fail
      refine (KN2.out).mono ?_
      rintro e w15 ⟨rfl, hw15⟩
      have B15 := Lib.hid (B14.out.trans ((grown_b hw15).mono B14.out.size))
      clear hw15 KN2 hw14
      go_wp2
      go_ret
      exact ⟨rfl, B15.out⟩
    | some nd =>
      have hfol : Tryz.prog.follows .mixedOrders = true := by kernel_rfl
      have HAT := Lib.hid hat
      simp only [Option.isSome_some]
      have hx10 := X3.out.below B310.out
      obtain ⟨n2, kx, gL, cv, hk1, hk2, hk3, hv, hcv, hgl, hkx, ho2, hxc⟩ := hx10.at_ hat
      subst hv
      rw [hk3]
      have hkx2 : (kx : Int) < (Ls.length : Int) := Int.ofNat_lt.2 hkx
      have q8 : decide ((kx : Int) ≥ 0) = true := decide_eq_true (by omega)
      have q9 : decide (0 ≤ (kx : Int)) = true := decide_eq_true (by omega)
      have HOX := Lib.hid ho2
      have hng := HN.out
      have hsg := HSM.out.get a
      have hpl : Nd.plain ⟨J, ki, l', t, u, A0, ac, P, B0, bc, N⟩ = n2.plain := by rw [hng, hk2]; exact getS_some hat
      have h10 : OwnNd w10 w7.heap.size ⟨J, ki, l', t, u, A0, ac, P, B0, bc, N⟩ := (HO.out.below B89.out).below B910.out
      have KN := Lib.hid (fun n os => Grows.inAt (fun n os => rSame ⟨J, ki, l', t, u, A0, ac, P, B0, bc, N⟩ n2 (grow (w10.drewN n) os) ((h10.below (below_grow' w10 n os)).in_) ((ho2.below (below_grow' w10 n os)).in_) (by have := hsg.p; rw [← hng] at this; exact this) (by have := hsg.q; rw [← hng] at this; exact Nat.le_trans this (by decide))) n os)
      rw [plain_node hpl] at KN
      obtain ⟨J2, ki2, l2, t2, u2, A2, ac2, P2, B2', bc2, N2⟩ := n2
      unfold Nd.val at KN
      dsimp only at KN
      have hlr : gL < w10.heap.size := by
        have := (hxc 0 _ rfl).1
        exact World.block_lt_of_cell? _ _ this
      have x0 := cell_grown (a := ⟨gL, kx * 7, none⟩) hlr (by have := (hxc 0 _ rfl).1; rwa [Nat.add_zero] at this)
      have x1 := cell_grown (a := ⟨gL, kx * 7 + 1, none⟩) hlr (hxc 1 _ rfl).1
      have x2 := cell_grown (a := ⟨gL, kx * 7 + 2, none⟩) hlr (hxc 2 _ rfl).1
      have x3 := cell_grown (a := ⟨gL, kx * 7 + 3, none⟩) hlr (hxc 3 _ rfl).1
      have x4 := cell_grown (a := ⟨gL, kx * 7 + 4, none⟩) hlr (hxc 4 _ rfl).1
      have x5 := cell_grown (a := ⟨gL, kx * 7 + 5, none⟩) hlr (hxc 5 _ rfl).1
      have x6 := cell_grown (a := ⟨gL, kx * 7 + 6, none⟩) hlr (hxc 6 _ rfl).1
      obtain ⟨z0', z1', z2', z3', z4', z5', z6'⟩ := cells7 C10.out
      have z0 := cell_grown (a := ⟨w8.heap.size, 0, none⟩) C10.out.lt z0'
      have z1 := cell_grown (a := ⟨w8.heap.size, 1, none⟩) C10.out.lt z1'
      have z2 := cell_grown (a := ⟨w8.heap.size, 2, none⟩) C10.out.lt z2'
      have z3 := cell_grown (a := ⟨w8.heap.size, 3, none⟩) C10.out.lt z3'
      have z4 := cell_grown (a := ⟨w8.heap.size, 4, none⟩) C10.out.lt z4'
      have z5 := cell_grown (a := ⟨w8.heap.size, 5, none⟩) C10.out.lt z5'
      have z6 := cell_grown (a := ⟨w8.heap.size, 6, none⟩) C10.out.lt z6'
      have y0 := cell_grown (a := ⟨gx, 0, none⟩) hx10.cells.lt hx10.c0
      have HPL := Lib.hid (show P = (getS S.l a).pages by rw [← hng]; rfl)
      clear z0' z1' z2' z3' z4' z5' z6' hx10 hk1 hk2 hk3 hcv hgl hkx ho2 hxc hng hsg hpl h10 hlr hat
      unfold SPtr
      go_upto_region 12 with fail
      refine wp_region_quiet_grown hfol (by kernel_rfl) ?_
      repeat (go_big_quiet_step (first | (go_at_call 15; (with_reducible exact KN.out _ _))))
      refine wpQuiet_nil ?_
      intro _ hw'
      obtain ⟨⟨nr, osr⟩, hw''⟩ := hw'
      subst hw''
      have b11 : Below w10.heap.size w10 (grow (w10.drewN nr) osr) := below_grow' w10 nr osr
      have P11 := Lib.hid ((P3.out.below B310.out).below b11)
      have C11 := Lib.hid (C10.out.below' b11)
      have HO11 := Lib.hid (((HO.out.below (B89.out)).below B910.out).below b11)
      have B11 := Lib.hid ((B3.out.trans (B310.out.mono B3.out.size)).trans (b11.mono (Nat.le_trans B3.out.size B310.out.size)))
      obtain ⟨w11, hw11⟩ : ∃ w11, grow (w10.drewN nr) osr = w11 := ⟨_, rfl⟩
      dsimp only
      rw [hw11] at P11 C11 HO11 B11 ⊢
      clear hw11 b11 C10 x0 x1 x2 x3 x4 x5 x6 z0 z1 z2 z3 z4 z5 z6 y0 KN
      have z5 : w11.cell? ⟨w8.heap.size, 5, none⟩ = some (.slice A0 P.length ac) := (cells7 C11.out).2.2.2.2.2.1
      unfold SPtr at *
      by_cases hp0 : page < 0
      · have p1 : decide (page ≥ 0) = false := decide_eq_false (by omega)
        have p2 : decide (0 ≤ page) = false := decide_eq_false (by omega)
        clear hp0
        go_wp2_with fail
        refine ((pTurn P11.out IV.out NM.out (by have := HL30.out; omega) (by have := HM.out; omega) a page 0 ref HA.out HP.out)).mono ?_
        rintro e w12 ⟨_, hno, ht⟩
        obtain ⟨rfl, hp12⟩ := hno (fun h => h.1 rfl)
        have kc := P11.out.keepC ht
        have C12 := Lib.hid (kc _ _ _ (by decide) C11.out)
        have HO12 := Lib.hid (HO11.out.keep kc (by decide) (by decide))
        have B12 := Lib.hid (Trn.after B11.out ht (Nat.le_trans B2.out.size (Nat.le_trans P11.out.lo (Nat.le_of_lt P11.out.cells.lt))) (fun x hx => by have h1 := P11.out.lo; have h2 := P11.out.lob; have h3 := B2.out.size; rcases List.mem_cons.1 hx with rfl | hx; exact Nat.le_trans h3 h1; rw [List.mem_singleton.1 hx]; exact Nat.le_trans h3 h2))
        have KG2 := Lib.hid (pGet hp12 HSM.out a HA.out)
        clear hno ht hp12 kc
        go_wp2_with fail
        refine (KG2.out).mono ?_
        rintro e w13 ⟨n', rfl, hn', ho', hb13⟩
        have B13 := Lib.hid (B12.out.trans (hb13.mono B12.out.size))
        obtain ⟨w14, hw14⟩ : ∃ w14, w13.alloc (.cells (ndc n') 38) = w14 := ⟨_, rfl⟩
        have hb14 : Below w13.heap.size w13 w14 := by rw [← hw14]; exact below_of_grown (World.grownBy_alloc w13 _ none)
        have hc14 : Cells w14 w13.heap.size 38 (ndc n') := by rw [← hw14]; exact Cells.new _ _ _
        have hc12 := (C12.out.below' hb13).below' hb14
        obtain ⟨y0, y1, y2, y3, y4, y5, y6⟩ := cells7 hc12
        have B14 := Lib.hid (B13.out.trans (hb14.mono B13.out.size))
        have hsg := HSM.out.get a
        have KN2 := Lib.hid (rSame n' _ w14 ((ho'.below hb14).in_) (((HO12.out.below hb13).below hb14).in_) (by have := hsg.p; rw [← hn'] at this; exact this) (by have := hsg.q; rw [← hn'] at this; exact Nat.le_trans this (by decide)))
        rw [plain_node (hn'.trans HN.out.symm)] at KN2
        obtain ⟨J', ki', l2', t', u', A0', ac', P', B0', bc', N'⟩ := n'
        unfold Nd.val at KN2 ⊢
        unfold ndc ncells at hc14 hw14
        dsimp only at KN2 hc14 hw14 ⊢
        obtain ⟨x0, x1, x2, x3, x4, x5, x6⟩ := cells7 hc14
        clear hn' ho' hb13 hb14 hc14 hc12 hsg KG2
        go_wp2_with fail
        refine (KN2.out).mono ?_
        rintro e w15 ⟨rfl, hw15⟩
        have B15 := Lib.hid (B14.out.trans ((grown_b hw15).mono B14.out.size))
        clear hw15 KN2 hw14
        go_wp2
        go_ret
        exact ⟨rfl, B15.out⟩
      · have p1 : decide (page ≥ 0) = true := decide_eq_true (by omega)
        have p2 : decide (0 ≤ page) = true := decide_eq_true (by omega)
        obtain ⟨K, rfl⟩ : ∃ K : Nat, page = (K : Int) := ⟨page.toNat, by omega⟩
        clear hp0
        by_cases hlt : K < P.length
        · have hlt2 : (K : Int) < (P.length : Int) := Int.ofNat_lt.2 hlt
          have p3 : decide ((K : Int) < (P.length : Int)) = true := decide_eq_true hlt2
          have p4 : decide (K < P.length) = true := decide_eq_true hlt
          obtain ⟨A1, ac1, hv1, hrw⟩ := HO11.out.1.row
          injection hv1 with hv1 _ hv3
          subst hv1 hv3
          obtain ⟨b1, o1, old, hA, hbb, hx', cx⟩ := getI hrw hlt
          dsimp only at hA hx'
          subst hA
          have HX := Lib.hid hx'; have HLT := Lib.hid hlt
          clear hx' hrw hbb
          by_cases ho0 : old = 0
          · subst ho0
            clear hlt
            go_wp2_with fail
            refine ((pTurn P11.out IV.out NM.out (by have := HL30.out; omega) (by have := HM.out; omega) a (K : Int) 0 ref HA.out HP.out)).mono ?_
            rintro e w12 ⟨_, hno, ht⟩
            obtain ⟨rfl, hp12⟩ := hno (fun h => h.1 rfl)
            have kc := P11.out.keepC ht
            have C12 := Lib.hid (kc _ _ _ (by decide) C11.out)
            have HO12 := Lib.hid (HO11.out.keep kc (by decide) (by decide))
            have B12 := Lib.hid (Trn.after B11.out ht (Nat.le_trans B2.out.size (Nat.le_trans P11.out.lo (Nat.le_of_lt P11.out.cells.lt))) (fun x hx => by have h1 := P11.out.lo; have h2 := P11.out.lob; have h3 := B2.out.size; rcases List.mem_cons.1 hx with rfl | hx; exact Nat.le_trans h3 h1; rw [List.mem_singleton.1 hx]; exact Nat.le_trans h3 h2))
            have KG2 := Lib.hid (pGet hp12 HSM.out a HA.out)
            clear hno ht hp12 kc
            go_wp2_with fail
            refine (KG2.out).mono ?_
            rintro e w13 ⟨n', rfl, hn', ho', hb13⟩
            have B13 := Lib.hid (B12.out.trans (hb13.mono B12.out.size))
            obtain ⟨w14, hw14⟩ : ∃ w14, w13.alloc (.cells (ndc n') 38) = w14 := ⟨_, rfl⟩
            have hb14 : Below w13.heap.size w13 w14 := by rw [← hw14]; exact below_of_grown (World.grownBy_alloc w13 _ none)
            have hc14 : Cells w14 w13.heap.size 38 (ndc n') := by rw [← hw14]; exact Cells.new _ _ _
            have hc12 := (C12.out.below' hb13).below' hb14
            obtain ⟨y0, y1, y2, y3, y4, y5, y6⟩ := cells7 hc12
            have B14 := Lib.hid (B13.out.trans (hb14.mono B13.out.size))
            have hsg := HSM.out.get a
            have KN2 := Lib.hid (rSame n' _ w14 ((ho'.below hb14).in_) (((HO12.out.below hb13).below hb14).in_) (by have := hsg.p; rw [← hn'] at this; exact this) (by have := hsg.q; rw [← hn'] at this; exact Nat.le_trans this (by decide)))
            rw [plain_node (hn'.trans HN.out.symm)] at KN2
            obtain ⟨J', ki', l2', t', u', A0', ac', P', B0', bc', N'⟩ := n'
            unfold Nd.val at KN2 ⊢
            unfold ndc ncells at hc14 hw14
            dsimp only at KN2 hc14 hw14 ⊢
            obtain ⟨x0, x1, x2, x3, x4, x5, x6⟩ := cells7 hc14
            clear hn' ho' hb13 hb14 hc14 hc12 hsg KG2
            go_wp2_with fail
            refine (KN2.out).mono ?_
            rintro e w15 ⟨rfl, hw15⟩
            have B15 := Lib.hid (B14.out.trans ((grown_b hw15).mono B14.out.size))
            clear hw15 KN2 hw14
            go_wp2
            go_ret
            exact ⟨rfl, B15.out⟩
          · have p5 : (old != 0) = true := by simpa using ho0
            have p6 : (old == 0) = false := by simpa using ho0
            have HT := Lib.hid (show turnOk S a (K : Int) old from ⟨ho0, K, rfl, by rw [← HPL.out]; exact HX.out⟩)
            obtain ⟨K', hK', _, hsm', hpg'⟩ := turn_all IV.out NM.out (by have := HL30.out; omega) HT.out HR.out
            obtain rfl : K = K' := by omega
            have HSM2 := Lib.hid hsm'; have HPG := Lib.hid hpg'
            clear hlt ho0 hK' hsm' hpg'
            go_wp2_with fail
            refine ((pTurn P11.out IV.out NM.out (by have := HL30.out; omega) (by have := HM.out; omega) a (K : Int) old ref HA.out HP.out)).mono ?_
            rintro e w12 ⟨hyes, _, ht⟩
            obtain ⟨rfl, hp12⟩ := hyes HT.out
            have kc := P11.out.keepC ht
            have B12 := Lib.hid (Trn.after B11.out ht (Nat.le_trans B2.out.size (Nat.le_trans P11.out.lo (Nat.le_of_lt P11.out.cells.lt))) (fun x hx => by have h1 := P11.out.lo; have h2 := P11.out.lob; have h3 := B2.out.size; rcases List.mem_cons.1 hx with rfl | hx; exact Nat.le_trans h3 h1; rw [List.mem_singleton.1 hx]; exact Nat.le_trans h3 h2))
            have KG2 := Lib.hid (pGet hp12 HSM2.out a HA.out)
            clear hyes ht hp12 kc
            go_wp2_with fail
            refine (KG2.out).mono ?_
            rintro e w13 ⟨n', rfl, hn', ho', hb13⟩
            have B13 := Lib.hid (B12.out.trans (hb13.mono B12.out.size))
            obtain ⟨w14, hw14⟩ : ∃ w14, w13.alloc (.cells (ndc n') 38) = w14 := ⟨_, rfl⟩
            have hb14 : Below w13.heap.size w13 w14 := by rw [← hw14]; exact below_of_grown (World.grownBy_alloc w13 _ none)
            have hc14 : Cells w14 w13.heap.size 38 (ndc n') := by rw [← hw14]; exact Cells.new _ _ _
            have B14 := Lib.hid (B13.out.trans (hb14.mono B13.out.size))
            have hps : n'.pages = P.set K ref := by rw [HPL.out, ← HPG.out, ← hn']; rfl
            obtain ⟨A5, ac5, hv5, hrw5⟩ := (ho'.below hb14).1.row
            obtain ⟨J', ki', l2', t', u', A0', ac', P', B0', bc', N'⟩ := n'
            dsimp only at hps hv5 hrw5
            injection hv5 with hv5 _ hv6
            subst hv5 hv6
            have hPl : P'.length = P.length := by rw [hps, List.length_set]
            have hltP : K < P'.length := by rw [hPl]; exact HLT.out
            obtain ⟨b2, o2, rr, hA2, hbb2, hr', cr⟩ := getI hrw5 hltP
            subst hA2
            have hrr : rr = ref := by
              rw [hps, List.getElem?_set_self HLT.out] at hr'
              exact (Option.some.inj hr').symm
            subst hrr
            unfold Nd.val
            unfold ndc ncells at hc14 hw14
            dsimp only at hc14 hw14 ⊢
            obtain ⟨x0, x1, x2, x3, x4, x5, x6⟩ := cells7 hc14
            have hltP2 : (K : Int) < (P'.length : Int) := Int.ofNat_lt.2 hltP
            have p7 : decide ((P'.length : Int) > (K : Int)) = true := decide_eq_true hltP2
            have p8 : decide ((K : Int) < (P'.length : Int)) = true := decide_eq_true hltP2
            have p9 : decide (K < P'.length) = true := decide_eq_true hltP
            clear hn' ho' hb13 hb14 hc14 hps hrw5 hPl hr' KG2
            go_wp2
            go_ret
            exact ⟨rfl, B14.out⟩
        · have p3 : decide ((K : Int) < (P.length : Int)) = false := decide_eq_false (by omega)
          have p4 : decide (K < P.length) = false := decide_eq_false hlt
          have p5 : ¬ K < P.length := hlt
          clear hlt
          go_wp2_with fail
          refine ((pTurn P11.out IV.out NM.out (by have := HL30.out; omega) (by have := HM.out; omega) a (K : Int) 0 ref HA.out HP.out)).mono ?_
          rintro e w12 ⟨_, hno, ht⟩
          obtain ⟨rfl, hp12⟩ := hno (fun h => h.1 rfl)
          have kc := P11.out.keepC ht
          have C12 := Lib.hid (kc _ _ _ (by decide) C11.out)
          have HO12 := Lib.hid (HO11.out.keep kc (by decide) (by decide))
          have B12 := Lib.hid (Trn.after B11.out ht (Nat.le_trans B2.out.size (Nat.le_trans P11.out.lo (Nat.le_of_lt P11.out.cells.lt))) (fun x hx => by have h1 := P11.out.lo; have h2 := P11.out.lob; have h3 := B2.out.size; rcases List.mem_cons.1 hx with rfl | hx; exact Nat.le_trans h3 h1; rw [List.mem_singleton.1 hx]; exact Nat.le_trans h3 h2))
          have KG2 := Lib.hid (pGet hp12 HSM.out a HA.out)
          clear hno ht hp12 kc
          go_wp2_with fail
          refine (KG2.out).mono ?_
          rintro e w13 ⟨n', rfl, hn', ho', hb13⟩
          have B13 := Lib.hid (B12.out.trans (hb13.mono B12.out.size))
          obtain ⟨w14, hw14⟩ : ∃ w14, w13.alloc (.cells (ndc n') 38) = w14 := ⟨_, rfl⟩
          have hb14 : Below w13.heap.size w13 w14 := by rw [← hw14]; exact below_of_grown (World.grownBy_alloc w13 _ none)
          have hc14 : Cells w14 w13.heap.size 38 (ndc n') := by rw [← hw14]; exact Cells.new _ _ _
          have hc12 := (C12.out.below' hb13).below' hb14
          obtain ⟨y0, y1, y2, y3, y4, y5, y6⟩ := cells7 hc12
          have B14 := Lib.hid (B13.out.trans (hb14.mono B13.out.size))
          have hsg := HSM.out.get a
          have KN2 := Lib.hid (rSame n' _ w14 ((ho'.below hb14).in_) (((HO12.out.below hb13).below hb14).in_) (by have := hsg.p; rw [← hn'] at this; exact this) (by have := hsg.q; rw [← hn'] at this; exact Nat.le_trans this (by decide)))
          rw [plain_node (hn'.trans HN.out.symm)] at KN2
          obtain ⟨J', ki', l2', t', u', A0', ac', P', B0', bc', N'⟩ := n'
          unfold Nd.val at KN2 ⊢
          unfold ndc ncells at hc14 hw14
          dsimp only at KN2 hc14 hw14 ⊢
          obtain ⟨x0, x1, x2, x3, x4, x5, x6⟩ := cells7 hc14
          clear hn' ho' hb13 hb14 hc14 hc12 hsg KG2
          go_wp2_with fail
          refine (KN2.out).mono ?_
          rintro e w15 ⟨rfl, hw15⟩
          have B15 := Lib.hid (B14.out.trans ((grown_b hw15).mono B14.out.size))
          clear hw15 KN2 hw14
          go_wp2
          go_ret
          exact ⟨rfl, B15.out⟩
end Go.Proofs.YtcdpmifgjaongaaGreatDoor
