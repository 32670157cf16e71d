import Derived.Test.YtlfmfdbgchpjgaaExBu
import Derived.BigQuiet
namespace Go.Proofs.Ytlfmfdbgchpjgaa
open Wd Ex Go.RowKit Go.ChangeShapes Go.WideShapes Go.Sort
set_option linter.unusedVariables false
set_option maxRecDepth 100000

theorem gaps_at {l : List Ext} : ∀ {H : List Ext} {a b : Int}, Gaps l a b H → ∀ (k : Nat) (h : Ext), H[k]? = some h → 1 ≤ h.n ∧ h.p = 0 ∧ a ≤ h.f ∧ h.f + h.n ≤ b ∧ (∀ j, h.f ≤ j → j < h.f + h.n → pg l j = 0) ∧ ∀ (m : Nat) (q : Ext), k = m + 1 → H[m]? = some q → q.f + q.n < h.f := by
  intro H
  induction H with
  | nil => intro a b _ k h hk; simp at hk
  | cons x H ih =>
    intro a b hg k h hk
    obtain ⟨g1, g2, g3, g4, g5, g6⟩ := hg
    cases k with
    | zero =>
      obtain rfl : x = h := by simpa using hk
      exact ⟨g1, g2, g3, g4, g5, fun m q e => by omega⟩
    | succ k =>
      have hk' : H[k]? = some h := by simpa using hk
      obtain ⟨i1, i2, i3, i4, i5, i6⟩ := ih g6 k h hk'
      refine ⟨i1, i2, by omega, i4, i5, fun m q e hq => ?_⟩
      cases m with
      | zero =>
        obtain rfl : x = q := by simpa using hq
        omega
      | succ m => exact i6 m q (by omega) (by simpa using hq)
theorem lens_one : ∀ {H : List Ext}, (∀ h ∈ H, 1 ≤ h.n) → 0 ≤ lens H := by
  intro H
  induction H with
  | nil => intro _; exact Int.le_refl _
  | cons x H ih =>
    intro h
    have := h x List.mem_cons_self
    have := ih fun y hy => h y (List.mem_cons_of_mem _ hy)
    rw [lens]; omega
theorem lens_take_le {H : List Ext} (h : ∀ x ∈ H, 1 ≤ x.n) (k : Nat) : 0 ≤ lens (H.take k) ∧ lens (H.take k) ≤ lens H := by
  have h1 := lens_append (H.take k) (H.drop k)
  rw [List.take_append_drop] at h1
  have h2 := lens_one (H := H.take k) fun x hx => h x (List.mem_of_mem_take hx)
  have h3 := lens_one (H := H.drop k) fun x hx => h x (List.mem_of_mem_drop hx)
  omega
/-- the holes of what is right -/
theorem holes_right {l : List Ext} (h : Right l) {N : Nat} (hN : N ≤ 1000) : ∃ H, holesOf l N = H ∧ (∀ (k : Nat) (x : Ext), H[k]? = some x → 1 ≤ x.n ∧ x.p = 0 ∧ 0 ≤ x.f ∧ x.f + x.n ≤ N ∧ (∀ j, x.f ≤ j → j < x.f + x.n → pg l j = 0) ∧ ∀ (m : Nat) (q : Ext), k = m + 1 → H[m]? = some q → q.f + q.n < x.f) ∧
    lens H + lens (btw l 0 N) = N ∧ H.length ≤ l.length + 1 := by
  have hs : Span 0 (N : Int) := ⟨Int.le_refl _, by omega⟩
  have hu := btw_up h hs
  have he : Ex.Ends (N : Int) (btw l 0 N) := fun e he => (btw_in e he).2
  obtain ⟨g1, g2, g3⟩ := holes_gaps (l := l) hu he (by omega) (fun k h1 h2 => by rw [btw_pg h.up hs, if_pos ⟨h1, h2⟩])
  refine ⟨_, rfl, ?_, ?_, ?_⟩
  · unfold holesOf
    rw [if_pos (rightB_iff.2 h)]
    exact gaps_at g1
  · unfold holesOf
    rw [if_pos (rightB_iff.2 h), g2]; omega
  · unfold holesOf
    rw [if_pos (rightB_iff.2 h)]
    exact Nat.le_trans g3 (Nat.succ_le_succ btw_len)
theorem holes_low {l : List Ext} {n : Int} (h : rightB l = false ∨ n < 1) : holesOf l n = [] := by
  unfold holesOf
  by_cases hr : rightB l = true
  · rw [if_pos hr]
    have hn : n < 1 := by
      rcases h with h | h
      · rw [hr] at h; cases h
      · exact h
    rw [btw_none (rightB_iff.1 hr).up (by omega), holesE]
    unfold holeE
    rw [if_pos (by omega)]
  · rw [if_neg hr]
theorem pages_exts {ps : List Int} (hp : ∀ p ∈ ps, Rng p) (hl : ps.length ≤ 1000) (h1 : 0 < ps.length) : pagesE (exts ps) ps.length = ps := by
  obtain ⟨r1, r2⟩ := exts_all ps hp (by omega)
  unfold pagesE
  rw [if_pos ⟨rightB_iff.2 r1, by omega⟩, Int.toNat_natCast]
  apply List.ext_getElem?
  intro t
  by_cases ht : t < ps.length
  · rw [nums_at ht, r2, if_pos (by omega), Int.toNat_natCast, List.getElem?_eq_getElem ht]
    rfl
  · rw [List.getElem?_eq_none (by rw [nums_len]; omega), List.getElem?_eq_none (by omega)]
def HsRel (w : World) (H : List Ext) (s i : Value) (wr : World) : Prop := ∃ k : Nat, k ≤ H.length ∧ i = .int .i64 k ∧ s = .int .i64 (lens (H.take k)) ∧ Below w.heap.size w wr
set_option maxHeartbeats 16000000 in
theorem back_any {w : World} {A C : Option Addr} {c d : Nat} {ps : List Int} {l : List Ext} (n : Int) (hr : Row w w.heap.size A ps.length (ps.map iv)) (hx : Exs w 0 w.heap.size C l) (hs : Small l) (hps : ps.length ≤ maxLen) (hls : l.length ≤ maxLen) :
    Calls Try.prog 4 #[.slice A ps.length c, .slice C l.length d, .int .i64 n] w (TrueB w) := by
  have KW := Lib.hid (xAwake w)
  have KF := Lib.hid (fun (w1 : World) (b1 : Below w.heap.size w w1) => xFew (c := d) (hx.below b1) b1.size hls)
  have HR := Lib.hid hr; have HX := Lib.hid hx; have HS := Lib.hid hs
  unfold maxLen at hps hls
  obtain ⟨F, hF⟩ : ∃ F, fewB l = F := ⟨_, rfl⟩
  rw [hF] at KF
  have HF := Lib.hid hF
  clear hr hx hs hF
  by_cases h100 : 100 < ps.length
  · go_enter Try.func4, Try.ntmps4
    go_wp2_with fail
    refine KW.out.mono ?_
    rintro e w1 ⟨rfl, b1⟩
    have B1 := Lib.hid b1
    clear b1 KW
    go_wp2
    go_ret
    exact ⟨rfl, B1.out⟩
  · cases F
    · go_enter Try.func4, Try.ntmps4
      go_wp2_with fail
      refine KW.out.mono ?_
      rintro e w1 ⟨rfl, b1⟩
      have B1 := Lib.hid b1
      clear b1 KW
      go_wp2_with fail
      refine (KF.out _ B1.out).mono ?_
      rintro e w2 ⟨rfl, b2⟩
      have B2 := Lib.hid (B1.out.trans (b2.mono B1.out.size))
      clear b2 KF
      go_wp2
      go_ret
      exact ⟨rfl, B2.out⟩
    · obtain ⟨f1, f2⟩ := fewB_iff.1 HF.out
      clear HF
      by_cases h500 : 500 < n
      · go_enter Try.func4, Try.ntmps4
        go_wp2_with fail
        refine KW.out.mono ?_
        rintro e w1 ⟨rfl, b1⟩
        have B1 := Lib.hid b1
        clear b1 KW
        go_wp2_with fail
        refine (KF.out _ B1.out).mono ?_
        rintro e w2 ⟨rfl, b2⟩
        have B2 := Lib.hid (B1.out.trans (b2.mono B1.out.size))
        clear b2 KF
        go_wp2
        go_ret
        exact ⟨rfl, B2.out⟩
      · obtain ⟨R, hR⟩ : ∃ R, rightB l = R := ⟨_, rfl⟩
        have HRR := Lib.hid hR
        have KR := Lib.hid (fun (w1 : World) (b1 : Below w.heap.size w w1) => xRight (c := d) (HX.out.below b1) b1.size HS.out (by omega))
        rw [hR] at KR
        have KH := Lib.hid (fun (w1 : World) (b1 : Below w.heap.size w w1) => xHoles (c := d) (HX.out.below b1) b1.size HS.out (by omega) n (by omega))
        have KA := Lib.hid (fun (w1 : World) (b1 : Below w.heap.size w w1) (k : Int) => xAt (c := d) (HX.out.below b1) b1.size HS.out (by omega) k)
        have KOf := Lib.hid (fun (w1 : World) (b1 : Below w.heap.size w w1) (hp : ∀ p ∈ ps, Rng p) => xOf (c := c) (HR.out.below b1) b1.size (fun p h => by have := (hp p h).2; omega) (by omega))
        have hfol : Try.prog.follows Departure.mixedOrders = true := by kernel_rfl
        clear hR
        go_enter Try.func4, Try.ntmps4
        go_wp2_with fail
        refine KW.out.mono ?_
        rintro e w1 ⟨rfl, b1⟩
        have B1 := Lib.hid b1
        clear b1 KW
        go_wp2_with fail
        refine (KF.out _ B1.out).mono ?_
        rintro e w2 ⟨rfl, b2⟩
        have B2 := Lib.hid (B1.out.trans (b2.mono B1.out.size))
        clear b2 KF
        go_wp2
        go_loopw [30] (fun i wr => ∃ k : Nat, k ≤ ps.length ∧ i = .int .i64 k ∧ (∀ p ∈ ps.take k, Rng p) ∧ wr = w2) (fun i _ => ps.length - (intOf i).toNat)
        case atStart => exact ⟨0, Nat.zero_le _, rfl, by simp, rfl⟩
        case round =>
          obtain ⟨k, hk, rfl, hall, rfl⟩ := hrel
          have HA := Lib.hid hall
          clear hall
          by_cases hlt : k < ps.length
          · obtain ⟨b, off, p, rfl, hbb, hx, cx⟩ := (HR.out.below B2.out).get hlt
            unfold iv at cx
            have hlt2 : (k : Int) < (ps.length : Int) := Int.ofNat_lt.2 hlt
            have HXX := Lib.hid hx
            clear hx
            by_cases p0 : p < 0
            · go_wp2
              go_ret
              exact ⟨rfl, B2.out⟩
            · by_cases p1 : 1048576 ≤ p
              · go_wp2
                go_ret
                exact ⟨rfl, B2.out⟩
              · have HP := Lib.hid (show Rng p from ⟨by omega, by omega⟩)
                go_wp2
                go_roundw
                case rel =>
                  refine ⟨k + 1, by omega, by go_num, ?_, by first | rfl | trivial⟩
                  intro x hx
                  rw [List.take_add_one, HXX.out] at hx
                  rcases List.mem_append.1 hx with h | h
                  · exact HA.out x h
                  · obtain rfl : x = p := by simpa using h
                    exact HP.out
                case measure => simp [intOf]; omega
          · obtain rfl : k = ps.length := by omega
            have hall := HA.out
            rw [List.take_length] at hall
            have HALL := Lib.hid hall
            have rgt := (exts_all ps (fun p hp => hall p hp) (by omega)).1
            have hel := (exts_tame ps (fun p hp => by have := (hall p hp).2; omega) (by omega) ps.length (Nat.le_refl _)).2
            rw [List.take_length] at hel
            have RGT := Lib.hid rgt
            clear hall hlt hk HA rgt
            go_wp2_with fail
            refine (KOf.out _ B2.out HALL.out).mono ?_
            rintro e w3 ⟨v3, rfl, own3, b3⟩
            have B3 := Lib.hid (B2.out.trans (b3.mono B2.out.size))
            obtain ⟨A3, c3, rfl, _, hx3⟩ := own3.form
            have X3 := Lib.hid hx3
            have KR3 := Lib.hid (xRight (c := c3) hx3 (Nat.le_refl _) (small_right RGT.out) (by omega))
            rw [rightB_iff.2 RGT.out] at KR3
            have KP := Lib.hid (fun (w1 : World) (b1 : Below w3.heap.size w3 w1) => xPages (c := c3) (X3.out.below b1) b1.size (small_right RGT.out) (by omega) (ps.length : Int) (by omega))
            obtain ⟨el, hel'⟩ : ∃ el, (exts ps).length = el := ⟨_, rfl⟩
            rw [hel'] at KR3 KP ⊢
            clear own3 b3 hx3 KOf hel hel'
            go_wp2_with fail
            refine KR3.out.mono ?_
            rintro e w4 hg4
            obtain ⟨rfl, b4⟩ := grows_b hg4
            have B4 := Lib.hid (B3.out.trans (b4.mono B3.out.size))
            have B34 := Lib.hid b4
            clear hg4 b4 KR3
            by_cases h0 : 0 < ps.length
            · rw [pages_exts HALL.out (by omega) h0] at KP
              go_wp2_with fail
              refine (KP.out _ B34.out).mono ?_
              rintro e w5 ⟨A5, c5, rfl, r5, b5⟩
              have B5 := Lib.hid (B4.out.trans (b5.mono B4.out.size))
              have KS := Lib.hid (xSameI ps ps.length rfl (by omega) A5 A c5 c _ _ w5 r5 (HR.out.below B5.out))
              clear r5 b5 KP
              go_wp2_with fail
              refine KS.out.mono ?_
              rintro e w6 hg6
              obtain ⟨rfl, b6⟩ := grows_b hg6
              have B6 := Lib.hid (B5.out.trans (b6.mono B5.out.size))
              clear hg6 b6 KS
              go_wp2_with fail
              refine (KH.out _ B6.out).mono ?_
              rintro e w7 ⟨v7, rfl, own7, b7⟩
              have B7 := Lib.hid (B6.out.trans (b7.mono B6.out.size))
              obtain ⟨A7, c7, rfl, _, hx7⟩ := own7.form
              have X7 := Lib.hid hx7
              clear own7 b7 hx7 KH
              cases R
              · rw [holes_low (.inl HRR.out)] at X7 ⊢
                have hz : ([] : List Ext).length = 0 := rfl
                rw [hz]
                clear hz
                go_wp2_with fail
                refine (KR.out _ B7.out).mono ?_
                rintro e w8 hg8
                obtain ⟨rfl, b8⟩ := grows_b hg8
                have B8 := Lib.hid (B7.out.trans (b8.mono B7.out.size))
                clear hg8 b8 KR
                go_wp2
                go_ret
                exact ⟨rfl, B8.out⟩
              · by_cases hn1 : n < 1
                · rw [holes_low (.inr hn1)] at X7 ⊢
                  have hz : ([] : List Ext).length = 0 := rfl
                  rw [hz]
                  clear hz
                  go_wp2_with fail
                  refine (KR.out _ B7.out).mono ?_
                  rintro e w8 hg8
                  obtain ⟨rfl, b8⟩ := grows_b hg8
                  have B8 := Lib.hid (B7.out.trans (b8.mono B7.out.size))
                  clear hg8 b8 KR
                  go_wp2
                  go_ret
                  exact ⟨rfl, B8.out⟩
                · obtain ⟨N, rfl⟩ : ∃ N : Nat, n = N := ⟨n.toNat, by omega⟩
                  have hRT := rightB_iff.1 HRR.out
                  obtain ⟨H, hH, hat, hsum, hlen⟩ := holes_right hRT (N := N) (by omega)
                  rw [hH] at X7 ⊢
                  have HAT := Lib.hid hat
                  have KC := Lib.hid (fun (w1 : World) (b1 : Below w.heap.size w w1) => xCut (c := d) (HX.out.below b1) b1.size HRR.out (by omega) (N : Int) (by omega) (by omega))
                  have rcut := btw_right hRT (show Span 0 (N : Int) from ⟨Int.le_refl _, by omega⟩)
                  have hbl := @btw_len l 0 N
                  have RC := Lib.hid rcut
                  obtain ⟨m, hm'⟩ : ∃ m, btw l 0 N = m := ⟨_, rfl⟩
                  rw [hm'] at KC hsum hbl RC
                  have hle : lenE m = lens m := by unfold lenE; rw [if_pos (rightB_iff.2 RC.out)]
                  have h1n : ∀ x ∈ H, 1 ≤ x.n := fun x hx => by
                    obtain ⟨t, ht, rfl⟩ := List.getElem_of_mem hx
                    exact (HAT.out t _ (List.getElem?_eq_getElem ht)).1
                  have HTL := Lib.hid (lens_take_le h1n)
                  have hm0 := lens_nonneg RC.out.fits
                  have HSUM := Lib.hid hsum; have HLE := Lib.hid hle
                  have hHN : lens H ≤ N := by omega
                  clear hH hat hRT rcut hm' h1n hle hsum hm0
                  go_wp2_with fail
                  refine (KR.out _ B7.out).mono ?_
                  rintro e w8 hg8
                  obtain ⟨rfl, b8⟩ := grows_b hg8
                  have B8 := Lib.hid (B7.out.trans (b8.mono B7.out.size))
                  have X8 := Lib.hid (X7.out.at_ b8)
                  clear hg8 b8 KR X7
                  go_wp2
                  go_loopw [11, 75] (fun s i wr => HsRel w8 H s i wr) (fun _ i _ => H.length - (intOf i).toNat)
                  case atStart => exact ⟨0, Nat.zero_le _, rfl, rfl, Below.refl _ _⟩
                  case round =>
                    obtain ⟨k, hk, rfl, rfl, hb⟩ := hrel
                    have HB := Lib.hid hb
                    have BW := Lib.hid (B8.out.trans (hb.mono B8.out.size))
                    by_cases hlt : k < H.length
                    · obtain ⟨e, he⟩ : ∃ e, H[k]? = some e := ⟨_, List.getElem?_eq_getElem hlt⟩
                      obtain ⟨bl, off, rfl, _, hbB, x0, x1, x2⟩ := exs_cells (X8.out.below hb) he
                      have hlt2 : (k : Int) < (H.length : Int) := Int.ofNat_lt.2 hlt
                      obtain ⟨t1, t2, t3, t4, t5, t6⟩ := HAT.out k e he
                      have e1 := lens_take he
                      have e2 := (HTL.out (k + 1)).2
                      have e3 := (HTL.out k).1
                      obtain ⟨s, hs⟩ : ∃ s, lens (H.take k) = s := ⟨_, rfl⟩
                      obtain ⟨s', hs'⟩ : ∃ s, lens (H.take (k + 1)) = s := ⟨_, rfl⟩
                      rw [hs, hs'] at e1
                      rw [hs'] at e2
                      rw [hs] at e3 ⊢
                      have q0 : wrap64 (s + e.n) = s' := by rw [e1]; unfold wrap64; omega
                      have HS' := Lib.hid hs'
                      have C1 := Lib.hid (Cells.new wr 29 (xc e))
                      have XW := Lib.hid ((X8.out.below hb).below (((Below.refl wr.heap.size wr).alloc (Nat.le_refl _) (.cells (xc e) 29)).mono hb.size))
                      have hsz8 : w8.heap.size ≤ (wr.alloc (.cells (xc e) 29)).heap.size := by have := hb.size; simp; omega
                      obtain ⟨g0, g1, g2⟩ := ext_grown C1.out
                      unfold xc at g0 g1 g2
                      have r0 : decide (e.n < 1) = false := decide_eq_false (by omega)
                      have r1 : (e.p != 0) = false := by rw [bne_eq_false_iff_eq]; exact t2
                      have r2 : decide (e.f < 0) = false := decide_eq_false (by omega)
                      have r3 : IntKind.i64.wrap (e.f + e.n) = e.f + e.n := by rw [IntKind.wrap_i64]; omega
                      have r4 : decide ((N : Int) < e.f + e.n) = false := decide_eq_false (by omega)
                      have v1 : pageE l e.f = 0 := by rw [page_yes HRR.out]; exact t5 _ (Int.le_refl _) (by omega)
                      have v2 : pageE l (e.f + e.n - 1) = 0 := by rw [page_yes HRR.out]; exact t5 _ (by omega) (by omega)
                      have u1 : wrap64 (e.f + e.n) = e.f + e.n := by unfold wrap64; omega
                      have u2 : wrap64 (e.f + e.n - 1) = e.f + e.n - 1 := by unfold wrap64; omega
                      have V1 := Lib.hid v1; have V2 := Lib.hid v2; have U1 := Lib.hid u1; have U2 := Lib.hid u2; have QQ := Lib.hid q0
                      have HE := Lib.hid he; have T6 := Lib.hid t6
                      clear hb t1 t2 t3 t4 t5 t6 e1 e2 e3 hs hs' v1 v2 u1 u2 q0
                      by_cases k0 : k = 0
                      · have p0 : decide (0 < k) = false := decide_eq_false (by omega)
                        clear he k0
                        go_upto_region 21 with fail
                        refine wp_region_quiet_grown hfol (by kernel_rfl) ?_
                        repeat (go_big_quiet_step (fail))
                        refine wpQuiet_nil ?_
                        intro _ hw'
                        obtain ⟨⟨nr, osr⟩, hw''⟩ := hw'
                        subst hw''
                        have b3 := below_grow' (wr.alloc (.cells (xc e) 29)) nr osr
                        have C3 := Lib.hid (C1.out.below' b3)
                        have b13 : Below wr.heap.size wr (grow ((wr.alloc (.cells (xc e) 29)).drewN nr) osr) := ((Below.refl wr.heap.size wr).alloc (Nat.le_refl _) (.cells (xc e) 29)).trans (b3.mono (by simp))
                        have HB3 := Lib.hid (HB.out.trans (b13.mono HB.out.size))
                        have BW3 := Lib.hid (BW.out.trans (b13.mono BW.out.size))
                        obtain ⟨wz, hwz⟩ : ∃ wz, grow ((wr.alloc (.cells #[.int .i64 e.f, .int .i64 e.n, .int .i64 e.p] 29)).drewN nr) osr = wz := ⟨_, rfl⟩
                        have e3 : grow ((wr.alloc (.cells (xc e) 29)).drewN nr) osr = wz := hwz
                        rw [e3] at C3 HB3 BW3
                        rw [hwz]
                        clear b3 b13 hwz e3 g0 g1 g2 x0 x1 x2 
                        have c0 : wz.cell? ⟨wr.heap.size, 0, none⟩ = some (.int .i64 e.f) := C3.out.cell 0
                        have c1 : wz.cell? ⟨wr.heap.size, 1, none⟩ = some (.int .i64 e.n) := C3.out.cell 1
                        go_wp2_with fail
                        refine (KA.out _ BW3.out e.f).mono ?_
                        rintro e4 w9 ⟨rfl, b9⟩
                        rw [V1.out]
                        have B9 := Lib.hid (BW3.out.trans (b9.mono BW3.out.size))
                        have HB9 := Lib.hid (HB3.out.trans (b9.mono HB3.out.size))
                        have C9 := Lib.hid (C3.out.below' b9)
                        clear b9 c0 c1
                        have c0 : w9.cell? ⟨wr.heap.size, 0, none⟩ = some (.int .i64 e.f) := C9.out.cell 0
                        have c1 : w9.cell? ⟨wr.heap.size, 1, none⟩ = some (.int .i64 e.n) := C9.out.cell 1
                        have u1 := U1.out; have u2 := U2.out
                        go_wp2_with fail
                        first | rw [U2.out] | rw [U1.out, U2.out] | skip
                        refine (KA.out _ B9.out (e.f + e.n - 1)).mono ?_
                        rintro e5 w10 ⟨rfl, b10⟩
                        rw [V2.out]
                        have HB10 := Lib.hid (HB9.out.trans (b10.mono HB9.out.size))
                        clear b10 c0 c1 u1 u2
                        go_wp2
                        go_roundw
                        case rel => exact ⟨k + 1, by omega, by go_num, by rw [HS'.out, QQ.out], HB10.out⟩
                        case measure => simp [intOf]; omega
                      · have p0 : decide (0 < k) = true := decide_eq_true (by omega)
                        obtain ⟨m1, hm1⟩ : ∃ m, k - 1 = m := ⟨_, rfl⟩
                        obtain ⟨q, hq⟩ : ∃ q, H[m1]? = some q := ⟨_, List.getElem?_eq_getElem (by omega)⟩
                        have t7 := T6.out m1 q (by omega) hq
                        obtain ⟨b', off', hbo, hb', a0, a1, a2⟩ := exs_grown XW.out hsz8 hq
                        cases hbo
                        obtain ⟨y1, y2, y3, y4, _⟩ := HAT.out m1 q hq
                        have r5 : IntKind.i64.wrap (q.f + q.n) = q.f + q.n := by rw [IntKind.wrap_i64]; omega
                        have r6 : decide (e.f ≤ q.f + q.n) = false := decide_eq_false (by omega)
                        have i0 : IntKind.i64.wrap ((k : Int) - 1) = (m1 : Int) := by rw [IntKind.wrap_i64]; omega
                        have i1 : (0 : Int) ≤ (m1 : Int) := Int.natCast_nonneg m1
                        have i2 : (m1 : Int) < (H.length : Int) := by omega
                        unfold xc at a0 a1 a2
                        clear he k0 hq t7 y1 y2 y3 y4 hm1 hb'
                        go_upto_region 21 with fail
                        refine wp_region_quiet_grown hfol (by kernel_rfl) ?_
                        repeat (go_big_quiet_step (fail))
                        refine wpQuiet_nil ?_
                        intro _ hw'
                        obtain ⟨⟨nr, osr⟩, hw''⟩ := hw'
                        subst hw''
                        have b3 := below_grow' (wr.alloc (.cells (xc e) 29)) nr osr
                        have C3 := Lib.hid (C1.out.below' b3)
                        have b13 : Below wr.heap.size wr (grow ((wr.alloc (.cells (xc e) 29)).drewN nr) osr) := ((Below.refl wr.heap.size wr).alloc (Nat.le_refl _) (.cells (xc e) 29)).trans (b3.mono (by simp))
                        have HB3 := Lib.hid (HB.out.trans (b13.mono HB.out.size))
                        have BW3 := Lib.hid (BW.out.trans (b13.mono BW.out.size))
                        obtain ⟨wz, hwz⟩ : ∃ wz, grow ((wr.alloc (.cells #[.int .i64 e.f, .int .i64 e.n, .int .i64 e.p] 29)).drewN nr) osr = wz := ⟨_, rfl⟩
                        have e3 : grow ((wr.alloc (.cells (xc e) 29)).drewN nr) osr = wz := hwz
                        rw [e3] at C3 HB3 BW3
                        rw [hwz]
                        clear b3 b13 hwz e3 g0 g1 g2 x0 x1 x2 a0 a1 a2
                        have c0 : wz.cell? ⟨wr.heap.size, 0, none⟩ = some (.int .i64 e.f) := C3.out.cell 0
                        have c1 : wz.cell? ⟨wr.heap.size, 1, none⟩ = some (.int .i64 e.n) := C3.out.cell 1
                        go_wp2_with fail
                        refine (KA.out _ BW3.out e.f).mono ?_
                        rintro e4 w9 ⟨rfl, b9⟩
                        rw [V1.out]
                        have B9 := Lib.hid (BW3.out.trans (b9.mono BW3.out.size))
                        have HB9 := Lib.hid (HB3.out.trans (b9.mono HB3.out.size))
                        have C9 := Lib.hid (C3.out.below' b9)
                        clear b9 c0 c1
                        have c0 : w9.cell? ⟨wr.heap.size, 0, none⟩ = some (.int .i64 e.f) := C9.out.cell 0
                        have c1 : w9.cell? ⟨wr.heap.size, 1, none⟩ = some (.int .i64 e.n) := C9.out.cell 1
                        have u1 := U1.out; have u2 := U2.out
                        go_wp2_with fail
                        first | rw [U2.out] | rw [U1.out, U2.out] | skip
                        refine (KA.out _ B9.out (e.f + e.n - 1)).mono ?_
                        rintro e5 w10 ⟨rfl, b10⟩
                        rw [V2.out]
                        have HB10 := Lib.hid (HB9.out.trans (b10.mono HB9.out.size))
                        clear b10 c0 c1 u1 u2
                        go_wp2
                        go_roundw
                        case rel => exact ⟨k + 1, by omega, by go_num, by rw [HS'.out, QQ.out], HB10.out⟩
                        case measure => simp [intOf]; omega
                    · obtain rfl : k = H.length := by omega
                      rw [List.take_length]
                      obtain ⟨s, hs⟩ : ∃ s, lens H = s := ⟨_, rfl⟩
                      rw [hs]
                      have HS2 := Lib.hid hs
                      clear hb hs
                      go_wp2_with fail
                      refine (KC.out _ BW.out).mono ?_
                      rintro e w9 ⟨v9, rfl, own9, b9⟩
                      have B9 := Lib.hid (BW.out.trans (b9.mono BW.out.size))
                      obtain ⟨A9, c9, rfl, _, hx9⟩ := own9.form
                      have KL := Lib.hid (xLen (c := c9) hx9 (Nat.le_refl _) (small_right RC.out) (by omega))
                      rw [HLE.out] at KL
                      obtain ⟨ml, hml⟩ : ∃ ml, m.length = ml := ⟨_, rfl⟩
                      obtain ⟨t, ht⟩ : ∃ t, lens m = t := ⟨_, rfl⟩
                      rw [hml] at KL ⊢
                      rw [ht] at KL
                      have hst : s + t = (N : Int) := by rw [← HS2.out, ← ht]; exact HSUM.out
                      have q1 : wrap64 (s + t) = (N : Int) := by rw [hst]; unfold wrap64; omega
                      have q2 : (s + t == (N : Int)) = true := by rw [beq_iff_eq]; exact hst
                      have Q1 := Lib.hid hst
                      clear own9 b9 hx9 KC hml ht hst q1 q2
                      go_wp2_with fail
                      refine KL.out.mono ?_
                      rintro e w10 ⟨rfl, b10⟩
                      have B10 := Lib.hid (B9.out.trans (b10.mono B9.out.size))
                      clear b10 KL
                      have q1 : wrap64 (s + t) = (N : Int) := by rw [Q1.out]; unfold wrap64; omega
                      go_wp2
                      go_ret
                      exact ⟨by first | rfl | (simp [q1]), B10.out⟩
            · clear KP
              go_wp2_with fail
              refine (KH.out _ B4.out).mono ?_
              rintro e w7 ⟨v7, rfl, own7, b7⟩
              have B7 := Lib.hid (B4.out.trans (b7.mono B4.out.size))
              obtain ⟨A7, c7, rfl, _, hx7⟩ := own7.form
              have X7 := Lib.hid hx7
              clear own7 b7 hx7 KH
              cases R
              · rw [holes_low (.inl HRR.out)] at X7 ⊢
                have hz : ([] : List Ext).length = 0 := rfl
                rw [hz]
                clear hz
                go_wp2_with fail
                refine (KR.out _ B7.out).mono ?_
                rintro e w8 hg8
                obtain ⟨rfl, b8⟩ := grows_b hg8
                have B8 := Lib.hid (B7.out.trans (b8.mono B7.out.size))
                clear hg8 b8 KR
                go_wp2
                go_ret
                exact ⟨rfl, B8.out⟩
              · by_cases hn1 : n < 1
                · rw [holes_low (.inr hn1)] at X7 ⊢
                  have hz : ([] : List Ext).length = 0 := rfl
                  rw [hz]
                  clear hz
                  go_wp2_with fail
                  refine (KR.out _ B7.out).mono ?_
                  rintro e w8 hg8
                  obtain ⟨rfl, b8⟩ := grows_b hg8
                  have B8 := Lib.hid (B7.out.trans (b8.mono B7.out.size))
                  clear hg8 b8 KR
                  go_wp2
                  go_ret
                  exact ⟨rfl, B8.out⟩
                · obtain ⟨N, rfl⟩ : ∃ N : Nat, n = N := ⟨n.toNat, by omega⟩
                  have hRT := rightB_iff.1 HRR.out
                  obtain ⟨H, hH, hat, hsum, hlen⟩ := holes_right hRT (N := N) (by omega)
                  rw [hH] at X7 ⊢
                  have HAT := Lib.hid hat
                  have KC := Lib.hid (fun (w1 : World) (b1 : Below w.heap.size w w1) => xCut (c := d) (HX.out.below b1) b1.size HRR.out (by omega) (N : Int) (by omega) (by omega))
                  have rcut := btw_right hRT (show Span 0 (N : Int) from ⟨Int.le_refl _, by omega⟩)
                  have hbl := @btw_len l 0 N
                  have RC := Lib.hid rcut
                  obtain ⟨m, hm'⟩ : ∃ m, btw l 0 N = m := ⟨_, rfl⟩
                  rw [hm'] at KC hsum hbl RC
                  have hle : lenE m = lens m := by unfold lenE; rw [if_pos (rightB_iff.2 RC.out)]
                  have h1n : ∀ x ∈ H, 1 ≤ x.n := fun x hx => by
                    obtain ⟨t, ht, rfl⟩ := List.getElem_of_mem hx
                    exact (HAT.out t _ (List.getElem?_eq_getElem ht)).1
                  have HTL := Lib.hid (lens_take_le h1n)
                  have hm0 := lens_nonneg RC.out.fits
                  have HSUM := Lib.hid hsum; have HLE := Lib.hid hle
                  have hHN : lens H ≤ N := by omega
                  clear hH hat hRT rcut hm' h1n hle hsum hm0
                  go_wp2_with fail
                  refine (KR.out _ B7.out).mono ?_
                  rintro e w8 hg8
                  obtain ⟨rfl, b8⟩ := grows_b hg8
                  have B8 := Lib.hid (B7.out.trans (b8.mono B7.out.size))
                  have X8 := Lib.hid (X7.out.at_ b8)
                  clear hg8 b8 KR X7
                  go_wp2
                  go_loopw [11, 75] (fun s i wr => HsRel w8 H s i wr) (fun _ i _ => H.length - (intOf i).toNat)
                  case atStart => exact ⟨0, Nat.zero_le _, rfl, rfl, Below.refl _ _⟩
                  case round =>
                    obtain ⟨k, hk, rfl, rfl, hb⟩ := hrel
                    have HB := Lib.hid hb
                    have BW := Lib.hid (B8.out.trans (hb.mono B8.out.size))
                    by_cases hlt : k < H.length
                    · obtain ⟨e, he⟩ : ∃ e, H[k]? = some e := ⟨_, List.getElem?_eq_getElem hlt⟩
                      obtain ⟨bl, off, rfl, _, hbB, x0, x1, x2⟩ := exs_cells (X8.out.below hb) he
                      have hlt2 : (k : Int) < (H.length : Int) := Int.ofNat_lt.2 hlt
                      obtain ⟨t1, t2, t3, t4, t5, t6⟩ := HAT.out k e he
                      have e1 := lens_take he
                      have e2 := (HTL.out (k + 1)).2
                      have e3 := (HTL.out k).1
                      obtain ⟨s, hs⟩ : ∃ s, lens (H.take k) = s := ⟨_, rfl⟩
                      obtain ⟨s', hs'⟩ : ∃ s, lens (H.take (k + 1)) = s := ⟨_, rfl⟩
                      rw [hs, hs'] at e1
                      rw [hs'] at e2
                      rw [hs] at e3 ⊢
                      have q0 : wrap64 (s + e.n) = s' := by rw [e1]; unfold wrap64; omega
                      have HS' := Lib.hid hs'
                      have C1 := Lib.hid (Cells.new wr 29 (xc e))
                      have XW := Lib.hid ((X8.out.below hb).below (((Below.refl wr.heap.size wr).alloc (Nat.le_refl _) (.cells (xc e) 29)).mono hb.size))
                      have hsz8 : w8.heap.size ≤ (wr.alloc (.cells (xc e) 29)).heap.size := by have := hb.size; simp; omega
                      obtain ⟨g0, g1, g2⟩ := ext_grown C1.out
                      unfold xc at g0 g1 g2
                      have r0 : decide (e.n < 1) = false := decide_eq_false (by omega)
                      have r1 : (e.p != 0) = false := by rw [bne_eq_false_iff_eq]; exact t2
                      have r2 : decide (e.f < 0) = false := decide_eq_false (by omega)
                      have r3 : IntKind.i64.wrap (e.f + e.n) = e.f + e.n := by rw [IntKind.wrap_i64]; omega
                      have r4 : decide ((N : Int) < e.f + e.n) = false := decide_eq_false (by omega)
                      have v1 : pageE l e.f = 0 := by rw [page_yes HRR.out]; exact t5 _ (Int.le_refl _) (by omega)
                      have v2 : pageE l (e.f + e.n - 1) = 0 := by rw [page_yes HRR.out]; exact t5 _ (by omega) (by omega)
                      have u1 : wrap64 (e.f + e.n) = e.f + e.n := by unfold wrap64; omega
                      have u2 : wrap64 (e.f + e.n - 1) = e.f + e.n - 1 := by unfold wrap64; omega
                      have V1 := Lib.hid v1; have V2 := Lib.hid v2; have U1 := Lib.hid u1; have U2 := Lib.hid u2; have QQ := Lib.hid q0
                      have HE := Lib.hid he; have T6 := Lib.hid t6
                      clear hb t1 t2 t3 t4 t5 t6 e1 e2 e3 hs hs' v1 v2 u1 u2 q0
                      by_cases k0 : k = 0
                      · have p0 : decide (0 < k) = false := decide_eq_false (by omega)
                        clear he k0
                        go_upto_region 21 with fail
                        refine wp_region_quiet_grown hfol (by kernel_rfl) ?_
                        repeat (go_big_quiet_step (fail))
                        refine wpQuiet_nil ?_
                        intro _ hw'
                        obtain ⟨⟨nr, osr⟩, hw''⟩ := hw'
                        subst hw''
                        have b3 := below_grow' (wr.alloc (.cells (xc e) 29)) nr osr
                        have C3 := Lib.hid (C1.out.below' b3)
                        have b13 : Below wr.heap.size wr (grow ((wr.alloc (.cells (xc e) 29)).drewN nr) osr) := ((Below.refl wr.heap.size wr).alloc (Nat.le_refl _) (.cells (xc e) 29)).trans (b3.mono (by simp))
                        have HB3 := Lib.hid (HB.out.trans (b13.mono HB.out.size))
                        have BW3 := Lib.hid (BW.out.trans (b13.mono BW.out.size))
                        obtain ⟨wz, hwz⟩ : ∃ wz, grow ((wr.alloc (.cells #[.int .i64 e.f, .int .i64 e.n, .int .i64 e.p] 29)).drewN nr) osr = wz := ⟨_, rfl⟩
                        have e3 : grow ((wr.alloc (.cells (xc e) 29)).drewN nr) osr = wz := hwz
                        rw [e3] at C3 HB3 BW3
                        rw [hwz]
                        clear b3 b13 hwz e3 g0 g1 g2 x0 x1 x2 
                        have c0 : wz.cell? ⟨wr.heap.size, 0, none⟩ = some (.int .i64 e.f) := C3.out.cell 0
                        have c1 : wz.cell? ⟨wr.heap.size, 1, none⟩ = some (.int .i64 e.n) := C3.out.cell 1
                        go_wp2_with fail
                        refine (KA.out _ BW3.out e.f).mono ?_
                        rintro e4 w9 ⟨rfl, b9⟩
                        rw [V1.out]
                        have B9 := Lib.hid (BW3.out.trans (b9.mono BW3.out.size))
                        have HB9 := Lib.hid (HB3.out.trans (b9.mono HB3.out.size))
                        have C9 := Lib.hid (C3.out.below' b9)
                        clear b9 c0 c1
                        have c0 : w9.cell? ⟨wr.heap.size, 0, none⟩ = some (.int .i64 e.f) := C9.out.cell 0
                        have c1 : w9.cell? ⟨wr.heap.size, 1, none⟩ = some (.int .i64 e.n) := C9.out.cell 1
                        have u1 := U1.out; have u2 := U2.out
                        go_wp2_with fail
                        first | rw [U2.out] | rw [U1.out, U2.out] | skip
                        refine (KA.out _ B9.out (e.f + e.n - 1)).mono ?_
                        rintro e5 w10 ⟨rfl, b10⟩
                        rw [V2.out]
                        have HB10 := Lib.hid (HB9.out.trans (b10.mono HB9.out.size))
                        clear b10 c0 c1 u1 u2
                        go_wp2
                        go_roundw
                        case rel => exact ⟨k + 1, by omega, by go_num, by rw [HS'.out, QQ.out], HB10.out⟩
                        case measure => simp [intOf]; omega
                      · have p0 : decide (0 < k) = true := decide_eq_true (by omega)
                        obtain ⟨m1, hm1⟩ : ∃ m, k - 1 = m := ⟨_, rfl⟩
                        obtain ⟨q, hq⟩ : ∃ q, H[m1]? = some q := ⟨_, List.getElem?_eq_getElem (by omega)⟩
                        have t7 := T6.out m1 q (by omega) hq
                        obtain ⟨b', off', hbo, hb', a0, a1, a2⟩ := exs_grown XW.out hsz8 hq
                        cases hbo
                        obtain ⟨y1, y2, y3, y4, _⟩ := HAT.out m1 q hq
                        have r5 : IntKind.i64.wrap (q.f + q.n) = q.f + q.n := by rw [IntKind.wrap_i64]; omega
                        have r6 : decide (e.f ≤ q.f + q.n) = false := decide_eq_false (by omega)
                        have i0 : IntKind.i64.wrap ((k : Int) - 1) = (m1 : Int) := by rw [IntKind.wrap_i64]; omega
                        have i1 : (0 : Int) ≤ (m1 : Int) := Int.natCast_nonneg m1
                        have i2 : (m1 : Int) < (H.length : Int) := by omega
                        unfold xc at a0 a1 a2
                        clear he k0 hq t7 y1 y2 y3 y4 hm1 hb'
                        go_upto_region 21 with fail
                        refine wp_region_quiet_grown hfol (by kernel_rfl) ?_
                        repeat (go_big_quiet_step (fail))
                        refine wpQuiet_nil ?_
                        intro _ hw'
                        obtain ⟨⟨nr, osr⟩, hw''⟩ := hw'
                        subst hw''
                        have b3 := below_grow' (wr.alloc (.cells (xc e) 29)) nr osr
                        have C3 := Lib.hid (C1.out.below' b3)
                        have b13 : Below wr.heap.size wr (grow ((wr.alloc (.cells (xc e) 29)).drewN nr) osr) := ((Below.refl wr.heap.size wr).alloc (Nat.le_refl _) (.cells (xc e) 29)).trans (b3.mono (by simp))
                        have HB3 := Lib.hid (HB.out.trans (b13.mono HB.out.size))
                        have BW3 := Lib.hid (BW.out.trans (b13.mono BW.out.size))
                        obtain ⟨wz, hwz⟩ : ∃ wz, grow ((wr.alloc (.cells #[.int .i64 e.f, .int .i64 e.n, .int .i64 e.p] 29)).drewN nr) osr = wz := ⟨_, rfl⟩
                        have e3 : grow ((wr.alloc (.cells (xc e) 29)).drewN nr) osr = wz := hwz
                        rw [e3] at C3 HB3 BW3
                        rw [hwz]
                        clear b3 b13 hwz e3 g0 g1 g2 x0 x1 x2 a0 a1 a2
                        have c0 : wz.cell? ⟨wr.heap.size, 0, none⟩ = some (.int .i64 e.f) := C3.out.cell 0
                        have c1 : wz.cell? ⟨wr.heap.size, 1, none⟩ = some (.int .i64 e.n) := C3.out.cell 1
                        go_wp2_with fail
                        refine (KA.out _ BW3.out e.f).mono ?_
                        rintro e4 w9 ⟨rfl, b9⟩
                        rw [V1.out]
                        have B9 := Lib.hid (BW3.out.trans (b9.mono BW3.out.size))
                        have HB9 := Lib.hid (HB3.out.trans (b9.mono HB3.out.size))
                        have C9 := Lib.hid (C3.out.below' b9)
                        clear b9 c0 c1
                        have c0 : w9.cell? ⟨wr.heap.size, 0, none⟩ = some (.int .i64 e.f) := C9.out.cell 0
                        have c1 : w9.cell? ⟨wr.heap.size, 1, none⟩ = some (.int .i64 e.n) := C9.out.cell 1
                        have u1 := U1.out; have u2 := U2.out
                        go_wp2_with fail
                        first | rw [U2.out] | rw [U1.out, U2.out] | skip
                        refine (KA.out _ B9.out (e.f + e.n - 1)).mono ?_
                        rintro e5 w10 ⟨rfl, b10⟩
                        rw [V2.out]
                        have HB10 := Lib.hid (HB9.out.trans (b10.mono HB9.out.size))
                        clear b10 c0 c1 u1 u2
                        go_wp2
                        go_roundw
                        case rel => exact ⟨k + 1, by omega, by go_num, by rw [HS'.out, QQ.out], HB10.out⟩
                        case measure => simp [intOf]; omega
                    · obtain rfl : k = H.length := by omega
                      rw [List.take_length]
                      obtain ⟨s, hs⟩ : ∃ s, lens H = s := ⟨_, rfl⟩
                      rw [hs]
                      have HS2 := Lib.hid hs
                      clear hb hs
                      go_wp2_with fail
                      refine (KC.out _ BW.out).mono ?_
                      rintro e w9 ⟨v9, rfl, own9, b9⟩
                      have B9 := Lib.hid (BW.out.trans (b9.mono BW.out.size))
                      obtain ⟨A9, c9, rfl, _, hx9⟩ := own9.form
                      have KL := Lib.hid (xLen (c := c9) hx9 (Nat.le_refl _) (small_right RC.out) (by omega))
                      rw [HLE.out] at KL
                      obtain ⟨ml, hml⟩ : ∃ ml, m.length = ml := ⟨_, rfl⟩
                      obtain ⟨t, ht⟩ : ∃ t, lens m = t := ⟨_, rfl⟩
                      rw [hml] at KL ⊢
                      rw [ht] at KL
                      have hst : s + t = (N : Int) := by rw [← HS2.out, ← ht]; exact HSUM.out
                      have q1 : wrap64 (s + t) = (N : Int) := by rw [hst]; unfold wrap64; omega
                      have q2 : (s + t == (N : Int)) = true := by rw [beq_iff_eq]; exact hst
                      have Q1 := Lib.hid hst
                      clear own9 b9 hx9 KC hml ht hst q1 q2
                      go_wp2_with fail
                      refine KL.out.mono ?_
                      rintro e w10 ⟨rfl, b10⟩
                      have B10 := Lib.hid (B9.out.trans (b10.mono B9.out.size))
                      clear b10 KL
                      have q1 : wrap64 (s + t) = (N : Int) := by rw [Q1.out]; unfold wrap64; omega
                      go_wp2
                      go_ret
                      exact ⟨by first | rfl | (simp [q1]), B10.out⟩
end Go.Proofs.Ytlfmfdbgchpjgaa
