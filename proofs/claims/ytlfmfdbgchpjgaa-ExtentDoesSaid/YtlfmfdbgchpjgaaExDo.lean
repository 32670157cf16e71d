import Derived.Test.YtlfmfdbgchpjgaaExAw
import Derived.BigQuiet
namespace Go.Proofs.Ytlfmfdbgchpjgaa
open Wd Ex Go.RowKit Go.ChangeShapes Go.WideShapes Go.Sort
set_option linter.unusedVariables false
set_option maxRecDepth 100000

theorem nums_nat {N : Nat} {F : Int → Int} {t : Nat} {x : Int} (h : (nums N F)[t]? = some x) : x = F (t : Int) := by
  have ht : t < N := by have := (List.getElem?_eq_some_iff.1 h).1; rwa [nums_len] at this
  rw [nums_at ht] at h
  exact (Option.some.inj h).symm
section
variable {w w1 : World} {C : Option Addr} {d : Nat} {l : List Ext} {A : Option Addr} {c : Nat} {ps : List Int} {i n : Int}
/-- what the last return is asked of -/
structure DoIn (w wr : World) (A : Option Addr) (ps : List Int) (C : Option Addr) (l : List Ext) : Prop where
  b : Below w.heap.size w wr
  r : Row w w.heap.size A ps.length (ps.map iv)
  x : Exs w 0 w.heap.size C l
  s : Small l
  p : ∀ p ∈ ps, p ≤ 9223372036854775807
  pl : ps.length ≤ 100
  ll : l.length ≤ 30
  ln : ∀ e ∈ l, e.n ≤ 200
def sumE (b : Bool) (x : Int) : Int := cond b x 0
theorem sumE_t (x : Int) : sumE true x = x := rfl
theorem sumE_f (x : Int) : sumE false x = 0 := rfl
def SumRel (w : World) (l : List Ext) (b : Bool) (s i : Value) (wr : World) : Prop := ∃ k : Nat, k ≤ l.length ∧ i = .int .i64 k ∧ s = .int .i64 (sumE b (lens (l.take k))) ∧ Below w.heap.size w wr
theorem lenE_part {l : List Ext} {b : Bool} (hb : rightB l = b) (k : Nat) : 0 ≤ sumE b (lens (l.take k)) ∧ sumE b (lens (l.take k)) ≤ 1048576 := by
  cases b with
  | true => exact lens_part (rightB_iff.1 hb) k
  | false => rw [sumE_f]; omega
end
set_option maxHeartbeats 8000000 in
theorem does_any {w : World} {A C : Option Addr} {c d : Nat} {ps : List Int} {l : List Ext} (i n : Int) (hr : Row w w.heap.size A ps.length (ps.map iv)) (hp : ∀ p ∈ ps, p ≤ 9223372036854775807) (hx : Exs w 0 w.heap.size C l) (hs : Small l) (hps : ps.length ≤ maxLen) (hls : l.length ≤ maxLen) :
    Calls Try.prog 3 #[.slice A ps.length c, .slice C l.length d, .int .i64 i, .int .i64 n] w (TrueB w) := by
  have KW := Lib.hid (xAwake w)
  have KF := Lib.hid (fun (w1 : World) (b1 : Below w.heap.size w w1) => xFew (c := d) (hx.below b1) b1.size hls)
  have HR := Lib.hid hr; have HX := Lib.hid hx; have HS := Lib.hid hs; have HPP := Lib.hid hp
  unfold maxLen at hps hls
  obtain ⟨F, hF⟩ : ∃ F, fewB l = F := ⟨_, rfl⟩
  rw [hF] at KF
  have HF := Lib.hid hF
  clear hr hx hs hF hp
  cases F
  · go_enter Try.func3, Try.ntmps3
    go_wp2_with fail
    refine KW.out.mono ?_
    rintro e w1 ⟨rfl, b1⟩
    have B1 := Lib.hid b1
    clear b1 KW
    go_wp2_with fail
    refine (KF.out _ B1.out).mono ?_
    rintro e w2 ⟨rfl, b2⟩
    have B2 := Lib.hid (B1.out.trans (b2.mono B1.out.size))
    clear b2 KF
    go_wp2
    go_ret
    exact ⟨rfl, B2.out⟩
  · obtain ⟨f1, f2⟩ := fewB_iff.1 HF.out
    by_cases h100 : 100 < ps.length
    · go_enter Try.func3, Try.ntmps3
      go_wp2_with fail
      refine KW.out.mono ?_
      rintro e w1 ⟨rfl, b1⟩
      have B1 := Lib.hid b1
      clear b1 KW
      go_wp2_with fail
      refine (KF.out _ B1.out).mono ?_
      rintro e w2 ⟨rfl, b2⟩
      have B2 := Lib.hid (B1.out.trans (b2.mono B1.out.size))
      clear b2 KF
      go_wp2
      go_ret
      exact ⟨rfl, B2.out⟩
    · by_cases h500 : 500 < n
      · go_enter Try.func3, Try.ntmps3
        go_wp2_with fail
        refine KW.out.mono ?_
        rintro e w1 ⟨rfl, b1⟩
        have B1 := Lib.hid b1
        clear b1 KW
        go_wp2_with fail
        refine (KF.out _ B1.out).mono ?_
        rintro e w2 ⟨rfl, b2⟩
        have B2 := Lib.hid (B1.out.trans (b2.mono B1.out.size))
        clear b2 KF
        go_wp2
        go_ret
        exact ⟨rfl, B2.out⟩
      · obtain ⟨R, hR⟩ : ∃ R, rightB l = R := ⟨_, rfl⟩
        have HRR := Lib.hid hR
        have KRR := Lib.hid (fun (w1 : World) (b1 : Below w.heap.size w w1) => xRefRight (c := d) (HX.out.below b1) b1.size HS.out (by omega))
        have KR := Lib.hid (fun (w1 : World) (b1 : Below w.heap.size w w1) => xRight (c := d) (HX.out.below b1) b1.size HS.out (by omega))
        rw [hR] at KRR KR
        have KP := Lib.hid (fun (w1 : World) (b1 : Below w.heap.size w w1) => xPages (c := d) (HX.out.below b1) b1.size HS.out (by omega) n (by omega))
        have KO := Lib.hid (fun (w1 : World) (b1 : Below w.heap.size w w1) (k : Int) => xPageOf (c := d) (HX.out.below b1) b1.size HS.out (by omega) k)
        have KA := Lib.hid (fun (w1 : World) (b1 : Below w.heap.size w w1) => xAt (c := d) (HX.out.below b1) b1.size HS.out (by omega) i)
        have KL := Lib.hid (fun (w1 : World) (b1 : Below w.heap.size w w1) => xLen (c := d) (HX.out.below b1) b1.size HS.out (by omega))
        have KOf := Lib.hid (fun (w1 : World) (b1 : Below w.heap.size w w1) => xOf (c := c) (HR.out.below b1) b1.size HPP.out (by omega))
        have KEx := Lib.hid (fun (w1 : World) (b1 : Below w.heap.size w w1) => xExtents (c := c) (HR.out.below b1) b1.size HPP.out (by omega))
        have HEL := Lib.hid (exts_tame ps HPP.out (by omega) ps.length (Nat.le_refl _)).2
        rw [List.take_length] at HEL
        have HLP := Lib.hid (lenE_part hR)
        have HLN := Lib.hid (show lenE l = sumE R (lens (l.take l.length)) by unfold lenE; rw [hR, List.take_length]; cases R <;> rfl)
        clear hR HF
        cases R
        · have hpe : pagesE l n = [] := by unfold pagesE; rw [if_neg (by rw [HRR.out]; simp)]
          rw [hpe] at KP
          clear hpe
          go_enter Try.func3, Try.ntmps3
          go_wp2_with fail
          refine KW.out.mono ?_
          rintro e w1 ⟨rfl, b1⟩
          have B1 := Lib.hid b1
          clear b1 KW
          go_wp2_with fail
          refine (KF.out _ B1.out).mono ?_
          rintro e w2 ⟨rfl, b2⟩
          have B2 := Lib.hid (B1.out.trans (b2.mono B1.out.size))
          clear b2 KF
          go_wp2_with fail
          refine (KRR.out _ B2.out).mono ?_
          rintro e w3 hg3
          obtain ⟨rfl, b3⟩ := grows_b hg3
          have B3 := Lib.hid (B2.out.trans (b3.mono B2.out.size))
          clear hg3 b3 KRR
          go_wp2_with fail
          refine (KP.out _ B3.out).mono ?_
          rintro e w4 ⟨A4, c4, rfl, r4, b4⟩
          have B4 := Lib.hid (B3.out.trans (b4.mono B3.out.size))
          have R4 := Lib.hid r4
          clear b4 r4 KP
          have hz : ([] : List Int).length = 0 := rfl
          rw [hz]
          clear hz
          go_wp2
          go_loopw [12, 62] (fun s i wr => SumRel w l false s i wr) (fun _ i _ => l.length - (intOf i).toNat)
          case atStart => exact ⟨0, Nat.zero_le _, rfl, rfl, B4.out⟩
          case round =>
            obtain ⟨k, hk, rfl, rfl, hb⟩ := hrel
            have HB := Lib.hid hb
            by_cases hlt : k < l.length
            · obtain ⟨e, he⟩ : ∃ e, l[k]? = some e := ⟨_, List.getElem?_eq_getElem hlt⟩
              obtain ⟨bl, off, rfl, _, hbB, x0, x1, x2⟩ := exs_cells (HX.out.below hb) he
              have hlt2 : (k : Int) < (l.length : Int) := Int.ofNat_lt.2 hlt
              rw [sumE_f]
              clear hb he
              go_wp2
              go_roundw
              case rel => exact ⟨k + 1, by omega, by go_num, by rw [sumE_f], HB.out.alloc HB.out.size _⟩
              case measure => simp [intOf]; omega
            · obtain rfl : k = l.length := by omega
              rw [← HLN.out]
              clear hb
              go_wp2_with fail
              refine (KOf.out _ HB.out).mono ?_
              rintro e wA ⟨vA, rfl, ownA, bA⟩
              have BA := Lib.hid (HB.out.trans (bA.mono HB.out.size))
              have OA := Lib.hid ownA
              clear ownA bA KOf
              go_wp2_with fail
              refine (KEx.out _ BA.out).mono ?_
              rintro e wB ⟨vB, rfl, ownB, bB⟩
              have BB := Lib.hid (BA.out.trans (bB.mono BA.out.size))
              have OA2 := OA.out.below bB
              obtain ⟨AA, cA, rfl, _, xA⟩ := OA2.form
              obtain ⟨AB, cB, rfl, _, xB⟩ := ownB.form
              have KS := Lib.hid (xSameX (c := cA) (d := cB) (by have := HEL.out; omega) xA xB)
              obtain ⟨el, hel⟩ : ∃ el, (exts ps).length = el := ⟨_, rfl⟩
              rw [hel] at KS ⊢
              clear OA2 ownB bB xA xB KEx hel
              go_wp2_with fail
              refine KS.out.mono ?_
              rintro e wC hgC
              obtain ⟨rfl, bC⟩ := grows_b hgC
              have BC := Lib.hid (BB.out.trans (bC.mono BB.out.size))
              clear hgC bC KS
              go_wp2_with fail
              refine (KR.out _ BC.out).mono ?_
              rintro e wD hgD
              obtain ⟨rfl, bD⟩ := grows_b hgD
              have BD := Lib.hid (BC.out.trans (bD.mono BC.out.size))
              clear hgD bD KR
              go_wp2_with fail
              refine (KA.out _ BD.out).mono ?_
              rintro e wE ⟨rfl, bE⟩
              have BE := Lib.hid (BD.out.trans (bE.mono BD.out.size))
              clear bE KA
              go_wp2_with fail
              refine (KO.out _ BE.out i).mono ?_
              rintro e wF hgF
              obtain ⟨rfl, bF⟩ := grows_b hgF
              have BF := Lib.hid (BE.out.trans (bF.mono BE.out.size))
              clear hgF bF KO
              go_wp2_with fail
              refine (KL.out _ BF.out).mono ?_
              rintro e wG ⟨rfl, bG⟩
              have BG := Lib.hid (BF.out.trans (bG.mono BF.out.size))
              clear bG KL
              go_wp2
              go_ret
              exact ⟨rfl, BG.out⟩
        · by_cases hn1 : n < 1
          · have hpe : pagesE l n = [] := by unfold pagesE; rw [if_neg (by omega)]
            rw [hpe] at KP
            clear hpe
            go_enter Try.func3, Try.ntmps3
            go_wp2_with fail
            refine KW.out.mono ?_
            rintro e w1 ⟨rfl, b1⟩
            have B1 := Lib.hid b1
            clear b1 KW
            go_wp2_with fail
            refine (KF.out _ B1.out).mono ?_
            rintro e w2 ⟨rfl, b2⟩
            have B2 := Lib.hid (B1.out.trans (b2.mono B1.out.size))
            clear b2 KF
            go_wp2_with fail
            refine (KRR.out _ B2.out).mono ?_
            rintro e w3 hg3
            obtain ⟨rfl, b3⟩ := grows_b hg3
            have B3 := Lib.hid (B2.out.trans (b3.mono B2.out.size))
            clear hg3 b3 KRR
            go_wp2_with fail
            refine (KP.out _ B3.out).mono ?_
            rintro e w4 ⟨A4, c4, rfl, r4, b4⟩
            have B4 := Lib.hid (B3.out.trans (b4.mono B3.out.size))
            have R4 := Lib.hid r4
            clear b4 r4 KP
            have hz : ([] : List Int).length = 0 := rfl
            rw [hz]
            clear hz
            go_wp2
            go_loopw [12, 62] (fun s i wr => SumRel w l true s i wr) (fun _ i _ => l.length - (intOf i).toNat)
            case atStart => exact ⟨0, Nat.zero_le _, rfl, rfl, B4.out⟩
            case round =>
              obtain ⟨k, hk, rfl, rfl, hb⟩ := hrel
              have HB := Lib.hid hb
              by_cases hlt : k < l.length
              · obtain ⟨e, he⟩ : ∃ e, l[k]? = some e := ⟨_, List.getElem?_eq_getElem hlt⟩
                obtain ⟨bl, off, rfl, _, hbB, x0, x1, x2⟩ := exs_cells (HX.out.below hb) he
                have hlt2 : (k : Int) < (l.length : Int) := Int.ofNat_lt.2 hlt
                have e1 := lens_take he
                have e2 := HLP.out (k + 1)
                rw [sumE_t] at e2 ⊢
                obtain ⟨s, hs⟩ : ∃ s, lens (l.take k) = s := ⟨_, rfl⟩
                obtain ⟨s', hs'⟩ : ∃ s, lens (l.take (k + 1)) = s := ⟨_, rfl⟩
                rw [hs, hs'] at e1
                rw [hs'] at e2
                rw [hs]
                have q : wrap64 (s + e.n) = s' := by rw [e1]; unfold wrap64; omega
                have HS' := Lib.hid hs'
                clear hb he e1 e2 hs hs'
                go_wp2
                go_roundw
                case rel => exact ⟨k + 1, by omega, by go_num, by rw [sumE_t, HS'.out, q], HB.out.alloc HB.out.size _⟩
                case measure => simp [intOf]; omega
              · obtain rfl : k = l.length := by omega
                rw [← HLN.out]
                clear hb
                go_wp2_with fail
                refine (KOf.out _ HB.out).mono ?_
                rintro e wA ⟨vA, rfl, ownA, bA⟩
                have BA := Lib.hid (HB.out.trans (bA.mono HB.out.size))
                have OA := Lib.hid ownA
                clear ownA bA KOf
                go_wp2_with fail
                refine (KEx.out _ BA.out).mono ?_
                rintro e wB ⟨vB, rfl, ownB, bB⟩
                have BB := Lib.hid (BA.out.trans (bB.mono BA.out.size))
                have OA2 := OA.out.below bB
                obtain ⟨AA, cA, rfl, _, xA⟩ := OA2.form
                obtain ⟨AB, cB, rfl, _, xB⟩ := ownB.form
                have KS := Lib.hid (xSameX (c := cA) (d := cB) (by have := HEL.out; omega) xA xB)
                obtain ⟨el, hel⟩ : ∃ el, (exts ps).length = el := ⟨_, rfl⟩
                rw [hel] at KS ⊢
                clear OA2 ownB bB xA xB KEx hel
                go_wp2_with fail
                refine KS.out.mono ?_
                rintro e wC hgC
                obtain ⟨rfl, bC⟩ := grows_b hgC
                have BC := Lib.hid (BB.out.trans (bC.mono BB.out.size))
                clear hgC bC KS
                go_wp2_with fail
                refine (KR.out _ BC.out).mono ?_
                rintro e wD hgD
                obtain ⟨rfl, bD⟩ := grows_b hgD
                have BD := Lib.hid (BC.out.trans (bD.mono BC.out.size))
                clear hgD bD KR
                go_wp2_with fail
                refine (KA.out _ BD.out).mono ?_
                rintro e wE ⟨rfl, bE⟩
                have BE := Lib.hid (BD.out.trans (bE.mono BD.out.size))
                clear bE KA
                go_wp2_with fail
                refine (KO.out _ BE.out i).mono ?_
                rintro e wF hgF
                obtain ⟨rfl, bF⟩ := grows_b hgF
                have BF := Lib.hid (BE.out.trans (bF.mono BE.out.size))
                clear hgF bF KO
                go_wp2_with fail
                refine (KL.out _ BF.out).mono ?_
                rintro e wG ⟨rfl, bG⟩
                have BG := Lib.hid (BF.out.trans (bG.mono BF.out.size))
                clear bG KL
                go_wp2
                go_ret
                exact ⟨rfl, BG.out⟩
          · obtain ⟨N, rfl⟩ : ∃ N : Nat, n = N := ⟨n.toNat, by omega⟩
            have hpe : pagesE l N = nums N (fun k => pg l k) := by unfold pagesE; rw [if_pos ⟨HRR.out, by omega⟩, Int.toNat_natCast]
            rw [hpe] at KP
            clear hpe
            have hfol : Try.prog.follows Departure.mixedOrders = true := by kernel_rfl
            have hN1 : 1 ≤ N := by omega
            clear hn1
            go_enter Try.func3, Try.ntmps3
            go_wp2_with fail
            refine KW.out.mono ?_
            rintro e w1 ⟨rfl, b1⟩
            have B1 := Lib.hid b1
            clear b1 KW
            go_wp2_with fail
            refine (KF.out _ B1.out).mono ?_
            rintro e w2 ⟨rfl, b2⟩
            have B2 := Lib.hid (B1.out.trans (b2.mono B1.out.size))
            clear b2 KF
            go_wp2_with fail
            refine (KRR.out _ B2.out).mono ?_
            rintro e w3 hg3
            obtain ⟨rfl, b3⟩ := grows_b hg3
            have B3 := Lib.hid (B2.out.trans (b3.mono B2.out.size))
            clear hg3 b3 KRR
            go_wp2_with fail
            refine (KP.out _ B3.out).mono ?_
            rintro e w4 ⟨A4, c4, rfl, r4, b4⟩
            have B4 := Lib.hid (B3.out.trans (b4.mono B3.out.size))
            have R4 := Lib.hid r4
            clear b4 r4 KP
            rw [nums_len] at R4 ⊢
            go_wp2
            go_loopw [45] (fun v wr => ∃ k : Nat, k ≤ N ∧ v = .int .i64 k ∧ ∃ q os, wr = grow (w4.drewN q) os) (fun v _ => N - (intOf v).toNat)
            case atStart => exact ⟨0, Nat.zero_le _, rfl, grow_none _⟩
            case round =>
              obtain ⟨k, hk, rfl, hg⟩ := hrel
              have HG := Lib.hid hg
              have BW := Lib.hid (grows_below B4.out hg)
              by_cases hlt : k < N
              · obtain ⟨b, off, x, rfl, hbb, hx, cx⟩ := (R4.out.below (grown_b hg)).get (k := k) hlt
                have hbw : b < wr.heap.size := Nat.lt_of_lt_of_le hbb (grown_b hg).size
                have hxe := nums_nat hx
                unfold iv at cx
                have gx := cell_grown (a := ⟨b, off + k, none⟩) hbw cx
                have hpk : pageE l (k : Int) = x := by rw [page_yes HRR.out, hxe]
                have KO2 := Lib.hid (fun n os => KO.out (grow (wr.drewN n) os) (grows_below BW.out ⟨n, os, rfl⟩) (k : Int))
                rw [hpk] at KO2
                have hlt2 : (k : Int) < (N : Int) := Int.ofNat_lt.2 hlt
                have hk0 : (0 : Int) ≤ (k : Int) := Int.natCast_nonneg k
                clear hg hbb hx hxe cx hpk hbw
                go_upto_region 13 with fail
                refine wp_region_quiet_grown hfol (by kernel_rfl) ?_
                repeat (go_big_quiet_step (first
                  | (go_at_call 10; (with_reducible exact Grows.inAt KO2.out _ _))))
                refine wpQuiet_nil ?_
                intro _ hw'
                obtain ⟨⟨nr, osr⟩, hw''⟩ := hw'
                subst hw''
                go_wp2
                go_roundw
                case rel => exact ⟨k + 1, by omega, by go_num, grow_trans HG.out ⟨nr, osr, rfl⟩⟩
                case measure => simp [intOf]; omega
              · obtain rfl : k = N := by omega
                clear hg
                go_wp2
                go_loopw [12, 62] (fun s i wr => SumRel w l true s i wr) (fun _ i _ => l.length - (intOf i).toNat)
                case atStart => exact ⟨0, Nat.zero_le _, rfl, rfl, BW.out⟩
                case round =>
                  obtain ⟨k, hk, rfl, rfl, hb⟩ := hrel
                  have HB := Lib.hid hb
                  by_cases hlt : k < l.length
                  · obtain ⟨e, he⟩ : ∃ e, l[k]? = some e := ⟨_, List.getElem?_eq_getElem hlt⟩
                    obtain ⟨bl, off, rfl, _, hbB, x0, x1, x2⟩ := exs_cells (HX.out.below hb) he
                    have hlt2 : (k : Int) < (l.length : Int) := Int.ofNat_lt.2 hlt
                    have e1 := lens_take he
                    have e2 := HLP.out (k + 1)
                    rw [sumE_t] at e2 ⊢
                    obtain ⟨s, hs⟩ : ∃ s, lens (l.take k) = s := ⟨_, rfl⟩
                    obtain ⟨s', hs'⟩ : ∃ s, lens (l.take (k + 1)) = s := ⟨_, rfl⟩
                    rw [hs, hs'] at e1
                    rw [hs'] at e2
                    rw [hs]
                    have q : wrap64 (s + e.n) = s' := by rw [e1]; unfold wrap64; omega
                    have HS' := Lib.hid hs'
                    clear hb he e1 e2 hs hs'
                    go_wp2
                    go_roundw
                    case rel => exact ⟨k + 1, by omega, by go_num, by rw [sumE_t, HS'.out, q], HB.out.alloc HB.out.size _⟩
                    case measure => simp [intOf]; omega
                  · obtain rfl : k = l.length := by omega
                    rw [← HLN.out]
                    clear hb
                    go_wp2_with fail
                    refine (KOf.out _ HB.out).mono ?_
                    rintro e wA ⟨vA, rfl, ownA, bA⟩
                    have BA := Lib.hid (HB.out.trans (bA.mono HB.out.size))
                    have OA := Lib.hid ownA
                    clear ownA bA KOf
                    go_wp2_with fail
                    refine (KEx.out _ BA.out).mono ?_
                    rintro e wB ⟨vB, rfl, ownB, bB⟩
                    have BB := Lib.hid (BA.out.trans (bB.mono BA.out.size))
                    have OA2 := OA.out.below bB
                    obtain ⟨AA, cA, rfl, _, xA⟩ := OA2.form
                    obtain ⟨AB, cB, rfl, _, xB⟩ := ownB.form
                    have KS := Lib.hid (xSameX (c := cA) (d := cB) (by have := HEL.out; omega) xA xB)
                    obtain ⟨el, hel⟩ : ∃ el, (exts ps).length = el := ⟨_, rfl⟩
                    rw [hel] at KS ⊢
                    clear OA2 ownB bB xA xB KEx hel
                    go_wp2_with fail
                    refine KS.out.mono ?_
                    rintro e wC hgC
                    obtain ⟨rfl, bC⟩ := grows_b hgC
                    have BC := Lib.hid (BB.out.trans (bC.mono BB.out.size))
                    clear hgC bC KS
                    go_wp2_with fail
                    refine (KR.out _ BC.out).mono ?_
                    rintro e wD hgD
                    obtain ⟨rfl, bD⟩ := grows_b hgD
                    have BD := Lib.hid (BC.out.trans (bD.mono BC.out.size))
                    clear hgD bD KR
                    go_wp2_with fail
                    refine (KA.out _ BD.out).mono ?_
                    rintro e wE ⟨rfl, bE⟩
                    have BE := Lib.hid (BD.out.trans (bE.mono BD.out.size))
                    clear bE KA
                    go_wp2_with fail
                    refine (KO.out _ BE.out i).mono ?_
                    rintro e wF hgF
                    obtain ⟨rfl, bF⟩ := grows_b hgF
                    have BF := Lib.hid (BE.out.trans (bF.mono BE.out.size))
                    clear hgF bF KO
                    go_wp2_with fail
                    refine (KL.out _ BF.out).mono ?_
                    rintro e wG ⟨rfl, bG⟩
                    have BG := Lib.hid (BF.out.trans (bG.mono BF.out.size))
                    clear bG KL
                    go_wp2
                    go_ret
                    exact ⟨rfl, BG.out⟩
end Go.Proofs.Ytlfmfdbgchpjgaa
