import Derived.Test.YtjhchddmbbibpaaDoorPaMet
import Derived.Test.YtjhchddmbbibpaaDoorPaAll
namespace Go.Proofs.YtjhchddmbbibpaaDoor
open Wd Pa Go.Maps Go.ChangeShapes Go.WideShapes Go.RowKit Go.Sort
set_option linter.unusedVariables false
/-- so far k pages were taken: those that were met are used -/
def OnceRel (w : World) (f : Pp) (N fr b : Nat) (i : Value) (wr : World) : Prop := ∃ (k : Nat) (U : Nat → Bool) (F : Int → Bool), k ≤ fr ∧ i = .int .i64 k ∧ PgB w wr f N U ∧ Bp wr b k F ∧ (∀ q : Nat, F q = true → U q = true) ∧ (upto U N).length + (fr - k) = N
theorem some_free {U : Nat → Bool} {N m : Nat} (h : (upto U N).length + m = N) (hm : 0 < m) : ∃ q, 1 ≤ q ∧ q ≤ N ∧ U q = false := by
  apply Classical.byContradiction
  intro hc
  have := len_of_all (U := U) (n := N) fun q a b => by
    cases hq : U q with
    | true => rfl
    | false => exact absurd ⟨q, a, b, hq⟩ hc
  omega
section
variable {w : World} {A : Option Addr} {c : Nat} {l : List Int}
set_option maxRecDepth 100000 in
set_option maxHeartbeats 1000000 in
theorem once_any (hT : Tb w) (hB : 0 < w.heap.size) (n i : Int) (hr : Row w w.heap.size A l.length (l.map (Value.int .i64))) :
    Calls Tryd.prog 5 #[.int .i64 n, .slice A l.length c, .int .i64 i] w (TrueB w) := by
  have KA := Lib.hid (awake_true hT hB)
  by_cases h1 : n < 0
  · have t1 : decide (n < 0) = true := decide_eq_true h1
    clear hT hr
    go_enter Tryd.func5, Tryd.ntmps5
    go_wp2_with (go_at_call 7; refine KA.out.mono ?_; rintro e w1 ⟨rfl, b1⟩)
    go_ret
    exact ⟨rfl, b1⟩
  · by_cases h2 : 200 < n
    · clear hT hr
      go_enter Tryd.func5, Tryd.ntmps5
      go_wp2_with (go_at_call 7; refine KA.out.mono ?_; rintro e w1 ⟨rfl, b1⟩)
      go_ret
      exact ⟨rfl, b1⟩
    · by_cases h3 : 60 < l.length
      · clear hT hr
        go_enter Tryd.func5, Tryd.ntmps5
        go_wp2_with (go_at_call 7; refine KA.out.mono ?_; rintro e w1 ⟨rfl, b1⟩)
        go_ret
        exact ⟨rfl, b1⟩
      · obtain ⟨N, rfl⟩ : ∃ N : Nat, n = N := ⟨n.toNat, by omega⟩
        have hN : N ≤ 200 := by omega
        obtain ⟨U, hU⟩ : ∃ U, usedOf N l = U := ⟨_, rfl⟩
        have KN := Lib.hid (fun w1 (b1 : Below w.heap.size w w1) => pgb_new (c := c) hT hB b1 (many_in (N := N) (by omega)) ((hr.below b1).more b1.size) (by omega))
        rw [hU] at KN
        obtain ⟨k0, fr, hk, hc, hs⟩ := len_free U N
        have HC := Lib.hid hc
        have hmm := @run_makeMap Tryd.prog
        clear hT hr hU hk hc
        go_enter Tryd.func5, Tryd.ntmps5
        go_wp2_with (first
          | (go_at_call 7; refine KA.out.mono ?_; rintro e w1 ⟨rfl, b1⟩; have B1 := Lib.hid b1; clear b1)
          | (go_at_call 8; refine (KN.out _ B1.out).mono ?_; rintro e w2 ⟨f, rfl, p2, b2⟩; have P2 := Lib.hid p2; clear p2 b2; rw [show f.ptr = .pointer (some ⟨f.g, 0, none⟩) from rfl]; have KF := Lib.hid (pgb_free P2.out fr HC.out); rw [show f.ptr = .pointer (some ⟨f.g, 0, none⟩) from rfl] at KF)
          | (go_at_call 16; refine KF.out.mono ?_; rintro e w5 ⟨rfl, p5, b5⟩; have P5 := Lib.hid p5; clear p5 b5 KF))
        have hfr : fr ≤ N := by omega
        have hpt : f.ptr = .pointer (some ⟨f.g, 0, none⟩) := rfl
        have hfg : f.g < w5.heap.size := by obtain ⟨⟨ws, p⟩, _⟩ := P5.out; exact p.cells.lt
        have hfh : f.h < w5.heap.size := by obtain ⟨⟨ws, p⟩, _⟩ := P5.out; exact p.words.lt
        have hw5 := P5.out.b.size
        have P6 := Lib.hid (P5.out.below ((Below.refl w5.heap.size w5).alloc (Nat.le_refl _) (.map #[] 0)))
        have M6 := Lib.hid (Bp.made w5)
        obtain ⟨b, hb⟩ : ∃ b, b = w5.heap.size := ⟨_, rfl⟩
        rw [← hb] at M6 ⊢
        have hfh2 : f.h ≠ b := by omega
        have hfg2 : f.g ≠ b := by omega
        have hb0 : w.heap.size ≤ b := by omega
        clear hs P2 P5 KN hb
        go_loopw [36] (fun i_ wr => OnceRel w f N fr b i_ wr) (fun i_ _ => fr - (intOf i_).toNat)
        case atStart => exact ⟨0, U, _, Nat.zero_le _, rfl, P6.out, M6.out, fun q h => by (cases h), HC.out⟩
        case round =>
          obtain ⟨k, V, F, hk, rfl, pv, mv, hF, hlen⟩ := hrel
          have PV := Lib.hid pv; have MV := Lib.hid mv; have HF := Lib.hid hF; have HL := Lib.hid hlen
          by_cases hlt : k < fr
          · have hlt2 : (k : Int) < (fr : Int) := Int.ofNat_lt.2 hlt
            have KT := Lib.hid (pgb_take_some pv (some_free hlen (by omega)))
            rw [hpt] at KT
            clear pv mv hF hlen
            go_wp2_with fail
            refine KT.out.mono ?_
            rintro e w7 ⟨r, r1, r2, r3, r4, rfl, p7, g7⟩
            have P7 := Lib.hid p7
            have M7 := Lib.hid (MV.out.kept g7 (fun e => hfh2 (Option.some.inj e).symm))
            have hFr : F r = false := by
              cases hq : F r with
              | false => rfl
              | true => have := HF.out r hq; rw [r3] at this; cases this
            have hwf : (Lit.int .i64 (r : Int)).wf = true := WalkArith.wf_i64 (by omega)
            have hlook := M7.out.look (r : Int) hwf
            rw [hFr] at hlook
            obtain ⟨w8, hput, m8, g8⟩ := M7.out.put (by unfold maxLen; omega) (r : Int) hwf
            have P8 := Lib.hid (P7.out.kept g8 hfg2 hfh2 hb0)
            have M8 := Lib.hid m8
            have HLEN := Lib.hid (len_on (U := V) (n := N) r1 r2 r3)
            have HFN := Lib.hid (show ∀ q : Nat, plus F r q = true → put V r true q = true from fun q hq => by
              unfold plus at hq
              by_cases e : q = r
              · subst e; exact put_same _ _ _
              · rw [if_neg (by omega)] at hq
                rw [put_ne _ _ e]
                exact HF.out q hq)
            have t1 : decide ((r : Int) < 1) = false := decide_eq_false (by omega)
            have t2 : decide ((N : Int) < (r : Int)) = false := decide_eq_false (by omega)
            have t3 : decide (N < r) = false := decide_eq_false (by omega)
            have t4 : ¬ N < r := by omega
            clear p7 g7 r3 r4 m8 g8 KT
            go_wp2
            go_roundw
            case rel =>
              refine ⟨k + 1, _, _, by omega, by go_num, P8.out, M8.out, HFN.out, ?_⟩
              rw [HLEN.out]
              have := HL.out
              omega
            case measure => simp [intOf]; omega
          · obtain rfl : k = fr := by omega
            have hall : ∀ q, 1 ≤ q → q ≤ N → V q = true := fun q a b => all_of_len (by omega) a b
            have HALL := Lib.hid hall
            have KT := Lib.hid (pgb_take_none pv hall)
            rw [hpt] at KT
            clear pv mv hF hlen hall MV
            go_wp2_with fail
            refine KT.out.mono ?_
            rintro e w7 ⟨rfl, p7, g7⟩
            have KF := Lib.hid (pgb_free p7 0 (by have := HL.out; omega))
            rw [hpt] at KF
            clear p7 g7 KT
            go_wp2_with (go_at_call 16; refine KF.out.mono ?_; rintro e w9 ⟨rfl, p9, b9⟩)
            by_cases hi : 1 ≤ i ∧ i ≤ N
            · have hu : V i.toNat = true := HALL.out _ (by omega) (by omega)
              have KG := Lib.hid (pgb_give_yes p9 i hu)
              rw [hpt] at KG
              clear p9 b9 KF hu
              refine KG.out.mono ?_
              rintro e w10 ⟨rfl, p10, g10⟩
              have KS := Lib.hid (pgb_take_some p10 ⟨i.toNat, by omega, by omega, put_same _ _ _⟩)
              rw [hpt] at KS
              clear p10 g10 KG
              go_wp2_with fail
              refine KS.out.mono ?_
              rintro e w11 ⟨r, r1, r2, r3, r4, rfl, p11, g11⟩
              have hri : (r : Int) = i := by
                by_cases e : r = i.toNat
                · omega
                · rw [put_ne _ _ e, HALL.out r r1 r2] at r3
                  cases r3
              have t1 : ((r : Int) == i) = true := by rw [hri]; exact beq_self_eq_true i
              have HB := Lib.hid p11.b
              clear r1 r2 r3 r4 p11 g11 KS hri
              go_wp2
              go_ret
              exact ⟨rfl, HB.out⟩
            · have hu : V i.toNat = false := by
                cases hv : V i.toNat with
                | false => rfl
                | true => have := p9.dom _ hv; omega
              have KG := Lib.hid (pgb_give_no p9 i hu)
              rw [hpt] at KG
              clear p9 b9 KF hu
              refine KG.out.mono ?_
              rintro e w10 ⟨rfl, p10, g10⟩
              have HB := Lib.hid p10.b
              clear p10 g10 KG
              by_cases hi1 : i < 1
              · have t1 : decide (i < 1) = true := decide_eq_true hi1
                go_wp2
                go_ret
                exact ⟨rfl, HB.out⟩
              · have t1 : decide (i < 1) = false := decide_eq_false hi1
                have t2 : decide ((N : Int) < i) = true := decide_eq_true (by omega)
                go_wp2
                go_ret
                exact ⟨rfl, HB.out⟩
end
end Go.Proofs.YtjhchddmbbibpaaDoor
