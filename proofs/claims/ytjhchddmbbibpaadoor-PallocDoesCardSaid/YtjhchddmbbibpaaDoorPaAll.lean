import Derived.Test.YtjhchddmbbibpaaDoorPaAwake
namespace Go.Proofs.YtjhchddmbbibpaaDoor
open Wd Pa Go.ChangeShapes Go.WideShapes Go.RowKit Go.Sort
set_option linter.unusedVariables false
theorem sum_no {k c N : Nat} (h : k + c = N) : ((k : Int) + (c : Int) != (N : Int)) = false := by rw [bne_eq_false_iff_eq]; omega
theorem sum_is {k c N : Nat} (h : k + c = N) : ((k : Int) + (c : Int) == (N : Int)) = true := by rw [beq_iff_eq]; omega
theorem len_free (U : Nat → Bool) (n : Nat) : ∃ k c, (upto U n).length = k ∧ (upto U n).length + c = n ∧ k + c = n := ⟨_, n - (upto U n).length, rfl, by have := @upto_len_le U n; omega, by have := @upto_len_le U n; omega⟩
theorem many_in {N : Nat} (h : N ≤ 1048576) : N = many (N : Int) := by unfold many; omega
theorem pgb_give {w0 w : World} {f : Pp} {n : Nat} {U : Nat → Bool} (h : PgB w0 w f n U) (i : Int) (b : Bool) (hb : U i.toNat = b) : Calls Tryd.prog 12 #[f.ptr, .int .i64 i] w fun e w' => ∃ U' k c, e = .returned (.bool b) ∧ PgB w0 w' f n U' ∧ U' i.toNat = false ∧ (upto U' n).length = k ∧ (upto U' n).length + c = n ∧ k + c = n := by
  cases b with
  | true =>
    refine (pgb_give_yes h i hb).mono ?_
    rintro e w' ⟨rfl, p, _⟩
    obtain ⟨k, c, h1, h2, h3⟩ := len_free (put U i.toNat false) n
    exact ⟨_, k, c, rfl, p, put_same _ _ _, h1, h2, h3⟩
  | false =>
    refine (pgb_give_no h i hb).mono ?_
    rintro e w' ⟨rfl, p, _⟩
    obtain ⟨k, c, h1, h2, h3⟩ := len_free U n
    exact ⟨_, k, c, rfl, p, hb, h1, h2, h3⟩
section
variable {w : World} {A : Option Addr} {c : Nat} {l : List Int}
set_option maxRecDepth 100000 in
set_option maxHeartbeats 1000000 in
theorem all_any (hT : Tb w) (hB : 0 < w.heap.size) (n i : Int) (hr : Row w w.heap.size A l.length (l.map (Value.int .i64))) :
    Calls Tryd.prog 6 #[.int .i64 n, .slice A l.length c, .int .i64 i] w (TrueB w) := by
  have KA := Lib.hid (awake_true hT hB)
  by_cases h1 : n < 0
  · have t1 : decide (n < 0) = true := decide_eq_true h1
    clear hT hr
    go_enter Tryd.func6, Tryd.ntmps6
    go_wp2_with (go_at_call 7; refine KA.out.mono ?_; rintro e w1 ⟨rfl, b1⟩)
    go_ret
    exact ⟨rfl, b1⟩
  · by_cases h2 : 300 < n
    · clear hT hr
      go_enter Tryd.func6, Tryd.ntmps6
      go_wp2_with (go_at_call 7; refine KA.out.mono ?_; rintro e w1 ⟨rfl, b1⟩)
      go_ret
      exact ⟨rfl, b1⟩
    · by_cases h3 : 60 < l.length
      · clear hT hr
        go_enter Tryd.func6, Tryd.ntmps6
        go_wp2_with (go_at_call 7; refine KA.out.mono ?_; rintro e w1 ⟨rfl, b1⟩)
        go_ret
        exact ⟨rfl, b1⟩
      · obtain ⟨N, rfl⟩ : ∃ N : Nat, n = N := ⟨n.toNat, by omega⟩
        have hN : N ≤ 300 := by omega
        obtain ⟨U, hU⟩ : ∃ U, usedOf N l = U := ⟨_, rfl⟩
        have KN := Lib.hid (fun w1 (b1 : Below w.heap.size w w1) => pgb_new (c := c) hT hB b1 (many_in (N := N) (by omega)) ((hr.below b1).more b1.size) (by omega))
        rw [hU] at KN
        obtain ⟨b, hb⟩ : ∃ b, U i.toNat = b := ⟨_, rfl⟩
        obtain ⟨k, cc, hk, hc, hs⟩ := len_free U N
        have q1 := sum_no hs
        have HK := Lib.hid hk; have HC := Lib.hid hc; have HB := Lib.hid hb
        clear hT hr hU hk hc hb
        go_enter Tryd.func6, Tryd.ntmps6
        go_wp2_with (first
          | (go_at_call 7; refine KA.out.mono ?_; rintro e w1 ⟨rfl, b1⟩; have B1 := Lib.hid b1; clear b1)
          | (go_at_call 8; refine (KN.out _ B1.out).mono ?_; rintro e w2 ⟨f, rfl, p2, b2⟩; have P2 := Lib.hid p2; clear p2 b2; rw [show f.ptr = .pointer (some ⟨f.g, 0, none⟩) from rfl]; have KH := Lib.hid (pgb_has P2.out i _ HB.out); rw [show f.ptr = .pointer (some ⟨f.g, 0, none⟩) from rfl] at KH)
          | (go_at_call 14; refine KH.out.mono ?_; rintro e w3 ⟨rfl, p3, b3⟩; have P3 := Lib.hid p3; clear p3 b3 KH; have KU := Lib.hid (pgb_used P3.out k HK.out); rw [show f.ptr = .pointer (some ⟨f.g, 0, none⟩) from rfl] at KU)
          | (go_at_call 18; refine KU.out.mono ?_; rintro e w4 ⟨A4, c4, rfl, o4, p4, b4⟩; have P4 := Lib.hid p4; clear p4 b4 o4 KU; have KF := Lib.hid (pgb_free P4.out cc HC.out); rw [show f.ptr = .pointer (some ⟨f.g, 0, none⟩) from rfl] at KF)
          | (go_at_call 16; refine KF.out.mono ?_; rintro e w5 ⟨rfl, p5, b5⟩; have P5 := Lib.hid p5; clear p5 b5 KF))
        have KG := Lib.hid (pgb_give P5.out i b HB.out)
        have hpt : f.ptr = .pointer (some ⟨f.g, 0, none⟩) := rfl
        rw [hpt] at KG
        clear q1 hs HK HC P2 P3 P4
        refine KG.out.mono ?_
        rintro e w6 ⟨U', k2, c2, rfl, p6, hu', hk, hc, hs⟩
        have P6 := Lib.hid p6; have HU := Lib.hid hu'; have HK := Lib.hid hk; have HC := Lib.hid hc
        have q1 := sum_is hs
        have KH := Lib.hid (pgb_has p6 i _ hu')
        rw [hpt] at KH
        clear p6 hu' hk hc KG P5
        go_wp2_with (first
          | (go_at_call 14; refine KH.out.mono ?_; rintro e w7 ⟨rfl, p7, b7⟩; have P7 := Lib.hid p7; clear p7 b7 KH; have KG2 := Lib.hid (pgb_give_no P7.out i HU.out); rw [hpt] at KG2)
          | (go_at_call 12; refine KG2.out.mono ?_; rintro e w8 ⟨rfl, p8, g8⟩; have P8 := Lib.hid p8; clear p8 g8 KG2; have KU := Lib.hid (pgb_used P8.out k2 HK.out); rw [hpt] at KU)
          | (go_at_call 18; refine KU.out.mono ?_; rintro e w9 ⟨A9, c9, rfl, o9, p9, b9⟩; have P9 := Lib.hid p9; clear p9 b9 o9 KU; have KF := Lib.hid (pgb_free P9.out c2 HC.out); rw [hpt] at KF)
          | (go_at_call 16; refine KF.out.mono ?_; rintro e w10 ⟨rfl, p10, b10⟩; have P10 := Lib.hid p10; clear p10 b10 KF))
        go_ret
        exact ⟨rfl, P10.out.b⟩
end
end Go.Proofs.YtjhchddmbbibpaaDoor
