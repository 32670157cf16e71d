import Derived.Test.YtcmgngjafnpnoaaFdAw
import Derived.Deep.DeepCutAuto
/-! The law FdFull. -/
namespace Go.Proofs.Ytcmgngjafnpnoaa
open Wd Go.RowKit Go.ChangeShapes Go.WideShapes Go.Sort
set_option linter.unusedVariables false
set_option maxRecDepth 100000
def fillT : Nat → List Opn
  | 0 => noneT
  | k + 1 => openT (fillT k) ⟨(k : Int) + 1, 0, 0⟩
theorem fill_good : ∀ k, GoodT (fillT k)
  | 0 => GoodT.none
  | k + 1 => (fill_good k).open_ _
theorem fill_open : ∀ k : Nat, k < 31 → openB (fillT k) ⟨(k : Int) + 1, 0, 0⟩ = decide (k < 16) ∧ openV (fillT k) ⟨(k : Int) + 1, 0, 0⟩ = (if k < 16 then k else 0) := by decide +kernel
theorem fill_next : ∀ k : Nat, k < 31 → nextB (fillT k) = decide (k < 16) ∧ (allT (fillT k)).length = min k 16 := by decide +kernel
theorem fill_is : ∀ k : Nat, k < 31 → ∀ a : Nat, a < 16 → isT (fillT k) (a : Int) = decide (a < k) := by decide +kernel
theorem fill_get : ∀ k : Nat, k < 31 → ∀ a : Nat, a < 16 → a < k → (getT (fillT k) (a : Int)).ino = (a : Int) + 1 ∧ freeT (closeT (fillT k) (a : Int)) = a := by decide +kernel
theorem fill_out {k : Nat} (hk : k < 31) (a : Int) : isT (fillT k) a = (decide (0 ≤ a) && decide (a < ((min k 16 : Nat) : Int))) := by
  by_cases h0 : 0 ≤ a
  · by_cases h1 : a < 16
    · obtain ⟨n, rfl⟩ : ∃ n : Nat, a = (n : Int) := ⟨a.toNat, by omega⟩
      rw [fill_is k hk n (by omega), decide_eq_true h0, Bool.true_and]
      exact decide_eq_decide.2 (by omega)
    · unfold isT
      rw [decide_eq_true h0, decide_eq_false h1, decide_eq_false (show ¬ a < ((min k 16 : Nat) : Int) by omega)]; rfl
  · unfold isT
    rw [decide_eq_false h0]; rfl
theorem nextB_of {T : List Opn} {a : Nat} (h : freeT T = a) (ha : a < 16) : nextB T = true := by unfold nextB; rw [h]; exact decide_eq_true ha
def FuRel (F : FdFace) (w1 : World) (g q n : Nat) (o : Opn) (i : Value) (wr : World) : Prop := ∃ k : Nat, k ≤ n ∧ i = .int .i64 k ∧ F.st wr g (fillT k) ∧ Cells wr q 27 o.cells.toArray ∧ Below w1.heap.size w1 wr
theorem fu_dec {k : Nat} : decide ((k : Int) < 16) = decide (k < 16) := decide_eq_decide.2 (by omega)
theorem fu_w {k : Nat} (h : k < 1000) : wrap64 ((k : Int) + 1) = (k : Int) + 1 := by unfold wrap64; omega
theorem fu_w2 {k : Nat} (h : k < 1000) : IntKind.i64.wrap ((k : Int) + 1) = (k : Int) + 1 := by rw [IntKind.wrap_i64]; omega
set_option maxHeartbeats 8000000 in
theorem fdFull_law (F : FdFace) {w : World} (n at_ : Int) (hn : i64R n) (hat : i64R at_) (o : Opn) : Calls Try.prog 5 #[.int .i64 n, .int .i64 at_, o.val] w (TrueB w) := by
  have hb0 : Below w.heap.size w (w.alloc (.cells o.cells.toArray 27)) := below_of_grown (World.grownBy_alloc w _ none)
  have hc0 : Cells (w.alloc (.cells o.cells.toArray 27)) w.heap.size 27 o.cells.toArray := Cells.new _ _ _
  have KA := Lib.hid (fdAwake F (w.alloc (.cells o.cells.toArray 27)))
  obtain ⟨oi, oo, ofl⟩ := o
  unfold Opn.val Opn.cells at *
  dsimp only at *
  have HB0 := Lib.hid hb0; have HC0 := Lib.hid hc0; have HN := Lib.hid hn; have HAT := Lib.hid hat
  clear hb0 hc0 hn hat
  go_enter Try.func5, Try.ntmps5
  go_wp2_with fail
  refine (KA.out).mono ?_
  rintro e w1 ⟨rfl, hb1⟩
  have B1 := Lib.hid (HB0.out.trans (hb1.mono HB0.out.size))
  have C1 := Lib.hid (HC0.out.below' hb1)
  have c0 := C1.out.cell 0
  simp only [List.getElem?_toArray, List.getElem?_cons_zero] at c0
  have KN := Lib.hid (F.new w1)
  clear hb1 KA
  by_cases h0 : n < 0
  · have q0 : decide (n < 0) = true := decide_eq_true h0
    clear h0
    go_wp2
    go_ret
    exact ⟨rfl, B1.out⟩
  obtain ⟨N, rfl⟩ : ∃ N : Nat, n = (N : Int) := ⟨n.toNat, by omega⟩
  have q0 : decide ((N : Int) < 0) = false := decide_eq_false h0
  by_cases h1 : 30 < (N : Int)
  · have q1 : decide ((N : Int) > 30) = true := decide_eq_true h1
    have q1b : decide (30 < (N : Int)) = true := decide_eq_true h1
    clear h0 h1
    go_wp2
    go_ret
    exact ⟨rfl, B1.out⟩
  have q1 : decide ((N : Int) > 30) = false := decide_eq_false h1
  by_cases h2 : oi < 1
  · have q2 : decide (oi < 1) = true := decide_eq_true h2
    clear h0 h1 h2
    go_wp2
    go_ret
    exact ⟨rfl, B1.out⟩
  have q2 : decide (oi < 1) = false := decide_eq_false h2
  have hN : N < 31 := by omega
  have H2 := Lib.hid h2; have HNN := Lib.hid hN
  clear h0 h1 h2
  go_wp2_with fail
  refine (KN.out).mono ?_
  rintro e w2 ⟨g, rfl, st2, hb2, hg⟩
  have B2 := Lib.hid hb2
  have C2 := Lib.hid (C1.out.below' hb2)
  have ST2 := Lib.hid st2
  have hq : w.heap.size ≠ g := by have := C1.out.lt; omega
  clear hb2 st2 KN c0
  unfold fptr
  go_wp2
  go_loopw [30] (fun i wr => FuRel F w1 g w.heap.size N ⟨oi, oo, ofl⟩ i wr) (fun i _ => N - (intOf i).toNat)
  case atStart => exact ⟨0, Nat.zero_le _, rfl, ST2.out, C2.out, B2.out⟩
  case round =>
    obtain ⟨k, hk, rfl, st, hc, hb⟩ := hrel
    by_cases hlt : k < N
    · have hlt2 : (k : Int) < (N : Int) := Int.ofNat_lt.2 hlt
      have hk31 : k < 31 := by omega
      have KO := F.open_ st (fill_good k) ⟨(k : Int) + 1, 0, 0⟩
      rw [(fill_open k hk31).1, (fill_open k hk31).2] at KO
      have qw := fu_w (k := k) (by omega)
      have qw2 := fu_w2 (k := k) (by omega)
      have KO2 := Lib.hid KO; have HC := Lib.hid hc; have HB := Lib.hid hb; have HLT := Lib.hid hlt
      unfold fptr Opn.val RetIB at KO2
      dsimp only at KO2
      by_cases h16 : k < 16
      · have r1 : decide (k < 16) = true := decide_eq_true h16
        have r2 : decide ((k : Int) < 16) = true := decide_eq_true (by omega)
        rw [r1, if_pos h16] at KO2
        clear KO hc hb hlt st h16 hk
        go_wp2_with fail
        refine (KO2.out).mono ?_
        rintro e w3 ⟨rfl, st3, s3⟩
        have ST3 := Lib.hid st3
        have C3 := Lib.hid (s3.cells HC.out hq)
        have B3 := Lib.hid (Sd.below HB.out HB.out.size s3 hg)
        clear st3 s3 KO2
        go_wp2
        go_roundw
        case rel => exact ⟨k + 1, HLT.out, by go_num, ST3.out, C3.out, B3.out⟩
        case measure => simp [intOf]; have := HLT.out; omega
      · have r1 : decide (k < 16) = false := decide_eq_false h16
        have r2 : decide ((k : Int) < 16) = false := decide_eq_false (by omega)
        rw [r1, if_neg h16] at KO2
        clear KO hc hb hlt st h16 hk
        go_wp2_with fail
        refine (KO2.out).mono ?_
        rintro e w3 ⟨rfl, st3, s3⟩
        have ST3 := Lib.hid st3
        have C3 := Lib.hid (s3.cells HC.out hq)
        have B3 := Lib.hid (Sd.below HB.out HB.out.size s3 hg)
        clear st3 s3 KO2
        go_wp2
        go_roundw
        case rel => exact ⟨k + 1, HLT.out, by go_num, ST3.out, C3.out, B3.out⟩
        case measure => simp [intOf]; have := HLT.out; omega
    · obtain rfl : k = N := by omega
      have hk31 := HNN.out
      have HC := Lib.hid hc; have HB := Lib.hid hb
      have gd := fill_good k
      have KF := F.full st gd
      have KL := Lib.hid (fun wx (h : F.st wx g (fillT k)) => F.len h gd)
      have KC := Lib.hid (fun wx (h : F.st wx g (fillT k)) => F.close h gd at_ HAT.out)
      have ST := Lib.hid st
      rw [(fill_next k hk31).1] at KF
      rw [(fill_next k hk31).2] at KL
      rw [fill_out hk31] at KC
      clear hc hb hlt hk st
      by_cases h16 : k < 16
      · have n1 : decide (k < 16) = true := decide_eq_true h16
        have n7 : k < 16 := h16
        have n8 : ¬ 16 ≤ k := by omega
        have n9 : k ≤ 16 := by omega
        have n2 : decide ((k : Int) ≥ 16) = false := decide_eq_false (by omega)
        have n2b : decide (16 ≤ (k : Int)) = false := decide_eq_false (by omega)
        have n3 : decide ((k : Int) < 16) = true := decide_eq_true (by omega)
        have hmin : min k 16 = k := by omega
        have n4 : (k : Int) ≤ 16 := by omega
        have n5 : min (k : Int) 16 = (k : Int) := by omega
        have n6 : ¬ (16 : Int) < (k : Int) := by omega
        rw [n1] at KF
        rw [hmin] at KL KC
        by_cases hin : 0 ≤ at_ ∧ at_ < (k : Int)
        · obtain ⟨a, rfl⟩ : ∃ a : Nat, at_ = (a : Int) := ⟨at_.toNat, by omega⟩
          obtain ⟨ga, gf⟩ := fill_get k hk31 a (by omega) (by omega)
          have m1 : decide (0 ≤ (a : Int)) = true := decide_eq_true hin.1
          have m1b : decide ((a : Int) ≥ 0) = true := decide_eq_true hin.1
          have m2 : decide ((a : Int) < (k : Int)) = true := decide_eq_true hin.2
          have m3 : a < k := by omega
          have m4 : decide (a < k) = true := decide_eq_true m3
          rw [m1, decide_eq_true (show (a : Int) < ((k : Nat) : Int) by omega)] at KC
          have EG := Lib.hid ga
          have QW := Lib.hid (fu_w (k := a) (by omega)); have QW2 := Lib.hid (fu_w2 (k := a) (by omega))
          have hnb := nextB_of gf (by omega)
          have EV := Lib.hid (show openB (closeT (fillT k) (a : Int)) ⟨oi, oo, ofl⟩ = true ∧ openV (closeT (fillT k) (a : Int)) ⟨oi, oo, ofl⟩ = a from by
            have hb : openB (closeT (fillT k) (a : Int)) ⟨oi, oo, ofl⟩ = true := by unfold openB; rw [hnb, decide_eq_true (show (1 : Int) ≤ oi by have := H2.out; omega)]; rfl
            refine ⟨hb, ?_⟩
            unfold openV; rw [if_pos hb]; exact gf)
          clear ga gf hin hnb h16 hmin
          have KO := Lib.hid (fun wx (h : F.st wx g (closeT (fillT k) (a : Int))) => F.open_ h (gd.close (a : Int)) ⟨oi, oo, ofl⟩)
          rw [EV.out.1, EV.out.2] at KO
          have KFH := Lib.hid KF
          unfold fptr RetOB RetIB Opn.val at *
          dsimp only at *
          clear KF
          go_wp2_with fail
          refine (KFH.out).mono ?_
          rintro e w3 ⟨rfl, hb3⟩
          have B3 := Lib.hid (HB.out.trans (hb3.mono HB.out.size))
          have C3 := Lib.hid (HC.out.below' hb3)
          have ST3 := Lib.hid (FdFace.below ST.out hb3)
          have KL3 := Lib.hid (KL.out _ ST3.out)
          clear hb3 KFH KL
          go_wp2_with fail
          refine (KL3.out).mono ?_
          rintro e w4 ⟨rfl, hb4⟩
          have B4 := Lib.hid (B3.out.trans (hb4.mono B3.out.size))
          have C4 := Lib.hid (C3.out.below' hb4)
          have ST4 := Lib.hid (FdFace.below ST3.out hb4)
          have KC4 := Lib.hid (KC.out _ ST4.out)
          clear hb4 KL3 KC
          go_wp2_with fail
          refine (KC4.out).mono ?_
          rintro e w5 ⟨rfl, st5, s5⟩
          have C5 := Lib.hid (s5.cells C4.out hq)
          have B5 := Lib.hid (Sd.below B4.out B4.out.size s5 hg)
          have ST5 := Lib.hid st5
          clear st5 s5 KC4
          obtain ⟨⟨xi, xo, xf⟩, hX⟩ : ∃ X, getT (fillT k) (a : Int) = X := ⟨_, rfl⟩
          rw [hX]
          have HXX := Lib.hid hX
          clear hX
          dsimp only
          have hxi : xi = (a : Int) + 1 := by have := EG.out; rw [HXX.out] at this; exact this
          subst hxi
          have y3 : wrap64 ((a : Int) + 1) = (a : Int) + 1 := QW.out
          have y4 : IntKind.i64.wrap ((a : Int) + 1) = (a : Int) + 1 := QW2.out
          have hc6 := Cells.new w5 27 #[.int .i64 ((a : Int) + 1), .int .i64 xo, .int .i64 xf]
          obtain ⟨w6, hw6⟩ : ∃ w6, w5.alloc (.cells #[.int .i64 ((a : Int) + 1), .int .i64 xo, .int .i64 xf] 27) = w6 := ⟨_, rfl⟩
          have hb6 : Below w5.heap.size w5 w6 := by rw [← hw6]; exact below_of_grown (World.grownBy_alloc w5 _ none)
          rw [hw6] at hc6
          have x0 := hc6.cell 0
          have o0 : w6.cell? ⟨w.heap.size, 0, none⟩ = some (.int .i64 oi) := (C5.out.below' hb6).cell 0
          have o1 : w6.cell? ⟨w.heap.size, 1, none⟩ = some (.int .i64 oo) := (C5.out.below' hb6).cell 1
          have o2 : w6.cell? ⟨w.heap.size, 2, none⟩ = some (.int .i64 ofl) := (C5.out.below' hb6).cell 2
          simp only [List.getElem?_toArray, List.getElem?_cons_zero] at x0
          have B6 := Lib.hid (B5.out.trans (hb6.mono B5.out.size))
          have KO6 := Lib.hid (KO.out _ (FdFace.below ST5.out hb6))
          clear hc6 hb6 KO
          go_upto_region 16 with fail
          try rw [hw6]
          go_wp2_with fail
          refine (KO6.out).mono ?_
          rintro e w7 ⟨rfl, st7, s7⟩
          have B7 := Lib.hid (Sd.below B6.out B6.out.size s7 hg)
          clear st7 s7 KO6
          go_wp2
          go_ret
          exact ⟨rfl, B1.out.trans (B7.out.mono B1.out.size)⟩
        · have EV := Lib.hid (show openB (closeT (fillT k) at_) ⟨oi, oo, ofl⟩ = decide (k < 16) ∧ openV (closeT (fillT k) at_) ⟨oi, oo, ofl⟩ = (if k < 16 then k else 0) from by
            have hc : closeT (fillT k) at_ = fillT k := by
              unfold closeT
              rw [fill_out hk31, if_neg]
              rw [Bool.and_eq_true, decide_eq_true_eq, decide_eq_true_eq]
              omega
            have hb : openB (fillT k) ⟨oi, oo, ofl⟩ = decide (k < 16) := by unfold openB; rw [(fill_next k hk31).1, decide_eq_true (show (1 : Int) ≤ oi by have := H2.out; omega), Bool.and_true]
            have hb2 := (fill_open k hk31)
            rw [hc]
            refine ⟨hb, ?_⟩
            have hv := hb2.2
            unfold openV at hv ⊢
            rw [hb]; rw [hb2.1] at hv; exact hv)
          rw [n1, if_pos h16] at EV
          rw [show (decide (0 ≤ at_) && decide (at_ < ((k : Nat) : Int))) = false by rw [Bool.and_eq_false_iff, decide_eq_false_iff_not, decide_eq_false_iff_not]; omega] at KC
          by_cases hz : 0 ≤ at_
          · have m1 : decide (0 ≤ at_) = true := decide_eq_true hz
            have m1b : decide (at_ ≥ 0) = true := decide_eq_true hz
            have m2 : decide (at_ < (k : Int)) = false := decide_eq_false (by omega)
            clear hin hz h16 hmin
            have KO := Lib.hid (fun wx (h : F.st wx g (closeT (fillT k) at_)) => F.open_ h (gd.close at_) ⟨oi, oo, ofl⟩)
            rw [EV.out.1, EV.out.2] at KO
            have KFH := Lib.hid KF
            unfold fptr RetOB RetIB Opn.val at *
            dsimp only at *
            clear KF
            go_wp2_with fail
            refine (KFH.out).mono ?_
            rintro e w3 ⟨rfl, hb3⟩
            have B3 := Lib.hid (HB.out.trans (hb3.mono HB.out.size))
            have C3 := Lib.hid (HC.out.below' hb3)
            have ST3 := Lib.hid (FdFace.below ST.out hb3)
            have KL3 := Lib.hid (KL.out _ ST3.out)
            clear hb3 KFH KL
            go_wp2_with fail
            refine (KL3.out).mono ?_
            rintro e w4 ⟨rfl, hb4⟩
            have B4 := Lib.hid (B3.out.trans (hb4.mono B3.out.size))
            have C4 := Lib.hid (C3.out.below' hb4)
            have ST4 := Lib.hid (FdFace.below ST3.out hb4)
            have KC4 := Lib.hid (KC.out _ ST4.out)
            clear hb4 KL3 KC
            go_wp2_with fail
            refine (KC4.out).mono ?_
            rintro e w5 ⟨rfl, st5, s5⟩
            have C5 := Lib.hid (s5.cells C4.out hq)
            have B5 := Lib.hid (Sd.below B4.out B4.out.size s5 hg)
            have ST5 := Lib.hid st5
            clear st5 s5 KC4
            obtain ⟨⟨xi, xo, xf⟩, hX⟩ : ∃ X, getT (fillT k) at_ = X := ⟨_, rfl⟩
            rw [hX]
            have HXX := Lib.hid hX
            clear hX
            dsimp only
            have hc6 := Cells.new w5 27 #[.int .i64 xi, .int .i64 xo, .int .i64 xf]
            obtain ⟨w6, hw6⟩ : ∃ w6, w5.alloc (.cells #[.int .i64 xi, .int .i64 xo, .int .i64 xf] 27) = w6 := ⟨_, rfl⟩
            have hb6 : Below w5.heap.size w5 w6 := by rw [← hw6]; exact below_of_grown (World.grownBy_alloc w5 _ none)
            rw [hw6] at hc6
            have x0 := hc6.cell 0
            have o0 : w6.cell? ⟨w.heap.size, 0, none⟩ = some (.int .i64 oi) := (C5.out.below' hb6).cell 0
            have o1 : w6.cell? ⟨w.heap.size, 1, none⟩ = some (.int .i64 oo) := (C5.out.below' hb6).cell 1
            have o2 : w6.cell? ⟨w.heap.size, 2, none⟩ = some (.int .i64 ofl) := (C5.out.below' hb6).cell 2
            simp only [List.getElem?_toArray, List.getElem?_cons_zero] at x0
            have B6 := Lib.hid (B5.out.trans (hb6.mono B5.out.size))
            have KO6 := Lib.hid (KO.out _ (FdFace.below ST5.out hb6))
            clear hc6 hb6 KO
            go_upto_region 16 with fail
            try rw [hw6]
            go_wp2_with fail
            refine (KO6.out).mono ?_
            rintro e w7 ⟨rfl, st7, s7⟩
            have B7 := Lib.hid (Sd.below B6.out B6.out.size s7 hg)
            clear st7 s7 KO6
            go_wp2
            go_ret
            exact ⟨rfl, B1.out.trans (B7.out.mono B1.out.size)⟩
          · have m1 : decide (0 ≤ at_) = false := decide_eq_false hz
            have m1b : decide (at_ ≥ 0) = false := decide_eq_false hz
            clear hin hz h16 hmin
            have KO := Lib.hid (fun wx (h : F.st wx g (closeT (fillT k) at_)) => F.open_ h (gd.close at_) ⟨oi, oo, ofl⟩)
            rw [EV.out.1, EV.out.2] at KO
            have KFH := Lib.hid KF
            unfold fptr RetOB RetIB Opn.val at *
            dsimp only at *
            clear KF
            go_wp2_with fail
            refine (KFH.out).mono ?_
            rintro e w3 ⟨rfl, hb3⟩
            have B3 := Lib.hid (HB.out.trans (hb3.mono HB.out.size))
            have C3 := Lib.hid (HC.out.below' hb3)
            have ST3 := Lib.hid (FdFace.below ST.out hb3)
            have KL3 := Lib.hid (KL.out _ ST3.out)
            clear hb3 KFH KL
            go_wp2_with fail
            refine (KL3.out).mono ?_
            rintro e w4 ⟨rfl, hb4⟩
            have B4 := Lib.hid (B3.out.trans (hb4.mono B3.out.size))
            have C4 := Lib.hid (C3.out.below' hb4)
            have ST4 := Lib.hid (FdFace.below ST3.out hb4)
            have KC4 := Lib.hid (KC.out _ ST4.out)
            clear hb4 KL3 KC
            go_wp2_with fail
            refine (KC4.out).mono ?_
            rintro e w5 ⟨rfl, st5, s5⟩
            have C5 := Lib.hid (s5.cells C4.out hq)
            have B5 := Lib.hid (Sd.below B4.out B4.out.size s5 hg)
            have ST5 := Lib.hid st5
            clear st5 s5 KC4
            obtain ⟨⟨xi, xo, xf⟩, hX⟩ : ∃ X, getT (fillT k) at_ = X := ⟨_, rfl⟩
            rw [hX]
            have HXX := Lib.hid hX
            clear hX
            dsimp only
            have hc6 := Cells.new w5 27 #[.int .i64 xi, .int .i64 xo, .int .i64 xf]
            obtain ⟨w6, hw6⟩ : ∃ w6, w5.alloc (.cells #[.int .i64 xi, .int .i64 xo, .int .i64 xf] 27) = w6 := ⟨_, rfl⟩
            have hb6 : Below w5.heap.size w5 w6 := by rw [← hw6]; exact below_of_grown (World.grownBy_alloc w5 _ none)
            rw [hw6] at hc6
            have x0 := hc6.cell 0
            have o0 : w6.cell? ⟨w.heap.size, 0, none⟩ = some (.int .i64 oi) := (C5.out.below' hb6).cell 0
            have o1 : w6.cell? ⟨w.heap.size, 1, none⟩ = some (.int .i64 oo) := (C5.out.below' hb6).cell 1
            have o2 : w6.cell? ⟨w.heap.size, 2, none⟩ = some (.int .i64 ofl) := (C5.out.below' hb6).cell 2
            simp only [List.getElem?_toArray, List.getElem?_cons_zero] at x0
            have B6 := Lib.hid (B5.out.trans (hb6.mono B5.out.size))
            have KO6 := Lib.hid (KO.out _ (FdFace.below ST5.out hb6))
            clear hc6 hb6 KO
            go_upto_region 16 with fail
            try rw [hw6]
            go_wp2_with fail
            refine (KO6.out).mono ?_
            rintro e w7 ⟨rfl, st7, s7⟩
            have B7 := Lib.hid (Sd.below B6.out B6.out.size s7 hg)
            clear st7 s7 KO6
            go_wp2
            go_ret
            exact ⟨rfl, B1.out.trans (B7.out.mono B1.out.size)⟩


      · have n1 : decide (k < 16) = false := decide_eq_false h16
        have n7 : ¬ k < 16 := h16
        have n8 : 16 ≤ k := by omega
        have n10 : (if (16 : Int) < (k : Int) then (16 : Int) else (k : Int)) = 16 := by split <;> omega
        have n2 : decide ((k : Int) ≥ 16) = true := decide_eq_true (by omega)
        have n2b : decide (16 ≤ (k : Int)) = true := decide_eq_true (by omega)
        have n3 : decide ((k : Int) < 16) = false := decide_eq_false (by omega)
        have hmin : min k 16 = 16 := by omega
        have n4 : (16 : Int) ≤ (k : Int) := by omega
        have n5 : min (k : Int) 16 = 16 := by omega
        rw [n1] at KF
        rw [hmin] at KL KC
        by_cases hin : 0 ≤ at_ ∧ at_ < (16 : Int)
        · obtain ⟨a, rfl⟩ : ∃ a : Nat, at_ = (a : Int) := ⟨at_.toNat, by omega⟩
          obtain ⟨ga, gf⟩ := fill_get k hk31 a (by omega) (by omega)
          have m1 : decide (0 ≤ (a : Int)) = true := decide_eq_true hin.1
          have m1b : decide ((a : Int) ≥ 0) = true := decide_eq_true hin.1
          have m2 : decide ((a : Int) < (16 : Int)) = true := decide_eq_true hin.2
          have m3 : a < 16 := by omega
          have m4 : decide (a < 16) = true := decide_eq_true m3
          rw [m1, decide_eq_true (show (a : Int) < ((16 : Nat) : Int) by omega)] at KC
          have EG := Lib.hid ga
          have QW := Lib.hid (fu_w (k := a) (by omega)); have QW2 := Lib.hid (fu_w2 (k := a) (by omega))
          have hnb := nextB_of gf (by omega)
          have EV := Lib.hid (show openB (closeT (fillT k) (a : Int)) ⟨oi, oo, ofl⟩ = true ∧ openV (closeT (fillT k) (a : Int)) ⟨oi, oo, ofl⟩ = a from by
            have hb : openB (closeT (fillT k) (a : Int)) ⟨oi, oo, ofl⟩ = true := by unfold openB; rw [hnb, decide_eq_true (show (1 : Int) ≤ oi by have := H2.out; omega)]; rfl
            refine ⟨hb, ?_⟩
            unfold openV; rw [if_pos hb]; exact gf)
          clear ga gf hin hnb h16 hmin
          have KO := Lib.hid (fun wx (h : F.st wx g (closeT (fillT k) (a : Int))) => F.open_ h (gd.close (a : Int)) ⟨oi, oo, ofl⟩)
          rw [EV.out.1, EV.out.2] at KO
          have KFH := Lib.hid KF
          unfold fptr RetOB RetIB Opn.val at *
          dsimp only at *
          clear KF
          go_wp2_with fail
          refine (KFH.out).mono ?_
          rintro e w3 ⟨rfl, hb3⟩
          have B3 := Lib.hid (HB.out.trans (hb3.mono HB.out.size))
          have C3 := Lib.hid (HC.out.below' hb3)
          have ST3 := Lib.hid (FdFace.below ST.out hb3)
          have KL3 := Lib.hid (KL.out _ ST3.out)
          clear hb3 KFH KL
          go_wp2_with fail
          refine (KL3.out).mono ?_
          rintro e w4 ⟨rfl, hb4⟩
          have B4 := Lib.hid (B3.out.trans (hb4.mono B3.out.size))
          have C4 := Lib.hid (C3.out.below' hb4)
          have ST4 := Lib.hid (FdFace.below ST3.out hb4)
          have KC4 := Lib.hid (KC.out _ ST4.out)
          clear hb4 KL3 KC
          go_wp2_with fail
          refine (KC4.out).mono ?_
          rintro e w5 ⟨rfl, st5, s5⟩
          have C5 := Lib.hid (s5.cells C4.out hq)
          have B5 := Lib.hid (Sd.below B4.out B4.out.size s5 hg)
          have ST5 := Lib.hid st5
          clear st5 s5 KC4
          obtain ⟨⟨xi, xo, xf⟩, hX⟩ : ∃ X, getT (fillT k) (a : Int) = X := ⟨_, rfl⟩
          rw [hX]
          have HXX := Lib.hid hX
          clear hX
          dsimp only
          have hxi : xi = (a : Int) + 1 := by have := EG.out; rw [HXX.out] at this; exact this
          subst hxi
          have y3 : wrap64 ((a : Int) + 1) = (a : Int) + 1 := QW.out
          have y4 : IntKind.i64.wrap ((a : Int) + 1) = (a : Int) + 1 := QW2.out
          have hc6 := Cells.new w5 27 #[.int .i64 ((a : Int) + 1), .int .i64 xo, .int .i64 xf]
          obtain ⟨w6, hw6⟩ : ∃ w6, w5.alloc (.cells #[.int .i64 ((a : Int) + 1), .int .i64 xo, .int .i64 xf] 27) = w6 := ⟨_, rfl⟩
          have hb6 : Below w5.heap.size w5 w6 := by rw [← hw6]; exact below_of_grown (World.grownBy_alloc w5 _ none)
          rw [hw6] at hc6
          have x0 := hc6.cell 0
          have o0 : w6.cell? ⟨w.heap.size, 0, none⟩ = some (.int .i64 oi) := (C5.out.below' hb6).cell 0
          have o1 : w6.cell? ⟨w.heap.size, 1, none⟩ = some (.int .i64 oo) := (C5.out.below' hb6).cell 1
          have o2 : w6.cell? ⟨w.heap.size, 2, none⟩ = some (.int .i64 ofl) := (C5.out.below' hb6).cell 2
          simp only [List.getElem?_toArray, List.getElem?_cons_zero] at x0
          have B6 := Lib.hid (B5.out.trans (hb6.mono B5.out.size))
          have KO6 := Lib.hid (KO.out _ (FdFace.below ST5.out hb6))
          clear hc6 hb6 KO
          go_upto_region 16 with fail
          try rw [hw6]
          go_wp2_with fail
          refine (KO6.out).mono ?_
          rintro e w7 ⟨rfl, st7, s7⟩
          have B7 := Lib.hid (Sd.below B6.out B6.out.size s7 hg)
          clear st7 s7 KO6
          go_wp2
          go_ret
          exact ⟨rfl, B1.out.trans (B7.out.mono B1.out.size)⟩
        · have EV := Lib.hid (show openB (closeT (fillT k) at_) ⟨oi, oo, ofl⟩ = decide (k < 16) ∧ openV (closeT (fillT k) at_) ⟨oi, oo, ofl⟩ = (if k < 16 then k else 0) from by
            have hc : closeT (fillT k) at_ = fillT k := by
              unfold closeT
              rw [fill_out hk31, if_neg]
              rw [Bool.and_eq_true, decide_eq_true_eq, decide_eq_true_eq]
              omega
            have hb : openB (fillT k) ⟨oi, oo, ofl⟩ = decide (k < 16) := by unfold openB; rw [(fill_next k hk31).1, decide_eq_true (show (1 : Int) ≤ oi by have := H2.out; omega), Bool.and_true]
            have hb2 := (fill_open k hk31)
            rw [hc]
            refine ⟨hb, ?_⟩
            have hv := hb2.2
            unfold openV at hv ⊢
            rw [hb]; rw [hb2.1] at hv; exact hv)
          rw [n1, if_neg h16] at EV
          rw [show (decide (0 ≤ at_) && decide (at_ < ((16 : Nat) : Int))) = false by rw [Bool.and_eq_false_iff, decide_eq_false_iff_not, decide_eq_false_iff_not]; omega] at KC
          by_cases hz : 0 ≤ at_
          · have m1 : decide (0 ≤ at_) = true := decide_eq_true hz
            have m1b : decide (at_ ≥ 0) = true := decide_eq_true hz
            have m2 : decide (at_ < (16 : Int)) = false := decide_eq_false (by omega)
            clear hin hz h16 hmin
            have KO := Lib.hid (fun wx (h : F.st wx g (closeT (fillT k) at_)) => F.open_ h (gd.close at_) ⟨oi, oo, ofl⟩)
            rw [EV.out.1, EV.out.2] at KO
            have KFH := Lib.hid KF
            unfold fptr RetOB RetIB Opn.val at *
            dsimp only at *
            clear KF
            go_wp2_with fail
            refine (KFH.out).mono ?_
            rintro e w3 ⟨rfl, hb3⟩
            have B3 := Lib.hid (HB.out.trans (hb3.mono HB.out.size))
            have C3 := Lib.hid (HC.out.below' hb3)
            have ST3 := Lib.hid (FdFace.below ST.out hb3)
            have KL3 := Lib.hid (KL.out _ ST3.out)
            clear hb3 KFH KL
            go_wp2_with fail
            refine (KL3.out).mono ?_
            rintro e w4 ⟨rfl, hb4⟩
            have B4 := Lib.hid (B3.out.trans (hb4.mono B3.out.size))
            have C4 := Lib.hid (C3.out.below' hb4)
            have ST4 := Lib.hid (FdFace.below ST3.out hb4)
            have KC4 := Lib.hid (KC.out _ ST4.out)
            clear hb4 KL3 KC
            go_wp2_with fail
            refine (KC4.out).mono ?_
            rintro e w5 ⟨rfl, st5, s5⟩
            have C5 := Lib.hid (s5.cells C4.out hq)
            have B5 := Lib.hid (Sd.below B4.out B4.out.size s5 hg)
            have ST5 := Lib.hid st5
            clear st5 s5 KC4
            obtain ⟨⟨xi, xo, xf⟩, hX⟩ : ∃ X, getT (fillT k) at_ = X := ⟨_, rfl⟩
            rw [hX]
            have HXX := Lib.hid hX
            clear hX
            dsimp only
            have hc6 := Cells.new w5 27 #[.int .i64 xi, .int .i64 xo, .int .i64 xf]
            obtain ⟨w6, hw6⟩ : ∃ w6, w5.alloc (.cells #[.int .i64 xi, .int .i64 xo, .int .i64 xf] 27) = w6 := ⟨_, rfl⟩
            have hb6 : Below w5.heap.size w5 w6 := by rw [← hw6]; exact below_of_grown (World.grownBy_alloc w5 _ none)
            rw [hw6] at hc6
            have x0 := hc6.cell 0
            have o0 : w6.cell? ⟨w.heap.size, 0, none⟩ = some (.int .i64 oi) := (C5.out.below' hb6).cell 0
            have o1 : w6.cell? ⟨w.heap.size, 1, none⟩ = some (.int .i64 oo) := (C5.out.below' hb6).cell 1
            have o2 : w6.cell? ⟨w.heap.size, 2, none⟩ = some (.int .i64 ofl) := (C5.out.below' hb6).cell 2
            simp only [List.getElem?_toArray, List.getElem?_cons_zero] at x0
            have B6 := Lib.hid (B5.out.trans (hb6.mono B5.out.size))
            have KO6 := Lib.hid (KO.out _ (FdFace.below ST5.out hb6))
            clear hc6 hb6 KO
            go_upto_region 16 with fail
            try rw [hw6]
            go_wp2_with fail
            refine (KO6.out).mono ?_
            rintro e w7 ⟨rfl, st7, s7⟩
            have B7 := Lib.hid (Sd.below B6.out B6.out.size s7 hg)
            clear st7 s7 KO6
            go_wp2
            go_ret
            exact ⟨rfl, B1.out.trans (B7.out.mono B1.out.size)⟩
          · have m1 : decide (0 ≤ at_) = false := decide_eq_false hz
            have m1b : decide (at_ ≥ 0) = false := decide_eq_false hz
            clear hin hz h16 hmin
            have KO := Lib.hid (fun wx (h : F.st wx g (closeT (fillT k) at_)) => F.open_ h (gd.close at_) ⟨oi, oo, ofl⟩)
            rw [EV.out.1, EV.out.2] at KO
            have KFH := Lib.hid KF
            unfold fptr RetOB RetIB Opn.val at *
            dsimp only at *
            clear KF
            go_wp2_with fail
            refine (KFH.out).mono ?_
            rintro e w3 ⟨rfl, hb3⟩
            have B3 := Lib.hid (HB.out.trans (hb3.mono HB.out.size))
            have C3 := Lib.hid (HC.out.below' hb3)
            have ST3 := Lib.hid (FdFace.below ST.out hb3)
            have KL3 := Lib.hid (KL.out _ ST3.out)
            clear hb3 KFH KL
            go_wp2_with fail
            refine (KL3.out).mono ?_
            rintro e w4 ⟨rfl, hb4⟩
            have B4 := Lib.hid (B3.out.trans (hb4.mono B3.out.size))
            have C4 := Lib.hid (C3.out.below' hb4)
            have ST4 := Lib.hid (FdFace.below ST3.out hb4)
            have KC4 := Lib.hid (KC.out _ ST4.out)
            clear hb4 KL3 KC
            go_wp2_with fail
            refine (KC4.out).mono ?_
            rintro e w5 ⟨rfl, st5, s5⟩
            have C5 := Lib.hid (s5.cells C4.out hq)
            have B5 := Lib.hid (Sd.below B4.out B4.out.size s5 hg)
            have ST5 := Lib.hid st5
            clear st5 s5 KC4
            obtain ⟨⟨xi, xo, xf⟩, hX⟩ : ∃ X, getT (fillT k) at_ = X := ⟨_, rfl⟩
            rw [hX]
            have HXX := Lib.hid hX
            clear hX
            dsimp only
            have hc6 := Cells.new w5 27 #[.int .i64 xi, .int .i64 xo, .int .i64 xf]
            obtain ⟨w6, hw6⟩ : ∃ w6, w5.alloc (.cells #[.int .i64 xi, .int .i64 xo, .int .i64 xf] 27) = w6 := ⟨_, rfl⟩
            have hb6 : Below w5.heap.size w5 w6 := by rw [← hw6]; exact below_of_grown (World.grownBy_alloc w5 _ none)
            rw [hw6] at hc6
            have x0 := hc6.cell 0
            have o0 : w6.cell? ⟨w.heap.size, 0, none⟩ = some (.int .i64 oi) := (C5.out.below' hb6).cell 0
            have o1 : w6.cell? ⟨w.heap.size, 1, none⟩ = some (.int .i64 oo) := (C5.out.below' hb6).cell 1
            have o2 : w6.cell? ⟨w.heap.size, 2, none⟩ = some (.int .i64 ofl) := (C5.out.below' hb6).cell 2
            simp only [List.getElem?_toArray, List.getElem?_cons_zero] at x0
            have B6 := Lib.hid (B5.out.trans (hb6.mono B5.out.size))
            have KO6 := Lib.hid (KO.out _ (FdFace.below ST5.out hb6))
            clear hc6 hb6 KO
            go_upto_region 16 with fail
            try rw [hw6]
            go_wp2_with fail
            refine (KO6.out).mono ?_
            rintro e w7 ⟨rfl, st7, s7⟩
            have B7 := Lib.hid (Sd.below B6.out B6.out.size s7 hg)
            clear st7 s7 KO6
            go_wp2
            go_ret
            exact ⟨rfl, B1.out.trans (B7.out.mono B1.out.size)⟩
end Go.Proofs.Ytcmgngjafnpnoaa
