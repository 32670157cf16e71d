import Derived.Test.YthonpifdhjpbgaaRows
import Derived.Test.YthonpifdhjpbgaaMtAwake
import Derived.Test.YthonpifdhjpbgaaMtQ
import Derived.Test.YthonpifdhjpbgaaLaw
import Derived.Deep.RegionHeld3
import Derived.Deep.DeepCutAuto
import Derived.Deep.RegionWith
namespace Go.Proofs.Ythonpifdhjpbgaa
open Wd So Go.ChangeShapes Go.WideShapes Go.RowKit
set_option linter.unusedVariables false
set_option linter.unusedSimpArgs false

/-- some draws on -/
def Drawn (w w' : World) : Prop := ∃ k, w' = w.drewN k
theorem drawn_two (w : World) (a b : Nat) : Drawn w ((w.drewN a).drewN b) := ⟨a + b, by first | rfl | rw [World.drewN_drewN]⟩

set_option maxRecDepth 100000 in
theorem parts_far (A : Option Addr) (n c : Nat) (num den : Int) (w : World) (hn : 40 < n) : Calls Try.prog 3 #[.slice A n c, .int .i64 num, .int .i64 den] w (TrueB w) := by
  have hfew : decide ((n : Int) ≤ 40) = false := decide_eq_false (by omega)
  have HFEW := Lib.hid hfew
  clear hfew
  go_enter Try.func3, Try.ntmps3
  go_wp2_with fail
  refine (awake_true _).mono ?_
  rintro e w0 ⟨rfl, hb⟩
  have HB := Lib.hid hb
  clear hb
  go_wp2_with fail
  refine (few3 A n c false HFEW.out _).mono ?_
  rintro e w1 ⟨rfl, rfl⟩
  go_wp2
  go_ret
  exact ⟨rfl, HB.out⟩

set_option maxRecDepth 100000 in
set_option maxHeartbeats 4000000 in
theorem parts_any (A : Option Addr) (c : Nat) (xs : List Nat) (num den : Int) (w : World) (h0 : 0 < xs.length) (hn : xs.length ≤ 40) (hwd : Words xs) (hr : Row w w.heap.size A xs.length (xs.map (Value.float .f64))) :
    Calls Try.prog 3 #[.slice A xs.length c, .int .i64 num, .int .i64 den] w (TrueB w) := by
  have hfew : decide ((xs.length : Int) ≤ 40) = true := decide_eq_true (by omega)
  have HFEW := Lib.hid hfew; have HR := Lib.hid hr; have HW := Lib.hid hwd
  clear hfew hr hwd
  have hpos : decide ((0 : Int) < (xs.length : Int)) = true := decide_eq_true (by omega)
  go_enter Try.func3, Try.ntmps3
  go_wp2_with fail
  refine (awake_true _).mono ?_
  rintro e w0 ⟨rfl, hb⟩
  have HB := Lib.hid hb
  have HR0 := Lib.hid ((HR.out.below hb).more hb.size)
  clear hb
  go_wp2_with fail
  refine (few3 A xs.length c true HFEW.out _).mono ?_
  rintro e w1 ⟨rfl, rfl⟩
  go_wp2_with fail
  refine (refSorted_any A c xs _ (by omega) HR0.out).mono ?_
  rintro e w1 ⟨v, os, rfl, hpm, hso, hown, hb1⟩
  obtain ⟨As, cs, rfl, hrow⟩ := Row.of_own hown
  have HPM := Lib.hid hpm; have HSO := Lib.hid hso; have HROW1 := Lib.hid hrow
  have HB1 := Lib.hid (HB.out.trans (hb1.mono HB.out.size))
  have HR1 := Lib.hid ((HR0.out.below hb1).more hb1.size)
  have hol : os.length = xs.length := hpm.length_eq
  have HOL := Lib.hid hol
  clear hpm hso hown hrow hb1 hol
  go_wp2_with fail
  refine (mean_some xs A c _ h0 (by omega) HR1.out).mono ?_
  rintro e w2 ⟨mean, rfl, hwm, hm0, hm1, hb2⟩
  have HM := Lib.hid (hm1 rfl)
  have HB2 := Lib.hid (HB1.out.trans (hb2.mono HB1.out.size))
  have HR2 := Lib.hid ((HR1.out.below hb2).more hb2.size)
  have HROW2 := Lib.hid ((HROW1.out.below hb2).more hb2.size)
  clear hm0 hm1 hb2
  go_wp2_with fail
  refine (median_some xs A c xs.length _ rfl h0 hn HW.out HR2.out os HPM.out HSO.out).mono ?_
  rintro e w3 ⟨med, rfl, hwmed, hm0, hm1, hb2⟩
  have HMED := Lib.hid (hm1 rfl)
  have HB3 := Lib.hid (HB2.out.trans (hb2.mono HB2.out.size))
  have HR3 := Lib.hid ((HR2.out.below hb2).more hb2.size)
  have HROW3 := Lib.hid ((HROW2.out.below hb2).more hb2.size)
  clear hm0 hm1 hb2
  go_wp2_with fail
  refine (quantile_of xs A c xs.length num den _ rfl hn HW.out HR3.out os HPM.out HSO.out).mono ?_
  rintro e w4 ⟨q, rfl, hwq, hm0, hm1, hb2⟩
  have HQ0 := Lib.hid hm0; have HQ1 := Lib.hid hm1
  have HB4 := Lib.hid (HB3.out.trans (hb2.mono HB3.out.size))
  have HR4 := Lib.hid ((HR3.out.below hb2).more hb2.size)
  have HROW4 := Lib.hid ((HROW3.out.below hb2).more hb2.size)
  clear hm0 hm1 hb2
  obtain ⟨iq, hiq⟩ : ∃ iq, mayQ xs.length num den = iq := ⟨_, rfl⟩
  rw [hiq]
  have HIQ := Lib.hid hiq
  clear hiq
  obtain ⟨h, hh1, hh2⟩ : ∃ h : Nat, (xs.length : Int) / 2 = (h : Int) ∧ h = xs.length / 2 := ⟨xs.length / 2, by omega, rfl⟩
  have HH1 := Lib.hid hh1; have HH2 := Lib.hid hh2
  clear hh1 hh2
  obtain ⟨b, off, z, rfl, hbb, hz, cz⟩ := HROW4.out.get (k := h) (by have := HH2.out; omega)
  have HZ := Lib.hid hz; have CZ := Lib.hid cz
  clear hz cz
  go_upto_region 10 with fail
  go_cut [15] from 42 to 60 (fun c wx => c = .bool iq ∧ wx = w4)
  case first =>
    rcases mayQ_cases xs.length num den h0 with ⟨hq, k1, k2, k3, k4⟩ | ⟨hq, k1⟩ | ⟨hq, k1, k2⟩ | ⟨hq, k1, k2, k3⟩ | ⟨hq, k1, k2, k3, k4⟩
    all_goals
      rw [HIQ.out] at hq
      subst hq
      go_wp2_with fail
      go_meet
      exact ⟨by first | rfl | (simp; omega), rfl⟩
  case rest =>
  obtain ⟨rfl, rfl⟩ := hcut
  go_upto_region 11 with fail
  go_cut [102] from 61 to 101 (fun c wx => c = .bool false ∧ Drawn wc wx)
  case first =>
    cases iq
    · obtain rfl := HQ0.out HIQ.out
      go_wp2_with fail
      refine (sum_any xs A c _ (by omega) HR4.out).mono ?_
      rintro e w5 ⟨s1, n1, rfl, hw1, hc1, rfl⟩
      go_wp2_with fail
      refine (refSum_any xs A c _ (by omega) (HR4.out.drewN _)).mono ?_
      rintro e w5 ⟨s2, n2, rfl, hw2, hc2, rfl⟩
      have HC12 := Lib.hid (hc1.trans hc2.symm)
      clear hc1 hc2
      go_wp2_with fail
      refine (same3 s1 s2 HC12.out _).mono ?_
      rintro e w5 ⟨rfl, rfl⟩
      go_wp2_with fail
      go_meet
      exact ⟨rfl, _, rfl⟩
    · go_wp2_with fail
      refine (sum_any xs A c _ (by omega) HR4.out).mono ?_
      rintro e w5 ⟨s1, n1, rfl, hw1, hc1, rfl⟩
      go_wp2_with fail
      refine (refSum_any xs A c _ (by omega) (HR4.out.drewN _)).mono ?_
      rintro e w5 ⟨s2, n2, rfl, hw2, hc2, rfl⟩
      have HC12 := Lib.hid (hc1.trans hc2.symm)
      clear hc1 hc2
      go_wp2_with fail
      refine (same3 s1 s2 HC12.out _).mono ?_
      rintro e w5 ⟨rfl, rfl⟩
      go_wp2_with fail
      go_meet
      exact ⟨rfl, _, rfl⟩
  case rest =>
  obtain ⟨rfl, k1, rfl⟩ := hcut
  go_upto_region 13 with fail
  go_cut [113] from 103 to 112 (fun c wx => c = .bool false ∧ Drawn wc wx)
  case first =>
    go_wp2_with fail
    refine (refSum_any xs A c _ (by omega) (HR4.out.drewN _)).mono ?_
    rintro e w5 ⟨s3, n3, rfl, hw3, hc3, rfl⟩
    obtain ⟨s4, n4, e4, hw4, hc4⟩ := arith_dv Try.prog .quo _ 26 s3 (floatOfInt .f64 (xs.length : Int)) (wc.drewN (k1 + n3)) (.inl ⟨rfl, rfl⟩)
    have HC4 := Lib.hid (show Fl.cv mean = Fl.cv s4 by rw [HM.out, hc4, hc3]; rfl)
    clear hc3 hc4
    go_wp2_with fail
    refine (same3 mean s4 HC4.out _).mono ?_
    rintro e w5 ⟨rfl, rfl⟩
    go_wp2_with fail
    go_meet
    exact ⟨rfl, _, rfl⟩
  case rest =>
  obtain ⟨rfl, k2, rfl⟩ := hcut
  go_upto_region 15 with fail
  go_cut [156] from 114 to 155 (fun c wx => c = .bool false ∧ Drawn wc wx)
  case first =>
    have hh1 := HH1.out; have cz := CZ.out
    have i0 : (0 : Int) ≤ (h : Int) := by omega
    have i1 : (h : Int) < (xs.length : Int) := by omega
    have m2 : (xs.length : Int).tdiv 2 = (h : Int) := by rw [Int.tdiv_eq_ediv_of_nonneg (by omega)]; omega
    have m3 : IntKind.i64.wrap (h : Int) = (h : Int) := IntWalk.i64_in _ (by omega)
    rcases Nat.mod_two_eq_zero_or_one xs.length with hm | hm
    · have h1 : 1 ≤ h := by omega
      obtain ⟨b', off', z1, heq, _, hz1, cz1⟩ := HROW4.out.get (k := h - 1) (by omega)
      obtain ⟨rfl, rfl⟩ : b = b' ∧ off = off' := by injection heq with e1; injection e1 with e1 e2; exact ⟨e1, e2⟩
      have hsm : Fl.cv med = Fl.midO (Fl.cv z1) (Fl.cv z) := by rw [HMED.out]; unfold medO; rw [if_neg (by omega), ← HH2.out, at_of HZ.out, at_of hz1]
      have HSM := Lib.hid hsm
      have hmi : ((xs.length : Int) % 2 == 1) = false := by rw [beq_eq_false_iff_ne]; omega
      have hmz : ((xs.length : Int) % 2 == 0) = true := by rw [beq_iff_eq]; omega
      have m1 : (xs.length : Int).tmod 2 = 0 := by rw [Int.tmod_eq_emod_of_nonneg (by omega)]; omega
      have m4 : IntKind.i64.wrap ((h : Int) - 1) = (h : Int) - 1 := IntWalk.i64_in _ (by omega)
      have m5 : ((h : Int) - 1).toNat = h - 1 := by omega
      have m6 : (0 : Int) ≤ (h : Int) - 1 := by omega
      have m7 : (h : Int) - 1 < (xs.length : Int) := by omega
      have m8 : (1 : Int) ≤ (h : Int) := by omega
      obtain ⟨RQ, NQ, hqf, hqs⟩ := quo_fn Try.prog 26
      obtain ⟨RA, NA, haf, has⟩ := add_fn Try.prog 26
      have HQS := Lib.hid hqs; have HAS := Lib.hid has
      clear hqs has hm hsm heq hz1
      --EVEN
      refine wp_region_held_drew (S := (fun w' => w'.cell? ⟨b, off + h, none⟩ = some (.float .f64 z) ∧ w'.cell? ⟨b, off + (h - 1), none⟩ = some (.float .f64 z1))) (by kernel_rfl) ?_ (fun hHeld => ?_)
      · (first | (dsimp only; simp [*]) | simp [*])
      refine wpAnyH_take (i := 0) (oi := ⟨some 114, _, _, _, _, _⟩) (v := ?_) rfl (by kernel_rfl) (by kernel_rfl) (by kernel_rfl) (fun _ _ _ h => h) (Or.inl ⟨by rfl, ?hy⟩) (by assumption) ?_
      case hy => (intro w' hSw; (try dsimp only at hSw); go_simp; (try with_reducible rfl))
      try simp only [Act.put, List.setIfInBounds_toArray, List.set_cons_zero, List.set_cons_succ]
      refine wpAnyH_take (i := 1) (oi := ⟨some 115, _, _, _, _, _⟩) (v := ?_) rfl (by kernel_rfl) (by kernel_rfl) (by kernel_rfl) (fun _ _ _ h => h) (Or.inl ⟨by rfl, ?hy⟩) (by assumption) ?_
      case hy => (intro w' hSw; (try dsimp only at hSw); go_simp; (try with_reducible rfl))
      try simp only [Act.put, List.setIfInBounds_toArray, List.set_cons_zero, List.set_cons_succ]
      refine wpAnyH_take (i := 2) (oi := ⟨some 116, _, _, _, _, _⟩) (v := ?_) rfl (by kernel_rfl) (by kernel_rfl) (by kernel_rfl) (fun _ _ _ h => h) (Or.inl ⟨by rfl, ?hy⟩) (by assumption) ?_
      case hy => (intro w' hSw; (try dsimp only at hSw); go_simp; (try with_reducible rfl))
      try simp only [Act.put, List.setIfInBounds_toArray, List.set_cons_zero, List.set_cons_succ]
      refine wpAnyH_take (i := 3) (oi := ⟨some 117, _, _, _, _, _⟩) (v := ?_) rfl (by kernel_rfl) (by kernel_rfl) (by kernel_rfl) (fun _ _ _ h => h) (Or.inl ⟨by rfl, ?hy⟩) (by assumption) ?_
      case hy => (intro w' hSw; (try dsimp only at hSw); go_simp; (try with_reducible rfl))
      try simp only [Act.put, List.setIfInBounds_toArray, List.set_cons_zero, List.set_cons_succ]
      refine wpAnyH_take (i := 4) (oi := ⟨some 118, _, _, _, _, _⟩) (v := ?_) rfl (by kernel_rfl) (by kernel_rfl) (by kernel_rfl) (fun _ _ _ h => h) (Or.inl ⟨by rfl, ?hy⟩) (by assumption) ?_
      case hy => (intro w' hSw; (try dsimp only at hSw); go_simp; (try with_reducible rfl))
      try simp only [Act.put, List.setIfInBounds_toArray, List.set_cons_zero, List.set_cons_succ]
      refine wpAnyH_take (i := 5) (oi := ⟨some 119, _, _, _, _, _⟩) (v := ?_) rfl (by kernel_rfl) (by kernel_rfl) (by kernel_rfl) (fun _ _ _ h => h) (Or.inl ⟨by rfl, ?hy⟩) (by assumption) ?_
      case hy => (intro w' hSw; (try dsimp only at hSw); go_simp; (try with_reducible rfl))
      try simp only [Act.put, List.setIfInBounds_toArray, List.set_cons_zero, List.set_cons_succ]
      refine wpAnyH_take (i := 6) (oi := ⟨some 120, _, _, _, _, _⟩) (v := ?_) rfl (by kernel_rfl) (by kernel_rfl) (by kernel_rfl) (fun _ _ _ h => h) (Or.inl ⟨by rfl, ?hy⟩) (by assumption) ?_
      case hy => (intro w' hSw; (try dsimp only at hSw); go_simp; (try with_reducible rfl))
      try simp only [Act.put, List.setIfInBounds_toArray, List.set_cons_zero, List.set_cons_succ]
      refine wpAnyH_take (i := 7) (oi := ⟨some 121, _, _, _, _, _⟩) (v := undef) rfl (by kernel_rfl) (by kernel_rfl) (by kernel_rfl) (fun _ _ _ h => h) (Or.inr ⟨by rfl, rfl⟩) (by assumption) ?_
      try simp only [Act.put, List.setIfInBounds_toArray, List.set_cons_zero, List.set_cons_succ]
      refine wpAnyH_take (i := 8) (oi := ⟨some 122, _, _, _, _, _⟩) (v := undef) rfl (by kernel_rfl) (by kernel_rfl) (by kernel_rfl) (fun _ _ _ h => h) (Or.inr ⟨by rfl, rfl⟩) (by assumption) ?_
      try simp only [Act.put, List.setIfInBounds_toArray, List.set_cons_zero, List.set_cons_succ]
      refine wpAnyH_take (i := 9) (oi := ⟨some 123, _, _, _, _, _⟩) (v := undef) rfl (by kernel_rfl) (by kernel_rfl) (by kernel_rfl) (fun _ _ _ h => h) (Or.inr ⟨by rfl, rfl⟩) (by assumption) ?_
      try simp only [Act.put, List.setIfInBounds_toArray, List.set_cons_zero, List.set_cons_succ]
      refine wpAnyH_take (i := 10) (oi := ⟨some 124, _, _, _, _, _⟩) (v := undef) rfl (by kernel_rfl) (by kernel_rfl) (by kernel_rfl) (fun _ _ _ h => h) (Or.inr ⟨by rfl, rfl⟩) (by assumption) ?_
      try simp only [Act.put, List.setIfInBounds_toArray, List.set_cons_zero, List.set_cons_succ]
      refine wpAnyH_take (i := 11) (oi := ⟨some 125, _, _, _, _, _⟩) (v := undef) rfl (by kernel_rfl) (by kernel_rfl) (by kernel_rfl) (fun _ _ _ h => h) (Or.inr ⟨by rfl, rfl⟩) (by assumption) ?_
      try simp only [Act.put, List.setIfInBounds_toArray, List.set_cons_zero, List.set_cons_succ]
      refine wpAnyH_take (i := 12) (oi := ⟨some 126, _, _, _, _, _⟩) (v := undef) rfl (by kernel_rfl) (by kernel_rfl) (by kernel_rfl) (fun _ _ _ h => h) (Or.inr ⟨by rfl, rfl⟩) (by assumption) ?_
      try simp only [Act.put, List.setIfInBounds_toArray, List.set_cons_zero, List.set_cons_succ]
      refine wpAnyH_take (i := 13) (oi := ⟨some 127, _, _, _, _, _⟩) (v := undef) rfl (by kernel_rfl) (by kernel_rfl) (by kernel_rfl) (fun _ _ _ h => h) (Or.inr ⟨by rfl, rfl⟩) (by assumption) ?_
      try simp only [Act.put, List.setIfInBounds_toArray, List.set_cons_zero, List.set_cons_succ]
      refine wpAnyH_take (i := 14) (oi := ⟨some 128, _, _, _, _, _⟩) (v := undef) rfl (by kernel_rfl) (by kernel_rfl) (by kernel_rfl) (fun _ _ _ h => h) (Or.inr ⟨by rfl, rfl⟩) (by assumption) ?_
      try simp only [Act.put, List.setIfInBounds_toArray, List.set_cons_zero, List.set_cons_succ]
      refine wpAnyH_take (i := 15) (oi := ⟨some 129, _, _, _, _, _⟩) (v := ?_) rfl (by kernel_rfl) (by kernel_rfl) (by kernel_rfl) (fun _ _ _ h => h) (Or.inl ⟨by rfl, ?hy⟩) (by assumption) ?_
      case hy => (intro w' hSw; (try dsimp only at hSw); go_simp; (try with_reducible rfl))
      try simp only [Act.put, List.setIfInBounds_toArray, List.set_cons_zero, List.set_cons_succ]
      refine wpAnyH_take (i := 16) (oi := ⟨some 130, _, _, _, _, _⟩) (v := ?_) rfl (by kernel_rfl) (by kernel_rfl) (by kernel_rfl) (fun _ _ _ h => h) (Or.inl ⟨by rfl, ?hy⟩) (by assumption) ?_
      case hy => (intro w' hSw; (try dsimp only at hSw); go_simp; (try with_reducible rfl))
      try simp only [Act.put, List.setIfInBounds_toArray, List.set_cons_zero, List.set_cons_succ]
      refine wpAnyH_take (i := 17) (oi := ⟨some 131, _, _, _, _, _⟩) (v := ?_) rfl (by kernel_rfl) (by kernel_rfl) (by kernel_rfl) (fun _ _ _ h => h) (Or.inl ⟨by rfl, ?hy⟩) (by assumption) ?_
      case hy => (intro w' hSw; (try dsimp only at hSw); go_simp; (try with_reducible rfl))
      try simp only [Act.put, List.setIfInBounds_toArray, List.set_cons_zero, List.set_cons_succ]
      refine wpAnyH_take (i := 18) (oi := ⟨some 132, _, _, _, _, _⟩) (v := ?_) rfl (by kernel_rfl) (by kernel_rfl) (by kernel_rfl) (fun _ _ _ h => h) (Or.inl ⟨by rfl, ?hy⟩) (by assumption) ?_
      case hy => (intro w' hSw; (try dsimp only at hSw); go_simp; (try with_reducible rfl))
      try simp only [Act.put, List.setIfInBounds_toArray, List.set_cons_zero, List.set_cons_succ]
      refine wpAnyH_take (i := 19) (oi := ⟨some 133, _, _, _, _, _⟩) (v := ?_) rfl (by kernel_rfl) (by kernel_rfl) (by kernel_rfl) (fun _ _ _ h => h) (Or.inl ⟨by rfl, ?hy⟩) (by assumption) ?_
      case hy => (intro w' hSw; (try dsimp only at hSw); go_simp; (try with_reducible rfl))
      try simp only [Act.put, List.setIfInBounds_toArray, List.set_cons_zero, List.set_cons_succ]
      refine wpAnyH_take (i := 20) (oi := ⟨some 134, _, _, _, _, _⟩) (v := ?_) rfl (by kernel_rfl) (by kernel_rfl) (by kernel_rfl) (fun _ _ _ h => h) (Or.inl ⟨by rfl, ?hy⟩) (by assumption) ?_
      case hy => (intro w' hSw; (try dsimp only at hSw); go_simp; (try with_reducible rfl))
      try simp only [Act.put, List.setIfInBounds_toArray, List.set_cons_zero, List.set_cons_succ]
      refine wpAnyH_take (i := 21) (oi := ⟨some 135, _, _, _, _, _⟩) (v := ?_) rfl (by kernel_rfl) (by kernel_rfl) (by kernel_rfl) (fun _ _ _ h => h) (Or.inl ⟨by rfl, ?hy⟩) (by assumption) ?_
      case hy => (intro w' hSw; (try dsimp only at hSw); go_simp; (try with_reducible rfl))
      try simp only [Act.put, List.setIfInBounds_toArray, List.set_cons_zero, List.set_cons_succ]
      refine wpAnyH_take (i := 22) (oi := ⟨some 136, _, _, _, _, _⟩) (v := ?_) rfl (by kernel_rfl) (by kernel_rfl) (by kernel_rfl) (fun _ _ _ h => h) (Or.inl ⟨by rfl, ?hy⟩) (by assumption) ?_
      case hy => (intro w' hSw; (try dsimp only at hSw); go_simp; (try with_reducible rfl))
      try simp only [Act.put, List.setIfInBounds_toArray, List.set_cons_zero, List.set_cons_succ]
      refine wpAnyH_take (i := 23) (oi := ⟨some 137, _, _, _, _, _⟩) (v := ?_) rfl (by kernel_rfl) (by kernel_rfl) (by kernel_rfl) (fun _ _ _ h => h) (Or.inl ⟨by rfl, ?hy⟩) (by assumption) ?_
      case hy => (intro w' hSw; (try dsimp only at hSw); go_simp; (try with_reducible rfl))
      try simp only [Act.put, List.setIfInBounds_toArray, List.set_cons_zero, List.set_cons_succ]
      refine wpAnyH_take (i := 24) (oi := ⟨some 138, _, _, _, _, _⟩) (v := ?_) rfl (by kernel_rfl) (by kernel_rfl) (by kernel_rfl) (fun _ _ _ h => h) (Or.inl ⟨by rfl, ?hy⟩) (by assumption) ?_
      case hy => (intro w' hSw; (try dsimp only at hSw); go_simp; (try with_reducible rfl))
      try simp only [Act.put, List.setIfInBounds_toArray, List.set_cons_zero, List.set_cons_succ]
      refine wpAnyH_take (i := 25) (oi := ⟨some 139, _, _, _, _, _⟩) (v := ?_) rfl (by kernel_rfl) (by kernel_rfl) (by kernel_rfl) (fun _ _ _ h => h) (Or.inl ⟨by rfl, ?hy⟩) (by assumption) ?_
      case hy => (intro w' hSw; (try dsimp only at hSw); go_simp; (try with_reducible rfl))
      try simp only [Act.put, List.setIfInBounds_toArray, List.set_cons_zero, List.set_cons_succ]
      refine wpAnyH_take (i := 26) (oi := ⟨some 140, _, _, _, _, _⟩) (v := ?_) rfl (by kernel_rfl) (by kernel_rfl) (by kernel_rfl) (fun _ _ _ h => h) (Or.inl ⟨by rfl, ?hy⟩) (by assumption) ?_
      case hy => (intro w' hSw; (try dsimp only at hSw); go_simp; (try with_reducible rfl))
      try simp only [Act.put, List.setIfInBounds_toArray, List.set_cons_zero, List.set_cons_succ]
      refine wpAnyH_take (i := 27) (oi := ⟨some 141, _, _, _, _, _⟩) (v := ?_) rfl (by kernel_rfl) (by kernel_rfl) (by kernel_rfl) (fun _ _ _ h => h) (Or.inl ⟨by rfl, ?hy⟩) (by assumption) ?_
      case hy => (intro w' hSw; (try dsimp only at hSw); go_simp; (try with_reducible rfl))
      try simp only [Act.put, List.setIfInBounds_toArray, List.set_cons_zero, List.set_cons_succ]
      refine wpAnyH_take (i := 28) (oi := ⟨some 142, _, _, _, _, _⟩) (v := ?_) rfl (by kernel_rfl) (by kernel_rfl) (by kernel_rfl) (fun _ _ _ h => h) (Or.inl ⟨by rfl, ?hy⟩) (by assumption) ?_
      case hy => (intro w' hSw; (try dsimp only at hSw); go_simp; (try with_reducible rfl))
      try simp only [Act.put, List.setIfInBounds_toArray, List.set_cons_zero, List.set_cons_succ]
      refine wpAnyH_take (i := 29) (oi := ⟨some 143, _, _, _, _, _⟩) (v := ?_) rfl (by kernel_rfl) (by kernel_rfl) (by kernel_rfl) (fun _ _ _ h => h) (Or.inl ⟨by rfl, ?hy⟩) (by assumption) ?_
      case hy => (intro w' hSw; (try dsimp only at hSw); go_simp; (try with_reducible rfl))
      try simp only [Act.put, List.setIfInBounds_toArray, List.set_cons_zero, List.set_cons_succ]
      refine wpAnyH_take (i := 30) (oi := ⟨some 144, _, _, _, _, _⟩) (v := ?_) rfl (by kernel_rfl) (by kernel_rfl) (by kernel_rfl) (fun _ _ _ h => h) (Or.inl ⟨by rfl, ?hy⟩) (by assumption) ?_
      case hy => (intro w' hSw; (try dsimp only at hSw); go_simp; (try with_reducible rfl))
      try simp only [Act.put, List.setIfInBounds_toArray, List.set_cons_zero, List.set_cons_succ]
      refine wpAnyH_take (i := 32) (oi := ⟨some 146, _, _, _, _, _⟩) (v := ?_) rfl (by kernel_rfl) (by kernel_rfl) (by kernel_rfl) (fun _ _ _ h => h) (Or.inl ⟨by rfl, ?hy⟩) (by assumption) ?_
      case hy => (intro w' hSw; (try dsimp only at hSw); go_simp; (try with_reducible rfl))
      try simp only [Act.put, List.setIfInBounds_toArray, List.set_cons_zero, List.set_cons_succ]
      refine wpAnyH_take (i := 33) (oi := ⟨some 147, _, _, _, _, _⟩) (v := ?_) rfl (by kernel_rfl) (by kernel_rfl) (by kernel_rfl) (fun _ _ _ h => h) (Or.inl ⟨by rfl, ?hy⟩) (by assumption) ?_
      case hy => (intro w' hSw; (try dsimp only at hSw); go_simp; (try with_reducible rfl))
      try simp only [Act.put, List.setIfInBounds_toArray, List.set_cons_zero, List.set_cons_succ]
      refine wpAnyH_take (i := 34) (oi := ⟨some 148, _, _, _, _, _⟩) (v := ?_) rfl (by kernel_rfl) (by kernel_rfl) (by kernel_rfl) (fun _ _ _ h => h) (Or.inl ⟨by rfl, ?hy⟩) (by assumption) ?_
      case hy => (intro w' hSw; (try dsimp only at hSw); go_simp; (try with_reducible rfl))
      try simp only [Act.put, List.setIfInBounds_toArray, List.set_cons_zero, List.set_cons_succ]
      refine wpAnyH_take (i := 35) (oi := ⟨some 149, _, _, _, _, _⟩) (v := ?_) rfl (by kernel_rfl) (by kernel_rfl) (by kernel_rfl) (fun _ _ _ h => h) (Or.inl ⟨by rfl, ?hy⟩) (by assumption) ?_
      case hy => (intro w' hSw; (try dsimp only at hSw); go_simp; (try with_reducible rfl))
      try simp only [Act.put, List.setIfInBounds_toArray, List.set_cons_zero, List.set_cons_succ]
      refine wpAnyH_take (i := 36) (oi := ⟨some 150, _, _, _, _, _⟩) (v := ?_) rfl (by kernel_rfl) (by kernel_rfl) (by kernel_rfl) (fun _ _ _ h => h) (Or.inl ⟨by rfl, ?hy⟩) (by assumption) ?_
      case hy => (intro w' hSw; (try dsimp only at hSw); go_simp; (try with_reducible rfl))
      try simp only [Act.put, List.setIfInBounds_toArray, List.set_cons_zero, List.set_cons_succ]
      refine wpAnyH_ready (rs := [31, 37]) (by kernel_rfl) (by simp) ?_
      refine AllReadyH.cons (o := ⟨some 145, _, _, _, _, _⟩) rfl (fun K hK => ?_) (AllReadyH.cons (o := ⟨some 151, _, _, _, _, _⟩) rfl (fun K hK => ?_) AllReadyH.nil)
      · go_simp
        refine hK.out _ _ ?_ (fun hHeld => ?_)
        · (first | (dsimp only; simp [*]) | simp [*])
        clear hK K
        try simp only [Act.put, List.setIfInBounds_toArray, List.set_cons_zero, List.set_cons_succ]
        refine wpAnyH_ready (rs := [37]) (by kernel_rfl) (by simp) ?_
        refine AllReadyH.cons (o := ⟨some 151, _, _, _, _, _⟩) rfl (fun K hK => ?_) AllReadyH.nil
        go_simp
        refine hK.out _ _ ?_ (fun hHeld => ?_)
        · (first | (dsimp only; simp [*]) | simp [*])
        clear hK K
        try simp only [Act.put, List.setIfInBounds_toArray, List.set_cons_zero, List.set_cons_succ]
        refine wpAnyH_ready (rs := [38]) (by kernel_rfl) (by simp) ?_
        refine AllReadyH.cons (o := ⟨some 152, _, _, _, _, _⟩) rfl (fun K hK => ?_) AllReadyH.nil
        go_simp
        refine hK.out _ _ ?_ (fun hHeld => ?_)
        · (first | (dsimp only; simp [*]) | simp [*])
        clear hK K
        try simp only [Act.put, List.setIfInBounds_toArray, List.set_cons_zero, List.set_cons_succ]
        refine wpAnyH_ready (rs := [39]) (by kernel_rfl) (by simp) ?_
        refine AllReadyH.cons (o := ⟨some 153, _, _, _, _, _⟩) rfl (fun K hK => ?_) AllReadyH.nil
        go_simp
        go_at_call 12
        refine (same3 med _ (by rw [HSM.out, (HAS.out _ _ _).2, (HQS.out _ _ _).2, (HQS.out _ _ _).2]; rfl) _).mono ?_
        rintro e w5 ⟨rfl, rfl⟩
        go_wp2_with fail
        refine hK.out _ _ ?_ (fun hHeld => ?_)
        · (first | (dsimp only; simp [*]) | simp [*])
        clear hK K
        try simp only [Act.put, List.setIfInBounds_toArray, List.set_cons_zero, List.set_cons_succ]
        refine wpAnyH_take (i := 40) (oi := ⟨some 154, _, _, _, _, _⟩) (v := ?_) rfl (by kernel_rfl) (by kernel_rfl) (by kernel_rfl) (fun _ _ _ h => h) (Or.inl ⟨by rfl, ?hy⟩) (by assumption) ?_
        case hy => (intro w' hSw; (try dsimp only at hSw); go_simp; (try with_reducible rfl))
        try simp only [Act.put, List.setIfInBounds_toArray, List.set_cons_zero, List.set_cons_succ]
        refine wpAnyH_take (i := 41) (oi := ⟨some 155, _, _, _, _, _⟩) (v := ?_) rfl (by kernel_rfl) (by kernel_rfl) (by kernel_rfl) (fun _ _ _ h => h) (Or.inl ⟨by rfl, ?hy⟩) (by assumption) ?_
        case hy => (intro w' hSw; (try dsimp only at hSw); go_simp; (try with_reducible rfl))
        try simp only [Act.put, List.setIfInBounds_toArray, List.set_cons_zero, List.set_cons_succ]
        refine wpAnyH_take (i := 42) (oi := ⟨some 156, _, _, _, _, _⟩) (v := ?_) rfl (by kernel_rfl) (by kernel_rfl) (by kernel_rfl) (fun _ _ _ h => h) (Or.inl ⟨by rfl, ?hy⟩) (by assumption) ?_
        case hy => (intro w' hSw; (try dsimp only at hSw); go_simp; (try with_reducible rfl))
        try simp only [Act.put, List.setIfInBounds_toArray, List.set_cons_zero, List.set_cons_succ]
        refine wpAnyH_done (by kernel_rfl) ?_ _
        go_wp2_with fail
        go_meet
        exact ⟨rfl, _, rfl⟩
      · go_simp
        refine hK.out _ _ ?_ (fun hHeld => ?_)
        · (first | (dsimp only; simp [*]) | simp [*])
        clear hK K
        try simp only [Act.put, List.setIfInBounds_toArray, List.set_cons_zero, List.set_cons_succ]
        refine wpAnyH_ready (rs := [31]) (by kernel_rfl) (by simp) ?_
        refine AllReadyH.cons (o := ⟨some 145, _, _, _, _, _⟩) rfl (fun K hK => ?_) AllReadyH.nil
        go_simp
        refine hK.out _ _ ?_ (fun hHeld => ?_)
        · (first | (dsimp only; simp [*]) | simp [*])
        clear hK K
        try simp only [Act.put, List.setIfInBounds_toArray, List.set_cons_zero, List.set_cons_succ]
        refine wpAnyH_ready (rs := [38]) (by kernel_rfl) (by simp) ?_
        refine AllReadyH.cons (o := ⟨some 152, _, _, _, _, _⟩) rfl (fun K hK => ?_) AllReadyH.nil
        go_simp
        refine hK.out _ _ ?_ (fun hHeld => ?_)
        · (first | (dsimp only; simp [*]) | simp [*])
        clear hK K
        try simp only [Act.put, List.setIfInBounds_toArray, List.set_cons_zero, List.set_cons_succ]
        refine wpAnyH_ready (rs := [39]) (by kernel_rfl) (by simp) ?_
        refine AllReadyH.cons (o := ⟨some 153, _, _, _, _, _⟩) rfl (fun K hK => ?_) AllReadyH.nil
        go_simp
        go_at_call 12
        refine (same3 med _ (by rw [HSM.out, (HAS.out _ _ _).2, (HQS.out _ _ _).2, (HQS.out _ _ _).2]; rfl) _).mono ?_
        rintro e w5 ⟨rfl, rfl⟩
        go_wp2_with fail
        refine hK.out _ _ ?_ (fun hHeld => ?_)
        · (first | (dsimp only; simp [*]) | simp [*])
        clear hK K
        try simp only [Act.put, List.setIfInBounds_toArray, List.set_cons_zero, List.set_cons_succ]
        refine wpAnyH_take (i := 40) (oi := ⟨some 154, _, _, _, _, _⟩) (v := ?_) rfl (by kernel_rfl) (by kernel_rfl) (by kernel_rfl) (fun _ _ _ h => h) (Or.inl ⟨by rfl, ?hy⟩) (by assumption) ?_
        case hy => (intro w' hSw; (try dsimp only at hSw); go_simp; (try with_reducible rfl))
        try simp only [Act.put, List.setIfInBounds_toArray, List.set_cons_zero, List.set_cons_succ]
        refine wpAnyH_take (i := 41) (oi := ⟨some 155, _, _, _, _, _⟩) (v := ?_) rfl (by kernel_rfl) (by kernel_rfl) (by kernel_rfl) (fun _ _ _ h => h) (Or.inl ⟨by rfl, ?hy⟩) (by assumption) ?_
        case hy => (intro w' hSw; (try dsimp only at hSw); go_simp; (try with_reducible rfl))
        try simp only [Act.put, List.setIfInBounds_toArray, List.set_cons_zero, List.set_cons_succ]
        refine wpAnyH_take (i := 42) (oi := ⟨some 156, _, _, _, _, _⟩) (v := ?_) rfl (by kernel_rfl) (by kernel_rfl) (by kernel_rfl) (fun _ _ _ h => h) (Or.inl ⟨by rfl, ?hy⟩) (by assumption) ?_
        case hy => (intro w' hSw; (try dsimp only at hSw); go_simp; (try with_reducible rfl))
        try simp only [Act.put, List.setIfInBounds_toArray, List.set_cons_zero, List.set_cons_succ]
        refine wpAnyH_done (by kernel_rfl) ?_ _
        go_wp2_with fail
        go_meet
        exact ⟨rfl, _, rfl⟩
      --ENDEVEN
    · have hsm : Fl.cv med = Fl.cv z := by rw [HMED.out]; unfold medO; rw [if_pos hm, ← HH2.out, at_of HZ.out]
      have HSM := Lib.hid hsm
      have hmi : ((xs.length : Int) % 2 == 1) = true := by rw [beq_iff_eq]; omega
      have hmz : ((xs.length : Int) % 2 == 0) = false := by rw [beq_eq_false_iff_ne]; omega
      have m1 : (xs.length : Int).tmod 2 = 1 := by rw [Int.tmod_eq_emod_of_nonneg (by omega)]; omega
      clear hm hsm
      go_quiet ((go_at_call 12; exact quiet_eq2 (same3 _ _ HSM.out _)))
      go_wp2_with fail
      go_meet
      exact ⟨rfl, drawn_two _ _ _⟩
  case rest =>
  obtain ⟨rfl, k3, rfl⟩ := hcut
  cases iq
  · go_wp2
    go_ret
    exact ⟨rfl, below_drewN HB4.out _⟩
  · obtain ⟨g0, g1, g2, g3, g4⟩ : 0 < xs.length ∧ 0 ≤ num ∧ num ≤ den ∧ 1 ≤ den ∧ den ≤ 1000 := by
      have := HIQ.out
      unfold mayQ at this
      simp only [Bool.and_eq_true, decide_eq_true_eq] at this
      exact ⟨this.1.1.1.1, this.1.1.1.2, this.1.1.2, this.1.2, this.2⟩
    obtain ⟨hp1, hp2⟩ := placeQ_lt g0 g1 g2 g3
    have a1 : 0 ≤ num * ((xs.length : Int) - 1) := Int.mul_nonneg g1 (by omega)
    have a2 : num * ((xs.length : Int) - 1) ≤ 1000 * 40 := Int.mul_le_mul (by omega) (by omega) (by omega) (by omega)
    obtain ⟨k, hk⟩ : ∃ k, k = placeQ xs.length num den := ⟨_, rfl⟩
    rw [← hk] at hp1 hp2
    obtain ⟨m, hm⟩ : ∃ m : Nat, num * ((xs.length : Int) - 1) = (m : Int) := ⟨_, (Int.toNat_of_nonneg a1).symm⟩
    rw [hm] at a1 a2 hp2
    have a4 : (m : Int) ≤ 40000 := by omega
    obtain ⟨b', off', y, heq, _, hy, cy⟩ := HROW4.out.get hp1
    obtain ⟨rfl, rfl⟩ : b = b' ∧ off = off' := by injection heq with e1; injection e1 with e1 e2; exact ⟨e1, e2⟩
    have hqy : Fl.cv q = Fl.cv y := by rw [HQ1.out HIQ.out, ← hk, at_of hy]
    have HQY := Lib.hid hqy
    clear heq hy hqy hk
    go_wp2_with fail
    refine (same3 q y HQY.out _).mono ?_
    rintro e w5 ⟨rfl, rfl⟩
    go_wp2
    go_ret
    exact ⟨rfl, below_drewN HB4.out _⟩
end Go.Proofs.Ythonpifdhjpbgaa
