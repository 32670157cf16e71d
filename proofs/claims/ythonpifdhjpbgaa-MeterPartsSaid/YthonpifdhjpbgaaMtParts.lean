import Derived.Test.YthonpifdhjpbgaaMtMean
import Derived.Test.YthonpifdhjpbgaaSoTop
import Derived.StillTailTactics
namespace Go.Proofs.Ythonpifdhjpbgaa
open Wd So Go.ChangeShapes Go.WideShapes Go.RowKit
set_option linter.unusedVariables false

/-- the middle of two floats, as a value -/
theorem midD (x y : Nat) (w : World) : Calls Try.prog 24 #[.float .f64 x, .float .f64 y] w (FloatD (Fl.midO (Fl.cv x) (Fl.cv y)) w) := by
  obtain ⟨r1, n1, e1, h1, c1⟩ := arith_dv Try.prog .quo _ 26 x 4611686018427387904 w (.inl ⟨rfl, rfl⟩)
  obtain ⟨r2, n2, e2, h2, c2⟩ := arith_dv Try.prog .quo _ 26 y 4611686018427387904 (w.drewN n1) (.inl ⟨rfl, rfl⟩)
  obtain ⟨r3, n3, e3, h3, c3⟩ := arith_dv Try.prog .add _ 26 r1 r2 (w.drewN (n1 + n2)) (.inr ⟨rfl, rfl⟩)
  rw [c1, c2] at c3
  have C3 := Lib.hid c3
  clear c1 c2 c3
  go_enter Try.func24, Try.ntmps24
  go_wp2
  go_ret
  exact ⟨r3, (n1 + n2) + n3, rfl, h3, C3.out, rfl⟩

/-- the value at a place of a rising row -/
def at_ (ys : List Nat) (k : Nat) : Option Nat := Fl.cv (ys[k]?.getD 0)
theorem at_of {ys : List Nat} {k y : Nat} (h : ys[k]? = some y) : at_ ys k = Fl.cv y := by unfold at_; rw [h]; rfl
theorem at_rk {xs ys : List Nat} (hx : Words xs) (hy : Words ys) (h : xs.map rk = ys.map rk) (k : Nat) : at_ xs k = at_ ys k := by
  have h1 : (xs.map rk)[k]? = (ys.map rk)[k]? := by rw [h]
  rw [List.getElem?_map, List.getElem?_map] at h1
  unfold at_
  cases ex : xs[k]? with
  | none =>
    rw [ex] at h1
    cases ey : ys[k]? with
    | none => rfl
    | some y => rw [ey] at h1; cases h1
  | some x =>
    rw [ex] at h1
    cases ey : ys[k]? with
    | none => rw [ey] at h1; cases h1
    | some y =>
      rw [ey] at h1
      exact cv_rk (hx.at ex) (hy.at ey) (Option.some.inj h1)

def medO (ys : List Nat) (n : Nat) : Option Nat := if n % 2 = 1 then at_ ys (n / 2) else Fl.midO (at_ ys (n / 2 - 1)) (at_ ys (n / 2))

theorem median_none (A : Option Addr) (c : Nat) (w : World) (o : Option Nat) : Calls Try.prog 10 #[.slice A 0 c] w (Maybe false o w) := by
  go_enter Try.func10, Try.ntmps10
  go_wp2
  go_ret2
  exact ⟨0, rfl, by omega, fun _ => rfl, (fun h => by cases h), Below.refl _ _⟩

set_option maxHeartbeats 1000000 in
theorem median_some (xs : List Nat) (A : Option Addr) (c n : Nat) (w : World) (hL : xs.length = n) (h0 : 0 < n) (hn : n ≤ 40) (hwd : Words xs) (hr : Row w w.heap.size A n (xs.map (Value.float .f64)))
    (zs : List Nat) (hz : zs.Perm xs) (hzs : Srt rk 0 n zs) :
    Calls Try.prog 10 #[.slice A n c] w (Maybe true (medO zs n) w) := by
  have HL := Lib.hid hL; have HR := Lib.hid hr; have HW := Lib.hid hwd; have HZ := Lib.hid hz; have HZS := Lib.hid hzs
  clear hL hr hwd hz hzs
  have hne : ((n : Int) == 0) = false := by rw [beq_eq_false_iff_ne]; omega
  obtain ⟨h, hh1, hh2⟩ : ∃ h : Nat, (n : Int) / 2 = (h : Int) ∧ h = n / 2 := ⟨n / 2, by omega, rfl⟩
  have HH := Lib.hid hh2
  clear hh2
  go_enter Try.func10, Try.ntmps10
  go_wp2_with fail
  refine (sort_any A n c xs _ HL.out hn HW.out HR.out).mono ?_
  rintro e w2 ⟨g, ys, rfl, hp, hs, hf, hg, hb⟩
  have hyl : ys.length = n := hp.length_eq.trans HL.out
  have hzl : zs.length = n := HZ.out.length_eq.trans HL.out
  have hrk : ys.map rk = zs.map rk := srt_unique (hp.trans HZ.out.symm) (by rw [hyl]; exact hs) (by rw [hzl]; exact HZS.out)
  have HYW := Lib.hid (HW.out.perm hp)
  have HAT := Lib.hid (fun k => at_rk (HW.out.perm hp) (HW.out.perm HZ.out) hrk k)
  have HB := Lib.hid hb; have HF := Lib.hid hf
  clear hp hs hrk hb hzl
  have hlt : h < n := by have := HH.out; omega
  obtain ⟨y, hy⟩ : ∃ y, ys[h]? = some y := ⟨_, List.getElem?_eq_getElem (by omega)⟩
  have cy := hf.cell hy
  have HY := Lib.hid hy
  have hwy := HYW.out.at hy
  clear hy
  rcases Nat.mod_two_eq_zero_or_one n with hm | hm
  · have hmi : ((n : Int) % 2 == 1) = false := by rw [beq_eq_false_iff_ne]; omega
    have h1 : 1 ≤ h := by have := HH.out; omega
    obtain ⟨z, hz⟩ : ∃ z, ys[h - 1]? = some z := ⟨_, List.getElem?_eq_getElem (by omega)⟩
    have cz := hf.cell hz
    have HM := Lib.hid hm
    have HZ1 := Lib.hid hz
    clear hf hm hz hyl
    have i1 : IntKind.i64.wrap ((h : Int) - 1) = (h : Int) - 1 := IntWalk.i64_in _ (by omega)
    have i2 : ((h : Int) - 1).toNat = h - 1 := by omega
    have i3 : (0 : Int) ≤ (h : Int) - 1 := by omega
    have i4 : (h : Int) - 1 < (n : Int) := by omega
    have i5 : (1 : Int) ≤ (h : Int) := by omega
    go_wp2
    go_still_tail 9, (by kernel_rfl)
    go_wp2_with fail
    refine (midD z y _).mono ?_
    rintro e w3 ⟨r, k, rfl, hr, hc, rfl⟩
    have HC := Lib.hid hc
    clear hc
    go_wp2
    go_ret2
    refine ⟨r, rfl, hr, (fun h => by cases h), fun _ => ?_, below_drewN HB.out _⟩
    unfold medO
    rw [HC.out, if_neg (by rw [HM.out]; decide), ← HAT.out, ← HAT.out, ← HH.out, at_of HY.out, at_of HZ1.out]
  · have hmi : ((n : Int) % 2 == 1) = true := by rw [beq_iff_eq]; omega
    have HM := Lib.hid hm
    clear hf hm hyl
    go_wp2
    go_ret2
    refine ⟨y, rfl, hwy, (fun h => by cases h), fun _ => ?_, HB.out⟩
    unfold medO
    rw [if_pos HM.out, ← HAT.out, ← HH.out, at_of HY.out]

/-- whether a quantile is told -/
def mayQ (n : Nat) (num den : Int) : Bool := decide (0 < n) && decide (0 ≤ num) && decide (num ≤ den) && decide (1 ≤ den) && decide (den ≤ 1000)

theorem quantile_none (A : Option Addr) (n c : Nat) (num den : Int) (w : World) (o : Option Nat) (hm : n ≤ maxLen) (h : mayQ n num den = false) :
    Calls Try.prog 11 #[.slice A n c, .int .i64 num, .int .i64 den] w (Maybe false o w) := by
  have hcase : n = 0 ∨ 0 < n ∧ num < 0 ∨ 0 < n ∧ 0 ≤ num ∧ den < num ∨ 0 < n ∧ 0 ≤ num ∧ num ≤ den ∧ den < 1 ∨ 0 < n ∧ 0 ≤ num ∧ num ≤ den ∧ 1 ≤ den ∧ 1000 < den := by
    unfold mayQ at h
    simp only [Bool.and_eq_false_iff, decide_eq_false_iff_not] at h
    omega
  clear h
  rcases hcase with rfl | ⟨h0, h1⟩ | ⟨h0, h1, h2⟩ | ⟨h0, h1, h2, h3⟩ | ⟨h0, h1, h2, h3, h4⟩
  · go_enter Try.func11, Try.ntmps11
    go_wp2
    go_ret2
    exact ⟨0, rfl, by omega, fun _ => rfl, (fun h => by cases h), Below.refl _ _⟩
  all_goals
    have hne : ((n : Int) == 0) = false := by rw [beq_eq_false_iff_ne]; omega
    go_enter Try.func11, Try.ntmps11
    go_wp2
    go_ret2
    exact ⟨0, rfl, by omega, fun _ => rfl, (fun h => by cases h), Below.refl _ _⟩

/-- the place of a quantile -/
def placeQ (n : Nat) (num den : Int) : Nat := (num * ((n : Int) - 1) / den).toNat
theorem placeQ_lt {n : Nat} {num den : Int} (h0 : 0 < n) (h1 : 0 ≤ num) (h2 : num ≤ den) (h3 : 1 ≤ den) : placeQ n num den < n ∧ num * ((n : Int) - 1) / den = (placeQ n num den : Int) := by
  have a : 0 ≤ num * ((n : Int) - 1) := Int.mul_nonneg h1 (by omega)
  have b : num * ((n : Int) - 1) ≤ den * ((n : Int) - 1) := Int.mul_le_mul_of_nonneg_right h2 (by omega)
  have c : 0 ≤ num * ((n : Int) - 1) / den := Int.ediv_nonneg a (by omega)
  have d : num * ((n : Int) - 1) / den ≤ den * ((n : Int) - 1) / den := Int.ediv_le_ediv (by omega) b
  rw [Int.mul_ediv_cancel_left _ (by omega)] at d
  unfold placeQ
  omega

set_option maxHeartbeats 1000000 in
theorem quantile_some (xs : List Nat) (A : Option Addr) (c n : Nat) (num den : Int) (w : World) (hL : xs.length = n) (h0 : 0 < n) (hn : n ≤ 40) (h1 : 0 ≤ num) (h2 : num ≤ den) (h3 : 1 ≤ den) (h4 : den ≤ 1000) (hwd : Words xs) (hr : Row w w.heap.size A n (xs.map (Value.float .f64)))
    (zs : List Nat) (hz : zs.Perm xs) (hzs : Srt rk 0 n zs) :
    Calls Try.prog 11 #[.slice A n c, .int .i64 num, .int .i64 den] w (Maybe true (at_ zs (placeQ n num den)) w) := by
  have HL := Lib.hid hL; have HR := Lib.hid hr; have HW := Lib.hid hwd; have HZ := Lib.hid hz; have HZS := Lib.hid hzs
  clear hL hr hwd hz hzs
  have hne : ((n : Int) == 0) = false := by rw [beq_eq_false_iff_ne]; omega
  obtain ⟨hp1, hp2⟩ := placeQ_lt h0 h1 h2 h3
  have a1 : 0 ≤ num * ((n : Int) - 1) := Int.mul_nonneg h1 (by omega)
  have a2 : num * ((n : Int) - 1) ≤ 1000 * 40 := Int.mul_le_mul (by omega) (by omega) (by omega) (by omega)
  obtain ⟨k, hk⟩ : ∃ k, k = placeQ n num den := ⟨_, rfl⟩
  rw [← hk] at hp1 hp2
  obtain ⟨m, hm⟩ : ∃ m : Nat, num * ((n : Int) - 1) = (m : Int) := ⟨_, (Int.toNat_of_nonneg a1).symm⟩
  rw [hm] at a1 a2 hp2
  have HK := Lib.hid hk
  clear hk
  have a4 : (m : Int) ≤ 40000 := by omega
  go_enter Try.func11, Try.ntmps11
  go_wp2_with fail
  refine (sort_any A n c xs _ HL.out hn HW.out HR.out).mono ?_
  rintro e w2 ⟨g, ys, rfl, hp, hs, hf, hg, hb⟩
  have hyl : ys.length = n := hp.length_eq.trans HL.out
  have hzl : zs.length = n := HZ.out.length_eq.trans HL.out
  have hrk : ys.map rk = zs.map rk := srt_unique (hp.trans HZ.out.symm) (by rw [hyl]; exact hs) (by rw [hzl]; exact HZS.out)
  have HYW := Lib.hid (HW.out.perm hp)
  have HAT := Lib.hid (at_rk (HW.out.perm hp) (HW.out.perm HZ.out) hrk k)
  have HB := Lib.hid hb
  obtain ⟨y, hy⟩ : ∃ y, ys[k]? = some y := ⟨_, List.getElem?_eq_getElem (by omega)⟩
  have cy := hf.cell hy
  have hwy := HYW.out.at hy
  have HY := Lib.hid hy
  clear hp hs hrk hb hzl hy hyl hf
  go_wp2
  go_ret2
  exact ⟨y, rfl, hwy, (fun h => by cases h), fun _ => by rw [← HK.out, ← HAT.out, at_of HY.out], HB.out⟩
end Go.Proofs.Ythonpifdhjpbgaa
