import Derived.Test.YthonpifdhjpbgaaMtBoxesLaw
import Derived.Test.YthonpifdhjpbgaaMtQ
namespace Go.Proofs.Ythonpifdhjpbgaa
open Wd So Go.ChangeShapes Go.WideShapes Go.RowKit
set_option linter.unusedVariables false

theorem rank_up (l : List Nat) {x y : Nat} (h : lsB x y = true) : rankN l x ≤ rankN l y := by
  unfold rankN
  induction l with
  | nil => simp
  | cons a l ih =>
    have hxy : rk x < rk y := of_decide_eq_true h
    by_cases h1 : lsB a x = true
    · have h2 : lsB a y = true := by
        unfold lsB at h1 ⊢
        have := of_decide_eq_true h1
        exact decide_eq_true (by omega)
      rw [List.filter_cons_of_pos (p := fun y => lsB y x) h1, List.filter_cons_of_pos (p := fun z => lsB z y) h2]; simp; exact ih
    · rw [List.filter_cons_of_neg (p := fun y => lsB y x) h1]
      by_cases h2 : lsB a y = true
      · rw [List.filter_cons_of_pos (p := fun z => lsB z y) h2]; simp; omega
      · rw [List.filter_cons_of_neg (p := fun z => lsB z y) h2]; exact ih
theorem rk_of {x y : Nat} (h : Fl.cv x = Fl.cv y) : rk x = rk y := by
  have := same_cv h
  unfold sameB at this
  exact of_decide_eq_true this
theorem place_up {n : Nat} {num den : Int} (h0 : 0 < n) (h1 : 0 ≤ num) (h2 : num < den) : placeQ n num den ≤ placeQ n (num + 1) den := by
  have a : num * ((n : Int) - 1) ≤ (num + 1) * ((n : Int) - 1) := Int.mul_le_mul_of_nonneg_right (by omega) (by omega)
  have b : num * ((n : Int) - 1) / den ≤ (num + 1) * ((n : Int) - 1) / den := Int.ediv_le_ediv (by omega) a
  unfold placeQ
  omega
theorem parts_rise {xs zs : List Nat} {n a b : Nat} {num den : Int} (hL : xs.length = n) (hz : zs.Perm xs) (hzs : Srt rk 0 n zs) (h0 : 0 < n) (h1 : 0 ≤ num) (h2 : num < den) (ha : Fl.cv a = at_ zs (placeQ n num den)) (hb : Fl.cv b = at_ zs (placeQ n (num + 1) den)) : lsB b a = false := by
  have hzl : zs.length = n := by rw [hz.length_eq, hL]
  obtain ⟨p1, _⟩ := placeQ_lt h0 h1 (by omega) (den := den) (by omega)
  obtain ⟨p2, _⟩ := placeQ_lt (num := num + 1) (den := den) h0 (by omega) (by omega) (by omega)
  have e1 := List.getElem?_eq_getElem (l := zs) (i := placeQ n num den) (by omega)
  have e2 := List.getElem?_eq_getElem (l := zs) (i := placeQ n (num + 1) den) (by omega)
  rw [at_of e1] at ha
  rw [at_of e2] at hb
  have := hzs _ _ _ _ (Nat.zero_le _) (place_up h0 h1 h2) (by omega) e1 e2
  have r1 := rk_of ha
  have r2 := rk_of hb
  unfold lsB
  exact decide_eq_false (by omega)

def SumIRel (cs : List Nat) (n : Nat) (W : World) (i s : Value) (w : World) : Prop := ∃ k q : Nat, k ≤ n ∧ i = .int .i64 k ∧ s = .int .i64 q ∧ q = (cs.take k).sum ∧ w = W

theorem less_is (x y : Nat) (b : Bool) (h : lsB x y = b) (hx : x < 18446744073709551616) (hy : y < 18446744073709551616) (w : World) : Calls Try.prog 22 #[.float .f64 x, .float .f64 y] w fun e w' => e = .returned (.bool b) ∧ w = w' := by
  subst h; exact less_any x y hx hy w

set_option maxRecDepth 100000 in
theorem rises_far (n m x y : Nat) (A E : Option Addr) (c d : Nat) (num den : Int) (w : World) (hn : 40 < n ∨ n ≤ 40 ∧ 40 < m ∨ n ≤ 40 ∧ m ≤ 40 ∧ num < 0 ∨ n ≤ 40 ∧ m ≤ 40 ∧ 0 ≤ num ∧ den ≤ num ∨ n ≤ 40 ∧ m ≤ 40 ∧ 0 ≤ num ∧ num < den ∧ 1000 < den) :
    Calls Try.prog 5 #[.slice A n c, .slice E m d, .float .f64 x, .float .f64 y, .int .i64 num, .int .i64 den] w (TrueB w) := by
  rcases hn with hn | ⟨hn, hm⟩ | ⟨hn, hm, k1⟩ | ⟨hn, hm, k1, k2⟩ | ⟨hn, hm, k1, k2, k3⟩
  · have hf1 : decide ((n : Int) ≤ 40) = false := decide_eq_false (by omega)
    have HF1 := Lib.hid hf1
    clear hf1
    go_enter Try.func5, Try.ntmps5
    go_wp2_with fail
    refine (awake_true _).mono ?_
    rintro e w0 ⟨rfl, hb⟩
    have HB := Lib.hid hb
    clear hb
    go_wp2_with fail
    refine (few3 A n c false HF1.out _).mono ?_
    rintro e w1 ⟨rfl, rfl⟩
    go_wp2
    go_ret
    exact ⟨rfl, HB.out⟩
  · have hf1 : decide ((n : Int) ≤ 40) = true := decide_eq_true (by omega)
    have hf2 : decide ((m : Int) ≤ 40) = false := decide_eq_false (by omega)
    have HF1 := Lib.hid hf1; have HF2 := Lib.hid hf2
    clear hf1 hf2
    go_enter Try.func5, Try.ntmps5
    go_wp2_with fail
    refine (awake_true _).mono ?_
    rintro e w0 ⟨rfl, hb⟩
    have HB := Lib.hid hb
    clear hb
    go_wp2_with fail
    refine (few3 A n c true HF1.out _).mono ?_
    rintro e w1 ⟨rfl, rfl⟩
    go_wp2_with fail
    refine (few3 E m d false HF2.out _).mono ?_
    rintro e w1 ⟨rfl, rfl⟩
    go_wp2
    go_ret
    exact ⟨rfl, HB.out⟩
  all_goals
    have hf1 : decide ((n : Int) ≤ 40) = true := decide_eq_true (by omega)
    have hf2 : decide ((m : Int) ≤ 40) = true := decide_eq_true (by omega)
    have HF1 := Lib.hid hf1; have HF2 := Lib.hid hf2
    clear hf1 hf2
    go_enter Try.func5, Try.ntmps5
    go_wp2_with fail
    refine (awake_true _).mono ?_
    rintro e w0 ⟨rfl, hb⟩
    have HB := Lib.hid hb
    clear hb
    go_wp2_with fail
    refine (few3 A n c true HF1.out _).mono ?_
    rintro e w1 ⟨rfl, rfl⟩
    go_wp2_with fail
    refine (few3 E m d true HF2.out _).mono ?_
    rintro e w1 ⟨rfl, rfl⟩
    go_wp2
    go_ret
    exact ⟨rfl, HB.out⟩

set_option maxRecDepth 100000 in
set_option maxHeartbeats 4000000 in
theorem rises_any (l xs : List Nat) (x y : Nat) (A E : Option Addr) (c d : Nat) (num den : Int) (w : World) (hn : l.length ≤ 40) (hm : xs.length ≤ 40) (hwl : Words l) (hwx : Words xs) (hx : x < 18446744073709551616) (hy : y < 18446744073709551616)
    (k1 : 0 ≤ num) (k2 : num < den) (k3 : den ≤ 1000)
    (hr : Row w w.heap.size A l.length (l.map (Value.float .f64))) (he : Row w w.heap.size E xs.length (xs.map (Value.float .f64))) :
    Calls Try.prog 5 #[.slice A l.length c, .slice E xs.length d, .float .f64 x, .float .f64 y, .int .i64 num, .int .i64 den] w (TrueB w) := by
  have hf1 : decide ((l.length : Int) ≤ 40) = true := decide_eq_true (by omega)
  have hf2 : decide ((xs.length : Int) ≤ 40) = true := decide_eq_true (by omega)
  obtain ⟨zs, hz, hzs⟩ := rising xs
  obtain ⟨ls, hls, hlss⟩ := rising l
  have HF1 := Lib.hid hf1; have HF2 := Lib.hid hf2; have HR := Lib.hid hr; have HE := Lib.hid he; have HWL := Lib.hid hwl; have HWX := Lib.hid hwx; have HZ := Lib.hid hz; have HZS := Lib.hid hzs
  have HLS := Lib.hid hls; have HLSS := Lib.hid hlss
  clear hf1 hf2 hr he hwl hwx hz hzs hls hlss
  go_enter Try.func5, Try.ntmps5
  go_wp2_with fail
  refine (awake_true _).mono ?_
  rintro e w0 ⟨rfl, hb⟩
  have HB := Lib.hid hb
  have HR0 := Lib.hid ((HR.out.below hb).more hb.size)
  have HE0 := Lib.hid ((HE.out.below hb).more hb.size)
  clear hb
  go_wp2_with fail
  refine (few3 A l.length c true HF1.out _).mono ?_
  rintro e w1 ⟨rfl, rfl⟩
  go_wp2_with fail
  refine (few3 E xs.length d true HF2.out _).mono ?_
  rintro e w1 ⟨rfl, rfl⟩
  go_wp2_with fail
  refine (boxes_any l xs A E c d xs.length _ (by omega) rfl hm HWL.out HWX.out HR0.out HE0.out zs HZ.out HZS.out).mono ?_
  rintro e w1 ⟨g, rfl, hi, hg, hb⟩
  have HB1 := Lib.hid (HB.out.trans (hb.mono HB.out.size))
  have HR1 := Lib.hid ((HR0.out.below hb).more hb.size)
  have hlen : (boxes (zs.map rk) (l.map rk)).length = xs.length + 1 := by rw [boxes_len, List.length_map, HZ.out.length_eq]
  have hsum : (boxes (zs.map rk) (l.map rk)).sum = l.length := by rw [boxes_sum, List.length_map]
  have HI := Lib.hid hi; have HLEN := Lib.hid hlen; have HSUM := Lib.hid hsum
  clear hb hi hlen hsum
  go_wp2
  go_loopw [47, 13] (fun i s wr => SumIRel (boxes (zs.map rk) (l.map rk)) (xs.length + 1) w1 i s wr) (fun i _ _ => xs.length + 1 - (intOf i).toNat)
  case atStart => exact ⟨0, 0, Nat.zero_le _, rfl, rfl, rfl, rfl⟩
  case round =>
    obtain ⟨k, q, hk, rfl, rfl, hq, rfl⟩ := hrel
    have HQ := Lib.hid hq
    clear hq
    by_cases hlt : k < xs.length + 1
    · obtain ⟨v, hv⟩ : ∃ v, (boxes (zs.map rk) (l.map rk))[k]? = some v := ⟨_, List.getElem?_eq_getElem (by rw [HLEN.out]; exact hlt)⟩
      have cv := HI.out.cell hv
      have ht := take_one hv
      have hs : ((boxes (zs.map rk) (l.map rk)).take (k + 1)).sum = q + v := by rw [ht, List.sum_append, ← HQ.out]; simp
      have hb1 : q + v ≤ 40 := by
        rw [← hs]
        have h1 := List.take_append_drop (k + 1) (boxes (zs.map rk) (l.map rk))
        have h2 := congrArg List.sum h1
        rw [List.sum_append, HSUM.out] at h2
        omega
      have HS := Lib.hid hs
      clear hs ht hv
      go_wp2
      go_roundw
      case rel => exact ⟨k + 1, q + v, by omega, by go_num, by go_num, HS.out.symm, rfl⟩
      case measure => simp [intOf]; omega
    · obtain rfl : k = xs.length + 1 := by omega
      obtain rfl : l.length = q := by
        have h := HQ.out
        rw [List.take_of_length_le (by rw [HLEN.out]; exact Nat.le_refl _), HSUM.out] at h
        exact h.symm
      have r1 := rankN_le l x
      have r2 := rankN_le l y
      obtain ⟨rx, hrx⟩ : ∃ r, r = rankN l x := ⟨_, rfl⟩
      obtain ⟨ry, hry⟩ : ∃ r, r = rankN l y := ⟨_, rfl⟩
      rw [← hrx] at r1
      rw [← hry] at r2
      have HRX := Lib.hid hrx; have HRY := Lib.hid hry
      have hup : lsB x y = true → rx ≤ ry := fun h => by rw [hrx, hry]; exact rank_up l h
      have HUP := Lib.hid hup
      clear hrx hry hup
      go_upto_region 11 with fail
      go_cut [80] from 55 to 79 (fun c wx => c = .bool false ∧ wx = wr)
      case first =>
        cases hlx : lsB x y
        · have HLX := Lib.hid hlx
          clear hlx
          go_wp2_with fail
          refine (less_is x y false HLX.out hx hy _).mono ?_
          rintro e w3 ⟨rfl, rfl⟩
          go_wp2_with fail
          refine (rank_is l x rx HRX.out A c _ (by omega) hx HWL.out HR1.out).mono ?_
          rintro e w3 ⟨rfl, rfl⟩
          go_wp2_with fail
          go_meet
          exact ⟨by first | rfl | (simp; omega), rfl⟩
        · have h12 := HUP.out hlx
          have HLX := Lib.hid hlx
          clear hlx
          go_wp2_with fail
          refine (less_is x y true HLX.out hx hy _).mono ?_
          rintro e w3 ⟨rfl, rfl⟩
          go_wp2_with fail
          refine (rank_is l x rx HRX.out A c _ (by omega) hx HWL.out HR1.out).mono ?_
          rintro e w3 ⟨rfl, rfl⟩
          go_wp2_with fail
          refine (rank_is l y ry HRY.out A c _ (by omega) hy HWL.out HR1.out).mono ?_
          rintro e w3 ⟨rfl, rfl⟩
          go_wp2_with fail
          refine (rank_is l x rx HRX.out A c _ (by omega) hx HWL.out HR1.out).mono ?_
          rintro e w3 ⟨rfl, rfl⟩
          go_wp2_with fail
          go_meet
          exact ⟨by first | rfl | (simp; omega), rfl⟩
      case rest =>
      obtain ⟨rfl, rfl⟩ := hcut
      go_wp2_with fail
      refine (quantile_of l A c l.length num den _ rfl hn HWL.out HR1.out ls HLS.out HLSS.out).mono ?_
      rintro e w4 ⟨a, rfl, hwa, ha0, ha1, hb⟩
      have HA0 := Lib.hid ha0; have HA1 := Lib.hid ha1
      have HB2 := Lib.hid (HB1.out.trans (hb.mono HB1.out.size))
      have HR2 := Lib.hid ((HR1.out.below hb).more hb.size)
      clear ha0 ha1 hb
      by_cases h0 : 0 < l.length
      · have hq1 : mayQ l.length num den = true := by
          unfold mayQ
          simp only [Bool.and_eq_true, decide_eq_true_eq]
          omega
        have hq2 : mayQ l.length (num + 1) den = true := by
          unfold mayQ
          simp only [Bool.and_eq_true, decide_eq_true_eq]
          omega
        have HQ1 := Lib.hid hq1; have HQ2 := Lib.hid hq2
        rw [hq1]
        clear hq1 hq2
        go_wp2_with fail
        refine (quantile_of l A c l.length (num + 1) den _ rfl hn HWL.out HR2.out ls HLS.out HLSS.out).mono ?_
        rintro e w5 ⟨b, rfl, hwb, hb0, hb1, hb⟩
        have hlt2 : lsB b a = false := parts_rise rfl HLS.out HLSS.out h0 k1 k2 (HA1.out HQ1.out) (hb1 HQ2.out)
        have HLT := Lib.hid hlt2
        have HB3 := Lib.hid (HB2.out.trans (hb.mono HB2.out.size))
        rw [HQ2.out]
        clear hb0 hb1 hb hlt2
        go_wp2_with fail
        refine (less_is b a false HLT.out hwb hwa _).mono ?_
        rintro e w6 ⟨rfl, rfl⟩
        go_wp2
        go_ret
        exact ⟨rfl, HB3.out⟩
      · have hq1 : mayQ l.length num den = false := by
          unfold mayQ
          simp only [h0, decide_false, Bool.false_and]
        have hq2 : mayQ l.length (num + 1) den = false := by
          unfold mayQ
          simp only [h0, decide_false, Bool.false_and]
        have HQ1 := Lib.hid hq1; have HQ2 := Lib.hid hq2
        obtain rfl := HA0.out hq1
        rw [hq1]
        clear hq1 hq2
        go_wp2_with fail
        refine (quantile_of l A c l.length (num + 1) den _ rfl hn HWL.out HR2.out ls HLS.out HLSS.out).mono ?_
        rintro e w5 ⟨b, rfl, hwb, hb0, hb1, hb⟩
        obtain rfl := hb0 HQ2.out
        have HB3 := Lib.hid (HB2.out.trans (hb.mono HB2.out.size))
        rw [HQ2.out]
        clear hb0 hb1 hb
        go_wp2_with fail
        refine (less_is 0 0 false (by decide) (by omega) (by omega) _).mono ?_
        rintro e w6 ⟨rfl, rfl⟩
        go_wp2
        go_ret
        exact ⟨rfl, HB3.out⟩

theorem meterRises_walk (l : List Nat) (A : Option Addr) (c : Nat) {w : World} (hr : Row w w.heap.size A l.length (l.map (Value.float .f64))) (hok : ∀ y ∈ l, (Lit.float .f64 y).wf = true) (_ : l.length ≤ maxLen)
    (xs : List Nat) (E : Option Addr) (d : Nat) (he : Row w w.heap.size E xs.length (xs.map (Value.float .f64))) (hok2 : ∀ y ∈ xs, (Lit.float .f64 y).wf = true) (_ : xs.length ≤ maxLen) (x : Nat) (hx : (Lit.float .f64 x).wf = true) (y : Nat) (hy : (Lit.float .f64 y).wf = true)
    (num : Int) (_ : (Lit.int .i64 num).wf = true) (den : Int) (_ : (Lit.int .i64 den).wf = true) (_ : World) :
    Calls Try.prog 5 #[.slice A l.length c, .slice E xs.length d, .float .f64 x, .float .f64 y, .int .i64 num, .int .i64 den] w (TrueB w) := by
  by_cases h : l.length ≤ 40 ∧ xs.length ≤ 40 ∧ 0 ≤ num ∧ num < den ∧ den ≤ 1000
  · obtain ⟨h1, h2, h3, h4, h5⟩ := h
    exact rises_any l xs x y A E c d num den w h1 h2 (fun y hy => by simpa [Lit.wf] using hok y hy) (fun y hy => by simpa [Lit.wf] using hok2 y hy) (by simpa [Lit.wf] using hx) (by simpa [Lit.wf] using hy) h3 h4 h5 hr he
  · exact rises_far l.length xs.length x y A E c d num den w (by omega)
end Go.Proofs.Ythonpifdhjpbgaa
