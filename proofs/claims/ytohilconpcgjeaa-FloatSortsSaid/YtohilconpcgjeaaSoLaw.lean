import Derived.Test.YtohilconpcgjeaaRows
import Derived.Test.YtohilconpcgjeaaSoRefW
import Derived.Test.YtohilconpcgjeaaSoEnds
import Derived.Test.YtohilconpcgjeaaLaw
namespace Go.Proofs.Ytohilconpcgjeaa
open Wd So Go.ChangeShapes Go.WideShapes Go.RowKit
set_option linter.unusedVariables false

def TrueF (w : World) (e : Ending) (w' : World) : Prop := e = .returned (.bool true) ∧ Below w.heap.size w w'

theorem few_any (A : Option Addr) (n c : Nat) (w : World) : Calls Try.prog 9 #[.slice A n c] w fun e w' => e = .returned (.bool (decide ((n : Int) ≤ 40))) ∧ w = w' := by
  go_enter Try.func9, Try.ntmps9
  go_wp2
  go_ret
  exact ⟨rfl, rfl⟩
theorem few_is (A : Option Addr) (n c : Nat) (b : Bool) (h : decide ((n : Int) ≤ 40) = b) (w : World) : Calls Try.prog 9 #[.slice A n c] w fun e w' => e = .returned (.bool b) ∧ w = w' := by
  subst h; exact few_any A n c w

theorem end_least {lo : Nat} {xs os : List Nat} (hp : os.Perm xs) (hs : Srt rk 0 xs.length os) (he : Ext false lo xs xs.length) {y : Nat} (hy : os[0]? = some y) : sameB lo y = true := by
  have hl := hp.length_eq
  have m1 : y ∈ xs := hp.mem_iff.1 (List.mem_of_getElem? hy)
  obtain ⟨j, hj⟩ := List.getElem?_of_mem m1
  have g1 := he.2 j y (List.getElem?_eq_some_iff.1 hj).1 hj
  obtain ⟨q, hq⟩ := List.getElem?_of_mem (hp.mem_iff.2 he.1)
  have g2 := hs 0 q y lo (Nat.le_refl _) (Nat.zero_le _) (by have := (List.getElem?_eq_some_iff.1 hq).1; omega) hy hq
  unfold sameB
  simp only [Bool.false_eq_true, if_false] at g1
  exact decide_eq_true (by omega)
theorem end_most {hi : Nat} {xs os : List Nat} (hp : os.Perm xs) (hs : Srt rk 0 xs.length os) (he : Ext true hi xs xs.length) {y : Nat} (hy : os[xs.length - 1]? = some y) : sameB hi y = true := by
  have hl := hp.length_eq
  have m1 : y ∈ xs := hp.mem_iff.1 (List.mem_of_getElem? hy)
  obtain ⟨j, hj⟩ := List.getElem?_of_mem m1
  have g1 := he.2 j y (List.getElem?_eq_some_iff.1 hj).1 hj
  obtain ⟨q, hq⟩ := List.getElem?_of_mem (hp.mem_iff.2 he.1)
  have hql := (List.getElem?_eq_some_iff.1 hq).1
  have g2 := hs q (xs.length - 1) hi y (Nat.zero_le _) (by omega) (by omega) hq hy
  unfold sameB
  simp only [if_true] at g1
  exact decide_eq_true (by omega)

set_option maxHeartbeats 2000000 in
theorem floatSorts_any (A : Option Addr) (c : Nat) (xs : List Nat) (w : World) (hn : xs.length ≤ 40) (hwd : Words xs) (hr : Row w w.heap.size A xs.length (xs.map (Value.float .f64))) :
    Calls Try.prog 3 #[.slice A xs.length c] w (TrueF w) := by
  have HR := Lib.hid hr; have HW := Lib.hid hwd
  clear hr hwd
  have hfew : decide ((xs.length : Int) ≤ 40) = true := decide_eq_true (by omega)
  have HFEW := Lib.hid hfew
  clear hfew
  go_enter Try.func3, Try.ntmps3
  go_wp2_with fail
  refine (awake_any _).mono ?_
  rintro e w0 ⟨rfl, rfl⟩
  go_wp2_with fail
  refine (few_is A xs.length c true HFEW.out _).mono ?_
  rintro e w0 ⟨rfl, rfl⟩
  go_wp2_with fail
  refine (refSorted_any A c xs _ (by omega) HR.out).mono ?_
  rintro e w1 ⟨v, os, rfl, hpm, hso, hown, hb1⟩
  obtain ⟨As, cs, rfl, hrow⟩ := Row.of_own hown
  have HOW := Lib.hid hown; have HROW := Lib.hid hrow; have HPM := Lib.hid hpm; have HSO := Lib.hid hso
  clear hown hrow hpm hso
  have HR1 := Lib.hid ((HR.out.below hb1).more hb1.size)
  go_wp2_with fail
  refine (min_any A c xs _ (by omega) HW.out HR1.out).mono ?_
  rintro e w2 ⟨lo, rfl, hlo, hlo0, rfl⟩
  have HLO := Lib.hid hlo; have HLO0 := Lib.hid hlo0
  clear hlo hlo0
  go_wp2_with fail
  refine (max_any A c xs _ (by omega) HW.out HR1.out).mono ?_
  rintro e w2 ⟨hi, rfl, hhi, hhi0, rfl⟩
  have HHI := Lib.hid hhi; have HHI0 := Lib.hid hhi0
  clear hhi hhi0
  by_cases hpos : 0 < xs.length
  · have e1 : decide (0 < xs.length) = true := decide_eq_true hpos
    have e2 : decide ((0 : Int) < (xs.length : Int)) = true := decide_eq_true (by omega)
    go_wp2_with fail
    refine (sort_any A xs.length c xs _ rfl hn HW.out HR1.out).mono ?_
    rintro e w3 ⟨g, ys, rfl, hp2, hs2, hfr, hge, hb2⟩
    have hyl : ys.length = xs.length := hp2.length_eq
    have hol : os.length = xs.length := HPM.out.length_eq
    have hsm : ys.map rk = os.map rk := srt_unique (hp2.trans HPM.out.symm) (by rw [hyl]; exact hs2) (by rw [hol]; exact HSO.out)
    have HSM := Lib.hid hsm; have HYL := Lib.hid hyl; have HOL := Lib.hid hol
    have hrow3 := (HROW.out.below hb2).more hb2.size
    obtain ⟨b1, o1, y0, rfl, _, gy0, cy0⟩ := hrow3.get hpos
    obtain ⟨b2, o2, y1, e3, _, gy1, cy1⟩ := hrow3.get (k := xs.length - 1) (by omega)
    obtain ⟨rfl, rfl⟩ : b1 = b2 ∧ o1 = o2 := by injection e3 with e3; injection e3 with e3 e4; exact ⟨e3, e4⟩
    rw [Nat.add_zero] at cy0
    have hs1 : sameB lo y0 = true := end_least HPM.out HSO.out (HLO.out hpos) gy0
    have hs3 : sameB hi y1 = true := end_most HPM.out HSO.out (HHI.out hpos) gy1
    have HROW3 := Lib.hid hrow3
    have hfr2 : Row w3 w3.heap.size (some ⟨g, 0, none⟩) ys.length (ys.map (Value.float .f64)) := by
      have h := Row.of_cells (B := w3.heap.size) hfr (Cells.lt hfr)
      rw [show (List.map (Value.float .f64) ys).toArray.size = ys.length by rw [List.size_toArray, List.length_map]] at h
      exact h
    have HFR := Lib.hid hfr2
    clear hfr2
    clear hsm hyl hol hp2 hs2 hfr gy0 gy1 e3 hrow3
    go_wp2_with fail
    refine (sameFloats_len ys os xs.length xs.length HYL.out HOL.out (some ⟨g, 0, none⟩) (some ⟨b1, o1, none⟩) _ _ _ w3.heap.size (by have := HYL.out; omega) HFR.out (by rw [HOL.out]; exact HROW3.out)).mono ?_
    rintro e w4 ⟨bb, n4, rfl, hbt, rfl⟩
    obtain rfl : bb = true := hbt.2 HSM.out
    clear hbt
    have t2 : ((xs.length : Int) - 1).toNat = xs.length - 1 := by omega
    have t3 : (0 : Int) ≤ (xs.length : Int) - 1 := by omega
    have t4 : (0 : Int) < (xs.length : Int) := by omega
    go_wp2_with fail
    refine (refSame_is lo y0 true hs1 _).mono ?_
    rintro e w5 ⟨rfl, rfl⟩
    go_wp2_with fail
    refine (refSame_is hi y1 true hs3 _).mono ?_
    rintro e w5 ⟨rfl, rfl⟩
    go_wp2
    go_ret
    exact ⟨rfl, below_drewN (hb1.trans (hb2.mono hb1.size)) _⟩
  · have e0 : xs.length = 0 := by omega
    have e1 : decide (0 < xs.length) = false := decide_eq_false hpos
    have e2 : decide ((0 : Int) < (xs.length : Int)) = false := decide_eq_false (by omega)
    have hlz : lo = 0 := HLO0.out e0
    have hhz : hi = 0 := HHI0.out e0
    subst hlz hhz
    have heq : (FloatKind.f64.format.order 0 0 == some .eq) = true := by rw [eq_zero]; decide
    have E0 := Lib.hid e0
    clear e0
    go_wp2_with fail
    refine (sort_any A xs.length c xs _ rfl hn HW.out HR1.out).mono ?_
    rintro e w3 ⟨g, ys, rfl, hp2, hs2, hfr, hge, hb2⟩
    have hyl : ys.length = xs.length := hp2.length_eq
    have hol : os.length = xs.length := HPM.out.length_eq
    have hsm : ys.map rk = os.map rk := srt_unique (hp2.trans HPM.out.symm) (by rw [hyl]; exact hs2) (by rw [hol]; exact HSO.out)
    have HSM := Lib.hid hsm; have HYL := Lib.hid hyl; have HOL := Lib.hid hol
    have HROW3 := Lib.hid ((HROW.out.below hb2).more hb2.size)
    have hfr2 : Row w3 w3.heap.size (some ⟨g, 0, none⟩) ys.length (ys.map (Value.float .f64)) := by
      have h := Row.of_cells (B := w3.heap.size) hfr (Cells.lt hfr)
      rw [show (List.map (Value.float .f64) ys).toArray.size = ys.length by rw [List.size_toArray, List.length_map]] at h
      exact h
    have HFR := Lib.hid hfr2
    clear hfr2
    clear hsm hyl hol hp2 hs2 hfr
    go_wp2_with fail
    refine (sameFloats_len ys os xs.length xs.length HYL.out HOL.out (some ⟨g, 0, none⟩) As _ _ _ w3.heap.size (by have := HYL.out; omega) HFR.out (by rw [HOL.out]; exact HROW3.out)).mono ?_
    rintro e w4 ⟨bb, n4, rfl, hbt, rfl⟩
    obtain rfl : bb = true := hbt.2 HSM.out
    clear hbt
    go_wp2
    go_ret
    exact ⟨rfl, below_drewN (hb1.trans (hb2.mono hb1.size)) _⟩

theorem floatSorts_far (A : Option Addr) (n c : Nat) (w : World) (hn : 40 < n) :
    Calls Try.prog 3 #[.slice A n c] w (TrueF w) := by
  have hfew : decide ((n : Int) ≤ 40) = false := decide_eq_false (by omega)
  have HFEW := Lib.hid hfew
  clear hfew
  go_enter Try.func3, Try.ntmps3
  go_wp2_with fail
  refine (awake_any _).mono ?_
  rintro e w0 ⟨rfl, rfl⟩
  go_wp2_with fail
  refine (few_is A n c false HFEW.out _).mono ?_
  rintro e w0 ⟨rfl, rfl⟩
  go_wp2
  go_ret
  exact ⟨rfl, Below.refl _ _⟩

theorem floatSorts_walk (l : List Nat) (A : Option Addr) (c : Nat) {w : World} (hr : Row w w.heap.size A l.length (l.map (Value.float .f64))) (hok : ∀ y ∈ l, (Lit.float .f64 y).wf = true) (_ : l.length ≤ maxLen) (_ : World) :
    Calls Try.prog 3 #[.slice A l.length c] w (TrueF w) := by
  by_cases hn : l.length ≤ 40
  · exact floatSorts_any A c l w hn (fun x hx => by simpa [Lit.wf] using hok x hx) hr
  · exact floatSorts_far A l.length c w (by omega)
end Go.Proofs.Ytohilconpcgjeaa
