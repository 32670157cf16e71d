import Derived.Test.YthonpifdhjpbgaaRows
import Derived.Test.YthonpifdhjpbgaaMtAwake
import Derived.Test.YthonpifdhjpbgaaMtEq7
import Derived.Test.YthonpifdhjpbgaaMtParts
import Derived.Test.YthonpifdhjpbgaaLaw
import Derived.Deep.RegionHeld3
import Derived.Deep.DeepCutAuto
namespace Go.Proofs.Ythonpifdhjpbgaa
open Wd So Go.ChangeShapes Go.WideShapes Go.RowKit
set_option linter.unusedVariables false

/-- some rising row of the same floats -/
theorem rising (xs : List Nat) : ∃ zs : List Nat, zs.Perm xs ∧ Srt rk 0 xs.length zs := by
  refine ⟨xs.mergeSort (fun a b => decide (rk a ≤ rk b)), List.mergeSort_perm _ _, ?_⟩
  have hp := List.pairwise_mergeSort (le := fun a b => decide (rk a ≤ rk b)) (fun a b c h1 h2 => by simp only [decide_eq_true_eq] at *; omega) (fun a b => by simp only [Bool.or_eq_true, decide_eq_true_eq]; omega) xs
  intro i j x y _ hij hj hx hy
  obtain ⟨li, rfl⟩ := List.getElem?_eq_some_iff.1 hx
  obtain ⟨lj, rfl⟩ := List.getElem?_eq_some_iff.1 hy
  by_cases e : i = j
  · subst e; exact Int.le_refl _
  · have := List.pairwise_iff_getElem.1 hp i j li lj (by omega)
    simpa using this

theorem refBoxes_zs (l xs : List Nat) (A E : Option Addr) (c d m : Nat) (w : World) (hn : l.length ≤ 1000) (hL : xs.length = m) (hm : m ≤ 40)
    (hr : Row w w.heap.size A l.length (l.map (Value.float .f64))) (hx : Row w w.heap.size E m (xs.map (Value.float .f64)))
    (zs : List Nat) (hz : zs.Perm xs) (hzs : Srt rk 0 m zs) :
    Calls Try.prog 19 #[.slice A l.length c, .slice E m d] w fun e w' => ∃ g, e = .returned (.slice (some ⟨g, 0, none⟩) (m + 1) (m + 1)) ∧ IRow w' g (boxes (zs.map rk) (l.map rk)) ∧ Below w.heap.size w w' := by
  refine (refBoxes_any l xs A E c d m w hn hL hm hr hx).mono ?_
  rintro e w' ⟨g, os, rfl, hp, hs, hi, hb⟩
  have h : os.map rk = zs.map rk := srt_unique (hp.trans hz.symm) (by rw [hp.length_eq, hL]; exact hs) (by rw [hz.length_eq, hL]; exact hzs)
  rw [h] at hi
  exact ⟨g, rfl, hi, hb⟩

theorem count_is (l : List Nat) (A : Option Addr) (c : Nat) (w : World) (hn : l.length ≤ 1000) (hw : Words l) (hr : Row w w.heap.size A l.length (l.map (Value.float .f64)))
    (a0 a1 a2 a3 a4 a5 a6 : Nat) (ht : tally l = [a0, a1, a2, a3, a4, a5, a6]) :
    Calls Try.prog 20 #[.slice A l.length c] w fun e w' => e = .returned (.agg #[.int .i64 a0, .int .i64 a1, .int .i64 a2, .int .i64 a3, .int .i64 a4, .int .i64 a5, .int .i64 a6]) ∧ Below w.heap.size w w' := by
  refine (count_any l A c w hn hw hr).mono ?_
  rintro e w' ⟨rfl, hb⟩
  refine ⟨?_, hb⟩
  rw [ht]; rfl

theorem rank_is (l : List Nat) (x q : Nat) (hq : q = rankN l x) (A : Option Addr) (c : Nat) (w : World) (hn : l.length ≤ 1000) (hx : x < 18446744073709551616) (hw : Words l) (hr : Row w w.heap.size A l.length (l.map (Value.float .f64))) :
    Calls Try.prog 21 #[.slice A l.length c, .float .f64 x] w fun e w' => e = .returned (.int .i64 q) ∧ w = w' := by
  subst hq; exact rank_any l x A c w hn hx hw hr

/-- the law's own loop -/
def OwnRel (l : List Nat) (x o : Nat) (W : World) (i r : Value) (w : World) : Prop :=
  ∃ k q : Nat, k ≤ l.length ∧ i = .int .i64 k ∧ r = .int .i64 q ∧ q = rankN (l.take k) x ∧ ARow w o (tally (l.take k)) ∧ Below W.heap.size W w

/-- what holds throughout the last region -/
def S7 (W : World) (o a0 a1 a2 a3 a4 a5 a6 : Nat) (w : World) : Prop :=
  Below W.heap.size W w ∧ w.cell? ⟨o, 0, none⟩ = some (.int .i64 a0) ∧ w.cell? ⟨o, 1, none⟩ = some (.int .i64 a1) ∧ w.cell? ⟨o, 2, none⟩ = some (.int .i64 a2) ∧ w.cell? ⟨o, 3, none⟩ = some (.int .i64 a3) ∧ w.cell? ⟨o, 4, none⟩ = some (.int .i64 a4) ∧ w.cell? ⟨o, 5, none⟩ = some (.int .i64 a5) ∧ w.cell? ⟨o, 6, none⟩ = some (.int .i64 a6)
theorem S7.mk' {W w : World} {o a0 a1 a2 a3 a4 a5 a6 : Nat} (h : ARow W o [a0, a1, a2, a3, a4, a5, a6]) (hb : Below W.heap.size W w) :
    Below W.heap.size W w ∧ w.cell? ⟨o, 0, none⟩ = some (.int .i64 a0) ∧ w.cell? ⟨o, 1, none⟩ = some (.int .i64 a1) ∧ w.cell? ⟨o, 2, none⟩ = some (.int .i64 a2) ∧ w.cell? ⟨o, 3, none⟩ = some (.int .i64 a3) ∧ w.cell? ⟨o, 4, none⟩ = some (.int .i64 a4) ∧ w.cell? ⟨o, 5, none⟩ = some (.int .i64 a5) ∧ w.cell? ⟨o, 6, none⟩ = some (.int .i64 a6) := by
  have h' : ARow w o [a0, a1, a2, a3, a4, a5, a6] := Cells.below' h hb
  exact ⟨hb, h'.cell rfl, h'.cell rfl, h'.cell rfl, h'.cell rfl, h'.cell rfl, h'.cell rfl, h'.cell rfl⟩

set_option maxRecDepth 100000 in
set_option maxHeartbeats 4000000 in
theorem mboxes_any (l xs : List Nat) (x : Nat) (A E : Option Addr) (c d : Nat) (w : World) (hn : l.length ≤ 40) (hm : xs.length ≤ 40) (hwl : Words l) (hwx : Words xs) (hx : x < 18446744073709551616)
    (hr : Row w w.heap.size A l.length (l.map (Value.float .f64))) (he : Row w w.heap.size E xs.length (xs.map (Value.float .f64))) :
    Calls Try.prog 4 #[.slice A l.length c, .slice E xs.length d, .float .f64 x] w (TrueB w) := by
  have hf1 : decide ((l.length : Int) ≤ 40) = true := decide_eq_true (by omega)
  have hf2 : decide ((xs.length : Int) ≤ 40) = true := decide_eq_true (by omega)
  obtain ⟨zs, hz, hzs⟩ := rising xs
  have HF1 := Lib.hid hf1; have HF2 := Lib.hid hf2; have HR := Lib.hid hr; have HE := Lib.hid he; have HWL := Lib.hid hwl; have HWX := Lib.hid hwx; have HZ := Lib.hid hz; have HZS := Lib.hid hzs
  clear hf1 hf2 hr he hwl hwx hz hzs
  go_enter Try.func4, Try.ntmps4
  go_wp2_with fail
  refine (awake_true _).mono ?_
  rintro e w0 ⟨rfl, hb⟩
  have HB := Lib.hid hb
  have HR0 := Lib.hid ((HR.out.below hb).more hb.size)
  have HE0 := Lib.hid ((HE.out.below hb).more hb.size)
  clear hb
  go_wp2_with fail
  refine (few3 A l.length c true HF1.out _).mono ?_
  rintro e w1 ⟨rfl, rfl⟩
  go_wp2_with fail
  refine (few3 E xs.length d true HF2.out _).mono ?_
  rintro e w1 ⟨rfl, rfl⟩
  go_wp2
  go_loopw [23, 8] (fun i r wr => OwnRel l x w0.heap.size w0 i r wr) (fun i _ _ => l.length - (intOf i).toNat)
  case atStart => exact ⟨0, 0, Nat.zero_le _, rfl, rfl, rfl, Cells.new w0 _ _, (Below.refl _ _).alloc (Nat.le_refl _) _⟩
  case round =>
    obtain ⟨k, q, hk, rfl, rfl, hq, ha, hb⟩ := hrel
    have HQ := Lib.hid hq; have HA := Lib.hid ha; have HBL := Lib.hid hb
    have hq1 : q ≤ 1000 := by have := rankN_le (l.take k) x; rw [List.length_take] at this; omega
    clear hq ha
    by_cases hlt : k < l.length
    · obtain ⟨b, off, y, rfl, hbb, hy, cy⟩ := (HR0.out.below hb).get hlt
      have hwy := HWL.out.at hy
      have ht := take_one hy
      have hs := rankN_snoc (l.take k) x y
      rw [← ht] at hs
      have HT := Lib.hid ht
      clear ht hy hb
      obtain ⟨i, hi⟩ : ∃ i : Nat, cls y = (i : Int) := ⟨(cls y).toNat, by have := cls_bd y; omega⟩
      have hi7 : i < 7 := by have := cls_bd y; omega
      have hci : (cls y).toNat = i := by omega
      have HCI := Lib.hid hci; have HCX := Lib.hid hi
      obtain ⟨p, hp⟩ : ∃ p, (tally (l.take k))[i]? = some p := ⟨_, List.getElem?_eq_getElem (by rw [tally_len]; omega)⟩
      have hp1 : p ≤ 1000 := by have := tally_bd _ _ _ hp; rw [List.length_take] at this; omega
      have cp := HA.out.cell hp
      have fp : wr.frozen? ⟨w0.heap.size, i, none⟩ = false := Cells.free HA.out i
      have HP := Lib.hid hp
      clear hp hci hi
      cases hl : lsB y x
      · rw [hl] at hs
        have HS := Lib.hid hs; clear hs
        go_wp2_with fail
        refine (refClass_any y _).mono ?_
        rintro e w' ⟨rfl, rfl⟩
        rw [HCX.out]
        go_wp2_with fail
        refine (refLess_any y x _).mono ?_
        rintro e w' ⟨rfl, rfl⟩
        go_wp2
        go_roundw
        case rel =>
          refine ⟨k + 1, q, by omega, by go_num, rfl, by rw [HS.out, HQ.out]; rfl, ?_, HBL.out.setCell (Nat.le_refl _) _⟩
          rw [HT.out, tally_snoc, HCI.out]
          unfold bump
          rw [HP.out]
          exact HA.out.set i (p + 1)
        case measure => simp [intOf]; omega
      · rw [hl] at hs
        have HS := Lib.hid hs; clear hs
        go_wp2_with fail
        refine (refClass_any y _).mono ?_
        rintro e w' ⟨rfl, rfl⟩
        rw [HCX.out]
        go_wp2_with fail
        refine (refLess_any y x _).mono ?_
        rintro e w' ⟨rfl, rfl⟩
        go_wp2
        go_roundw
        case rel =>
          refine ⟨k + 1, q + 1, by omega, by go_num, by go_num, by rw [HS.out, HQ.out]; rfl, ?_, HBL.out.setCell (Nat.le_refl _) _⟩
          rw [HT.out, tally_snoc, HCI.out]
          unfold bump
          rw [HP.out]
          exact HA.out.set i (p + 1)
        case measure => simp [intOf]; omega
    · obtain rfl : k = l.length := by omega
      have ha := HA.out
      rw [List.take_length] at ha
      obtain ⟨a0, a1, a2, a3, a4, a5, a6, ht⟩ := seven (tally_len l)
      rw [ht] at ha
      have hqq := HQ.out
      rw [List.take_length] at hqq
      have HT := Lib.hid ht; have HA7 := Lib.hid ha; have HQQ := Lib.hid hqq
      have HRr := Lib.hid ((HR0.out.below hb).more hb.size)
      have HEr := Lib.hid ((HE0.out.below hb).more hb.size)
      clear ha ht hb hqq
      go_wp2
      have hlen : (boxes (zs.map rk) (l.map rk)).length = xs.length + 1 := by rw [boxes_len, List.length_map, HZ.out.length_eq]
      have HLEN := Lib.hid hlen
      clear hlen
      have hrd : Row wr.drew wr.drew.heap.size A l.length (l.map (Value.float .f64)) := HRr.out.drewN 1
      have hed : Row wr.drew wr.drew.heap.size E xs.length (xs.map (Value.float .f64)) := HEr.out.drewN 1
      have HRd := Lib.hid hrd; have HEd := Lib.hid hed
      clear hrd hed
      have e7 := fun w => eq7 a0 a1 a2 a3 a4 a5 a6 w
      go_region_held3 (fun w' => Below wr.heap.size wr w' ∧ w'.cell? ⟨w0.heap.size, 0, none⟩ = some (.int .i64 a0) ∧ w'.cell? ⟨w0.heap.size, 1, none⟩ = some (.int .i64 a1) ∧ w'.cell? ⟨w0.heap.size, 2, none⟩ = some (.int .i64 a2) ∧ w'.cell? ⟨w0.heap.size, 3, none⟩ = some (.int .i64 a3) ∧ w'.cell? ⟨w0.heap.size, 4, none⟩ = some (.int .i64 a4) ∧ w'.cell? ⟨w0.heap.size, 5, none⟩ = some (.int .i64 a5) ∧ w'.cell? ⟨w0.heap.size, 6, none⟩ = some (.int .i64 a6))
        (first
          | exact S7.mk' HA7.out (below_drewN (Below.refl _ _) 1)
          | exact S7.mk' HA7.out kC
          | exact S7.mk' HA7.out kB
          | exact S7.mk' HA7.out kR
          | exact S7.mk' HA7.out (below_drewN kB _)
          | exact S7.mk' HA7.out (below_drewN kR _))
        (first
          | (go_at_call 18; (with_reducible refine (boxes_any l xs A E c d xs.length wr.drew (by omega) rfl hm HWL.out HWX.out HRd.out HEd.out zs HZ.out HZS.out).mono ?_); rintro e wB ⟨gB, rfl, hiB, hgB, hbB⟩; have kB : Below wr.heap.size wr wB := undrew hbB; have rlwB : Row wB wB.heap.size A l.length (l.map (Value.float .f64)) := (HRr.out.below kB).more kB.size; have rxwB : Row wB wB.heap.size E xs.length (xs.map (Value.float .f64)) := (HEr.out.below kB).more kB.size)
          | (go_at_call 18; (with_reducible refine (boxes_any l xs A E c d xs.length wR (by omega) rfl hm HWL.out HWX.out rlwR rxwR zs HZ.out HZS.out).mono ?_); rintro e wB ⟨gB, rfl, hiB, hgB, hbB⟩; have kB : Below wr.heap.size wr wB := kR.trans (hbB.mono kR.size); have jR : IRow wB gR (boxes (zs.map rk) (l.map rk)) := Cells.below' hiR hbB; have sB : Row wB wB.heap.size (some ⟨gB, 0, none⟩) (xs.length + 1) ((boxes (zs.map rk) (l.map rk)).map nat_) := IRow.row hiB HLEN.out (Cells.lt hiB); have sR : Row wB wB.heap.size (some ⟨gR, 0, none⟩) (xs.length + 1) ((boxes (zs.map rk) (l.map rk)).map nat_) := IRow.row jR HLEN.out (Cells.lt jR); have rlwB : Row wB wB.heap.size A l.length (l.map (Value.float .f64)) := (HRr.out.below kB).more kB.size; have rxwB : Row wB wB.heap.size E xs.length (xs.map (Value.float .f64)) := (HEr.out.below kB).more kB.size)
          | (go_at_call 19; (with_reducible refine (refBoxes_zs l xs A E c d xs.length wr.drew (by omega) rfl hm HRd.out HEd.out zs HZ.out HZS.out).mono ?_); rintro e wR ⟨gR, rfl, hiR, hbR⟩; have kR : Below wr.heap.size wr wR := undrew hbR; have rlwR : Row wR wR.heap.size A l.length (l.map (Value.float .f64)) := (HRr.out.below kR).more kR.size; have rxwR : Row wR wR.heap.size E xs.length (xs.map (Value.float .f64)) := (HEr.out.below kR).more kR.size)
          | (go_at_call 19; (with_reducible refine (refBoxes_zs l xs A E c d xs.length wB (by omega) rfl hm rlwB rxwB zs HZ.out HZS.out).mono ?_); rintro e wR ⟨gR, rfl, hiR, hbR⟩; have kR : Below wr.heap.size wr wR := kB.trans (hbR.mono kB.size); have jB : IRow wR gB (boxes (zs.map rk) (l.map rk)) := Cells.below' hiB hbR; have sB : Row wR wR.heap.size (some ⟨gB, 0, none⟩) (xs.length + 1) ((boxes (zs.map rk) (l.map rk)).map nat_) := IRow.row jB HLEN.out (Cells.lt jB); have sR : Row wR wR.heap.size (some ⟨gR, 0, none⟩) (xs.length + 1) ((boxes (zs.map rk) (l.map rk)).map nat_) := IRow.row hiR HLEN.out (Cells.lt hiR); have rlwR : Row wR wR.heap.size A l.length (l.map (Value.float .f64)) := (HRr.out.below kR).more kR.size; have rxwR : Row wR wR.heap.size E xs.length (xs.map (Value.float .f64)) := (HEr.out.below kR).more kR.size)
          | (go_at_call 17; (with_reducible refine (sameInts_eq (boxes (zs.map rk) (l.map rk)) (xs.length + 1) HLEN.out (by omega) _ _ _ _ wR.heap.size wR sB sR).mono ?_); rintro e w5 ⟨n5, rfl, rfl⟩; have rl5 : Row (wR.drewN n5) (wR.drewN n5).heap.size A l.length (l.map (Value.float .f64)) := rlwR.drewN n5)
          | (go_at_call 17; (with_reducible refine (sameInts_eq (boxes (zs.map rk) (l.map rk)) (xs.length + 1) HLEN.out (by omega) _ _ _ _ wB.heap.size wB sB sR).mono ?_); rintro e w5 ⟨n5, rfl, rfl⟩; have rl5 : Row (wB.drewN n5) (wB.drewN n5).heap.size A l.length (l.map (Value.float .f64)) := rlwB.drewN n5)
          | (go_at_call 20; (with_reducible refine (count_is l A c (wR.drewN n5) (by omega) HWL.out rl5 a0 a1 a2 a3 a4 a5 a6 HT.out).mono ?_); rintro e wC ⟨rfl, hbC⟩; have kC : Below wr.heap.size wr wC := (below_drewN kR n5).trans (hbC.mono kR.size); have rlwC : Row wC wC.heap.size A l.length (l.map (Value.float .f64)) := (HRr.out.below kC).more kC.size; have rxwC : Row wC wC.heap.size E xs.length (xs.map (Value.float .f64)) := (HEr.out.below kC).more kC.size)
          | (go_at_call 20; (with_reducible refine (count_is l A c (wB.drewN n5) (by omega) HWL.out rl5 a0 a1 a2 a3 a4 a5 a6 HT.out).mono ?_); rintro e wC ⟨rfl, hbC⟩; have kC : Below wr.heap.size wr wC := (below_drewN kB n5).trans (hbC.mono kB.size); have rlwC : Row wC wC.heap.size A l.length (l.map (Value.float .f64)) := (HRr.out.below kC).more kC.size; have rxwC : Row wC wC.heap.size E xs.length (xs.map (Value.float .f64)) := (HEr.out.below kC).more kC.size)
          | (go_at_call 21; (with_reducible refine (rank_is l x q HQQ.out A c wC (by omega) hx HWL.out rlwC).mono ?_); rintro e w7 ⟨rfl, rfl⟩))
      all_goals
        go_wp2
        go_ret
        exact ⟨rfl, HB.out.trans ((HBL.out.trans (kC.mono HBL.out.size)).mono HB.out.size)⟩

set_option maxRecDepth 100000 in
theorem mboxes_far (n m x : Nat) (A E : Option Addr) (c d : Nat) (w : World) (hn : 40 < n ∨ n ≤ 40 ∧ 40 < m) :
    Calls Try.prog 4 #[.slice A n c, .slice E m d, .float .f64 x] w (TrueB w) := by
  rcases hn with hn | ⟨hn, hm⟩
  · have hf1 : decide ((n : Int) ≤ 40) = false := decide_eq_false (by omega)
    have HF1 := Lib.hid hf1
    clear hf1
    go_enter Try.func4, Try.ntmps4
    go_wp2_with fail
    refine (awake_true _).mono ?_
    rintro e w0 ⟨rfl, hb⟩
    have HB := Lib.hid hb
    clear hb
    go_wp2_with fail
    refine (few3 A n c false HF1.out _).mono ?_
    rintro e w1 ⟨rfl, rfl⟩
    go_wp2
    go_ret
    exact ⟨rfl, HB.out⟩
  · have hf1 : decide ((n : Int) ≤ 40) = true := decide_eq_true (by omega)
    have hf2 : decide ((m : Int) ≤ 40) = false := decide_eq_false (by omega)
    have HF1 := Lib.hid hf1; have HF2 := Lib.hid hf2
    clear hf1 hf2
    go_enter Try.func4, Try.ntmps4
    go_wp2_with fail
    refine (awake_true _).mono ?_
    rintro e w0 ⟨rfl, hb⟩
    have HB := Lib.hid hb
    clear hb
    go_wp2_with fail
    refine (few3 A n c true HF1.out _).mono ?_
    rintro e w1 ⟨rfl, rfl⟩
    go_wp2_with fail
    refine (few3 E m d false HF2.out _).mono ?_
    rintro e w1 ⟨rfl, rfl⟩
    go_wp2
    go_ret
    exact ⟨rfl, HB.out⟩

theorem meterBoxes_walk (l : List Nat) (A : Option Addr) (c : Nat) {w : World} (hr : Row w w.heap.size A l.length (l.map (Value.float .f64))) (hok : ∀ y ∈ l, (Lit.float .f64 y).wf = true) (_ : l.length ≤ maxLen)
    (xs : List Nat) (E : Option Addr) (d : Nat) (he : Row w w.heap.size E xs.length (xs.map (Value.float .f64))) (hok2 : ∀ y ∈ xs, (Lit.float .f64 y).wf = true) (_ : xs.length ≤ maxLen) (x : Nat) (hx : (Lit.float .f64 x).wf = true) (_ : World) :
    Calls Try.prog 4 #[.slice A l.length c, .slice E xs.length d, .float .f64 x] w (TrueB w) := by
  by_cases h1 : l.length ≤ 40
  · by_cases h2 : xs.length ≤ 40
    · exact mboxes_any l xs x A E c d w h1 h2 (fun y hy => by simpa [Lit.wf] using hok y hy) (fun y hy => by simpa [Lit.wf] using hok2 y hy) (by simpa [Lit.wf] using hx) hr he
    · exact mboxes_far l.length xs.length x A E c d w (.inr ⟨h1, by omega⟩)
  · exact mboxes_far l.length xs.length x A E c d w (.inl (by omega))
end Go.Proofs.Ythonpifdhjpbgaa
