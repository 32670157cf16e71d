import Derived.Test.YtohilconpcgjeaaRows
import Derived.Test.YtohilconpcgjeaaPoRest
import Derived.Test.YtohilconpcgjeaaPoRef
import Derived.Test.YtohilconpcgjeaaFlSame
import Derived.Test.YtohilconpcgjeaaLaw
namespace Go.Proofs.Ytohilconpcgjeaa
open Wd Go.ChangeShapes Go.WideShapes Go.RowKit
set_option linter.unusedVariables false

theorem rk_cv {x y : Nat} (hx : x < 18446744073709551616) (hy : y < 18446744073709551616) (h : Fl.cv x = Fl.cv y) : rk x = rk y := by
  unfold Fl.cv at h
  unfold rk
  cases h1 : Fl.nan x <;> cases h2 : Fl.nan y <;> rw [h1, h2] at h <;> simp only [if_true, if_false, Bool.false_eq_true] at h ⊢
  · obtain rfl := Option.some.inj h
    rfl
  · cases h
  · cases h

theorem rows_alike {K G : Nat} {l : List Bool} {rs qs : List Nat} (h1 : Upto K G l rs l.length) (h2 : Sofar K G l qs l.length) : rs.map rk = qs.map rk := by
  apply List.ext_getElem?
  intro j
  by_cases hj : j < l.length
  · obtain ⟨r, a1, a2, a3⟩ := h1.2 j hj
    obtain ⟨q, b1, b2, b3⟩ := h2.2 j hj
    rw [List.getElem?_map, List.getElem?_map, a1, b1]
    show some (rk r) = some (rk q)
    rw [rk_cv a2 b2 (a3.trans b3.symm)]
  · rw [List.getElem?_eq_none (by rw [List.length_map, h1.1]; omega), List.getElem?_eq_none (by rw [List.length_map, h2.1]; omega)]

def TrueB (w : World) (e : Ending) (w' : World) : Prop := e = .returned (.bool true) ∧ Below w.heap.size w w'

theorem sc_awake1 : Fl.sc 4602678819172646912 4607182418800017408 [true] = some 4607182418800017408 := by kernel_rfl
theorem sc_awake2 : Fl.sc 4602678819172646912 4607182418800017408 [true, true] = some 4609434218613702656 := by kernel_rfl

theorem cv_inj {r v : Nat} (h : Fl.cv r = some v) : r = v := by
  unfold Fl.cv at h; split at h
  · cases h
  · exact Option.some.inj h

theorem poAwake_any (w : World) : Calls Try.prog 16 #[] w (TrueB w) := by
  go_enter Try.func16, Try.ntmps16
  go_wp2_with fail
  refine (run_any 4602678819172646912 4607182418800017408 0 [true, true] (some ⟨w.heap.size, 0, none⟩) _ _ (by decide) ?_).mono ?_
  · exact Row.of_cells (Cells.new _ _ _) (by simp)
  rintro e w1 ⟨o, rs, rfl, hu, ho, hge, hb⟩
  have e1 : rs = [4607182418800017408, 4609434218613702656] := by
    obtain ⟨hl, hr⟩ := hu
    obtain ⟨r0, a1, _, a3⟩ := hr 0 (by decide)
    obtain ⟨r1, b1, _, b3⟩ := hr 1 (by decide)
    have a4 := cv_inj (a3.trans sc_awake1)
    have b4 := cv_inj (b3.trans sc_awake2)
    subst a4 b4
    match rs, hl with
    | [x, y], _ => simp at a1 b1; rw [a1, b1]
  subst e1
  have HU := Lib.hid hu; clear hu
  go_wp2_with fail
  refine (sameFloats_any [4607182418800017408, 4609434218613702656] [4607182418800017408, 4609434218613702656] (some ⟨o, 0, none⟩) (some ⟨w1.heap.size, 0, none⟩) _ _ _ (w1.heap.size + 1) (by decide) ?_ ?_).mono ?_
  · exact Row.of_cells (ho.alloc _) (by have := ho.lt; omega)
  · exact Row.of_cells (Cells.new _ _ _) (by omega)
  rintro e w2 ⟨b, n, rfl, hbt, rfl⟩
  obtain rfl : b = true := hbt.2 rfl
  go_wp2
  go_ret
  exact ⟨rfl, below_drewN (((Below.refl _ _).alloc (Nat.le_refl _) _).trans (hb.mono (by simp)) |>.alloc (by have := hb.size; simp at this; omega) _) n⟩

/-- the first eager one, as the law finds it on its way -/
def FoundRel (K G L : Nat) (l : List Bool) (W : World) (i at_ found last : Value) (w : World) : Prop :=
  ∃ (k a x : Nat) (f : Bool), k ≤ l.length ∧ i = .int .i64 k ∧ at_ = .int .i64 a ∧ found = .bool f ∧ last = .float .f64 x ∧ x < 18446744073709551616 ∧ Fl.cv x = Fl.sc K G (l.take k) ∧
    (f = true → a < k ∧ Fl.geO (Fl.sc K G (l.take (a + 1))) (Fl.cv L) = true ∧ ∀ j, j < a → Fl.geO (Fl.sc K G (l.take (j + 1))) (Fl.cv L) = false) ∧
    (f = false → a = 0 ∧ ∀ j, j < k → Fl.geO (Fl.sc K G (l.take (j + 1))) (Fl.cv L) = false) ∧ w = W

theorem first_one {K G L : Nat} {l : List Bool} {a i : Nat} {f is : Bool} (h : FirstAt K G L l i is) (h' : FirstAt K G L l a f) : i = a ∧ is = f := by
  obtain ⟨h1, h2⟩ := h
  obtain ⟨g1, g2⟩ := h'
  cases is <;> cases f
  · exact ⟨(h2 rfl).1.trans (g2 rfl).1.symm, rfl⟩
  · have := (h2 rfl).2 a (g1 rfl).1
    rw [(g1 rfl).2.1] at this; cases this
  · have := (g2 rfl).2 i (h1 rfl).1
    rw [(h1 rfl).2.1] at this; cases this
  · obtain ⟨a1, a2, a3⟩ := h1 rfl
    obtain ⟨b1, b2, b3⟩ := g1 rfl
    refine ⟨?_, rfl⟩
    rcases Nat.lt_trichotomy i a with c | c | c
    · have := b3 i c; rw [a2] at this; cases this
    · exact c
    · have := a3 a c; rw [b2] at this; cases this

set_option maxHeartbeats 1000000 in
theorem policyRuns_any (K G L : Nat) (l : List Bool) (A : Option Addr) (c : Nat) (w : World) (hn : l.length ≤ 100) (hl : Row w w.heap.size A l.length (l.map Value.bool)) :
    Calls Try.prog 4 #[.agg #[.float .f64 K, .float .f64 G, .float .f64 L], .slice A l.length c] w (TrueB w) := by
  have HL := Lib.hid hl; clear hl
  go_enter Try.func4, Try.ntmps4
  go_wp2_with fail
  refine (poAwake_any _).mono ?_
  rintro e w1 ⟨rfl, hb1⟩
  have hbx : Cells w1 w.heap.size 32 #[.float .f64 K, .float .f64 G, .float .f64 L] := (Cells.new w _ _).below' hb1
  have hb1' : Below w.heap.size w w1 := ((Below.refl _ _).alloc (Nat.le_refl _) _).trans (hb1.mono (by simp))
  have p0 := hbx.cell 0
  have p1 := hbx.cell 1
  have p2 := hbx.cell 2
  simp only [List.getElem?_toArray, List.getElem?_cons_zero, List.getElem?_cons_succ] at p0 p1 p2
  go_wp2_with fail
  refine (refScores_any K G L l A c _ (by omega) ((HL.out.below hb1').more hb1'.size)).mono ?_
  rintro e w2 ⟨v, qs, rfl, hso, hown, hb2⟩
  obtain ⟨Aq, cq, rfl, hrow⟩ := Row.of_own hown
  have hq : qs.length = l.length := hso.1
  have HQ := Lib.hid hq; clear hq
  have hb2' : Below w.heap.size w w2 := hb1'.trans (hb2.mono hb1'.size)
  have HR := Lib.hid hrow; clear hrow
  go_wp2
  go_loopw [23, 6, 7, 8] (fun i a f x wr => FoundRel K G L l w2 i a f x wr) (fun i _ _ _ _ => l.length - (intOf i).toNat)
  case atStart => exact ⟨0, 0, 0, false, Nat.zero_le _, rfl, rfl, rfl, rfl, by omega, by rw [List.take_zero]; exact Fl.cv_zero, (fun h => by cases h), (fun _ => ⟨rfl, fun j hj => absurd hj (by omega)⟩), rfl⟩
  case round =>
    obtain ⟨k, a, x, f, hk, rfl, rfl, rfl, rfl, hx, hcx, hft, hff, rfl⟩ := hrel
    have HC := Lib.hid hcx; clear hcx
    have HT := Lib.hid hft; have HF := Lib.hid hff; clear hft hff
    have hbx2 := hbx.below' hb2
    clear p0 p1 p2
    have p0 := hbx2.cell 0
    have p1 := hbx2.cell 1
    have p2 := hbx2.cell 2
    simp only [List.getElem?_toArray, List.getElem?_cons_zero, List.getElem?_cons_succ] at p0 p1 p2
    by_cases hlt : k < l.length
    · obtain ⟨b, off, y, rfl, _, gy, cy⟩ := HR.out.get hlt
      obtain ⟨r, gr, hr, hcr⟩ := hso.2 k hlt
      rw [gy] at gr
      obtain rfl := Option.some.inj gr
      have hge := ge_key y L
      rw [hcr] at hge
      have HCR := Lib.hid hcr
      clear gy gr hcr
      cases f
      · cases hq : Fl.geO (Fl.sc K G (l.take (k + 1))) (Fl.cv L)
        · rw [hq] at hge
          have HQ2 := Lib.hid hq; clear hq
          go_wp2
          go_roundw
          case rel =>
            refine ⟨k + 1, a, y, false, by omega, by go_num, rfl, rfl, rfl, hr, HCR.out, (fun h => by cases h), (fun _ => ⟨(HF.out rfl).1, fun j hj => ?_⟩), rfl⟩
            by_cases e : j = k
            · rw [e]; exact HQ2.out
            · exact (HF.out rfl).2 j (by omega)
          case measure => simp [intOf]; omega
        · rw [hq] at hge
          have HQ2 := Lib.hid hq; clear hq
          go_wp2
          go_roundw
          case rel =>
            exact ⟨k + 1, k, y, true, by omega, by go_num, rfl, rfl, rfl, hr, HCR.out, (fun _ => ⟨by omega, HQ2.out, (HF.out rfl).2⟩), (fun h => by cases h), rfl⟩
          case measure => simp [intOf]; omega
      · clear hge
        go_wp2
        go_roundw
        case rel =>
          exact ⟨k + 1, a, y, true, by omega, by go_num, rfl, rfl, rfl, hr, HCR.out, (fun _ => ⟨by have := (HT.out rfl).1; omega, (HT.out rfl).2⟩), (fun h => by cases h), rfl⟩
        case measure => simp [intOf]; omega
    · obtain rfl : k = l.length := by omega
      go_wp2_with fail
      refine (first_any K G L l A c _ (by omega) ((HL.out.below hb2').more hb2'.size)).mono ?_
      rintro e w3 ⟨i, is, rfl, hfi, hb3⟩
      obtain ⟨rfl, rfl⟩ : i = a ∧ is = f := first_one hfi ⟨HT.out, HF.out⟩
      have HFI := Lib.hid hfi; clear hfi
      have hb3' : Below w.heap.size w w3 := hb2'.trans (hb3.mono hb2'.size)
      have hbx3 := hbx2.below' hb3
      clear p0 p1 p2
      have p0 := hbx3.cell 0
      have p1 := hbx3.cell 1
      have p2 := hbx3.cell 2
      simp only [List.getElem?_toArray, List.getElem?_cons_zero, List.getElem?_cons_succ] at p0 p1 p2
      go_wp2_with fail
      refine (run_any K G L l A c _ (by omega) ((HL.out.below hb3').more hb3'.size)).mono ?_
      rintro e w4 ⟨o, rs, rfl, hu, ho, hge, hb4⟩
      have hb4' : Below w.heap.size w w4 := hb3'.trans (hb4.mono hb3'.size)
      have hrl := hu.1
      have HRL := Lib.hid hrl; clear hrl
      have ra := rows_alike hu hso
      have HRA := Lib.hid ra; clear ra
      have hbx4 := hbx3.below' hb4
      have hro := Row.of_cells ho ho.lt
      have HRO := Lib.hid hro; clear hro
      clear p0 p1 p2
      have p0 := hbx4.cell 0
      have p1 := hbx4.cell 1
      have p2 := hbx4.cell 2
      simp only [List.getElem?_toArray, List.getElem?_cons_zero, List.getElem?_cons_succ] at p0 p1 p2
      go_wp2_with fail
      refine (sameFloats_len rs qs l.length l.length HRL.out HQ.out (some ⟨o, 0, none⟩) Aq _ _ _ w4.heap.size (by have := HRL.out; omega) ?_ ?_).mono ?_
      · simpa using HRO.out
      · have h23 : Below wr.heap.size wr w4 := hb3.trans (hb4.mono hb3.size)
        rw [HQ.out]
        exact (HR.out.below h23).more h23.size
      rintro e w5 ⟨b5, n5, rfl, hbt, rfl⟩
      obtain rfl : b5 = true := hbt.2 HRA.out
      clear hbt
      go_wp2_with fail
      refine (score_any K G L l A c _ (by omega) (((HL.out.below hb4').more hb4'.size).drewN _)).mono ?_
      rintro e w6 ⟨z, rfl, hz, hcz, hb6⟩
      have hzz : sameB z x = true := by
        have e1 : Fl.cv x = Fl.sc K G l := by have := HC.out; rw [List.take_length] at this; exact this
        unfold sameB; exact decide_eq_true (rk_cv hz hx (hcz.trans e1.symm))
      have HCZ := Lib.hid hcz; clear hcz
      go_wp2_with fail
      refine (refSame_is z x true hzz _).mono ?_
      rintro e w7 ⟨rfl, rfl⟩
      go_wp2
      go_ret
      exact ⟨rfl, hb4'.trans ((undrewN hb6).mono hb4'.size)⟩

theorem policyRuns_far (K G L : Nat) (n : Nat) (A : Option Addr) (c : Nat) (w : World) (hn : 100 < n) :
    Calls Try.prog 4 #[.agg #[.float .f64 K, .float .f64 G, .float .f64 L], .slice A n c] w (TrueB w) := by
  have hd : decide ((100 : Int) < (n : Int)) = true := decide_eq_true (by omega)
  go_enter Try.func4, Try.ntmps4
  go_wp2_with fail
  refine (poAwake_any _).mono ?_
  rintro e w1 ⟨rfl, hb1⟩
  go_wp2
  go_ret
  exact ⟨rfl, ((Below.refl _ _).alloc (Nat.le_refl _) _).trans (hb1.mono (by simp))⟩

theorem policyRuns_walk (K G L : Nat) (l : List Bool) (A : Option Addr) (c : Nat) {w : World} (hr : Row w w.heap.size A l.length (l.map Value.bool)) (_ : ∀ y ∈ l, True) (_ : l.length ≤ maxLen) (_ : World) :
    Calls Try.prog 4 #[.agg #[.float .f64 K, .float .f64 G, .float .f64 L], .slice A l.length c] w (TrueB w) := by
  by_cases hn : l.length ≤ 100
  · exact policyRuns_any K G L l A c w hn hr
  · exact policyRuns_far K G L l.length A c w (by omega)
end Go.Proofs.Ytohilconpcgjeaa
