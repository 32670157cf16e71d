import Derived.Test.YtohilconpcgjeaaPoLaws
import Derived.Test.YtohilconpcgjeaaPoPlain
namespace Go.Proofs.Ytohilconpcgjeaa
open Wd Go.ChangeShapes Go.WideShapes Go.RowKit
set_option linter.unusedVariables false

theorem eager_is (K G L x : Nat) (b : Bool) (w : World) (h : Fl.geO (Fl.cv x) (Fl.cv L) = b) : Calls Try.prog 22 #[.agg #[.float .f64 K, .float .f64 G, .float .f64 L], .float .f64 x] w (BoolB b w) := by
  subst h; exact eager_any K G L x w

theorem plain_is (K G L : Nat) (b : Bool) (w : World) (h : plainB K G L = b) : Calls Try.prog 21 #[.agg #[.float .f64 K, .float .f64 G, .float .f64 L]] w (BoolB b w) := by
  subst h; exact plain_any K G L w

def NoughtB (w : World) (e : Ending) (w' : World) : Prop := ∃ r, e = .returned (.float .f64 r) ∧ (FloatKind.f64.format.order r 0 == some .eq) = true ∧ Below w.heap.size w w'

theorem scoreNone_any (K G L n : Nat) (A : Option Addr) (w : World) (hn : n ≤ 1000) (hp : plainB K G L = true) (hr : Row w w.heap.size A n (List.replicate n (Value.bool false))) :
    Calls Try.prog 20 #[.agg #[.float .f64 K, .float .f64 G, .float .f64 L], .slice A n n] w (NoughtB w) := by
  have h := score_any K G L (List.replicate n false) A n w (by simpa using hn) (by rw [List.map_replicate, List.length_replicate]; exact hr)
  rw [List.length_replicate] at h
  refine h.mono ?_
  rintro e w' ⟨r, rfl, h1, h2, h3⟩
  obtain ⟨q, g1, g2⟩ := sc_none hp n
  obtain rfl := cv_inj (h2.trans g1)
  refine ⟨r, rfl, ?_, h3⟩
  rw [eq_zero]; unfold zeroB; exact decide_eq_true g2

theorem infob : (Try.prog.info? 4).map (fun i => (i.zero, i.size, i.bytes)) = some (some (.bool false), 1, 1) := by kernel_rfl

def GoneRel (K G L : Nat) (rs : List Nat) (i B o : Nat) (W : World) (k : Value) (w : World) : Prop :=
  ∃ j : Nat, j ≤ i ∧ k = .int .i64 j ∧ Cells w B 32 #[.float .f64 K, .float .f64 G, .float .f64 L] ∧ Cells w o 26 (rs.map (Value.float .f64)).toArray ∧ Below B W w

set_option maxHeartbeats 4000000 in
theorem policyFirst_any (K G L : Nat) (l : List Bool) (A : Option Addr) (c : Nat) (w : World) (hn : l.length ≤ 100) (hl : Row w w.heap.size A l.length (l.map Value.bool)) :
    Calls Try.prog 7 #[.agg #[.float .f64 K, .float .f64 G, .float .f64 L], .slice A l.length c] w (TrueB w) := by
  have HL := Lib.hid hl; clear hl
  go_enter Try.func7, Try.ntmps7
  go_wp2_with fail
  refine (poAwake_any _).mono ?_
  rintro e w1 ⟨rfl, hb1⟩
  have hbx : Cells w1 w.heap.size 32 #[.float .f64 K, .float .f64 G, .float .f64 L] := (Cells.new w _ _).below' hb1
  have hb1' : Below w.heap.size w w1 := ((Below.refl _ _).alloc (Nat.le_refl _) _).trans (hb1.mono (by simp))
  have p0 := hbx.cell 0
  have p1 := hbx.cell 1
  have p2 := hbx.cell 2
  simp only [List.getElem?_toArray, List.getElem?_cons_zero, List.getElem?_cons_succ] at p0 p1 p2
  go_wp2_with fail
  refine (first_any K G L l A c _ (by omega) ((HL.out.below hb1').more hb1'.size)).mono ?_
  rintro e w2 ⟨i, is, rfl, hfi, hb2⟩
  have HFI := Lib.hid hfi; clear hfi
  have hb2' : Below w.heap.size w w2 := hb1'.trans (hb2.mono hb1'.size)
  have hbx2 := hbx.below' hb2
  clear p0 p1 p2
  have p0 := hbx2.cell 0
  have p1 := hbx2.cell 1
  have p2 := hbx2.cell 2
  simp only [List.getElem?_toArray, List.getElem?_cons_zero, List.getElem?_cons_succ] at p0 p1 p2
  go_wp2_with fail
  refine (run_any K G L l A c _ (by omega) ((HL.out.below hb2').more hb2'.size)).mono ?_
  rintro e w3 ⟨o, rs, rfl, hu, ho, hge, hb3⟩
  have hb3' : Below w.heap.size w w3 := hb2'.trans (hb3.mono hb2'.size)
  have hbx3 := hbx2.below' hb3
  clear p0 p1 p2
  have p0 := hbx3.cell 0
  have p1 := hbx3.cell 1
  have p2 := hbx3.cell 2
  simp only [List.getElem?_toArray, List.getElem?_cons_zero, List.getElem?_cons_succ] at p0 p1 p2
  have hz := hbx3.lt
  cases is
  · obtain ⟨hi0, hno⟩ := HFI.out.2 rfl
    subst hi0
    have hmk := fun W => make_row (P := Try.prog) 33 4 (.bool false) 1 Try.underlying33 infob rfl l.length (by omega) (by omega) W
    go_wp2
    go_quiet (fail)
    go_wp2
    go_loopw [8] (fun k wr => k = .int .i64 0 ∧ wr = w3.drewN nq) (fun _ _ => 0)
    case atStart => exact ⟨rfl, rfl⟩
    case round =>
      obtain ⟨rfl, hwr⟩ := hrel
      have hbx4 : Cells wr w.heap.size 32 #[.float .f64 K, .float .f64 G, .float .f64 L] := by rw [hwr]; exact hbx3.drewN _
      have hbe : Below w.heap.size w wr := by rw [hwr]; exact below_drewN hb3' _
      clear hwr p0 p1 p2
      go_wp2
      have hbw : Below w.heap.size w wr := hbe
      have q0 := hbx4.cell 0
      have q1 := hbx4.cell 1
      have q2 := hbx4.cell 2
      simp only [List.getElem?_toArray, List.getElem?_cons_zero, List.getElem?_cons_succ] at q0 q1 q2
      have hzr := hbx4.lt
      cases hpl : plainB K G L
      · have HPL := Lib.hid hpl; clear hpl
        first | go_region_with
          (first
            | (go_at_call 21; refine (plain_is K G L false _ HPL.out).mono ?_; rintro e w4 ⟨rfl, hb4⟩; have d0 := (hb4.cell (p := ⟨w.heap.size, 0, none⟩) hzr).trans q0; have d1 := (hb4.cell (p := ⟨w.heap.size, 1, none⟩) hzr).trans q1; have d2 := (hb4.cell (p := ⟨w.heap.size, 2, none⟩) hzr).trans q2; have hz4 := Nat.lt_of_lt_of_le hzr hb4.size)) | fail
        all_goals (go_wp2; go_ret; exact ⟨rfl, hbw.trans ((undrew hb4).mono hbw.size)⟩)
      · have HPL := Lib.hid hpl; clear hpl
        have hp1 := World.new_ne wr _ q0
        first | go_region_with
          (first
            | (go_at_call 21; refine (plain_is K G L true _ HPL.out).mono ?_; rintro e w4 ⟨rfl, hb4⟩; have d0 := (hb4.cell (p := ⟨w.heap.size, 0, none⟩) hzr).trans q0; have d1 := (hb4.cell (p := ⟨w.heap.size, 1, none⟩) hzr).trans q1; have d2 := (hb4.cell (p := ⟨w.heap.size, 2, none⟩) hzr).trans q2; have hz4 := Nat.lt_of_lt_of_le hzr hb4.size)
            | (go_at_call 20; refine (scoreNone_any K G L l.length _ _ (by omega) HPL.out (Row.fresh _ _ _ _)).mono ?_; rintro e w5 ⟨r, rfl, hr0, hb5⟩)) | fail
        all_goals (go_wp2; go_ret; exact ⟨rfl, (hbw.trans ((undrew hb4).mono hbw.size)).trans (((Below.refl _ _).alloc (Nat.le_refl _) _).trans (hb5.mono (by simp)) |>.mono (by have := hbw.size; have := (undrew hb4).size; omega))⟩)
  · obtain ⟨hil, hyes, hno⟩ := HFI.out.1 rfl
    obtain ⟨r, gr, hr, hcr⟩ := hu.2 i hil
    have hrl := hu.1
    have ro : w3.cell? ⟨o, i, none⟩ = some (.float .f64 r) := by
      rw [ho.cell i]; simp [gr]
    have hea : Fl.geO (Fl.cv r) (Fl.cv L) = true := by rw [hcr]; exact hyes
    have HEA := Lib.hid hea
    have HNO := Lib.hid hno
    have HRL := Lib.hid hrl
    have HU := Lib.hid hu
    clear gr hcr hea hno hyes hrl hu
    have i1 : (0 : Int) ≤ (i : Int) := by omega
    have i2 : (i : Int) < (l.length : Int) := by omega
    have i3 : decide ((i : Int) < 0) = false := by simp
    have i4 : decide (l.length ≤ i) = false := decide_eq_false (by omega)
    have i5 : decide ((l.length : Int) ≤ (i : Int)) = false := decide_eq_false (by omega)
    go_wp2
    first | go_region_held (fun w' => w'.cell? ⟨w.heap.size, 0, none⟩ = some (.float .f64 K) ∧ w'.cell? ⟨w.heap.size, 1, none⟩ = some (.float .f64 G) ∧ w'.cell? ⟨w.heap.size, 2, none⟩ = some (.float .f64 L) ∧ w'.cell? ⟨o, i, none⟩ = some (.float .f64 r)) (go_keep)
      (first
        | (go_at_call 22; refine (eager_is K G L r true _ HEA.out).mono ?_; rintro e w4 ⟨rfl, hb4⟩; have d0 := (hb4.cell (p := ⟨w.heap.size, 0, none⟩) hz).trans p0; have d1 := (hb4.cell (p := ⟨w.heap.size, 1, none⟩) hz).trans p1; have d2 := (hb4.cell (p := ⟨w.heap.size, 2, none⟩) hz).trans p2; have d3 := (hb4.cell (p := ⟨o, i, none⟩) ho.lt).trans ro)) | fail
    have hbw4 : Below w3.heap.size w3 w4 := undrew hb4
    have hb4' : Below w.heap.size w w4 := hb3'.trans (hbw4.mono hb3'.size)
    have hbx4 := hbx3.below' hbw4
    have ho4 := ho.below' hbw4
    clear p0 p1 p2 d0 d1 d2 d3 ro hb4 hbw4 i3 i4 i5
    have hmk := fun W => make_row (P := Try.prog) 33 4 (.bool false) 1 Try.underlying33 infob rfl l.length (by omega) (by omega) W
    go_wp2
    go_loopw [8] (fun k wr => GoneRel K G L rs i w.heap.size o w k wr) (fun k _ => i - (intOf k).toNat)
    case atStart => exact ⟨0, Nat.zero_le _, rfl, hbx4, ho4, hb4'⟩
    case round =>
      clear hbx4 ho4 hb4'
      obtain ⟨k, hk, rfl, hbx4, ho4, hbe⟩ := hrel
      by_cases hlt : k < i
      · obtain ⟨r2, gr2, hr2, hcr2⟩ := HU.out.2 k (by omega)
        have q0 := hbx4.cell 0
        have q1 := hbx4.cell 1
        have q2 := hbx4.cell 2
        simp only [List.getElem?_toArray, List.getElem?_cons_zero, List.getElem?_cons_succ] at q0 q1 q2
        have ro : wr.cell? ⟨o, k, none⟩ = some (.float .f64 r2) := by
          rw [ho4.cell k]; simp [gr2]
        have hea : Fl.geO (Fl.cv r2) (Fl.cv L) = false := by rw [hcr2]; exact HNO.out k hlt
        have HEA2 := Lib.hid hea
        clear gr2 hcr2 hea
        have k1 : (0 : Int) ≤ (k : Int) := by omega
        have k2 : (k : Int) < (l.length : Int) := by omega
        have hzr := hbx4.lt
        have hzo := ho4.lt
        go_wp2
        first | go_region_held (fun w' => w'.cell? ⟨w.heap.size, 0, none⟩ = some (.float .f64 K) ∧ w'.cell? ⟨w.heap.size, 1, none⟩ = some (.float .f64 G) ∧ w'.cell? ⟨w.heap.size, 2, none⟩ = some (.float .f64 L) ∧ w'.cell? ⟨o, k, none⟩ = some (.float .f64 r2)) (go_keep)
          (first
            | (go_at_call 22; refine (eager_is K G L r2 false _ HEA2.out).mono ?_; rintro e w4 ⟨rfl, hb4⟩; have d0 := (hb4.cell (p := ⟨w.heap.size, 0, none⟩) hzr).trans q0; have d1 := (hb4.cell (p := ⟨w.heap.size, 1, none⟩) hzr).trans q1; have d2 := (hb4.cell (p := ⟨w.heap.size, 2, none⟩) hzr).trans q2; have d3 := (hb4.cell (p := ⟨o, k, none⟩) hzo).trans ro)) | fail
        clear d0 d1 d2 d3 q0 q1 q2 ro
        go_wp2
        go_roundw
        case rel => exact ⟨k + 1, by omega, by go_num, hbx4.below' (undrew hb4), ho4.below' (undrew hb4), hbe.trans ((undrew hb4).mono hbe.size)⟩
        case measure => simp [intOf]; omega
      · go_wp2
        have hbw : Below w.heap.size w wr := hbe
        have q0 := hbx4.cell 0
        have q1 := hbx4.cell 1
        have q2 := hbx4.cell 2
        simp only [List.getElem?_toArray, List.getElem?_cons_zero, List.getElem?_cons_succ] at q0 q1 q2
        have hzr := hbx4.lt
        cases hpl : plainB K G L
        · have HPL := Lib.hid hpl; clear hpl
          first | go_region_with
            (first
              | (go_at_call 21; refine (plain_is K G L false _ HPL.out).mono ?_; rintro e w4 ⟨rfl, hb4⟩; have d0 := (hb4.cell (p := ⟨w.heap.size, 0, none⟩) hzr).trans q0; have d1 := (hb4.cell (p := ⟨w.heap.size, 1, none⟩) hzr).trans q1; have d2 := (hb4.cell (p := ⟨w.heap.size, 2, none⟩) hzr).trans q2; have hz4 := Nat.lt_of_lt_of_le hzr hb4.size)) | fail
          all_goals (go_wp2; go_ret; exact ⟨rfl, hbw.trans ((undrew hb4).mono hbw.size)⟩)
        · have HPL := Lib.hid hpl; clear hpl
          have hp1 := World.new_ne wr _ q0
          first | go_region_with
            (first
              | (go_at_call 21; refine (plain_is K G L true _ HPL.out).mono ?_; rintro e w4 ⟨rfl, hb4⟩; have d0 := (hb4.cell (p := ⟨w.heap.size, 0, none⟩) hzr).trans q0; have d1 := (hb4.cell (p := ⟨w.heap.size, 1, none⟩) hzr).trans q1; have d2 := (hb4.cell (p := ⟨w.heap.size, 2, none⟩) hzr).trans q2; have hz4 := Nat.lt_of_lt_of_le hzr hb4.size)
              | (go_at_call 20; refine (scoreNone_any K G L l.length _ _ (by omega) HPL.out (Row.fresh _ _ _ _)).mono ?_; rintro e w5 ⟨r, rfl, hr0, hb5⟩)) | fail
          all_goals (go_wp2; go_ret; exact ⟨rfl, (hbw.trans ((undrew hb4).mono hbw.size)).trans (((Below.refl _ _).alloc (Nat.le_refl _) _).trans (hb5.mono (by simp)) |>.mono (by have := hbw.size; have := (undrew hb4).size; omega))⟩)

theorem policyFirst_far (K G L : Nat) (n : Nat) (A : Option Addr) (c : Nat) (w : World) (hn : 100 < n) :
    Calls Try.prog 7 #[.agg #[.float .f64 K, .float .f64 G, .float .f64 L], .slice A n c] w (TrueB w) := by
  have hd : decide ((100 : Int) < (n : Int)) = true := decide_eq_true (by omega)
  go_enter Try.func7, Try.ntmps7
  go_wp2_with fail
  refine (poAwake_any _).mono ?_
  rintro e w1 ⟨rfl, hb1⟩
  go_wp2
  go_ret
  exact ⟨rfl, ((Below.refl _ _).alloc (Nat.le_refl _) _).trans (hb1.mono (by simp))⟩

theorem policyFirst_walk (K G L : Nat) (l : List Bool) (A : Option Addr) (c : Nat) {w : World} (hr : Row w w.heap.size A l.length (l.map Value.bool)) (_ : ∀ y ∈ l, True) (_ : l.length ≤ maxLen) (_ : World) :
    Calls Try.prog 7 #[.agg #[.float .f64 K, .float .f64 G, .float .f64 L], .slice A l.length c] w (TrueB w) := by
  by_cases hn : l.length ≤ 100
  · exact policyFirst_any K G L l A c w hn hr
  · exact policyFirst_far K G L l.length A c w (by omega)
end Go.Proofs.Ytohilconpcgjeaa
