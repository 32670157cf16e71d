import Derived.Test.YtakgiommhpifiaaPmLo
import Derived.Deep.LoopGhost
import Derived.Deep.DeepCutAuto
import Derived.Deep.RegionHeld3
namespace Go.Proofs.Ytakgiommhpifiaa
open Wd Pm Go.Maps Go.RowKit
set_option linter.unusedVariables false

theorem _root_.Go.Proofs.Ytakgiommhpifiaa.Deeds.at_w {w w1 : World} {A : Option Addr} {l : List Deed} (h : Deeds w w.heap.size A l) (b1 : Below w.heap.size w w1) : Deeds w1 w1.heap.size A l := by
  have h1 := h.below b1
  exact ⟨fun hp => by obtain ⟨b, off, e, hB, hx⟩ := h1.at_ hp; exact ⟨b, off, e, Nat.lt_of_lt_of_le hB b1.size, hx⟩, fun d hd => by have := h1.ok d hd; exact ⟨this.kind, this.i, this.v, this.row.more b1.size, this.le⟩⟩
/-- the law's loop -/
def DoesRel (w : World) (q : Nat) (l : List Deed) (g : Nat) (p idx : Value) (wr : World) : Prop := ∃ j p' : Nat, j ≤ l.length ∧ g = l.length - j ∧ idx = .int .i64 j ∧ p = .pointer (some ⟨p', 0, none⟩) ∧ DSt w p' q j wr
def deedCells (d : Deed) : Array Value := #[.int .i64 d.kind, .int .i64 d.i, .int .u64 d.v, .slice d.A d.keep.length d.cp]
def DCut (w : World) (q m g : Nat) (d : Deed) (p : Value) (wx : World) : Prop := ∃ p' : Nat, p = .pointer (some ⟨p', 0, none⟩) ∧ DSt w p' q m wx ∧ Cells wx g 32 (deedCells d)

/-- what a region that draws must find -/
def SD (W : World) (g q : Nat) (di n ev : Int) (dead : Bool) (w : World) : Prop := Below W.heap.size W w ∧ w.cell? ⟨g, 1, none⟩ = some (.int .i64 di) ∧ w.cell? ⟨q, 0, none⟩ = some (.int .i64 n) ∧ w.cell? ⟨q, 3, none⟩ = some (.bool dead) ∧ w.cell? ⟨q, 4, none⟩ = some (.int .i64 ev)
theorem SD.mk' {W w : World} {B q : Nat} {σ : St} {ρ : RSt} {d : Deed} {g : Nat} (hc : Cells W g 32 (deedCells d)) (rd : RDev W B q ρ) (s : Same σ ρ) (b : Below W.heap.size W w) : SD W g q d.i σ.n σ.ev σ.dead w := by
  obtain ⟨v, hv⟩ := (rd.below b).v
  have r := hv.reads
  exact ⟨b, (hc.below' b).cell 1, by rw [← s.n]; exact r.c0, by rw [← s.dead]; exact r.c3, by rw [← s.ev]; exact r.c4⟩

set_option maxRecDepth 100000 in
set_option maxHeartbeats 4000000 in
theorem does_true (n : Int) (hn : (Lit.int .i64 n).wf = true) (A : Option Addr) (c : Nat) (l : List Deed) (w : World) (r1 : Deeds w w.heap.size A l) (m1 : l.length ≤ maxLen) : Calls Try.prog 3 #[.int .i64 n, .slice A l.length c] w (TrueB w) := by
  have R1 := Lib.hid r1
  have M1 := Lib.hid m1
  clear r1 m1
  by_cases f1 : fewB l = true
  · have F1 := Lib.hid f1
    have L1 : l.length ≤ 60 := by unfold fewB at f1; simp at f1; exact f1.2
    clear f1
    go_enter Try.func3, Try.ntmps3
    go_wp2_with fail
    refine (awake_true w).mono ?_
    rintro e w1 ⟨rfl, b1⟩
    go_wp2_with fail
    refine (few_any (R1.out.at_w b1) M1.out).mono ?_
    rintro e w2 ⟨rfl, b2⟩
    simp only [F1.out]
    have b12 := b1.trans (b2.mono b1.size)
    go_wp2_with fail
    refine (new_dev n w2).mono ?_
    rintro e w3 ⟨f, rfl, d3, fr3, b3⟩
    have hp : f.ptr = .pointer (some ⟨f.p, 0, none⟩) := rfl
    rw [hp]
    go_wp2_with fail
    refine (rnew_dev n w3 w.heap.size (b12.trans (b3.mono b12.size)).size).mono ?_
    rintro e w4 ⟨rfl, rd4, b4⟩
    obtain ⟨q, hq⟩ : ∃ q, w3.heap.size = q := ⟨_, rfl⟩
    rw [hq] at rd4 ⊢
    have hs := dst_new (b12.trans (b3.mono b12.size)) d3 (fun k hk => Nat.le_trans b12.size (fr3 k hk)) (by rw [← hq] at *; exact b4) rd4
    obtain ⟨p, hpp⟩ : ∃ p, f.p = p := ⟨_, rfl⟩
    rw [hpp] at hs ⊢
    have HS := Lib.hid hs
    clear hs rd4 b4 d3 fr3 b3 b12 b1 b2 hq hp hpp
    go_wp2
    go_loopg [5, 25] l.length (fun g p idx wr => DoesRel w q l g p idx wr)
    case atStart => exact ⟨0, p, Nat.zero_le _, rfl, rfl, rfl, HS.out⟩
    case round =>
      obtain ⟨j, p1, hj, rfl, rfl, rfl, hA⟩ := hrel
      have hbw := hA.is_below
      by_cases hlt : j < l.length
      · obtain ⟨d, hd⟩ : ∃ d, l[j]? = some d := ⟨_, List.getElem?_eq_getElem hlt⟩
        have hD := R1.out.below hbw
        obtain ⟨b, off, rfl, hbB, hx⟩ := hD.at_ (by omega)
        have ok := hD.ok d (List.mem_of_getElem? hd)
        have x0 : wr.cell? ⟨b, off + j * 4, none⟩ = some (.int .i64 d.kind) := hx j d hd 0 _ rfl
        have x1 : wr.cell? ⟨b, off + j * 4 + 1, none⟩ = some (.int .i64 d.i) := hx j d hd 1 _ rfl
        have x2 : wr.cell? ⟨b, off + j * 4 + 2, none⟩ = some (.int .u64 d.v) := hx j d hd 2 _ rfl
        have x3 : wr.cell? ⟨b, off + j * 4 + 3, none⟩ = some (.slice d.A d.keep.length d.cp) := hx j d hd 3 _ rfl
        have HOK := Lib.hid ok
        have HB := Lib.hid hbw
        have HA := Lib.hid (hA.alloc (.cells (deedCells d) 32))
        have HC := Lib.hid (Cells.new wr 32 (deedCells d))
        clear hx hD hd ok hA hbw
        have hj60 : j ≤ 60 := by omega
        go_upto_if 31 with fail
        go_cut [5, 9] from 31 to 47 (fun p p9 wx => DCut w q (j + 1) wr.heap.size d p wx)
        case first =>
          by_cases k6 : d.kind = 6
          · have kq : (d.kind == 6) = true := by simpa using k6
            clear k6
            go_wp2_with (first
              | (go_at_call 8; refine (d_copied HA.out).mono ?_; rintro e w5 ⟨p5, rfl, h5, k5⟩; have hc5 := k5 _ _ HC.out; have y1 : w5.cell? ⟨wr.heap.size, 1, none⟩ = some (.int .i64 d.i) := hc5.cell 1; have y2 : w5.cell? ⟨wr.heap.size, 2, none⟩ = some (.int .u64 d.v) := hc5.cell 2; have HC5 := Lib.hid hc5; have H5 := Lib.hid h5; clear h5 k5 hc5)
              | (go_at_call 9; refine (c_store H5.out (by omega) _ _ HOK.out.v).mono ?_; rintro e w6 ⟨⟨er, rfl⟩, h6, k6⟩; have HC6 := Lib.hid (k6 _ _ HC5.out); have H6 := Lib.hid h6; clear h6 k6)
              | (go_at_call 10; refine (c_crash H6.out).mono ?_; rintro e w7 ⟨rfl, h7, k7⟩; have HC7 := Lib.hid (k7 _ _ HC6.out); have H7 := Lib.hid h7; clear h7 k7))
            go_meet
            exact ⟨_, rfl, H7.out.up (by omega), HC7.out⟩
          · have kq : (d.kind == 6) = false := by simpa using k6
            clear k6
            go_wp2_with (go_at_call 11; refine (d_do HA.out (by omega) d (HOK.out.below ((Below.refl _ _).alloc HB.out.size _))).mono ?_; rintro e w5 ⟨rfl, h5, k5⟩; have HC5 := Lib.hid (k5 _ _ HC.out); have H5 := Lib.hid h5; clear h5 k5)
            go_meet
            exact ⟨_, rfl, H5.out, HC5.out⟩
        case rest =>
        obtain ⟨p2, rfl, h2, hc2⟩ := hcut
        have H2 := Lib.hid h2
        obtain ⟨f, σ, ρ, rfl, dv, fr, hbw, sm, hev, hll, rd⟩ := h2
        have c1 : wc.cell? ⟨wr.heap.size, 1, none⟩ = some (.int .i64 d.i) := hc2.cell 1
        have hll2 : (dirtyR ρ.l).length ≤ 1000 := by have := dirtyR_le ρ.l; omega
        have hok := fun r hr => (rd.2.1.ok r hr).at_
        have es := same_stays sm hok d.i
        have el := same_load sm d.i
        have HD2 := Lib.hid dv; have HR2 := Lib.hid rd; have HSM := Lib.hid sm; have HC2 := Lib.hid hc2; have HES := Lib.hid es; have HEL := Lib.hid el
        clear hok es el dv rd sm hc2 fr hbw hev hll HA HC
        go_upto_if 62 with (first
          | (go_at_call 12; refine (load_dev HD2.out d.i).mono ?_; rintro e w5 ⟨rfl, rfl⟩)
          | (go_at_call 13; refine (t_rholds HR2.out (Below.refl _ _) d.i).mono ?_; rintro e w5 ⟨rfl, b5, b5'⟩; have hr5 := HR2.out.below b5; obtain ⟨v5, hv5⟩ := hr5.v; have rr := hv5.reads; have q0 := rr.c0; have q3 := rr.c3; have hc5 := HC2.out.below' b5; have y1 : w5.cell? ⟨wr.heap.size, 1, none⟩ = some (.int .i64 d.i) := hc5.cell 1; have HC5 := Lib.hid hc5; have HR5 := Lib.hid hr5; have HD5 := Lib.hid (HD2.out.below b5); have H5 := Lib.hid (H2.out.below b5); clear b5 b5' hr5 hv5 rr hc5))
        obtain ⟨bad, hbad⟩ : ∃ bad, refErr σ.dead (hasW σ.n d.i) = bad := ⟨_, rfl⟩
        obtain ⟨val, hval⟩ : ∃ val, σ.loadVal d.i = val := ⟨_, rfl⟩
        rw [hbad, hval]
        have hel := HEL.out
        rw [hval] at hel
        have HBAD := Lib.hid hbad; have HVAL := Lib.hid hel
        clear hbad hval hel
        go_cut [12, 13] from 62 to 74 (fun b v wx => b = .int .i64 bad ∧ v = .int .u64 val ∧ Below w5.heap.size w5 wx)
        case first =>
          have hbad := HBAD.out
          have hval := HVAL.out
          unfold refErr hasW at hbad
          unfold wantR inB at hval
          rw [← HSM.out.dead, ← HSM.out.n] at hbad
          by_cases hdd : ρ.dead = true
          · rw [if_pos hdd] at hbad hval
            have HBA := Lib.hid hbad; have HVA := Lib.hid hval
            clear hbad hval
            rw [hdd]
            go_wp2_with fail
            go_meet
            exact ⟨by rw [HBA.out], by rw [HVA.out], Below.refl _ _⟩
          · rw [if_neg hdd] at hbad hval
            have hdf : ρ.dead = false := by simpa using hdd
            clear hdd
            rw [hdf]
            by_cases hi0 : d.i < 0
            · have q1 : decide (d.i < 0) = true := by simpa using hi0
              have hno : ¬ (0 ≤ d.i ∧ d.i < ρ.n) := by omega
              simp only [hno, decide_false, Bool.false_eq_true, if_false] at hbad hval
              have HBA := Lib.hid hbad; have HVA := Lib.hid hval
              clear hbad hval hno hi0
              go_wp2_with fail
              go_quiet (fail)
              go_wp2_with fail
              go_meet
              exact ⟨by rw [HBA.out], by rw [HVA.out], below_drewN (Below.refl _ _) _⟩
            · have q1 : decide (d.i < 0) = false := by simpa using hi0
              by_cases hi1 : d.i < ρ.n
              · have q2 : decide (d.i ≥ ρ.n) = false := by simp; omega
                have hno : 0 ≤ d.i ∧ d.i < ρ.n := by omega
                simp only [hno, and_self, decide_true, if_true] at hbad hval
                have HBA := Lib.hid hbad; have HVA := Lib.hid hval
                clear hbad hval hno hi0 hi1
                go_wp2_with fail
                go_quiet (fail)
                go_wp2_with fail
                go_meet
                exact ⟨by rw [HBA.out], by rw [HVA.out], below_drewN (Below.refl _ _) _⟩
              · have q2 : decide (d.i ≥ ρ.n) = true := by simp; omega
                have hno : ¬ (0 ≤ d.i ∧ d.i < ρ.n) := by omega
                simp only [hno, decide_false, Bool.false_eq_true, if_false] at hbad hval
                have HBA := Lib.hid hbad; have HVA := Lib.hid hval
                clear hbad hval hno hi0 hi1
                go_wp2_with fail
                go_quiet (fail)
                go_wp2_with fail
                go_meet
                exact ⟨by rw [HBA.out], by rw [HVA.out], below_drewN (Below.refl _ _) _⟩
        case rest =>
        obtain ⟨rfl, rfl, b6⟩ := hcut
        have HC6 := Lib.hid (HC5.out.below' b6); have HD6 := Lib.hid (HD5.out.below b6); have HR6 := Lib.hid (HR5.out.below b6); have H6 := Lib.hid (H5.out.below b6)
        clear b6 q0 q3 y1 c1 HC5 HD5 HR5 H5 HC2 HD2 HR2 H2
        obtain ⟨w6, rfl⟩ : ∃ w6 : World, w6 = wc := ⟨_, rfl⟩
        go_upto_region 22 with fail
        go_cut [128] from 75 to 127 (fun t wx => t = .bool false ∧ Below w6.heap.size w6 wx)
        case first =>
          have hb0 : Below w6.heap.size w6 w6.drew := below_drewN (Below.refl _ _) 1
          have e1 : (val != val) = false := by simp
          have e2 : (bad != bad) = false := by simp
          have e3 : (σ.stays d.i != σ.stays d.i) = false := by simp
          have e4 : (σ.dead != σ.dead) = false := by simp
          have e5 : ((σ.n : Int) != (σ.n : Int)) = false := by simp
          have e6 : (σ.ev != σ.ev) = false := by simp
          have HL := Lib.hid hll2
          clear hll2
          go_region_held3 (fun w' => Below w6.heap.size w6 w' ∧ w'.cell? ⟨wr.heap.size, 1, none⟩ = some (.int .i64 d.i) ∧ w'.cell? ⟨q, 0, none⟩ = some (.int .i64 σ.n) ∧ w'.cell? ⟨q, 3, none⟩ = some (.bool σ.dead) ∧ w'.cell? ⟨q, 4, none⟩ = some (.int .i64 σ.ev))
            (first
              | exact SD.mk' HC6.out HR6.out HSM.out hb0
              | exact SD.mk' HC6.out HR6.out HSM.out kF
              | exact SD.mk' HC6.out HR6.out HSM.out kE
              | exact SD.mk' HC6.out HR6.out HSM.out kD
              | exact SD.mk' HC6.out HR6.out HSM.out kS)
            (first
              | (go_at_call 14; (with_reducible refine (t_stays HD6.out (by first | exact hb0 | exact kS) d.i).mono ?_); rintro e w' ⟨rfl, rfl⟩)
              | (go_at_call 15; (with_reducible refine (t_rstays HR6.out hb0 d.i).mono ?_); rintro e wS ⟨rfl, kS, jS⟩; rw [← HES.out])
              | (go_at_call 17; (with_reducible refine (t_dirty HD6.out HSM.out kS).mono ?_); rintro e wD ⟨AD, cD, rfl, rD, kD, jD⟩)
              | (go_at_call 17; (with_reducible refine (t_dirty HD6.out HSM.out kE).mono ?_); rintro e wD ⟨AD, cD, rfl, rD, kD, jD⟩; have rE2 := rE.below jD)
              | (go_at_call 18; (with_reducible refine (t_rdirty HR6.out kS).mono ?_); rintro e wE ⟨AE, cE, rfl, rE, kE, jE⟩)
              | (go_at_call 18; (with_reducible refine (t_rdirty HR6.out kD).mono ?_); rintro e wE ⟨AE, cE, rfl, rE, kE, jE⟩; have rD2 := rD.below jE)
              | (go_at_call 16; (with_reducible refine (t_same HL.out kE rD2 rE).mono ?_); rintro e wF ⟨rfl, kF, jF⟩)
              | (go_at_call 16; (with_reducible refine (t_same HL.out kD rD rE2).mono ?_); rintro e wF ⟨rfl, kF, jF⟩)
              | (go_at_call 19; (with_reducible refine (t_dead HD6.out kF).mono ?_); rintro e w' ⟨rfl, rfl⟩)
              | (go_at_call 20; (with_reducible refine (t_words HD6.out kF).mono ?_); rintro e w' ⟨rfl, rfl⟩)
              | (go_at_call 21; (with_reducible refine (t_events HD6.out kF).mono ?_); rintro e w' ⟨rfl, rfl⟩))
          all_goals
            go_wp2_with fail
            go_meet
            exact ⟨rfl, kF⟩
        case rest =>
        obtain ⟨rfl, b7⟩ := hcut
        have H7 := Lib.hid (H6.out.below b7)
        clear b7
        go_wp2_with fail
        go_roundg (l.length - (j + 1))
        case measure => omega
        case rel => exact ⟨j + 1, f.p, by omega, rfl, by go_num, rfl, H7.out⟩
      · obtain rfl : j = l.length := by omega
        have HB := Lib.hid hbw
        clear hbw hA HS
        go_wp2
        go_ret
        exact ⟨rfl, HB.out⟩
  · have F1 := Lib.hid (show fewB l = false by simpa using f1)
    clear f1
    go_enter Try.func3, Try.ntmps3
    go_wp2_with fail
    refine (awake_true w).mono ?_
    rintro e w1 ⟨rfl, b1⟩
    go_wp2_with fail
    refine (few_any (R1.out.at_w b1) M1.out).mono ?_
    rintro e w2 ⟨rfl, b2⟩
    simp only [F1.out]
    have B := Lib.hid (b1.trans (b2.mono b1.size))
    clear b1 b2
    go_wp2
    go_ret
    exact ⟨rfl, B.out⟩
end Go.Proofs.Ytakgiommhpifiaa
