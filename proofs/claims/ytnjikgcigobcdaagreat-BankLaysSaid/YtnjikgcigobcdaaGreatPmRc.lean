import Derived.Test.YtnjikgcigobcdaaGreatPmRf
namespace Go.Proofs.YtnjikgcigobcdaaGreat
open Wd Pm Go.Maps Go.RowKit
set_option linter.unusedVariables false

theorem clean_lit (r : RW) (w : World) : Calls Tryz.prog 62 #[.agg #[.int .i64 r.at_, .int .u64 r.stays, .int .u64 r.holds, .bool r.dirty, .bool r.way, .int .u64 r.sent]] w fun e w' =>
    e = .returned (.agg #[.int .i64 r.clean.at_, .int .u64 r.clean.stays, .int .u64 r.clean.holds, .bool r.clean.dirty, .bool r.clean.way, .int .u64 r.clean.sent]) ∧ Below w.heap.size w w' := clean_any r w
theorem RW.Ok.clean {r : RW} {n : Int} (h : r.Ok n) : r.clean.Ok n := by
  unfold RW.clean
  split
  · exact ⟨h.at_, h.stays, (show U64 0 by unfold U64; decide), h.sent⟩
  · exact h

theorem RDevV.form {w : World} {B q : Nat} {ρ : RSt} {v : Value} (h : RDevV w B q ρ v) : ∃ A c, v = .slice A ρ.l.length c := by
  rcases h.2.2.2.2 with ⟨rfl, h0⟩ | ⟨g, cap, cur, rfl, _⟩
  · rw [h0]; exact ⟨none, 0, rfl⟩
  · exact ⟨_, _, rfl⟩

/-! a fence -/
def RW.fence (r : RW) : RW := if r.way = true then RW.clean { r with stays := r.sent, way := false, sent := 0 } else r
def RSt.fence (ρ : RSt) : RSt := { ρ with l := ρ.l.map RW.fence }
set_option maxRecDepth 100000 in
set_option maxHeartbeats 1000000 in
theorem rfence_ok {w : World} {B q : Nat} {ρ : RSt} (h : RDev w B q ρ) (hev : ρ.ev < 4611686018427387904) (hd : ρ.dead = false) (ha : ρ.ar ≠ 1) :
    Calls Tryz.prog 26 #[.pointer (some ⟨q, 0, none⟩)] w fun e w' => e = .returned (.int .i64 0) ∧ RGoes w B q ρ.evn.1.fence w' := by
  obtain ⟨v0, rr, _⟩ := h.reads
  have c3 := rr.c3
  rw [hd] at c3
  have hev2 : ρ.evn.2 = false := by unfold RSt.evn; rw [if_neg ha]
  have H2 := Lib.hid hev2
  clear rr hd ha hev2
  go_enter Tryz.func26, Tryz.ntmps26
  go_wp2_with fail
  refine (revent_dev h hev).mono ?_
  rintro e w1 ⟨rfl, h1, t1⟩
  simp only [H2.out]
  obtain ⟨ρ1, hρ⟩ : ∃ ρ1, ρ.evn.1 = ρ1 := ⟨_, rfl⟩
  rw [hρ] at h1
  have HE := Lib.hid hρ
  clear hρ
  obtain ⟨v, hv⟩ := h1.v
  obtain ⟨A, c, rfl⟩ := hv.form
  have k1 := hv.reads.c1
  have few := hv.2.1.few
  have n1 := hv.2.1.n
  have HV := Lib.hid hv
  clear hv
  go_wp2
  go_loopw [16] (fun i wr => RLoop w1 B q ρ1 RW.fence (.slice A ρ1.l.length c) i wr) (fun i _ => ρ1.l.length - (intOf i).toNat)
  case atStart =>
    refine ⟨0, Nat.zero_le _, rfl, ?_, RTurn.refl _ _⟩
    rw [part_zero]
    exact HV.out
  case round =>
    obtain ⟨k, hk, rfl, hp, ht⟩ := hrel
    by_cases hlt : k < ρ1.l.length
    · obtain ⟨r, hr⟩ : ∃ r, ρ1.l[k]? = some r := ⟨_, List.getElem?_eq_getElem hlt⟩
      obtain ⟨g, rfl, w6, hneq, hgl, hql, a0, a1, ok, rk1⟩ := hp.at (part_len _ _ _).symm (part_at hr)
      have x0 := w6.x0; have x1 := w6.x1; have x2 := w6.x2; have x3 := w6.x3; have x4 := w6.x4; have x5 := w6.x5
      have W := Lib.hid w6
      have HP := Lib.hid hp
      have HT := Lib.hid ht
      have HR := Lib.hid hr
      have HOK := Lib.hid ok
      clear hp ht hr ok w6
      cases hy : r.way
      · have HY := Lib.hid hy
        rw [hy] at x4
        clear hy
        go_wp2
        go_roundw
        case rel =>
          refine ⟨k + 1, by omega, by go_num, ?_, HT.out.trans (RTurn.below ((Below.refl _ _).alloc (Nat.le_refl _) _))⟩
          rw [part_same HR.out (by unfold RW.fence; rw [HY.out]; simp)]
          exact HP.out.below ((Below.refl _ _).alloc (Nat.le_refl _) _)
        case measure => simp [intOf]; omega
      · have HY := Lib.hid hy
        rw [hy] at x4
        clear hy
        go_wp2
        obtain ⟨W2, hW2⟩ : ∃ W2, W2 = wr.alloc (.cells #[.int .i64 r.at_, .int .u64 r.sent, .int .u64 r.holds, .bool r.dirty, .bool false, .int .u64 0] 74) := ⟨_, rfl⟩
        have b2 : Below wr.heap.size wr W2 := by rw [hW2]; exact (Below.refl _ _).alloc (Nat.le_refl _) _
        have kb : W6 W2 wr.heap.size 0 ⟨r.at_, r.sent, r.holds, r.dirty, false, 0⟩ := by
          have := Cells.new wr 74 #[.int .i64 r.at_, .int .u64 r.sent, .int .u64 r.holds, .bool r.dirty, .bool false, .int .u64 0]
          rw [hW2]
          exact ⟨this.cell 0, this.cell 1, this.cell 2, this.cell 3, this.cell 4, this.cell 5, this.free⟩
        rw [← hW2]
        clear hW2 x0 x1 x2 x3 x4 x5
        have u6 := W.out.below hgl b2
        have y0 := kb.x0; have y1 := kb.x1; have y2 := kb.x2; have y3 := kb.x3; have y4 := kb.x4; have y5 := kb.x5
        simp only [Nat.zero_add] at y0 y1 y2 y3 y4 y5
        have rk2 : W2.cell? ⟨q, 1, none⟩ = some (.slice (some ⟨g, 0, none⟩) ρ1.l.length c) := (b2.cell (p := ⟨q, 1, none⟩) hql).trans rk1
        have HB2 := Lib.hid b2
        have U6 := Lib.hid u6
        have hg2 : g < W2.heap.size := Nat.lt_of_lt_of_le hgl b2.size
        clear b2 kb u6 rk1
        have hbx : wr.heap.size < W2.heap.size := by have := hgl; have h2 := HB2.out.size; rcases Nat.lt_or_ge wr.heap.size W2.heap.size with h | h; exact h; exact absurd (World.block_lt_of_cell? _ _ y0) (by simp; omega)
        have hq2 : q < W2.heap.size := Nat.lt_of_lt_of_le hql HB2.out.size
        have hcl := clean_lit ⟨r.at_, r.sent, r.holds, r.dirty, false, 0⟩ W2.drew
        obtain ⟨r2, hr2⟩ : ∃ r2, RW.clean ⟨r.at_, r.sent, r.holds, r.dirty, false, 0⟩ = r2 := ⟨_, rfl⟩
        rw [hr2] at hcl
        simp only at hcl
        have HR2 := Lib.hid hr2
        clear hr2
        go_region_with (go_at_call 62; (with_reducible refine hcl.mono ?_); rintro e w3 ⟨rfl, b3⟩; have b3' : Below W2.heap.size W2 w3 := undrew b3; have u3 := U6.out.below hg2 b3'; have x0 := u3.x0; have x1 := u3.x1; have x2 := u3.x2; have x3 := u3.x3; have x4 := u3.x4; have x5 := u3.x5; have z0 := u3.z (k * 6); have z1 := u3.z (k * 6 + 1); have z2 := u3.z (k * 6 + 2); have z3 := u3.z (k * 6 + 3); have z4 := u3.z (k * 6 + 4); have z5 := u3.z (k * 6 + 5); have rd3 : w3.cell? ⟨q, 1, none⟩ = some (.slice (some ⟨g, 0, none⟩) ρ1.l.length c) := (b3'.cell (p := ⟨q, 1, none⟩) hq2).trans rk2; have HB3 := Lib.hid b3'; clear b3 b3' u3)
        all_goals
          go_wp2
          go_roundw
          case rel =>
            have hs := ((HP.out.below HB2.out).below HB3.out).set6 (part_len _ _ _).symm (k := k) (r' := r2) (by rw [part_len]; exact hlt) (by rw [← HR2.out]; exact RW.Ok.clean ⟨HOK.out.at_, HOK.out.sent, HOK.out.holds, (show U64 0 by unfold U64; decide)⟩)
            refine ⟨k + 1, by omega, by go_num, ?_, (((HT.out.trans (RTurn.below HB2.out)).trans (RTurn.below HB3.out)).trans hs.2)⟩
            rw [part_step HR.out, show RW.fence r = r2 from by unfold RW.fence; rw [if_pos HY.out, ← HR2.out]]
            exact hs.1
          case measure => simp [intOf]; omega
    · obtain rfl : k = ρ1.l.length := by omega
      have HP := Lib.hid hp
      have HT := Lib.hid ht
      clear hp ht
      go_wp2
      go_ret
      have hp := HP.out
      rw [part_end] at hp
      refine ⟨rfl, ?_, t1.trans HT.out⟩
      rw [HE.out]
      exact hp.dev
end Go.Proofs.YtnjikgcigobcdaaGreat
