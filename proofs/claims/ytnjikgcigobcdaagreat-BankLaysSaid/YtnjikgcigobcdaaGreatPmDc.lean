import Derived.Test.YtnjikgcigobcdaaGreatPmDb
import Derived.Test.YtnjikgcigobcdaaGreatPmTy
namespace Go.Proofs.YtnjikgcigobcdaaGreat
open Wd Pm Go.Maps Go.RowKit
set_option linter.unusedVariables false

/-! what a crash makes of the document's device -/
def RW.crash (b : Bool) (r : RW) : RW := ⟨r.at_, if b = true then r.holds else r.stays, 0, false, false, 0⟩
def crashR : List RW → List Bool → List RW
  | [], _ => []
  | r :: l, keep => if r.dirty = true then r.crash (keep.head? == some true) :: crashR l keep.tail else r.crash false :: crashR l keep
theorem crashR_len : ∀ (l : List RW) (keep : List Bool), (crashR l keep).length = l.length
  | [], _ => rfl
  | r :: l, keep => by
    unfold crashR
    split <;> simp [crashR_len l]
theorem crashR_snoc : ∀ {l : List RW} {keep : List Bool} {k : Nat} {r : RW}, l[k]? = some r → crashR (l.take (k + 1)) keep = crashR (l.take k) keep ++ [r.crash (r.dirty && (keep[(dirtyR (l.take k)).length]? == some true))]
  | [], _, _, _, h => by simp at h
  | a :: l, keep, 0, r, h => by
    simp at h; subst h
    cases hd : a.dirty <;> simp [crashR, dirtyR, hd, List.head?_eq_getElem?]
  | a :: l, keep, k + 1, r, h => by
    simp at h
    cases hd : a.dirty
    · have := crashR_snoc (keep := keep) h
      simp only [List.take_succ_cons, crashR, hd, Bool.false_eq_true, if_false, this, List.cons_append]
      simp [dirtyR, hd]
    · have := crashR_snoc (keep := keep.tail) h
      simp only [List.take_succ_cons, crashR, hd, if_true, this, List.cons_append]
      simp [dirtyR, hd]
def RSt.crash (keep : List Bool) (ρ : RSt) : RSt := { ρ with l := crashR ρ.l keep, ar := 0, dead := false }
/-- half of it done -/
def midC (l : List RW) (keep : List Bool) (k : Nat) : List RW := crashR (l.take k) keep ++ l.drop k
theorem midC_zero (l : List RW) (keep : List Bool) : midC l keep 0 = l := by simp [midC, crashR]
theorem midC_end (l : List RW) (keep : List Bool) : midC l keep l.length = crashR l keep := by simp [midC]
theorem midC_len (l : List RW) (keep : List Bool) (k : Nat) : (midC l keep k).length = l.length := by unfold midC; rw [List.length_append, crashR_len, List.length_take, List.length_drop]; omega
theorem midC_at {l : List RW} {keep : List Bool} {k : Nat} {r : RW} (h : l[k]? = some r) : (midC l keep k)[k]? = some r := by
  have hk := (List.getElem?_eq_some_iff.1 h).1
  unfold midC
  rw [List.getElem?_append_right (by rw [crashR_len, List.length_take]; omega), crashR_len, List.length_take, Nat.min_eq_left (by omega), Nat.sub_self, List.getElem?_drop, Nat.add_zero]
  exact h
theorem midC_step {l : List RW} {keep : List Bool} {k : Nat} {r : RW} (h : l[k]? = some r) : midC l keep (k + 1) = (midC l keep k).set k (r.crash (r.dirty && (keep[(dirtyR (l.take k)).length]? == some true))) := by
  obtain ⟨hk, e⟩ := List.getElem?_eq_some_iff.1 h
  have hl : (crashR (l.take k) keep).length = k := by rw [crashR_len, List.length_take]; omega
  unfold midC
  rw [crashR_snoc h, List.set_append_right _ _ (by omega), hl, Nat.sub_self, List.append_assoc, List.drop_eq_getElem_cons hk, e]
  rfl
def RCrRel (w : World) (B q : Nat) (ρ : RSt) (keep : List Bool) (v n i : Value) (wr : World) : Prop := ∃ k : Nat, k ≤ ρ.l.length ∧ i = .int .i64 k ∧ n = .int .i64 ((dirtyR (ρ.l.take k)).length : Nat) ∧ RDevV wr B q { ρ with l := midC ρ.l keep k } v ∧ RTurn w wr B
theorem rcr_step {w wr W2 : World} {B q g c : Nat} {ρ : RSt} {keep : List Bool} {k : Nat} {r r' : RW} {b : Bool} (hlt : k < ρ.l.length) (hr : ρ.l[k]? = some r) (hp : RDevV wr B q { ρ with l := midC ρ.l keep k } (.slice (some ⟨g, 0, none⟩) ρ.l.length c)) (ht : RTurn w wr B) (ok : r.Ok ρ.n) (b2 : Below wr.heap.size wr W2)
    (hb : (r.dirty && (keep[(dirtyR (ρ.l.take k)).length]? == some true)) = b) (hr' : r.crash b = r') (nk : Nat) (hn : (dirtyR (ρ.l.take (k + 1))).length = nk) : RCrRel w B q ρ keep (.slice (some ⟨g, 0, none⟩) ρ.l.length c) (.int .i64 (nk : Nat)) (.int .i64 (k + 1 : Nat)) (set6 W2 g (k * 6) r').drew := by
  subst hr'
  have hok : (r.crash b).Ok ρ.n := ⟨ok.at_, by unfold RW.crash; simp only; split; exact ok.holds; exact ok.stays, (show U64 0 by unfold U64; decide), (show U64 0 by unfold U64; decide)⟩
  have hs := (hp.below b2).set6 (midC_len _ _ _).symm (k := k) (r' := r.crash b) (by show k < (midC ρ.l keep k).length; rw [midC_len]; exact hlt) hok
  refine ⟨k + 1, by omega, rfl, by rw [hn], ?_, ((ht.trans (RTurn.below b2)).trans hs.2).drew⟩
  rw [midC_step hr, hb]
  exact hs.1.drew

set_option maxRecDepth 100000 in
set_option maxHeartbeats 2000000 in
theorem rcrash_dev {w : World} {B q : Nat} {ρ : RSt} (h : RDev w B q ρ) (hBw : B ≤ w.heap.size) (K : Option Addr) (cp : Nat) (keep : List Bool) (hrow : Row w B K keep.length (keep.map Value.bool)) (hkm : keep.length ≤ maxLen) :
    Calls Tryz.prog 30 #[.pointer (some ⟨q, 0, none⟩), .slice K keep.length cp] w fun e w' => e = .returned (.tuple #[]) ∧ RGoes w B q (ρ.crash keep) w' := by
  obtain ⟨v, hv⟩ := h.v
  obtain ⟨A, c, rfl⟩ := hv.form
  have k1 := hv.reads.c1
  have few := hv.2.1.few
  unfold maxLen at hkm
  have HV := Lib.hid hv
  have HROW := Lib.hid hrow
  clear hv hrow
  go_enter Tryz.func30, Tryz.ntmps30
  go_wp2
  go_loopw [4, 12] (fun n i wr => RCrRel w B q ρ keep (.slice A ρ.l.length c) n i wr) (fun _ i _ => ρ.l.length - (intOf i).toNat)
  case atStart =>
    refine ⟨0, Nat.zero_le _, rfl, rfl, ?_, RTurn.refl _ _⟩
    rw [midC_zero]
    exact HV.out
  case round =>
    obtain ⟨k, hk, rfl, rfl, hp, ht⟩ := hrel
    by_cases hlt : k < ρ.l.length
    · obtain ⟨r, hr⟩ : ∃ r, ρ.l[k]? = some r := ⟨_, List.getElem?_eq_getElem hlt⟩
      obtain ⟨g, rfl, w6, hneq, hgl, hql, a0, a1, ok, rk1⟩ := hp.at (midC_len _ _ _).symm (midC_at hr)
      have x0 := w6.x0; have x1 := w6.x1; have x2 := w6.x2; have x3 := w6.x3; have x4 := w6.x4; have x5 := w6.x5
      have hle := dirtyR_le (ρ.l.take k)
      have hle2 : (ρ.l.take k).length ≤ 1000000 := by rw [List.length_take]; omega
      have hsn := dirtyR_snoc hr
      have W := Lib.hid w6
      have HP := Lib.hid hp
      have HT := Lib.hid ht
      have HR := Lib.hid hr
      have HOK := Lib.hid ok
      clear hp ht hr ok w6
      obtain ⟨m, hmm⟩ : ∃ m, (dirtyR (ρ.l.take k)).length = m := ⟨_, rfl⟩
      have hm1 : m ≤ 1000000 := by omega
      rw [hmm]
      have HM := Lib.hid hmm
      have HSN := Lib.hid hsn
      clear hmm hsn hle hle2
      rcases (by cases r.dirty <;> simp : r.dirty = false ∨ r.dirty = true) with hd | hd
      · rw [hd] at x3
        have HD := Lib.hid hd
        clear hd
        go_wp2
        obtain ⟨W2, hW2⟩ : ∃ W2, W2 = wr.alloc (.cells #[.int .i64 r.at_, .int .u64 r.stays, .int .u64 r.holds, .bool false, .bool r.way, .int .u64 r.sent] 74) := ⟨_, rfl⟩
        have b2 : Below wr.heap.size wr W2 := by rw [hW2]; exact (Below.refl _ _).alloc (Nat.le_refl _) _
        have kb := Cells.new wr 74 #[.int .i64 r.at_, .int .u64 r.stays, .int .u64 r.holds, .bool false, .bool r.way, .int .u64 r.sent]
        rw [← hW2] at kb ⊢
        have y0 : W2.cell? ⟨wr.heap.size, 0, none⟩ = some (.int .i64 r.at_) := kb.cell 0
        have y1 : W2.cell? ⟨wr.heap.size, 1, none⟩ = some (.int .u64 r.stays) := kb.cell 1
        have HST := Lib.hid (rcr_step (W2 := W2) (b := false) (r' := ⟨r.at_, r.stays, 0, false, false, 0⟩) hlt HR.out HP.out HT.out HOK.out b2 (by rw [HD.out]; rfl) rfl m (by rw [HSN.out, HD.out, if_neg (by decide), List.append_nil]; exact HM.out))
        have u6 := W.out.below hgl b2
        have rk2 : W2.cell? ⟨q, 1, none⟩ = some (.slice (some ⟨g, 0, none⟩) ρ.l.length c) := (b2.cell (p := ⟨q, 1, none⟩) hql).trans rk1
        clear x0 x1 x2 x3 x4 x5
        have z0 := u6.z (k * 6); have z1 := u6.z (k * 6 + 1); have z2 := u6.z (k * 6 + 2); have z3 := u6.z (k * 6 + 3); have z4 := u6.z (k * 6 + 4); have z5 := u6.z (k * 6 + 5)
        have x0 := u6.x0; have x1 := u6.x1; have x2 := u6.x2; have x3 := u6.x3; have x4 := u6.x4; have x5 := u6.x5
        clear hW2 kb u6 rk1 b2
        refine wp_region_still_tail 11 (by kernel_rfl) (by kernel_rfl) ?_
        simp only [List.take_succ_cons, List.take_zero, List.drop_succ_cons, List.drop_zero]
        repeat still_step
        try refine wpStill_nil ?_
        go_wp2
        go_roundw
        case rel => exact HST.out
        case measure => simp [intOf]; omega
      · rw [hd] at x3
        have HD := Lib.hid hd
        clear hd
        have hbw := HT.out.is_below hBw
        by_cases hkl : m < keep.length
        · have qk : decide (m < keep.length) = true := by simpa using hkl
          obtain ⟨kb0, ko, y, rfl, hkB, gy, cy⟩ := (HROW.out.below hbw).get hkl
          have hkbw : kb0 < wr.heap.size := by have := hbw.size; omega
          have HGY := Lib.hid gy
          clear gy hbw
          rcases (by cases y <;> simp : y = true ∨ y = false) with hy | hy
          · subst hy
            go_wp2
            obtain ⟨W2, hW2⟩ : ∃ W2, W2 = wr.alloc (.cells #[.int .i64 r.at_, .int .u64 r.holds, .int .u64 r.holds, .bool true, .bool r.way, .int .u64 r.sent] 74) := ⟨_, rfl⟩
            have b2 : Below wr.heap.size wr W2 := by rw [hW2]; exact (Below.refl _ _).alloc (Nat.le_refl _) _
            have kb := Cells.new wr 74 #[.int .i64 r.at_, .int .u64 r.holds, .int .u64 r.holds, .bool true, .bool r.way, .int .u64 r.sent]
            rw [← hW2] at kb ⊢
            have y0 : W2.cell? ⟨wr.heap.size, 0, none⟩ = some (.int .i64 r.at_) := kb.cell 0
            have y1 : W2.cell? ⟨wr.heap.size, 1, none⟩ = some (.int .u64 r.holds) := kb.cell 1
            have HST := Lib.hid (rcr_step (W2 := W2) (b := true) (r' := ⟨r.at_, r.holds, 0, false, false, 0⟩) hlt HR.out HP.out HT.out HOK.out b2 (by rw [HD.out, HM.out, HGY.out]; rfl) rfl (m + 1) (by rw [HSN.out, HD.out, if_pos rfl, List.length_append, HM.out]; rfl))
            have u6 := W.out.below hgl b2
            have rk2 : W2.cell? ⟨q, 1, none⟩ = some (.slice (some ⟨g, 0, none⟩) ρ.l.length c) := (b2.cell (p := ⟨q, 1, none⟩) hql).trans rk1
            clear x0 x1 x2 x3 x4 x5
            have z0 := u6.z (k * 6); have z1 := u6.z (k * 6 + 1); have z2 := u6.z (k * 6 + 2); have z3 := u6.z (k * 6 + 3); have z4 := u6.z (k * 6 + 4); have z5 := u6.z (k * 6 + 5)
            have x0 := u6.x0; have x1 := u6.x1; have x2 := u6.x2; have x3 := u6.x3; have x4 := u6.x4; have x5 := u6.x5
            clear hW2 kb u6 rk1 b2
            refine wp_region_still_tail 11 (by kernel_rfl) (by kernel_rfl) ?_
            simp only [List.take_succ_cons, List.take_zero, List.drop_succ_cons, List.drop_zero]
            repeat still_step
            try refine wpStill_nil ?_
            go_wp2
            go_roundw
            case rel => exact HST.out
            case measure => simp [intOf]; omega
          · subst hy
            go_wp2
            obtain ⟨W2, hW2⟩ : ∃ W2, W2 = wr.alloc (.cells #[.int .i64 r.at_, .int .u64 r.stays, .int .u64 r.holds, .bool true, .bool r.way, .int .u64 r.sent] 74) := ⟨_, rfl⟩
            have b2 : Below wr.heap.size wr W2 := by rw [hW2]; exact (Below.refl _ _).alloc (Nat.le_refl _) _
            have kb := Cells.new wr 74 #[.int .i64 r.at_, .int .u64 r.stays, .int .u64 r.holds, .bool true, .bool r.way, .int .u64 r.sent]
            rw [← hW2] at kb ⊢
            have y0 : W2.cell? ⟨wr.heap.size, 0, none⟩ = some (.int .i64 r.at_) := kb.cell 0
            have y1 : W2.cell? ⟨wr.heap.size, 1, none⟩ = some (.int .u64 r.stays) := kb.cell 1
            have HST := Lib.hid (rcr_step (W2 := W2) (b := false) (r' := ⟨r.at_, r.stays, 0, false, false, 0⟩) hlt HR.out HP.out HT.out HOK.out b2 (by rw [HD.out, HM.out, HGY.out]; rfl) rfl (m + 1) (by rw [HSN.out, HD.out, if_pos rfl, List.length_append, HM.out]; rfl))
            have u6 := W.out.below hgl b2
            have rk2 : W2.cell? ⟨q, 1, none⟩ = some (.slice (some ⟨g, 0, none⟩) ρ.l.length c) := (b2.cell (p := ⟨q, 1, none⟩) hql).trans rk1
            clear x0 x1 x2 x3 x4 x5
            have z0 := u6.z (k * 6); have z1 := u6.z (k * 6 + 1); have z2 := u6.z (k * 6 + 2); have z3 := u6.z (k * 6 + 3); have z4 := u6.z (k * 6 + 4); have z5 := u6.z (k * 6 + 5)
            have x0 := u6.x0; have x1 := u6.x1; have x2 := u6.x2; have x3 := u6.x3; have x4 := u6.x4; have x5 := u6.x5
            clear hW2 kb u6 rk1 b2
            refine wp_region_still_tail 11 (by kernel_rfl) (by kernel_rfl) ?_
            simp only [List.take_succ_cons, List.take_zero, List.drop_succ_cons, List.drop_zero]
            repeat still_step
            try refine wpStill_nil ?_
            go_wp2
            go_roundw
            case rel => exact HST.out
            case measure => simp [intOf]; omega
        · have qk : decide (m < keep.length) = false := by simpa using hkl
          have HKL := Lib.hid (List.getElem?_eq_none (by omega) : keep[m]? = none)
          clear hbw
          go_wp2
          obtain ⟨W2, hW2⟩ : ∃ W2, W2 = wr.alloc (.cells #[.int .i64 r.at_, .int .u64 r.stays, .int .u64 r.holds, .bool true, .bool r.way, .int .u64 r.sent] 74) := ⟨_, rfl⟩
          have b2 : Below wr.heap.size wr W2 := by rw [hW2]; exact (Below.refl _ _).alloc (Nat.le_refl _) _
          have kb := Cells.new wr 74 #[.int .i64 r.at_, .int .u64 r.stays, .int .u64 r.holds, .bool true, .bool r.way, .int .u64 r.sent]
          rw [← hW2] at kb ⊢
          have y0 : W2.cell? ⟨wr.heap.size, 0, none⟩ = some (.int .i64 r.at_) := kb.cell 0
          have y1 : W2.cell? ⟨wr.heap.size, 1, none⟩ = some (.int .u64 r.stays) := kb.cell 1
          have HST := Lib.hid (rcr_step (W2 := W2) (b := false) (r' := ⟨r.at_, r.stays, 0, false, false, 0⟩) hlt HR.out HP.out HT.out HOK.out b2 (by rw [HD.out, HM.out, HKL.out]; rfl) rfl (m + 1) (by rw [HSN.out, HD.out, if_pos rfl, List.length_append, HM.out]; rfl))
          have u6 := W.out.below hgl b2
          have rk2 : W2.cell? ⟨q, 1, none⟩ = some (.slice (some ⟨g, 0, none⟩) ρ.l.length c) := (b2.cell (p := ⟨q, 1, none⟩) hql).trans rk1
          clear x0 x1 x2 x3 x4 x5
          have z0 := u6.z (k * 6); have z1 := u6.z (k * 6 + 1); have z2 := u6.z (k * 6 + 2); have z3 := u6.z (k * 6 + 3); have z4 := u6.z (k * 6 + 4); have z5 := u6.z (k * 6 + 5)
          have x0 := u6.x0; have x1 := u6.x1; have x2 := u6.x2; have x3 := u6.x3; have x4 := u6.x4; have x5 := u6.x5
          clear hW2 kb u6 rk1 b2
          refine wp_region_still_tail 11 (by kernel_rfl) (by kernel_rfl) ?_
          simp only [List.take_succ_cons, List.take_zero, List.drop_succ_cons, List.drop_zero]
          repeat still_step
          try refine wpStill_nil ?_
          go_wp2
          go_roundw
          case rel => exact HST.out
          case measure => simp [intOf]; omega
    · obtain rfl : k = ρ.l.length := by omega
      rw [midC_end] at hp
      have d1 := hp.dev
      have r1 := hp.reads
      have c2 := r1.c2
      have c3 := r1.c3
      have z2 := r1.z 2
      have z3 := r1.z 3
      have d2 := (d1.setAr 0 (by omega)).setDead false
      have t2 := (d1.tset 2 (.int .i64 0)).trans ((d1.setAr 0 (by omega)).tset 3 (.bool false))
      have HD2 := Lib.hid d2
      have HT2 := Lib.hid (ht.trans t2)
      clear hp ht d1 r1 d2 t2
      go_wp2
      go_end0
      exact ⟨rfl, HD2.out, HT2.out⟩
end Go.Proofs.YtnjikgcigobcdaaGreat
