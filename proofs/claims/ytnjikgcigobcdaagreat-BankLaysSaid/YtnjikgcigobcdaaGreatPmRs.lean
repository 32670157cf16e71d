import Derived.Test.YtnjikgcigobcdaaGreatPmRp
namespace Go.Proofs.YtnjikgcigobcdaaGreat
open Wd Pm Go.Maps Go.RowKit
set_option linter.unusedVariables false

theorem belowN_take (i : Int) : ∀ l : List RW, (l.take (belowN i l)).length = belowN i l := fun l => by rw [List.length_take, Nat.min_eq_left (belowN_le i l)]
theorem place_at (i : Int) (l : List RW) : ∃ r, (placeL i l)[belowN i l]? = some r ∧ r.at_ = i := by
  unfold placeL
  cases hr : l[belowN i l]? with
  | none =>
    refine ⟨RW.fresh i, ?_, rfl⟩
    simp only
    rw [List.getElem?_append_right (by rw [belowN_take]; exact Nat.le_refl _), belowN_take, Nat.sub_self]
    rfl
  | some r =>
    simp only
    by_cases e : r.at_ = i
    · rw [if_pos e]; exact ⟨r, hr, e⟩
    · rw [if_neg e]
      refine ⟨RW.fresh i, ?_, rfl⟩
      rw [List.getElem?_append_right (by rw [belowN_take]; exact Nat.le_refl _), belowN_take, Nat.sub_self]
      rfl
theorem place_len (i : Int) (l : List RW) : (placeL i l).length ≤ l.length + 1 := by
  unfold placeL
  have h := belowN_le i l
  split
  · split
    · omega
    · simp; omega
  · simp; omega
/-- a store, of a word that there is -/
def storeL (i v : Int) (l : List RW) : List RW := match (placeL i l)[belowN i l]? with
  | some r => (placeL i l).set (belowN i l) (RW.clean { r with dirty := true, holds := v })
  | none => placeL i l
def RSt.store (i v : Int) (ρ : RSt) : RSt := { ρ with l := storeL i v ρ.l }
theorem storeL_len (i v : Int) (l : List RW) : (storeL i v l).length ≤ l.length + 1 := by
  unfold storeL
  split
  · rw [List.length_set]; exact place_len i l
  · exact place_len i l

set_option maxRecDepth 100000 in
set_option maxHeartbeats 1000000 in
theorem rstore_ok {w : World} {B q : Nat} {ρ : RSt} (h : RDev w B q ρ) (hev : ρ.ev < 4611686018427387904) (hfew : ρ.l.length < 1000000) (i v : Int) (hv : U64 v) (hi : 0 ≤ i ∧ i < ρ.n) (hd : ρ.dead = false) (ha : ρ.ar ≠ 1) :
    Calls Tryz.prog 32 #[.pointer (some ⟨q, 0, none⟩), .int .i64 i, .int .u64 v] w fun e w' => e = .returned (.int .i64 0) ∧ RGoes w B q (ρ.evn.1.store i v) w' := by
  obtain ⟨v0, rr, _⟩ := h.reads
  have c3 := rr.c3
  have c0 := rr.c0
  rw [hd] at c3
  have q0 : decide (i < 0) = false := by simp; omega
  have q1 : decide (i ≥ ρ.n) = false := by simp; omega
  have hev2 : ρ.evn.2 = false := by unfold RSt.evn; rw [if_neg ha]
  have hnl : ρ.evn.1.n = ρ.n ∧ ρ.evn.1.l = ρ.l := by unfold RSt.evn; rw [if_neg ha]; exact ⟨rfl, rfl⟩
  have H2 := Lib.hid hev2
  have HI := Lib.hid hi
  have HNL := Lib.hid hnl
  clear rr hd ha hev2 hi hnl
  go_enter Tryz.func32, Tryz.ntmps32
  go_wp2_with fail
  refine (revent_dev h hev).mono ?_
  rintro e w1 ⟨rfl, h1, t1⟩
  simp only [H2.out]
  obtain ⟨ρ1, hρ⟩ : ∃ ρ1, ρ.evn.1 = ρ1 := ⟨_, rfl⟩
  rw [hρ] at h1
  have hn1 : ρ1.n = ρ.n := by rw [← hρ]; exact HNL.out.1
  have hl1 : ρ1.l = ρ.l := by rw [← hρ]; exact HNL.out.2
  have HE := Lib.hid hρ
  have HI1 := Lib.hid (by rw [hn1]; exact HI.out : 0 ≤ i ∧ i < ρ1.n)
  have HF1 := Lib.hid (by rw [hl1]; exact hfew : ρ1.l.length < 1000000)
  clear hρ hn1 hl1
  go_wp2_with fail
  refine (place_dev h1 HF1.out i HI1.out).mono ?_
  rintro e w2 ⟨rfl, h2, t2⟩
  obtain ⟨r, hr, hri⟩ := place_at i ρ1.l
  obtain ⟨vv, hvv⟩ := h2.v
  obtain ⟨A, c, rfl⟩ := hvv.form
  have hkl : belowN i ρ1.l < (ρ1.place i).l.length := (List.getElem?_eq_some_iff.1 hr).1
  have hst : (ρ1.place i).l.set (belowN i ρ1.l) (RW.clean { r with dirty := true, holds := v }) = storeL i v ρ1.l := by unfold storeL; rw [hr]; rfl
  have HST := Lib.hid hst
  clear hst
  obtain ⟨k, hk⟩ : ∃ k, belowN i ρ1.l = k := ⟨_, rfl⟩
  rw [hk] at hr hkl HST ⊢
  clear hk
  obtain ⟨ρ2, hρ2⟩ : ∃ ρ2, ρ1.place i = ρ2 := ⟨_, rfl⟩
  have hr' : ρ2.l[k]? = some r := by rw [← hρ2]; exact hr
  rw [hρ2] at hvv hkl
  have HP2 := Lib.hid hρ2
  have few2 := hvv.2.1.few
  obtain ⟨g, rfl, w6, hneq, hgl, hql, a0, a1, ok, rk1⟩ := hvv.at rfl hr'
  have x0 := w6.x0; have x1 := w6.x1; have x2 := w6.x2; have x3 := w6.x3; have x4 := w6.x4; have x5 := w6.x5
  have W := Lib.hid w6
  have HV := Lib.hid hvv
  have HOK := Lib.hid ok
  have HRI := Lib.hid hri
  clear h2 hr hr' hvv ok w6 hρ2 hri
  go_wp2
  obtain ⟨W2, hW2⟩ : ∃ W2, W2 = w2.alloc (.cells #[.int .i64 r.at_, .int .u64 r.stays, .int .u64 v, .bool true, .bool r.way, .int .u64 r.sent] 74) := ⟨_, rfl⟩
  have b2 : Below w2.heap.size w2 W2 := by rw [hW2]; exact (Below.refl _ _).alloc (Nat.le_refl _) _
  have kb : W6 W2 w2.heap.size 0 ⟨r.at_, r.stays, v, true, r.way, r.sent⟩ := by
    have := Cells.new w2 74 #[.int .i64 r.at_, .int .u64 r.stays, .int .u64 v, .bool true, .bool r.way, .int .u64 r.sent]
    rw [hW2]
    exact ⟨this.cell 0, this.cell 1, this.cell 2, this.cell 3, this.cell 4, this.cell 5, this.free⟩
  rw [← hW2]
  clear hW2 x0 x1 x2 x3 x4 x5
  have u6 := W.out.below hgl b2
  have y0 := kb.x0; have y1 := kb.x1; have y2 := kb.x2; have y3 := kb.x3; have y4 := kb.x4; have y5 := kb.x5
  simp only [Nat.zero_add] at y0 y1 y2 y3 y4 y5
  have rk2 : W2.cell? ⟨q, 1, none⟩ = some (.slice (some ⟨g, 0, none⟩) ρ2.l.length c) := (b2.cell (p := ⟨q, 1, none⟩) hql).trans rk1
  have HB2 := Lib.hid b2
  have U6 := Lib.hid u6
  have hg2 : g < W2.heap.size := Nat.lt_of_lt_of_le hgl b2.size
  have hq2 : q < W2.heap.size := Nat.lt_of_lt_of_le hql HB2.out.size
  clear b2 kb u6 rk1
  have hcl := clean_lit ⟨r.at_, r.stays, v, true, r.way, r.sent⟩ W2.drew
  obtain ⟨r2, hr2⟩ : ∃ r2, RW.clean ⟨r.at_, r.stays, v, true, r.way, r.sent⟩ = r2 := ⟨_, rfl⟩
  rw [hr2] at hcl
  simp only at hcl
  have HR2 := Lib.hid hr2
  clear hr2
  go_region_with (go_at_call 62; (with_reducible refine hcl.mono ?_); rintro e w3 ⟨rfl, b3⟩; have b3' : Below W2.heap.size W2 w3 := undrew b3; have u3 := U6.out.below hg2 b3'; have x0 := u3.x0; have x1 := u3.x1; have x2 := u3.x2; have x3 := u3.x3; have x4 := u3.x4; have x5 := u3.x5; have z0 := u3.z (k * 6); have z1 := u3.z (k * 6 + 1); have z2 := u3.z (k * 6 + 2); have z3 := u3.z (k * 6 + 3); have z4 := u3.z (k * 6 + 4); have z5 := u3.z (k * 6 + 5); have rd3 : w3.cell? ⟨q, 1, none⟩ = some (.slice (some ⟨g, 0, none⟩) ρ2.l.length c) := (b3'.cell (p := ⟨q, 1, none⟩) hq2).trans rk2; have HB3 := Lib.hid b3'; clear b3 b3' u3)
  all_goals
    go_wp2
    go_ret
    have hs := ((HV.out.below HB2.out).below HB3.out).set6 rfl (k := k) (r' := r2) hkl (by rw [← HR2.out]; exact RW.Ok.clean ⟨HOK.out.at_, HOK.out.stays, hv, HOK.out.sent⟩)
    refine ⟨rfl, ?_, ((t1.trans t2).trans ((RTurn.below HB2.out).trans (RTurn.below HB3.out))).trans hs.2⟩
    have e1 : ρ.evn.1.store i v = { ρ2 with l := ρ2.l.set k r2 } := by
      rw [HE.out]
      unfold RSt.store
      rw [← HST.out, ← HP2.out, ← HR2.out]
      rfl
    rw [e1]
    exact hs.1.dev
end Go.Proofs.YtnjikgcigobcdaaGreat
