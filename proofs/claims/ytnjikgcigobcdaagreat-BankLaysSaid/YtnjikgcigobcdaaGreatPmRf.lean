import Derived.Test.YtnjikgcigobcdaaGreatPmR6
namespace Go.Proofs.YtnjikgcigobcdaaGreat
open Wd Pm Go.Maps Go.RowKit
set_option linter.unusedVariables false

/-- in its bounds -/
@[irreducible] def inB (x m : Int) : Bool := decide (0 ≤ x ∧ x < m)
theorem inB_iff {x m : Int} : inB x m = true ↔ 0 ≤ x ∧ x < m := by unfold inB; simp
theorem inB_no {x m : Int} : inB x m = false ↔ ¬ (0 ≤ x ∧ x < m) := by unfold inB; simp only [decide_eq_false_iff_not]
@[irreducible] def RSt.tried (ρ : RSt) (there : Bool) (go : RSt → RSt) : RSt × Int :=
  if refErr ρ.dead there = 0 then (if ρ.ar = 1 then ({ ρ with ar := 0, dead := true }, 5) else (go ρ.evn.1, 0)) else (ρ, refErr ρ.dead there)

/-- with its list's value known -/
def RDevV (w : World) (B q : Nat) (ρ : RSt) (v : Value) : Prop := B ≤ q ∧ RGood ρ ∧ Cells w q 42 #[.int .i64 ρ.n, v, .int .i64 ρ.ar, .bool ρ.dead, .int .i64 ρ.ev] ∧ w.ownsRow B 74 6 v ρ.l.length (rvals ρ.l)
theorem RDevV.dev {w : World} {B q : Nat} {ρ : RSt} {v : Value} (h : RDevV w B q ρ v) : RDev w B q ρ := ⟨h.1, h.2.1, v, h.2.2.1, h.2.2.2⟩
theorem RDev.v {w : World} {B q : Nat} {ρ : RSt} (h : RDev w B q ρ) : ∃ v, RDevV w B q ρ v := by obtain ⟨h1, h2, v, h3, h4⟩ := h; exact ⟨v, h1, h2, h3, h4⟩
theorem RDevV.reads {w : World} {B q : Nat} {ρ : RSt} {v : Value} (h : RDevV w B q ρ v) : RReads w q ρ v := ⟨h.2.2.1.cell 0, h.2.2.1.cell 1, h.2.2.1.cell 2, h.2.2.1.cell 3, h.2.2.1.cell 4, h.2.2.1.free⟩
theorem RDevV.below {w w' : World} {B q : Nat} {ρ : RSt} {v : Value} (r : RDevV w B q ρ v) (hb : Below w.heap.size w w') : RDevV w' B q ρ v := ⟨r.1, r.2.1, r.2.2.1.below' hb, own_keep r.2.2.2 fun g cs _ hc => hb.block g hc.lt⟩

/-- a loop over the list has done k of its words -/
def part (l : List RW) (g : RW → RW) (k : Nat) : List RW := (l.take k).map g ++ l.drop k
theorem part_at {l : List RW} {g : RW → RW} {k : Nat} {r : RW} (h : l[k]? = some r) : (part l g k)[k]? = some r := by
  have hk : k < l.length := (List.getElem?_eq_some_iff.1 h).1
  unfold part
  rw [List.getElem?_append_right (by simp; omega)]
  simp [Nat.min_eq_left (Nat.le_of_lt hk), h]
theorem part_len (l : List RW) (g : RW → RW) (k : Nat) : (part l g k).length = l.length := by unfold part; simp; omega
theorem part_step {l : List RW} {g : RW → RW} {k : Nat} {r : RW} (h : l[k]? = some r) : part l g (k + 1) = (part l g k).set k (g r) := by
  have hk : k < l.length := (List.getElem?_eq_some_iff.1 h).1
  unfold part
  rw [take_snoc' h, List.map_append, List.set_append_right _ _ (by simp; omega)]
  have e : k - ((l.take k).map g).length = 0 := by simp; omega
  rw [e, List.drop_eq_getElem_cons hk, List.set_cons_zero, List.append_assoc]
  rfl
theorem part_same {l : List RW} {g : RW → RW} {k : Nat} {r : RW} (h : l[k]? = some r) (e : g r = r) : part l g (k + 1) = part l g k := by
  rw [part_step h, e]
  have hk : k < (part l g k).length := by rw [part_len]; exact (List.getElem?_eq_some_iff.1 h).1
  have := List.getElem?_eq_some_iff.1 (part_at (g := g) h)
  obtain ⟨_, h2⟩ := this
  rw [← h2]
  exact List.set_getElem_self hk
theorem part_zero (l : List RW) (g : RW → RW) : part l g 0 = l := by simp [part]
theorem part_end (l : List RW) (g : RW → RW) : part l g l.length = l.map g := by simp [part]
theorem part_ok {l : List RW} {g : RW → RW} {n : Int} (h : ∀ r ∈ l, r.Ok n) (hg : ∀ r, r.Ok n → (g r).Ok n) (k : Nat) : ∀ r ∈ part l g k, r.Ok n := by
  intro r hr
  unfold part at hr
  rcases List.mem_append.1 hr with h1 | h1
  · obtain ⟨x, hx, rfl⟩ := List.mem_map.1 h1
    exact hg x (h x (List.mem_of_mem_take hx))
  · exact h r (List.mem_of_mem_drop h1)
/-- one word laid -/
theorem RDevV.set6 {w : World} {B q : Nat} {ρ : RSt} {g cap k n : Nat} (hn : n = ρ.l.length) (h : RDevV w B q ρ (.slice (some ⟨g, 0, none⟩) n cap)) {r' : RW} (hk : k < ρ.l.length) (hr : r'.Ok ρ.n) : RDevV (set6 w g (k * 6) r') B q { ρ with l := ρ.l.set k r' } (.slice (some ⟨g, 0, none⟩) n cap) ∧ RTurn w (set6 w g (k * 6) r') B := by
  obtain ⟨hB, hg, h1, h2⟩ := h
  subst hn
  obtain ⟨g', cap', cur, e, hb, _, _, hc⟩ := own6_open h2 (by omega)
  injection e with e
  injection e with e
  injection e with e
  subst e
  refine ⟨⟨hB, ⟨hg.n, fun r hr' => ?_, hg.ar, hg.ev, by simpa using hg.few⟩, ?_, ?_⟩, set6_turn hc hb r'⟩
  · rcases List.mem_or_eq_of_mem_set hr' with h3 | rfl
    · exact hg.ok r h3
    · exact hr
  · exact (set6_other (hc.ne h1 (by decide)).symm).trans h1
  · have := own6_set h2 hk r'
    simpa using this

theorem RTurn.drew {w w' : World} {B : Nat} (h : RTurn w w' B) : RTurn w w'.drew B := ⟨h.os, h.tape, h.output, h.size, h.low, h.block⟩
theorem RDevV.drew {w : World} {B q : Nat} {ρ : RSt} {v : Value} (r : RDevV w B q ρ v) : RDevV w.drew B q ρ v := r
/-- what a walk reads of a word of the list, and may write -/
structure W6 (w : World) (g o : Nat) (r : RW) : Prop where
  x0 : w.cell? ⟨g, o, none⟩ = some (.int .i64 r.at_)
  x1 : w.cell? ⟨g, o + 1, none⟩ = some (.int .u64 r.stays)
  x2 : w.cell? ⟨g, o + 2, none⟩ = some (.int .u64 r.holds)
  x3 : w.cell? ⟨g, o + 3, none⟩ = some (.bool r.dirty)
  x4 : w.cell? ⟨g, o + 4, none⟩ = some (.bool r.way)
  x5 : w.cell? ⟨g, o + 5, none⟩ = some (.int .u64 r.sent)
  z : ∀ i, w.frozen? ⟨g, i, none⟩ = false
theorem W6.below {w w' : World} {g o : Nat} {r : RW} (h : W6 w g o r) (hg : g < w.heap.size) (hb : Below w.heap.size w w') : W6 w' g o r :=
  ⟨(hb.cell (p := ⟨g, _, none⟩) hg).trans h.x0, (hb.cell (p := ⟨g, _, none⟩) hg).trans h.x1, (hb.cell (p := ⟨g, _, none⟩) hg).trans h.x2, (hb.cell (p := ⟨g, _, none⟩) hg).trans h.x3, (hb.cell (p := ⟨g, _, none⟩) hg).trans h.x4, (hb.cell (p := ⟨g, _, none⟩) hg).trans h.x5, fun i => (hb.frozen (p := ⟨g, i, none⟩) hg).trans (h.z i)⟩
/-- a loop's state, opened at its next word -/
theorem RDevV.at {w : World} {B q n : Nat} {ρ : RSt} {A : Option Addr} {c : Nat} (h : RDevV w B q ρ (.slice A n c)) (hn : n = ρ.l.length) {k : Nat} {r : RW} (hr : ρ.l[k]? = some r) :
    ∃ g, A = some ⟨g, 0, none⟩ ∧ W6 w g (k * 6) r ∧ g ≠ q ∧ g < w.heap.size ∧ q < w.heap.size ∧ 0 ≤ r.at_ ∧ r.at_ ≤ 33554432 ∧ r.Ok ρ.n ∧ w.cell? ⟨q, 1, none⟩ = some (.slice (some ⟨g, 0, none⟩) n c) := by
  have hk := (List.getElem?_eq_some_iff.1 hr).1
  subst hn
  obtain ⟨g, cap, cur, e, hgB, hc1, hc2, hcg⟩ := own6_open h.2.2.2 (by omega)
  injection e with e1 e2 e3
  subst e1 e3
  obtain ⟨x0, x1, x2, x3, x4, x5, z⟩ := own6_cells h.2.2.2 hr
  have ok := h.2.1.ok r (List.mem_of_getElem? hr)
  exact ⟨g, rfl, ⟨x0, x1, x2, x3, x4, x5, z⟩, hcg.ne h.2.2.1 (by decide), hcg.lt, h.2.2.1.lt, ok.at_.1, by have := ok.at_.2; have := h.2.1.n.2; omega, ok, h.reads.c1⟩

def RLoop (w : World) (B q : Nat) (ρ : RSt) (g : RW → RW) (v i : Value) (wr : World) : Prop := ∃ k : Nat, k ≤ ρ.l.length ∧ i = .int .i64 k ∧ RDevV wr B q { ρ with l := part ρ.l g k } v ∧ RTurn w wr B

/-! a flush -/
def RW.flush (line : Int) (r : RW) : RW := if r.at_ / 8 = line ∧ r.dirty = true then { r with way := true, sent := r.holds } else r
def RSt.flush (line : Int) (ρ : RSt) : RSt := { ρ with l := ρ.l.map (RW.flush line) }
set_option maxRecDepth 100000 in
set_option maxHeartbeats 1000000 in
theorem rflush_ok {w : World} {B q : Nat} {ρ : RSt} (h : RDev w B q ρ) (hev : ρ.ev < 4611686018427387904) (line : Int) (hl : 0 ≤ line ∧ line < (ρ.n + 7) / 8) (hd : ρ.dead = false) (ha : ρ.ar ≠ 1) :
    Calls Tryz.prog 24 #[.pointer (some ⟨q, 0, none⟩), .int .i64 line] w fun e w' => e = .returned (.int .i64 0) ∧ RGoes w B q (ρ.evn.1.flush line) w' := by
  obtain ⟨v0, rr, _⟩ := h.reads
  have c3 := rr.c3
  rw [hd] at c3
  have q0 : decide (line < 0) = false := by simp; omega
  have q1 : decide (line ≥ (ρ.n + 7) / 8) = false := by simp; omega
  have hev2 : ρ.evn.2 = false := by unfold RSt.evn; rw [if_neg ha]
  have gn := h.2.1.n
  have H2 := Lib.hid hev2
  clear rr hl hd ha hev2
  go_enter Tryz.func24, Tryz.ntmps24
  go_wp2_with (first
    | (go_at_call 59; refine (rlines_dev h).mono ?_; rintro e w' ⟨rfl, rfl⟩)
    | fail)
  refine (revent_dev h hev).mono ?_
  rintro e w1 ⟨rfl, h1, t1⟩
  simp only [H2.out]
  obtain ⟨ρ1, hρ⟩ : ∃ ρ1, ρ.evn.1 = ρ1 := ⟨_, rfl⟩
  rw [hρ] at h1
  have HE := Lib.hid hρ
  clear hρ
  obtain ⟨v, hv⟩ := h1.v
  have hlist : ∃ A c, v = .slice A ρ1.l.length c := by
    rcases hv.2.2.2.2 with ⟨rfl, h0⟩ | ⟨g, cap, cur, rfl, _⟩
    · rw [h0]; exact ⟨none, 0, rfl⟩
    · exact ⟨_, _, rfl⟩
  obtain ⟨A, c, rfl⟩ := hlist
  have k1 := hv.reads.c1
  have few := hv.2.1.few
  have n1 := hv.2.1.n
  have HV := Lib.hid hv
  clear hv
  go_wp2
  go_loopw [26] (fun i wr => RLoop w1 B q ρ1 (RW.flush line) (.slice A ρ1.l.length c) i wr) (fun i _ => ρ1.l.length - (intOf i).toNat)
  case atStart =>
    refine ⟨0, Nat.zero_le _, rfl, ?_, RTurn.refl _ _⟩
    rw [part_zero]
    exact HV.out
  case round =>
    obtain ⟨k, hk, rfl, hp, ht⟩ := hrel
    by_cases hlt : k < ρ1.l.length
    · obtain ⟨r, hr⟩ : ∃ r, ρ1.l[k]? = some r := ⟨_, List.getElem?_eq_getElem hlt⟩
      obtain ⟨g, rfl, w6, hneq, hgl, hql, a0, a1, ok, rk1⟩ := hp.at (part_len _ _ _).symm (part_at hr)
      have x0 := w6.x0; have x1 := w6.x1; have x2 := w6.x2; have x3 := w6.x3; have x4 := w6.x4; have x5 := w6.x5
      have W := Lib.hid w6
      have HP := Lib.hid hp
      have HT := Lib.hid ht
      have HR := Lib.hid hr
      have HOK := Lib.hid ok
      clear hp ht hr ok w6
      by_cases b1 : r.at_ / 8 = line
      · have p1 : (r.at_ / 8 == line) = true := by simpa using b1
        cases hdd : r.dirty
        · have HDD := Lib.hid hdd
          rw [hdd] at x3
          clear hdd b1
          go_wp2
          go_roundw
          case rel =>
            refine ⟨k + 1, by omega, by go_num, ?_, HT.out.trans (RTurn.below ((Below.refl _ _).alloc (Nat.le_refl _) _))⟩
            rw [part_same HR.out (by unfold RW.flush; rw [if_neg (by rw [HDD.out]; simp)])]
            exact HP.out.below ((Below.refl _ _).alloc (Nat.le_refl _) _)
          case measure => simp [intOf]; omega
        · rw [hdd] at x3
          have HDD := Lib.hid hdd
          have HB1 := Lib.hid b1
          clear hdd b1
          go_wp2
          obtain ⟨W2, hW2⟩ : ∃ W2, W2 = wr.alloc (.cells #[.int .i64 r.at_, .int .u64 r.stays, .int .u64 r.holds, .bool true, .bool true, .int .u64 r.holds] 74) := ⟨_, rfl⟩
          have b2 : Below wr.heap.size wr W2 := by rw [hW2]; exact (Below.refl _ _).alloc (Nat.le_refl _) _
          have kb : W6 W2 wr.heap.size 0 ⟨r.at_, r.stays, r.holds, true, true, r.holds⟩ := by
            have := Cells.new wr 74 #[.int .i64 r.at_, .int .u64 r.stays, .int .u64 r.holds, .bool true, .bool true, .int .u64 r.holds]
            rw [hW2]
            exact ⟨this.cell 0, this.cell 1, this.cell 2, this.cell 3, this.cell 4, this.cell 5, this.free⟩
          rw [← hW2]
          clear hW2 x0 x1 x2 x3 x4 x5
          have u6 := W.out.below hgl b2
          have x0 := u6.x0; have x1 := u6.x1; have x2 := u6.x2; have x3 := u6.x3; have x4 := u6.x4; have x5 := u6.x5
          have z0 := u6.z (k * 6); have z1 := u6.z (k * 6 + 1); have z2 := u6.z (k * 6 + 2); have z3 := u6.z (k * 6 + 3); have z4 := u6.z (k * 6 + 4); have z5 := u6.z (k * 6 + 5)
          have y0 := kb.x0; have y1 := kb.x1; have y2 := kb.x2; have y3 := kb.x3; have y4 := kb.x4; have y5 := kb.x5
          simp only [Nat.zero_add] at y0 y1 y2 y3 y4 y5
          have rk2 : W2.cell? ⟨q, 1, none⟩ = some (.slice (some ⟨g, 0, none⟩) ρ1.l.length c) := (b2.cell (p := ⟨q, 1, none⟩) hql).trans rk1
          have HB2 := Lib.hid b2
          clear b2 kb u6 rk1
          refine wp_region_still_tail 7 (by kernel_rfl) (by kernel_rfl) ?_
          simp only [List.take_succ_cons, List.take_zero, List.drop_succ_cons, List.drop_zero]
          repeat still_step
          try refine wpStill_nil ?_
          go_wp2
          go_roundw
          case rel =>
            have hs := (HP.out.below HB2.out).set6 (part_len _ _ _).symm (k := k) (r' := ⟨r.at_, r.stays, r.holds, true, true, r.holds⟩) (by rw [part_len]; exact hlt) ⟨HOK.out.at_, HOK.out.stays, HOK.out.holds, HOK.out.holds⟩
            refine ⟨k + 1, by omega, by go_num, ?_, ((HT.out.trans (RTurn.below HB2.out)).trans hs.2).drew⟩
            rw [part_step HR.out, show RW.flush line r = ⟨r.at_, r.stays, r.holds, true, true, r.holds⟩ from by unfold RW.flush; rw [if_pos ⟨HB1.out, HDD.out⟩, HDD.out]]
            exact hs.1.drew
          case measure => simp [intOf]; omega
      · have p1 : (r.at_ / 8 == line) = false := by simpa using b1
        have HB1 := Lib.hid b1
        clear b1
        go_wp2
        go_roundw
        case rel =>
          refine ⟨k + 1, by omega, by go_num, ?_, HT.out.trans (RTurn.below ((Below.refl _ _).alloc (Nat.le_refl _) _))⟩
          rw [part_same HR.out (by unfold RW.flush; rw [if_neg (fun h => HB1.out h.1)])]
          exact HP.out.below ((Below.refl _ _).alloc (Nat.le_refl _) _)
        case measure => simp [intOf]; omega
    · obtain rfl : k = ρ1.l.length := by omega
      have HP := Lib.hid hp
      have HT := Lib.hid ht
      clear hp ht
      go_wp2
      go_ret
      have hp := HP.out
      rw [part_end] at hp
      refine ⟨rfl, ?_, t1.trans HT.out⟩
      rw [HE.out]
      exact hp.dev
end Go.Proofs.YtnjikgcigobcdaaGreat
