import Derived.Test.YtnjikgcigobcdaaGreatPmRc
namespace Go.Proofs.YtnjikgcigobcdaaGreat
open Wd Pm Go.Maps Go.RowKit
set_option linter.unusedVariables false

/-! an eviction -/
def RW.hit (dead : Bool) (line : Int) (r : RW) : Bool := !dead && decide (r.at_ / 8 = line) && r.dirty
def RW.evict (dead : Bool) (line : Int) (r : RW) : RW := if r.hit dead line = true then RW.clean { r with stays := r.holds, way := false, sent := 0 } else r
def RSt.evict (line : Int) (ρ : RSt) : RSt := { ρ with l := ρ.l.map (RW.evict ρ.dead line) }
def RLoopB (w : World) (B q : Nat) (ρ : RSt) (g : RW → RW) (hit : RW → Bool) (v b i : Value) (wr : World) : Prop := ∃ k : Nat, k ≤ ρ.l.length ∧ i = .int .i64 k ∧ b = .bool ((ρ.l.take k).any hit) ∧ RDevV wr B q { ρ with l := part ρ.l g k } v ∧ RTurn w wr B
theorem any_step {l : List RW} {hit : RW → Bool} {k : Nat} {r : RW} (h : l[k]? = some r) : (l.take (k + 1)).any hit = ((l.take k).any hit || hit r) := by
  rw [take_snoc' h, List.any_append]; simp
set_option maxRecDepth 100000 in
set_option maxHeartbeats 1000000 in
theorem revict_dev {w : World} {B q : Nat} {ρ : RSt} (h : RDev w B q ρ) (line : Int) :
    Calls Tryz.prog 28 #[.pointer (some ⟨q, 0, none⟩), .int .i64 line] w fun e w' => e = .returned (.bool (ρ.l.any (RW.hit ρ.dead line))) ∧ RGoes w B q (ρ.evict line) w' := by
  obtain ⟨v, hv⟩ := h.v
  obtain ⟨A, c, rfl⟩ := hv.form
  have k1 := hv.reads.c1
  have few := hv.2.1.few
  have n1 := hv.2.1.n
  have HV := Lib.hid hv
  clear hv
  go_enter Tryz.func28, Tryz.ntmps28
  go_wp2
  go_loopw [5, 13] (fun b i wr => RLoopB w B q ρ (RW.evict ρ.dead line) (RW.hit ρ.dead line) (.slice A ρ.l.length c) b i wr) (fun _ i _ => ρ.l.length - (intOf i).toNat)
  case atStart =>
    refine ⟨0, Nat.zero_le _, rfl, rfl, ?_, RTurn.refl _ _⟩
    rw [part_zero]
    exact HV.out
  case round =>
    obtain ⟨k, hk, rfl, rfl, hp, ht⟩ := hrel
    by_cases hlt : k < ρ.l.length
    · obtain ⟨r, hr⟩ : ∃ r, ρ.l[k]? = some r := ⟨_, List.getElem?_eq_getElem hlt⟩
      obtain ⟨g, rfl, w6, hneq, hgl, hql, a0, a1, ok, rk1⟩ := hp.at (part_len _ _ _).symm (part_at hr)
      have x0 := w6.x0; have x1 := w6.x1; have x2 := w6.x2; have x3 := w6.x3; have x4 := w6.x4; have x5 := w6.x5
      have rk3 : wr.cell? ⟨q, 3, none⟩ = some (.bool ρ.dead) := hp.reads.c3
      have W := Lib.hid w6
      have HP := Lib.hid hp
      have HT := Lib.hid ht
      have HR := Lib.hid hr
      have HOK := Lib.hid ok
      clear hp ht hr ok w6
      by_cases hh : r.hit ρ.dead line = true
      · obtain ⟨h1, h2, h3⟩ : ρ.dead = false ∧ r.at_ / 8 = line ∧ r.dirty = true := by
          unfold RW.hit at hh
          simp at hh
          exact ⟨hh.1.1, hh.1.2, hh.2⟩
        have HH := Lib.hid hh
        have p1 : (r.at_ / 8 == line) = true := by simpa using h2
        rw [h1] at rk3
        rw [h3] at x3
        have H3 := Lib.hid h3
        have H1 := Lib.hid h1
        clear hh h1 h2 h3
        go_wp2
        obtain ⟨W2, hW2⟩ : ∃ W2, W2 = wr.alloc (.cells #[.int .i64 r.at_, .int .u64 r.holds, .int .u64 r.holds, .bool true, .bool false, .int .u64 0] 74) := ⟨_, rfl⟩
        have b2 : Below wr.heap.size wr W2 := by rw [hW2]; exact (Below.refl _ _).alloc (Nat.le_refl _) _
        have kb : W6 W2 wr.heap.size 0 ⟨r.at_, r.holds, r.holds, true, false, 0⟩ := by
          have := Cells.new wr 74 #[.int .i64 r.at_, .int .u64 r.holds, .int .u64 r.holds, .bool true, .bool false, .int .u64 0]
          rw [hW2]
          exact ⟨this.cell 0, this.cell 1, this.cell 2, this.cell 3, this.cell 4, this.cell 5, this.free⟩
        rw [← hW2]
        clear hW2 x0 x1 x2 x3 x4 x5
        have u6 := W.out.below hgl b2
        have y0 := kb.x0; have y1 := kb.x1; have y2 := kb.x2; have y3 := kb.x3; have y4 := kb.x4; have y5 := kb.x5
        simp only [Nat.zero_add] at y0 y1 y2 y3 y4 y5
        have rk2 : W2.cell? ⟨q, 1, none⟩ = some (.slice (some ⟨g, 0, none⟩) ρ.l.length c) := (b2.cell (p := ⟨q, 1, none⟩) hql).trans rk1
        have HB2 := Lib.hid b2
        have U6 := Lib.hid u6
        have hg2 : g < W2.heap.size := Nat.lt_of_lt_of_le hgl b2.size
        have hq2 : q < W2.heap.size := Nat.lt_of_lt_of_le hql HB2.out.size
        clear b2 kb u6 rk1
        have hcl := clean_lit ⟨r.at_, r.holds, r.holds, true, false, 0⟩ W2.drew
        obtain ⟨r2, hr2⟩ : ∃ r2, RW.clean ⟨r.at_, r.holds, r.holds, true, false, 0⟩ = r2 := ⟨_, rfl⟩
        rw [hr2] at hcl
        simp only at hcl
        have HR2 := Lib.hid hr2
        clear hr2
        go_region_with (go_at_call 62; (with_reducible refine hcl.mono ?_); rintro e w3 ⟨rfl, b3⟩; have b3' : Below W2.heap.size W2 w3 := undrew b3; have u3 := U6.out.below hg2 b3'; have x0 := u3.x0; have x1 := u3.x1; have x2 := u3.x2; have x3 := u3.x3; have x4 := u3.x4; have x5 := u3.x5; have z0 := u3.z (k * 6); have z1 := u3.z (k * 6 + 1); have z2 := u3.z (k * 6 + 2); have z3 := u3.z (k * 6 + 3); have z4 := u3.z (k * 6 + 4); have z5 := u3.z (k * 6 + 5); have rd3 : w3.cell? ⟨q, 1, none⟩ = some (.slice (some ⟨g, 0, none⟩) ρ.l.length c) := (b3'.cell (p := ⟨q, 1, none⟩) hq2).trans rk2; have HB3 := Lib.hid b3'; clear b3 b3' u3)
        all_goals
          go_wp2
          go_roundw
          case rel =>
            have hs := ((HP.out.below HB2.out).below HB3.out).set6 (part_len _ _ _).symm (k := k) (r' := r2) (by rw [part_len]; exact hlt) (by rw [← HR2.out]; exact RW.Ok.clean ⟨HOK.out.at_, HOK.out.holds, HOK.out.holds, (show U64 0 by unfold U64; decide)⟩)
            refine ⟨k + 1, by omega, by go_num, by rw [any_step HR.out, HH.out, Bool.or_true], ?_, (((HT.out.trans (RTurn.below HB2.out)).trans (RTurn.below HB3.out)).trans hs.2)⟩
            rw [part_step HR.out, show RW.evict ρ.dead line r = r2 from by unfold RW.evict; rw [if_pos HH.out, ← HR2.out, H3.out]]
            exact hs.1
          case measure => simp [intOf]; omega
      · have hf : r.hit ρ.dead line = false := by simpa using hh
        have HH := Lib.hid hf
        have base : ∀ o, RLoopB w B q ρ (RW.evict ρ.dead line) (RW.hit ρ.dead line) (.slice (some ⟨g, 0, none⟩) ρ.l.length c) (.bool ((ρ.l.take k).any (RW.hit ρ.dead line))) (.int .i64 (k + 1 : Nat)) (wr.alloc o) := fun o => by
          refine ⟨k + 1, by omega, rfl, by rw [any_step HR.out, HH.out, Bool.or_false], ?_, HT.out.trans (RTurn.below ((Below.refl _ _).alloc (Nat.le_refl _) _))⟩
          rw [part_same HR.out (by unfold RW.evict; rw [if_neg (by rw [HH.out]; simp)])]
          exact HP.out.below ((Below.refl _ _).alloc (Nat.le_refl _) _)
        have HBS := Lib.hid base
        clear base hh
        rcases (by cases ρ.dead <;> simp : ρ.dead = false ∨ ρ.dead = true) with h1 | h1
        · rw [h1] at rk3
          have H1 := Lib.hid h1
          clear h1
          by_cases h2 : r.at_ / 8 = line
          · have p1 : (r.at_ / 8 == line) = true := by simpa using h2
            have h3 : r.dirty = false := by
              unfold RW.hit at hf
              rw [H1.out] at hf
              simpa [h2] using hf
            rw [h3] at x3
            clear h2 h3 hf
            go_wp2
            go_roundw
            case rel => have := HBS.out (.cells #[.int .i64 r.at_, .int .u64 r.stays, .int .u64 r.holds, .bool false, .bool r.way, .int .u64 r.sent] 74); simpa using this
            case measure => simp [intOf]; omega
          · have p1 : (r.at_ / 8 == line) = false := by simpa using h2
            clear h2 hf
            go_wp2
            go_roundw
            case rel => have := HBS.out (.cells #[.int .i64 r.at_, .int .u64 r.stays, .int .u64 r.holds, .bool r.dirty, .bool r.way, .int .u64 r.sent] 74); simpa using this
            case measure => simp [intOf]; omega
        · rw [h1] at rk3
          clear h1 hf
          go_wp2
          go_roundw
          case rel => have := HBS.out (.cells #[.int .i64 r.at_, .int .u64 r.stays, .int .u64 r.holds, .bool r.dirty, .bool r.way, .int .u64 r.sent] 74); simpa using this
          case measure => simp [intOf]; omega
    · obtain rfl : k = ρ.l.length := by omega
      have HP := Lib.hid hp
      have HT := Lib.hid ht
      clear hp ht
      go_wp2
      go_ret
      have hp := HP.out
      rw [part_end] at hp
      refine ⟨?_, hp.dev, HT.out⟩
      rw [List.take_of_length_le (Nat.le_refl _)]
      rfl
end Go.Proofs.YtnjikgcigobcdaaGreat
