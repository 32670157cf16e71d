import Derived.Test.YtcimmfhbffofjaaMA
import Derived.Test.YtcimmfhbffofjaaMB
import Derived.Test.YtcimmfhbffofjaaLaw
import Derived.ScopeJumps
import Derived.WalkMore
import Derived.StillTailTactics
import Derived.Laws.Bits64b
namespace Go.Proofs.Ytcimmfhbffofjaa
open Wd U Go.ChangeShapes Go.WideShapes Go.RowKit Go.Sort
set_option linter.unusedVariables false

/-! the project's own: Need, place, Pack, Equal, Unpack -/
def needI (n : Int) : Int := if 0 < n then (n + 7) / 8 else 0
theorem need_is (n : Int) (h0 : -9223372036854775808 ≤ n) (h1 : n ≤ 9223372036854775807) (w : World) : Calls Try.prog 37 #[.int .i64 n] w fun e w' => e = .returned (.int .i64 (needI n)) ∧ w = w' := by
  by_cases h : n < 1
  · have e : needI n = 0 := by unfold needI; rw [if_neg (by omega)]
    rw [e]
    clear e
    go_enter Try.func37, Try.ntmps37
    go_wp2
    go_ret
    exact ⟨rfl, rfl⟩
  · have e : needI n = (n - 1) / 8 + 1 := by unfold needI; rw [if_pos (by omega)]; omega
    rw [e]
    clear e
    go_enter Try.func37, Try.ntmps37
    go_wp2
    go_ret
    exact ⟨rfl, rfl⟩
theorem wNeed (n : Int) (h0 : -9223372036854775808 ≤ n) (h1 : n ≤ 9223372036854775807) (w : World) : Calls Try.prog 37 #[.int .i64 n] w (Grows (.int .i64 (needI n)) w) := by
  refine (need_is n h0 h1 w).mono ?_
  rintro e w' ⟨rfl, rfl⟩
  exact ⟨rfl, grow_none _⟩
theorem needI_nat (n : Nat) : needI (n : Int) = ((need n : Nat) : Int) := by unfold needI need; split <;> omega
theorem place_is (k d r : Nat) (hk : k ≤ 10000) (hd : d = k / 8) (hr : r = k % 8) (w : World) : Calls Try.prog 55 #[.int .i64 k] w fun e w' => e = .returned (.tuple #[.int .i64 d, .int .i64 ((r : Int) * 8)]) ∧ w = w' := by
  have e1 : (k : Int) / 8 = (d : Int) := by omega
  have e2 : (k : Int) % 8 = (r : Int) := by omega
  have hr8 : r < 8 := by omega
  clear hd hr
  go_enter Try.func55, Try.ntmps55
  go_wp2
  go_ret2
  exact ⟨rfl, rfl⟩

def PackJ (b : List Nat) (n c g K : Nat) (A : Option Addr) (W : World) (a : Act) (w : World) : Prop :=
  ∃ (k : Nat) (u5 u6 u7 u8 u9 u10 u11 u12 u13 u14 u15 u16 u17 u18 u19 u20 u21 u22 u23 u24 u25 u26 u27 u28 u29 u30 u31 u32 u33 u34 u35 : Value), a = { tmps := #[.slice A n c, undef, .slice none 0 0, .slice (some ⟨g, 0, none⟩) K K, .int .i64 k, u5, u6, u7, u8, u9, u10, u11, u12, u13, u14, u15, u16, u17, u18, u19, u20, u21, u22, u23, u24, u25, u26, u27, u28, u29, u30, u31, u32, u33, u34, u35], defers := [] } ∧ k ≤ n ∧ WRow w g 61 (padW b k) ∧ Below W.heap.size W w
def PackedR (b : List Nat) (W : World) (e : Ending) (w : World) : Prop := ∃ (A : Option Addr) (c : Nat), e = .returned (.slice A (pk b).length c) ∧ Row w w.heap.size A (pk b).length ((pk b).map wd) ∧ Below W.heap.size W w
def PackStep (b : List Nat) (n c g k : Nat) (A : Option Addr) (W w : World) : Prop := k ≤ n ∧ WRow w g 61 (padW b k) ∧ Below W.heap.size W w
theorem PackStep.end_ {b : List Nat} {n c g : Nat} {A : Option Addr} {W w : World} (h : PackStep b n c g n A W w) (hL : b.length = n) : PackedR b W (.returned (.slice (some ⟨g, 0, none⟩) (need n) (need n))) w := by
  obtain ⟨_, h2, h3⟩ := h
  subst hL
  rw [padW_all] at h2
  have e : need b.length = (pk b).length := (pk_len b).symm
  refine ⟨some ⟨g, 0, none⟩, need b.length, by rw [e], ?_, h3⟩
  exact h2.row rfl (Cells.lt h2)

set_option maxRecDepth 100000 in
set_option maxHeartbeats 4000000 in
theorem wPack (b : List Nat) (n : Nat) (hL : b.length = n) (hb : Bytes b) (A : Option Addr) (c : Nat) (w : World) (hn : n ≤ 1000) (hr : Row w w.heap.size A n (b.map bt)) : Calls Try.prog 39 #[.slice A n c] w (PackedR b w) := by
  have hK : need n ≤ 126 := by unfold need; omega
  have hmk := fun W => make_row (P := Try.prog) 25 61 (.int .u64 0) 8 Try.underlying25 infoU64' rfl (need n) (by omega) (by omega) W
  have HL := Lib.hid hL; have HB := Lib.hid hb; have HR := Lib.hid hr
  obtain ⟨K, hKK⟩ : ∃ K, need n = K := ⟨_, rfl⟩
  have hnI : needI (n : Int) = (K : Int) := by rw [needI_nat, hKK]
  rw [hKK] at hmk hK
  have HN := Lib.hid hnI; have HK := Lib.hid hKK
  clear hL hb hr hnI hKK
  have hg : w.heap.size = w.heap.size := rfl
  clear hg
  go_enter Try.func39, Try.ntmps39
  go_wp2
  refine wp_scope_jumps 0 (PackJ b n c w.heap.size K A w) (fun a' _ => n - (intOf (a'.tmps.getD 4 undef)).toNat) rfl ?_ ?_
  · go_wp2_with fail
    refine (need_is (n : Int) (by omega) (by omega) _).mono ?_
    rintro e w1 ⟨rfl, rfl⟩
    rw [HN.out]
    go_wp2
    clear hmk
    have hc0 := Cells.new w 61 (Array.replicate K (Value.int .u64 0))
    have hb0 : Below w.heap.size w (w.alloc (.cells (Array.replicate K (Value.int .u64 0)) 61)) := (Below.refl _ _).alloc (Nat.le_refl _) _
    obtain ⟨wr, hwr⟩ : ∃ wr, w.alloc (.cells (Array.replicate K (Value.int .u64 0)) 61) = wr := ⟨_, rfl⟩
    rw [hwr] at hc0 hb0 ⊢
    obtain ⟨g, hg⟩ : ∃ g, w.heap.size = g := ⟨_, rfl⟩
    rw [hg] at hc0 ⊢
    obtain ⟨k, hk, hw, hbl, hkI⟩ : ∃ k : Nat, k ≤ n ∧ WRow wr g 61 (padW b k) ∧ Below w.heap.size w wr ∧ (0 : Int) = (k : Int) := ⟨0, Nat.zero_le _, by
      unfold WRow
      rw [padW_zero, HL.out, HK.out, List.map_replicate, List.toArray_replicate]
      exact hc0, hb0, rfl⟩
    rw [hkI]
    have HG := Lib.hid hg
    clear hkI hc0 hb0 hwr hg
    go_step3
    by_cases heq : k = n
    · subst heq
      have hend := PackStep.end_ (c := c) (A := A) ⟨hk, hw, hbl⟩ HL.out
      rw [HK.out] at hend
      have HE := Lib.hid hend
      clear hend hw hbl hk
      go_wp2
      simp only [Exit.jump]
      go_ret
      exact HE.out
    · have hkn : k < n := by omega
      have hne : ((k : Int) == (n : Int)) = false := by rw [beq_eq_false_iff_ne]; omega
      obtain ⟨b1, o1, x, hA, _, hx, cx⟩ := (HR.out.below hbl).get hkn
      obtain ⟨v, hv1, hv2, hv3, hv4⟩ := padW_step HB.out hx
      have hx2 := HB.out.at hx
      obtain ⟨d, hd⟩ : ∃ d : Nat, d = k / 8 := ⟨_, rfl⟩
      obtain ⟨r, hr⟩ : ∃ r : Nat, r = k % 8 := ⟨_, rfl⟩
      rw [← hd] at hv1 hv4
      rw [← hr] at hv2 hv3 hv4
      have hr8 : r < 8 := by omega
      have hdK : d < K := by have := HK.out; unfold need at this; omega
      have d1 : (d : Int) < (K : Int) := by omega
      have cv := hw.cell hv1
      have fv := Cells.free hw d
      obtain ⟨z, hz⟩ : ∃ z : Nat, z = x * 256 ^ r := ⟨_, rfl⟩
      obtain ⟨y, hy⟩ : ∃ y : Nat, y = v + z := ⟨_, rfl⟩
      rw [← hz] at hv3 hv4
      rw [← hy] at hv3 hv4
      have hsh : IntKind.u64.wrap ((x : Int) * 2 ^ (r * 8)) = (z : Int) := by
        rw [IntKind.wrap_u64]
        have e : ((x : Int) * 2 ^ (r * 8)) = (z : Int) := by rw [hz, ← pow_two]; simp
        rw [e]
        omega
      have hor : bits .or .u64 (v : Int) (z : Int) = (y : Int) := by
        rw [bits_or_u64_nat _ _ (by omega) (by omega), hz, ← pow_two, or_mul' _ _ _ (by rw [pow_two]; exact hv2), hy, hz, ← pow_two]
      clear hz hy
      unfold bt at cx
      have HW := Lib.hid hw; have HBL := Lib.hid hbl; have HV4 := Lib.hid hv4; have HX := Lib.hid hx; have HD := Lib.hid hd; have HRR := Lib.hid hr
      have HV3 := Lib.hid hv3; have HV2 := Lib.hid hv2
      clear hw hbl hv1 hv2 hv3 hv4 hx hd hr
      subst hA
      go_wp2_with (go_at_call 55; refine (place_is k d r (by omega) HD.out HRR.out _).mono ?_; rintro e w1 ⟨rfl, rfl⟩)
      go_still_tail 13, (by kernel_rfl)
      go_wp2
      go_step3
      exact ⟨rfl, k + 1, _, _, _, _, _, _, _, _, _, _, _, _, _, _, _, _, _, _, _, _, _, _, _, _, _, _, _, _, _, _, _, by first | rfl | (rw [HG.out]; rfl), by omega, (by rw [HV4.out]; first | exact HW.out.set d y | (rw [HG.out]; exact HW.out.set d y)), below_drewN (HBL.out.setCell (p := ⟨g, d, none⟩) (Nat.le_of_eq HG.out) (.int .u64 (y : Int))) 1⟩
  · rintro a' wr ⟨k, u5, u6, u7, u8, u9, u10, u11, u12, u13, u14, u15, u16, u17, u18, u19, u20, u21, u22, u23, u24, u25, u26, u27, u28, u29, u30, u31, u32, u33, u34, u35, rfl, hk, hw, hbl⟩
    obtain ⟨g, hg⟩ : ∃ g, w.heap.size = g := ⟨_, rfl⟩
    rw [hg] at hw ⊢
    have HG := Lib.hid hg
    clear hg hmk
    by_cases heq : k = n
    · subst heq
      have hend := PackStep.end_ (c := c) (A := A) ⟨hk, hw, hbl⟩ HL.out
      rw [HK.out] at hend
      have HE := Lib.hid hend
      clear hend hw hbl hk
      go_wp2
      simp only [Exit.jump]
      go_ret
      exact HE.out
    · have hkn : k < n := by omega
      have hne : ((k : Int) == (n : Int)) = false := by rw [beq_eq_false_iff_ne]; omega
      obtain ⟨b1, o1, x, hA, _, hx, cx⟩ := (HR.out.below hbl).get hkn
      obtain ⟨v, hv1, hv2, hv3, hv4⟩ := padW_step HB.out hx
      have hx2 := HB.out.at hx
      obtain ⟨d, hd⟩ : ∃ d : Nat, d = k / 8 := ⟨_, rfl⟩
      obtain ⟨r, hr⟩ : ∃ r : Nat, r = k % 8 := ⟨_, rfl⟩
      rw [← hd] at hv1 hv4
      rw [← hr] at hv2 hv3 hv4
      have hr8 : r < 8 := by omega
      have hdK : d < K := by have := HK.out; unfold need at this; omega
      have d1 : (d : Int) < (K : Int) := by omega
      have cv := hw.cell hv1
      have fv := Cells.free hw d
      obtain ⟨z, hz⟩ : ∃ z : Nat, z = x * 256 ^ r := ⟨_, rfl⟩
      obtain ⟨y, hy⟩ : ∃ y : Nat, y = v + z := ⟨_, rfl⟩
      rw [← hz] at hv3 hv4
      rw [← hy] at hv3 hv4
      have hsh : IntKind.u64.wrap ((x : Int) * 2 ^ (r * 8)) = (z : Int) := by
        rw [IntKind.wrap_u64]
        have e : ((x : Int) * 2 ^ (r * 8)) = (z : Int) := by rw [hz, ← pow_two]; simp
        rw [e]
        omega
      have hor : bits .or .u64 (v : Int) (z : Int) = (y : Int) := by
        rw [bits_or_u64_nat _ _ (by omega) (by omega), hz, ← pow_two, or_mul' _ _ _ (by rw [pow_two]; exact hv2), hy, hz, ← pow_two]
      clear hz hy
      unfold bt at cx
      have HW := Lib.hid hw; have HBL := Lib.hid hbl; have HV4 := Lib.hid hv4; have HX := Lib.hid hx; have HD := Lib.hid hd; have HRR := Lib.hid hr
      have HV3 := Lib.hid hv3; have HV2 := Lib.hid hv2
      clear hw hbl hv1 hv2 hv3 hv4 hx hd hr
      subst hA
      go_wp2_with (go_at_call 55; refine (place_is k d r (by omega) HD.out HRR.out _).mono ?_; rintro e w1 ⟨rfl, rfl⟩)
      go_still_tail 13, (by kernel_rfl)
      go_wp2
      go_step3
      refine ⟨rfl, ⟨k + 1, _, _, _, _, _, _, _, _, _, _, _, _, _, _, _, _, _, _, _, _, _, _, _, _, _, _, _, _, _, _, _, by first | rfl | (rw [HG.out]; rfl), by omega, (by rw [HV4.out]; first | exact HW.out.set d y | (rw [HG.out]; exact HW.out.set d y)), below_drewN (HBL.out.setCell (p := ⟨g, d, none⟩) (Nat.le_of_eq HG.out) (.int .u64 (y : Int))) 1⟩, ?_⟩
      simp [intOf]; omega


/-- slices.Equal over words -/
def EqualJ (xs ys : List Nat) (W : World) (i : Value) (w : World) : Prop := ∃ k d : Nat, k ≤ xs.length ∧ i = .int .i64 k ∧ xs.take k = ys.take k ∧ w = W.drewN d
set_option maxHeartbeats 400000 in
theorem equal_any (xs ys : List Nat) (n m : Nat) (hn : xs.length = n) (hm : ys.length = m) (hle : n ≤ 1000) (A C : Option Addr) (c d B : Nat) (w : World) (hx : Row w B A n (xs.map wd)) (hy : Row w B C m (ys.map wd)) :
    Calls Try.prog 32 #[.slice A n c, .slice C m d] w (Grows (.bool (decide (xs = ys))) w) := by
  subst hn hm
  have HX := Lib.hid hx; have HY := Lib.hid hy
  clear hx hy
  by_cases hl : xs.length = ys.length
  · have HL := Lib.hid hl
    have hb : ((xs.length : Int) != (ys.length : Int)) = false := by simp [hl]
    clear hl
    go_enter Try.func32, Try.ntmps32
    go_wp2
    go_loopw [13] (fun i wr => EqualJ xs ys w i wr) (fun i _ => xs.length - (intOf i).toNat)
    case atStart => exact ⟨0, 0, Nat.zero_le _, rfl, rfl, rfl⟩
    case round =>
      obtain ⟨k, q, hk, rfl, ht, rfl⟩ := hrel
      have HT := Lib.hid ht; clear ht
      by_cases hlt : k < xs.length
      · have hlt2 : k < ys.length := by have := HL.out; omega
        have i1 : (k : Int) < (xs.length : Int) := by omega
        have i2 : (k : Int) < (ys.length : Int) := by omega
        have i0 : (0 : Int) ≤ (k : Int) := by omega
        obtain ⟨b1, o1, x, rfl, _, gx, cx⟩ := HX.out.get hlt
        obtain ⟨b2, o2, y, rfl, _, gy, cy⟩ := HY.out.get hlt2
        have HGX := Lib.hid gx; have HGY := Lib.hid gy
        clear gx gy
        unfold wd at cx cy
        by_cases hxy : x = y
        · subst hxy
          go_wp2
          go_quiet (fail)
          go_wp2
          go_roundw
          case rel => exact ⟨k + 1, q + nq, by omega, by go_num, by rw [take_one HGX.out, take_one HGY.out, HT.out], rfl⟩
          case measure => simp [intOf]; omega
        · have hne : ((x : Int) != (y : Int)) = true := by rw [bne_iff_ne]; omega
          have hdec : decide (xs = ys) = false := by
            apply decide_eq_false
            intro h
            have h1 := HGX.out
            rw [h, HGY.out] at h1
            exact hxy (Option.some.inj h1).symm
          have HDEC := Lib.hid hdec
          clear hxy hdec
          go_wp2
          go_quiet (fail)
          go_wp2
          go_ret
          exact ⟨by rw [HDEC.out]; rfl, grow_drewN (grow_drewN (grow_none w) _) _⟩
      · obtain rfl : k = xs.length := by omega
        have hdec : decide (xs = ys) = true := by
          apply decide_eq_true
          have h := HT.out
          rw [List.take_length, List.take_of_length_le (by have := HL.out; omega)] at h
          exact h
        have HDEC := Lib.hid hdec
        clear hdec
        go_wp2
        go_ret
        exact ⟨by rw [HDEC.out]; rfl, grow_drewN (grow_none w) _⟩
  · have hb : ((xs.length : Int) != (ys.length : Int)) = true := by rw [bne_iff_ne]; omega
    have hdec : decide (xs = ys) = false := decide_eq_false (fun h => hl (by rw [h]))
    have HDEC := Lib.hid hdec
    clear hl hdec
    go_enter Try.func32, Try.ntmps32
    go_wp2
    go_ret
    exact ⟨by rw [HDEC.out]; rfl, grow_none w⟩
end Go.Proofs.Ytcimmfhbffofjaa
