import Derived.Test.YtcimmfhbffofjaaMA
import Derived.IntWalk
import Derived.OwnWalk
import Derived.Laws.Bits64
import Derived.Deep.DeepCutAuto
import Derived.Laws.BytesString
import Derived.Deep.WholeRow

namespace Go.Proofs.Ytcimmfhbffofjaa
open Wd U Go.ChangeShapes Go.WideShapes Go.RowKit Go.Sort
set_option linter.unusedVariables false

theorem infoU64' : (Try.prog.info? 61).map (fun i => (i.zero, i.size, i.bytes)) = some (some (.int .u64 0), 1, 8) := by kernel_rfl
theorem infoU8 : (Try.prog.info? 5).map (fun i => (i.zero, i.size, i.bytes)) = some (some (.int .u8 0), 1, 1) := by kernel_rfl

def PackRel (b : List Nat) (W : World) (i o : Value) (w : World) : Prop :=
  ∃ k : Nat, k ≤ b.length ∧ i = .int .i64 k ∧ w.ownsRow W.heap.size 61 1 o (pk (b.take k)).length ((pk (b.take k)).map wd) ∧ Below W.heap.size W w
def ShiftRel (x m : Nat) (W : World) (v j : Value) (w : World) : Prop := ∃ q : Nat, q ≤ m ∧ j = .int .i64 q ∧ v = .int .u64 ((256 ^ q * x : Nat) : Int) ∧ w = W

def Packed (b : List Nat) (W : World) (e : Ending) (w : World) : Prop := ∃ v, e = .returned v ∧ w.ownsRow W.heap.size 61 1 v (pk b).length ((pk b).map wd) ∧ Below W.heap.size W w

set_option maxHeartbeats 2000000 in
theorem refPack_any (b : List Nat) (n : Nat) (hL : b.length = n) (hb : Bytes b) (A : Option Addr) (c : Nat) (w : World) (hn : n ≤ 1000) (hr : Row w w.heap.size A n (b.map bt)) :
    Calls Try.prog 44 #[.slice A n c] w (Packed b w) := by
  subst hL
  have HR := Lib.hid hr; have HBY := Lib.hid hb
  clear hr hb
  go_enter Try.func44, Try.ntmps44
  go_wp2
  go_loopw [10, 3] (fun i o wr => PackRel b w i o wr) (fun i _ _ => b.length - (intOf i).toNat)
  case atStart => exact ⟨0, Nat.zero_le _, rfl, by rw [List.take_zero]; exact ⟨rfl, .inl ⟨rfl, rfl⟩⟩, Below.refl _ _⟩
  case round =>
    obtain ⟨k, hk, rfl, hown, hbl⟩ := hrel
    have HB := Lib.hid hbl
    by_cases hlt : k < b.length
    · obtain ⟨b1, o1, x, rfl, _, hx, cx⟩ := (HR.out.below hbl).get hlt
      have hxb := HBY.out.at hx
      have ht := take_one hx
      obtain ⟨v, hv1, hv2, hv3⟩ := pk_step (HBY.out.take k) hxb
      rw [← ht] at hv3
      have hkl : (b.take k).length = k := by rw [List.length_take]; omega
      rw [hkl] at hv1 hv2 hv3
      have hplen : (pk (b.take k)).length = need k := by rw [pk_len, hkl]
      have hm : k % 8 < 8 := Nat.mod_lt _ (by omega)
      have hpl := pow_le hm
      obtain ⟨d, hd1, hd2⟩ : ∃ d : Nat, (k : Int) / 8 = (d : Int) ∧ d = k / 8 := ⟨k / 8, by omega, rfl⟩
      obtain ⟨r, hr1, hr2⟩ : ∃ r : Nat, (k : Int) % 8 = (r : Int) ∧ r = k % 8 := ⟨k % 8, by omega, rfl⟩
      rw [← hd2] at hv1 hv3
      rw [← hr2] at hv1 hv2 hv3 hm hpl
      unfold bt at cx
      have HV1 := Lib.hid hv1; have HV3 := Lib.hid hv3; have HD := Lib.hid hd2; have HRR := Lib.hid hr2; have HPL := Lib.hid hplen; have HOWN := Lib.hid hown
      have HPP := Lib.hid hpl; have HV2 := Lib.hid hv2
      clear hv1 hv2 hv3 hd2 hr2 hx ht hkl hplen hown hbl hpl
      by_cases h0 : r = 0
      · have hre : ((r : Int) == 0) = true := by rw [h0]; rfl
        have hkn : need k = d := by have := HD.out; have := HRR.out; unfold need; omega
        have hown := HOWN.out
        rw [HPL.out, hkn] at hown
        have hv1 := HV1.out
        have hv3 := HV3.out
        rw [if_pos h0] at hv1 hv3
        have HO0 := Lib.hid hown; have H1 := Lib.hid hv1; have H3 := Lib.hid hv3; have H0 := Lib.hid h0; have HKN := Lib.hid hkn
        have hd1k : d ≤ 1000 := by have := HD.out; omega
        have hbs := HB.out.size
        clear hown hv1 hv3 h0 hkn
        obtain ⟨wo, rfl⟩ : ∃ wo : World, wo = wr := ⟨_, rfl⟩
        go_wp2_with (at_builtin; refine wpList_append_row _ rfl (.tmp 18) (.tmp 19) 25 rfl w.heap.size 61 (.int .u64 0) 8 Try.underlying25 infoU64' rfl _ d ((pk (b.take k)).map wd) rfl (HO0.out.alloc _) _ (some ⟨wo.heap.size, 0, none⟩) 1 1 [.int .u64 0] rfl (Row.one _ _ _) (by simp [Value.oneCell']) (by unfold maxLen; omega) (by omega) (by simp; omega) ?_; intro v5 w5 hown5 hgr5 hat5; have hb5 : Below w.heap.size w w5 := (HB.out.alloc hbs _).grown hgr5 (by simp; omega) (own_base HO0.out); have ho5 : w5.ownsRow w.heap.size 61 1 v5 (d + 1) ((pk (b.take k) ++ [0]).map wd) := (by rw [List.map_append]; exact hown5); obtain ⟨g, cap, rfl, hg, hc1, hc2, hgl⟩ := own_open ho5 (by omega); obtain ⟨cv, fv⟩ := own_cell ho5 (k := d) (u := wd v) (by rw [List.getElem?_map, H1.out]; rfl); have cv' : w5.cell? ⟨g, d, none⟩ = some (.int .u64 (v : Int)) := cv; have HO := Lib.hid ho5; have HBF := Lib.hid hb5; clear hown5 hgr5 hat5 hb5 ho5 cv)
        have HLF := Lib.hid (show (pk (b.take k) ++ [0]).length = d + 1 by rw [List.length_append, HPL.out, HKN.out]; rfl)
        go_loopw [6, 7] (fun v j wr => ShiftRel x r w5 v j wr) (fun _ j _ => r - (intOf j).toNat)
        case atStart => exact ⟨0, Nat.zero_le _, rfl, by rw [Nat.pow_zero, Nat.one_mul], rfl⟩
        case round =>
          obtain ⟨q, hq, rfl, rfl, rfl⟩ := hrel
          obtain ⟨y, hy⟩ : ∃ y, y = 256 ^ q * x := ⟨_, rfl⟩
          rw [← hy]
          have hp2 : 256 ^ q ≤ 256 ^ r := Nat.pow_le_pow_right (by omega) hq
          by_cases hqr : q < r
          · have hp3 : 256 ^ (q + 1) ≤ 256 ^ r := Nat.pow_le_pow_right (by omega) hqr
            have hy2 : y * 256 = 256 ^ (q + 1) * x := by rw [hy, Nat.pow_succ, Nat.mul_right_comm]
            have hy3 : y * 256 ≤ 72057594037927936 * 255 := by
              rw [hy2]
              exact Nat.mul_le_mul (Nat.le_trans hp3 HPP.out) (by omega)
            have e1 : IntKind.u64.wrap ((y : Int) * 256) = ((y * 256 : Nat) : Int) := by rw [IntKind.wrap_u64]; omega
            have HY2 := Lib.hid hy2
            clear hp2 hp3 hy hy2 hy3
            go_wp2
            go_roundw
            case rel => exact ⟨q + 1, by omega, by go_num, by rw [← HY2.out]; exact congrArg (Value.int .u64) (by omega), rfl⟩
            case measure => simp [intOf]; omega
          · obtain rfl : q = r := by omega
            have hvy : v + y < 18446744073709551616 := by rw [hy]; exact HV2.out
            have e2 : IntKind.u64.wrap ((v : Int) + (y : Int)) = ((v + y : Nat) : Int) := by rw [IntKind.wrap_u64]; omega
            have HY := Lib.hid hy
            clear hp2 hy hvy
            go_wp2
            go_roundw
            case rel =>
              refine ⟨k + 1, by omega, by go_num, ?_, HBF.out.setCell hg _⟩
              rw [H3.out, ← HY.out]
              have ho := own_set HO.out d (wd (v + y))
              rw [← List.map_set] at ho
              rw [List.length_set, HLF.out]
              exact ho
            case measure => simp [intOf]; omega
      · have hre : ((r : Int) == 0) = false := by rw [beq_eq_false_iff_ne]; omega
        have hv1 := HV1.out
        have hv3 := HV3.out
        rw [if_neg h0] at hv1 hv3
        have hkn : need k = d + 1 := by have := HD.out; have := HRR.out; unfold need; omega
        have HKN := Lib.hid hkn; have H1 := Lib.hid hv1; have H3 := Lib.hid hv3
        have hown := HOWN.out
        rw [HPL.out, hkn] at hown
        obtain ⟨g, cap, rfl, hg, hc1, hc2, hgl⟩ := own_open hown (by omega)
        obtain ⟨cv, fv⟩ := own_cell hown (k := d) (u := wd v) (by rw [List.getElem?_map, hv1]; rfl)
        unfold wd at cv
        have HO := Lib.hid hown
        clear hv1 hv3 hkn hown
        obtain ⟨wo, rfl⟩ : ∃ wo : World, wo = wr := ⟨_, rfl⟩
        have HLF := Lib.hid (show (pk (b.take k)).length = d + 1 by rw [HPL.out, HKN.out])
        have HBF := Lib.hid HB.out
        go_wp2
        go_loopw [6, 7] (fun v j wr => ShiftRel x r wo v j wr) (fun _ j _ => r - (intOf j).toNat)
        case atStart => exact ⟨0, Nat.zero_le _, rfl, by rw [Nat.pow_zero, Nat.one_mul], rfl⟩
        case round =>
          obtain ⟨q, hq, rfl, rfl, rfl⟩ := hrel
          obtain ⟨y, hy⟩ : ∃ y, y = 256 ^ q * x := ⟨_, rfl⟩
          rw [← hy]
          have hp2 : 256 ^ q ≤ 256 ^ r := Nat.pow_le_pow_right (by omega) hq
          by_cases hqr : q < r
          · have hp3 : 256 ^ (q + 1) ≤ 256 ^ r := Nat.pow_le_pow_right (by omega) hqr
            have hy2 : y * 256 = 256 ^ (q + 1) * x := by rw [hy, Nat.pow_succ, Nat.mul_right_comm]
            have hy3 : y * 256 ≤ 72057594037927936 * 255 := by
              rw [hy2]
              exact Nat.mul_le_mul (Nat.le_trans hp3 HPP.out) (by omega)
            have e1 : IntKind.u64.wrap ((y : Int) * 256) = ((y * 256 : Nat) : Int) := by rw [IntKind.wrap_u64]; omega
            have HY2 := Lib.hid hy2
            clear hp2 hp3 hy hy2 hy3
            go_wp2
            go_roundw
            case rel => exact ⟨q + 1, by omega, by go_num, by rw [← HY2.out]; exact congrArg (Value.int .u64) (by omega), rfl⟩
            case measure => simp [intOf]; omega
          · obtain rfl : q = r := by omega
            have hvy : v + y < 18446744073709551616 := by rw [hy]; exact HV2.out
            have e2 : IntKind.u64.wrap ((v : Int) + (y : Int)) = ((v + y : Nat) : Int) := by rw [IntKind.wrap_u64]; omega
            have HY := Lib.hid hy
            clear hp2 hy hvy
            go_wp2
            go_roundw
            case rel =>
              refine ⟨k + 1, by omega, by go_num, ?_, HBF.out.setCell hg _⟩
              rw [H3.out, ← HY.out]
              have ho := own_set HO.out d (wd (v + y))
              rw [← List.map_set] at ho
              rw [List.length_set, HLF.out]
              exact ho
            case measure => simp [intOf]; omega
    · obtain rfl : k = b.length := by omega
      have ho := hown
      rw [List.take_length] at ho
      have HO := Lib.hid ho
      clear ho hown
      go_wp2
      go_ret
      exact ⟨_, rfl, HO.out, HB.out⟩
end Go.Proofs.Ytcimmfhbffofjaa

namespace Go.Proofs.Ytcimmfhbffofjaa
open Wd U Go.ChangeShapes Go.WideShapes Go.RowKit Go.Sort
set_option linter.unusedVariables false

theorem more_num (s w : Nat) : Value.int .u64 (((s ^^^ w : Nat) : Int) * 1099511628211 % 18446744073709551616) = .int .u64 ((more s w : Nat) : Int) := by
  have e : (more s w : Nat) = (s ^^^ w) * 1099511628211 % 18446744073709551616 := by unfold more; rfl
  rw [e]
  congr 1
theorem more_wrap (s w : Nat) : IntKind.u64.wrap (((s ^^^ w : Nat) : Int) * 1099511628211) = ((more s w : Nat) : Int) := by
  have e : (more s w : Nat) = (s ^^^ w) * 1099511628211 % 18446744073709551616 := by unfold more; rfl
  rw [IntKind.wrap_u64, e, Int.natCast_emod, Int.natCast_mul]
  congr 1
def SumRel' (l : List Nat) (W : World) (i s : Value) (w : World) : Prop := ∃ k : Nat, k ≤ l.length ∧ i = .int .i64 k ∧ s = .int .u64 ((sum (l.take k) : Nat) : Int) ∧ w = W

set_option maxHeartbeats 400000 in
theorem refSum64_any (l : List Nat) (n : Nat) (hL : l.length = n) (hl : Small l) (A : Option Addr) (c B : Nat) (w : World) (hn : n ≤ 1000) (hr : Row w B A n (l.map wd)) :
    Calls Try.prog 28 #[.slice A n c] w fun e w' => e = .returned (.int .u64 ((sum l : Nat) : Int)) ∧ w = w' := by
  subst hL
  have HR := Lib.hid hr; have HL := Lib.hid hl
  clear hr hl
  go_enter Try.func28, Try.ntmps28
  go_wp2
  go_loopw [8, 3] (fun i s wr => SumRel' l w i s wr) (fun i _ _ => l.length - (intOf i).toNat)
  case atStart => exact ⟨0, Nat.zero_le _, rfl, by rw [List.take_zero, ← sum_nil]; exact start_val, rfl⟩
  case round =>
    obtain ⟨k, hk, rfl, hs, rfl⟩ := hrel
    obtain ⟨s, hs1⟩ : ∃ s, s = sum (l.take k) := ⟨_, rfl⟩
    rw [← hs1] at hs
    have hs2 : s < 18446744073709551616 := by rw [hs1]; exact sum_lt _
    have HS := Lib.hid hs1
    subst hs
    clear hs1
    by_cases hlt : k < l.length
    · obtain ⟨b, off, y, rfl, hb, hy, cy⟩ := HR.out.get hlt
      have hwy := HL.out.at hy
      have ht := take_one hy
      have hx := bits_xor_u64_nat s y hs2 hwy
      have HT := Lib.hid ht
      have HM := Lib.hid (more_num s y)
      unfold wd at cy
      clear ht hy hs2 hwy
      go_wp2
      go_roundw
      case rel => exact ⟨k + 1, by omega, by go_num, by rw [HT.out, sum_snoc, ← HS.out]; exact HM.out, rfl⟩
      case measure => simp [intOf]; omega
    · obtain rfl : k = l.length := by omega
      have hss := HS.out
      rw [List.take_length] at hss
      have HSS := Lib.hid hss
      clear hss
      go_wp2
      go_ret
      exact ⟨by rw [← HSS.out]; rfl, rfl⟩

def EqRel (n : Nat) (W : World) (i : Value) (w : World) : Prop := ∃ k d : Nat, k ≤ n ∧ i = .int .i64 k ∧ w = W.drewN d

set_option maxHeartbeats 400000 in
theorem sameWords_eq (ws : List Nat) (n : Nat) (hL : ws.length = n) (hn : n ≤ 1000) (A C : Option Addr) (c d B : Nat) (w : World) (hx : Row w B A n (ws.map wd)) (hy : Row w B C n (ws.map wd)) :
    Calls Try.prog 14 #[.slice A n c, .slice C n d] w (Grows (.bool true) w) := by
  have HX := Lib.hid hx; have HY := Lib.hid hy; have HL := Lib.hid hL
  clear hx hy hL
  go_enter Try.func14, Try.ntmps14
  go_wp2
  go_loopw [13] (fun i wr => EqRel n w i wr) (fun i _ => n - (intOf i).toNat)
  case atStart => exact ⟨0, 0, Nat.zero_le _, rfl, rfl⟩
  case round =>
    obtain ⟨k, q, hk, rfl, rfl⟩ := hrel
    by_cases hlt : k < n
    · obtain ⟨b1, o1, x, rfl, _, gx, cx⟩ := HX.out.get hlt
      obtain ⟨b2, o2, y, rfl, _, gy, cy⟩ := HY.out.get hlt
      obtain rfl : x = y := by rw [gx] at gy; exact Option.some.inj gy
      clear gx gy
      unfold wd at cx cy
      go_wp2
      go_quiet (fail)
      go_wp2
      go_roundw
      case rel => exact ⟨k + 1, q + nq, by omega, by go_num, rfl⟩
      case measure => simp [intOf]; omega
    · obtain rfl : k = n := by omega
      go_wp2
      go_ret
      exact ⟨rfl, grow_drewN (grow_none w) q⟩
end Go.Proofs.Ytcimmfhbffofjaa

namespace Go.Proofs.Ytcimmfhbffofjaa
open Wd U Go.ChangeShapes Go.WideShapes Go.RowKit Go.Sort
set_option linter.unusedVariables false

def AlikeW (xs ys : List Nat) (W : World) (i : Value) (w : World) : Prop := ∃ k d : Nat, k ≤ xs.length ∧ i = .int .i64 k ∧ xs.take k = ys.take k ∧ w = W.drewN d

set_option maxHeartbeats 400000 in
theorem sameWords_any (xs ys : List Nat) (n m : Nat) (hn : xs.length = n) (hm : ys.length = m) (hle : n ≤ 1000) (A C : Option Addr) (c d B : Nat) (w : World) (hx : Row w B A n (xs.map wd)) (hy : Row w B C m (ys.map wd)) :
    Calls Try.prog 14 #[.slice A n c, .slice C m d] w (Grows (.bool (decide (xs = ys))) w) := by
  subst hn hm
  have HX := Lib.hid hx; have HY := Lib.hid hy
  clear hx hy
  by_cases hl : xs.length = ys.length
  · have HL := Lib.hid hl
    have hb : ((xs.length : Int) != (ys.length : Int)) = false := by simp [hl]
    clear hl
    go_enter Try.func14, Try.ntmps14
    go_wp2
    go_loopw [13] (fun i wr => AlikeW xs ys w i wr) (fun i _ => xs.length - (intOf i).toNat)
    case atStart => exact ⟨0, 0, Nat.zero_le _, rfl, rfl, rfl⟩
    case round =>
      obtain ⟨k, q, hk, rfl, ht, rfl⟩ := hrel
      have HT := Lib.hid ht; clear ht
      by_cases hlt : k < xs.length
      · have hlt2 : k < ys.length := by have := HL.out; omega
        have i1 : (k : Int) < (xs.length : Int) := by omega
        have i2 : (k : Int) < (ys.length : Int) := by omega
        have i0 : (0 : Int) ≤ (k : Int) := by omega
        obtain ⟨b1, o1, x, rfl, _, gx, cx⟩ := HX.out.get hlt
        obtain ⟨b2, o2, y, rfl, _, gy, cy⟩ := HY.out.get hlt2
        have HGX := Lib.hid gx; have HGY := Lib.hid gy
        clear gx gy
        unfold wd at cx cy
        by_cases hxy : x = y
        · subst hxy
          go_wp2
          go_quiet (fail)
          go_wp2
          go_roundw
          case rel => exact ⟨k + 1, q + nq, by omega, by go_num, by rw [take_one HGX.out, take_one HGY.out, HT.out], rfl⟩
          case measure => simp [intOf]; omega
        · have hne : ((x : Int) != (y : Int)) = true := by rw [bne_iff_ne]; omega
          have hdec : decide (xs = ys) = false := by
            apply decide_eq_false
            intro h
            have h1 := HGX.out
            rw [h, HGY.out] at h1
            exact hxy (Option.some.inj h1).symm
          have HDEC := Lib.hid hdec
          clear hxy hdec
          go_wp2
          go_quiet (fail)
          go_wp2
          go_ret
          exact ⟨by rw [HDEC.out]; rfl, grow_drewN (grow_drewN (grow_none w) _) _⟩
      · obtain rfl : k = xs.length := by omega
        have hdec : decide (xs = ys) = true := by
          apply decide_eq_true
          have h := HT.out
          rw [List.take_length, List.take_of_length_le (by have := HL.out; omega)] at h
          exact h
        have HDEC := Lib.hid hdec
        clear hdec
        go_wp2
        go_ret
        exact ⟨by rw [HDEC.out]; rfl, grow_drewN (grow_none w) _⟩
  · have hb : ((xs.length : Int) != (ys.length : Int)) = true := by rw [bne_iff_ne]; omega
    have hdec : decide (xs = ys) = false := decide_eq_false (fun h => hl (by rw [h]))
    have HDEC := Lib.hid hdec
    clear hl hdec
    go_enter Try.func14, Try.ntmps14
    go_wp2
    go_ret
    exact ⟨by rw [HDEC.out]; rfl, grow_none w⟩

/-- bytes in a block -/
def BRow (w : World) (g : Nat) (bs : List Nat) : Prop := Cells w g 5 (bs.map bt).toArray
theorem BRow.set {w : World} {g : Nat} {bs : List Nat} (h : BRow w g bs) (j c : Nat) : BRow (w.setCell ⟨g, j, none⟩ (.int .u8 (c : Int))) g (bs.set j c) := by
  have := Cells.set h j (.int .u8 (c : Int))
  unfold BRow
  rw [List.map_set, ← List.setIfInBounds_toArray]
  exact this
theorem BRow.row {w : World} {g n B : Nat} {bs : List Nat} (h : BRow w g bs) (hn : bs.length = n) (hg : g < B) : Row w B (some ⟨g, 0, none⟩) n (bs.map bt) := by
  have := Row.of_cells (B := B) h hg
  rw [show (List.map bt bs).toArray.size = n by rw [List.size_toArray, List.length_map]; exact hn] at this
  exact this

def Unpacked (l : List Nat) (n : Int) (b : Bool) (W : World) (e : Ending) (w : World) : Prop :=
  ∃ (A : Option Addr) (c k : Nat), e = .returned (.tuple #[.slice A k c, .bool b]) ∧ k = (if b then n.toNat else 0) ∧ (b = true → Row w w.heap.size A n.toNat ((bytesOf l n.toNat).map bt)) ∧ Below W.heap.size W w
def noU (W : World) (e : Ending) (w : World) : Prop := e = .returned (.tuple #[.slice none 0 0, .bool false]) ∧ w = W

theorem refUnpack_bad (L : Nat) (hL : L ≤ 1000) (A : Option Addr) (c : Nat) (n : Int) (w : World) (h : n < 0 ∨ 0 ≤ n ∧ 0 < L ∧ n ≤ 8 * ((L : Int) - 1) ∨ 0 ≤ n ∧ 0 < L ∧ 8 * ((L : Int) - 1) < n ∧ 8 * (L : Int) < n ∨ L = 0 ∧ 0 < n) :
    Calls Try.prog 47 #[.slice A L c, .int .i64 n] w (noU w) := by
  rcases h with h | ⟨h1, h2, h3⟩ | ⟨h1, h2, h3, h4⟩ | ⟨rfl, h1⟩
  · go_enter Try.func47, Try.ntmps47
    go_wp2
    go_ret2
    exact ⟨rfl, rfl⟩
  · have hp : decide ((0 : Int) < (L : Int)) = true := decide_eq_true (by omega)
    go_enter Try.func47, Try.ntmps47
    go_wp2
    go_ret2
    exact ⟨rfl, rfl⟩
  · have hp : decide ((0 : Int) < (L : Int)) = true := decide_eq_true (by omega)
    go_enter Try.func47, Try.ntmps47
    go_wp2
    go_ret2
    exact ⟨rfl, rfl⟩
  · go_enter Try.func47, Try.ntmps47
    go_wp2
    go_ret2
    exact ⟨rfl, rfl⟩
end Go.Proofs.Ytcimmfhbffofjaa

namespace Go.Proofs.Ytcimmfhbffofjaa
open Wd U Go.ChangeShapes Go.WideShapes Go.RowKit Go.Sort
set_option linter.unusedVariables false

def DivRel (v r : Nat) (W : World) (x j : Value) (w : World) : Prop := ∃ q : Nat, q ≤ r ∧ j = .int .i64 q ∧ x = .int .u64 ((v / 256 ^ q : Nat) : Int) ∧ w = W
def LayRel (l : List Nat) (N g : Nat) (W : World) (i : Value) (w : World) : Prop := ∃ k : Nat, k ≤ N ∧ i = .int .i64 k ∧ BRow w g (bytesOf l k ++ List.replicate (N - k) 0) ∧ Below W.heap.size W w
theorem lay_step {l : List Nat} {N k v : Nat} (hk : k < N) (hv : l[k / 8]? = some v) : (bytesOf l k ++ List.replicate (N - k) 0).set k (v / 256 ^ (k % 8) % 256) = bytesOf l (k + 1) ++ List.replicate (N - (k + 1)) 0 := by
  rw [bytesOf_snoc, hv, Option.getD_some, List.append_assoc]
  have e : List.replicate (N - k) 0 = 0 :: List.replicate (N - (k + 1)) 0 := by
    rw [show N - k = (N - (k + 1)) + 1 by omega, List.replicate_succ]
  rw [e, List.set_append_right _ _ (by rw [bytesOf_len]; exact Nat.le_refl _), bytesOf_len, Nat.sub_self]
  rfl

set_option maxHeartbeats 2000000 in
theorem refUnpack_good (l : List Nat) (L N : Nat) (hL : l.length = L) (hl : Small l) (hle : L ≤ 100) (hN : need N = L) (b : Bool) (hb : decide (pk (bytesOf l N) = l) = b) (A : Option Addr) (c : Nat) (w : World) (hr : Row w w.heap.size A L (l.map wd)) :
    Calls Try.prog 47 #[.slice A L c, .int .i64 (N : Int)] w (Unpacked l N b w) := by
  have hN2 : N ≤ 800 := by unfold need at hN; omega
  have hmk := fun W => make_row (P := Try.prog) 22 5 (.int .u8 0) 1 Try.underlying22 infoU8 rfl N (by omega) (by omega) W
  have hcase : (L = 0 ∧ N = 0) ∨ (0 < L ∧ 8 * ((L : Int) - 1) < (N : Int) ∧ (N : Int) ≤ 8 * (L : Int)) := by unfold need at hN; omega
  have HL := Lib.hid hL; have HS := Lib.hid hl; have HR := Lib.hid hr; have HN := Lib.hid hN; have HBB := Lib.hid hb; have HC := Lib.hid hcase; have HMK := Lib.hid hmk
  have n0 : (0 : Int) ≤ (N : Int) := by omega
  clear hL hl hr hN hb hcase hmk
  go_enter Try.func47, Try.ntmps47
  go_upto_region 1 with fail
  go_cut [31] from 10 to 30 (fun x wx => x = .bool false ∧ wx = w)
  case first =>
    rcases HC.out with ⟨rfl, rfl⟩ | ⟨q1, q2, q3⟩
    · go_wp2_with fail
      go_meet
      exact ⟨rfl, rfl⟩
    · have hp : decide ((0 : Int) < (L : Int)) = true := decide_eq_true (by omega)
      go_wp2_with fail
      go_meet
      exact ⟨by first | rfl | (simp; omega), rfl⟩
  case rest =>
  obtain ⟨rfl, rfl⟩ := hcut
  have hmk := HMK.out
  go_wp2
  clear hmk
  go_loopw [36] (fun i wr => LayRel l N wc.heap.size wc i wr) (fun i _ => N - (intOf i).toNat)
  case atStart =>
    refine ⟨0, Nat.zero_le _, rfl, ?_, (Below.refl _ _).alloc (Nat.le_refl _) _⟩
    have := Cells.new wc 5 (Array.replicate N (Value.int .u8 0))
    unfold BRow
    rw [show bytesOf l 0 = [] from rfl, List.nil_append, Nat.sub_zero, List.map_replicate, List.toArray_replicate]
    exact this
  case round =>
    obtain ⟨k, hk, rfl, hbr, hbl⟩ := hrel
    have HBR := Lib.hid hbr; have HBL := Lib.hid hbl
    clear hbr
    by_cases hlt : k < N
    · have hkL : k / 8 < L := by have := HN.out; unfold need at this; omega
      obtain ⟨b1, o1, v, rfl, _, hv, cv⟩ := (HR.out.below hbl).get (k := k / 8) hkL
      have hvs := HS.out.at hv
      have hst := lay_step hlt hv
      obtain ⟨d, hd1, hd2⟩ : ∃ d : Nat, (k : Int) / 8 = (d : Int) ∧ d = k / 8 := ⟨k / 8, by omega, rfl⟩
      obtain ⟨r, hr1, hr2⟩ : ∃ r : Nat, (k : Int) % 8 = (r : Int) ∧ r = k % 8 := ⟨k % 8, by omega, rfl⟩
      rw [← hd2] at cv hkL
      rw [← hr2] at hst
      have hbl2 : (bytesOf l k ++ List.replicate (N - k) 0).length = N := by rw [List.length_append, bytesOf_len, List.length_replicate]; omega
      obtain ⟨z, hz⟩ : ∃ z, (bytesOf l k ++ List.replicate (N - k) 0)[k]? = some z := ⟨_, List.getElem?_eq_getElem (by omega)⟩
      have oz : wr.cell? ⟨wc.heap.size, k, none⟩ = some (bt z) := by rw [Cells.cell HBR.out, List.getElem?_toArray, List.getElem?_map, hz]; rfl
      have fz := Cells.free HBR.out k
      have HST := Lib.hid hst
      have d1 : (d : Int) < (L : Int) := by omega
      unfold wd at cv
      unfold bt at oz
      clear hv hst hd2 hr2 hbl2 hz hbl
      obtain ⟨wo, rfl⟩ : ∃ wo : World, wo = wr := ⟨_, rfl⟩
      go_wp2
      go_loopw [8, 9] (fun x j wr => DivRel v r wo x j wr) (fun _ j _ => r - (intOf j).toNat)
      case atStart => exact ⟨0, Nat.zero_le _, rfl, by rw [Nat.pow_zero, Nat.div_one], rfl⟩
      case round =>
        obtain ⟨q, hq, rfl, rfl, rfl⟩ := hrel
        obtain ⟨y, hy⟩ : ∃ y, y = v / 256 ^ q := ⟨_, rfl⟩
        rw [← hy]
        have hys : y < 18446744073709551616 := by rw [hy]; exact Nat.lt_of_le_of_lt (Nat.div_le_self _ _) hvs
        by_cases hqr : q < r
        · have hy2 : v / 256 ^ (q + 1) = y / 256 := by rw [hy, Nat.pow_succ, Nat.div_div_eq_div_mul]
          have HY2 := Lib.hid hy2
          clear hy hy2
          go_wp2
          go_roundw
          case rel => exact ⟨q + 1, by omega, by go_num, by rw [HY2.out]; exact congrArg (Value.int .u64) (by omega), rfl⟩
          case measure => simp [intOf]; omega
        · obtain rfl : q = r := by omega
          have HY := Lib.hid hy
          clear hy
          go_wp2
          go_roundw
          case rel =>
            refine ⟨k + 1, by omega, by go_num, ?_, HBL.out.setCell (Nat.le_refl _) _⟩
            rw [← HST.out, ← HY.out]
            have := BRow.set HBR.out k (y % 256)
            exact this
          case measure => simp [intOf]; omega
    · obtain rfl : k = N := by omega
      have hbr := HBR.out
      rw [Nat.sub_self, List.replicate_zero, List.append_nil] at hbr
      have hrow := hbr.row (B := wr.heap.size) (bytesOf_len l k) (Cells.lt hbr)
      have HROW := Lib.hid hrow; have HBR2 := Lib.hid hbr
      have HRr := Lib.hid ((HR.out.below hbl).more hbl.size)
      clear hbr hrow hbl
      go_wp2_with fail
      refine (refPack_any (bytesOf l k) k (bytesOf_len l k) (bytesOf_bytes l k) _ _ _ (by omega) HROW.out).mono ?_
      rintro e w5 ⟨v5, rfl, hown, hb5⟩
      obtain ⟨A5, c5, rfl, hrow5⟩ := Row.of_own hown
      have hpl : (pk (bytesOf l k)).length = L := by rw [pk_len, bytesOf_len]; exact HN.out
      rw [hpl] at hrow5 ⊢
      have HR5 := Lib.hid ((HRr.out.below hb5).more hb5.size)
      have HW5 := Lib.hid hrow5
      have HB5 := Lib.hid (HBL.out.trans (hb5.mono HBL.out.size))
      have HBR5 := Lib.hid (Cells.below' HBR2.out hb5)
      have HPL := Lib.hid hpl
      clear hown hb5 hrow5 hpl
      go_wp2_with fail
      refine (sameWords_any (pk (bytesOf l k)) l L L HPL.out HL.out (by omega) _ _ _ _ w5.heap.size _ HW5.out HR5.out).mono ?_
      rintro e w6 ⟨rfl, hgr⟩
      rw [HBB.out]
      have hb6 : Below w5.heap.size w5 w6 := by obtain ⟨q, os, rfl⟩ := hgr; exact below_grow' _ _ _
      have HB6 := Lib.hid (HB5.out.trans (hb6.mono HB5.out.size))
      have hbr6 : BRow w6 wc.heap.size (bytesOf l k) := Cells.below' HBR5.out hb6
      have HBR6 := Lib.hid hbr6
      clear hgr hb6 hbr6
      cases b
      · go_wp2
        go_ret2
        exact ⟨none, 0, 0, rfl, rfl, (fun h => by cases h), HB6.out⟩
      · go_wp2
        go_ret2
        refine ⟨_, _, k, rfl, by simp, fun _ => ?_, HB6.out⟩
        rw [Int.toNat_natCast]
        exact HBR6.out.row (bytesOf_len l k) (Cells.lt HBR6.out)
end Go.Proofs.Ytcimmfhbffofjaa

namespace Go.Proofs.Ytcimmfhbffofjaa
open Wd U Go.ChangeShapes Go.WideShapes Go.RowKit Go.Sort
set_option linter.unusedVariables false

/-- the document's Unpack, whatever is asked -/
theorem refUnpack_any (l : List Nat) (L : Nat) (n : Int) (hL : l.length = L) (hl : Small l) (hle : L ≤ 100) (b : Bool) (hb : mayU l n = b) (A : Option Addr) (c : Nat) (w : World) (hr : Row w w.heap.size A L (l.map wd)) :
    Calls Try.prog 47 #[.slice A L c, .int .i64 n] w (Unpacked l n b w) := by
  by_cases h : 0 ≤ n ∧ need n.toNat = L
  · obtain ⟨N, rfl⟩ : ∃ N : Nat, n = (N : Int) := ⟨n.toNat, by omega⟩
    rw [Int.toNat_natCast] at h
    have hb' : decide (pk (bytesOf l N) = l) = b := by
      rw [← hb]
      unfold mayU
      rw [Int.toNat_natCast, hL]
      simp [h.1, h.2]
    exact refUnpack_good l L N hL hl hle h.2 b hb' A c w hr
  · have hb' : b = false := by
      rw [← hb]
      unfold mayU
      rw [hL, Bool.and_eq_false_iff, Bool.and_eq_false_iff]
      left
      by_cases h1 : 0 ≤ n
      · right; exact decide_eq_false (fun h2 => h ⟨h1, h2⟩)
      · left; exact decide_eq_false h1
    subst hb'
    refine (refUnpack_bad L (by omega) A c n w ?_).mono ?_
    · by_cases h1 : n < 0
      · exact .inl h1
      · have h2 : ¬ need n.toNat = L := fun h2 => h ⟨by omega, h2⟩
        unfold need at h2
        omega
    · rintro e w' ⟨rfl, rfl⟩
      exact ⟨none, 0, 0, rfl, rfl, (fun h => by cases h), Below.refl _ _⟩
end Go.Proofs.Ytcimmfhbffofjaa
