import Derived.Test.YtajmboolgekdeaaPk
import Derived.Test.YtajmboolgekdeaaOwn
import Derived.Test.YtajmboolgekdeaaApp
import Derived.Test.YtajmboolgekdeaaByRow
import Derived.IntWalk
import Derived.OwnWalk
import Derived.Laws.Bits64
namespace Go.Proofs.Ytajmboolgekdeaa
open Wd U Go.ChangeShapes Go.WideShapes Go.RowKit Go.Sort
set_option linter.unusedVariables false

theorem infoU64' : (Try.prog.info? 52).map (fun i => (i.zero, i.size, i.bytes)) = some (some (.int .u64 0), 1, 8) := by kernel_rfl
theorem infoU8 : (Try.prog.info? 5).map (fun i => (i.zero, i.size, i.bytes)) = some (some (.int .u8 0), 1, 1) := by kernel_rfl

def PackRel (b : List Nat) (W : World) (i o : Value) (w : World) : Prop :=
  ∃ k : Nat, k ≤ b.length ∧ i = .int .i64 k ∧ w.ownsRow W.heap.size 52 1 o (pk (b.take k)).length ((pk (b.take k)).map wd) ∧ Below W.heap.size W w
def ShiftRel (x m : Nat) (W : World) (v j : Value) (w : World) : Prop := ∃ q : Nat, q ≤ m ∧ j = .int .i64 q ∧ v = .int .u64 ((256 ^ q * x : Nat) : Int) ∧ w = W

def Packed (b : List Nat) (W : World) (e : Ending) (w : World) : Prop := ∃ v, e = .returned v ∧ w.ownsRow W.heap.size 52 1 v (pk b).length ((pk b).map wd) ∧ Below W.heap.size W w

set_option maxHeartbeats 2000000 in
theorem refPack_any (b : List Nat) (n : Nat) (hL : b.length = n) (hb : Bytes b) (A : Option Addr) (c : Nat) (w : World) (hn : n ≤ 1000) (hr : Row w w.heap.size A n (b.map bt)) :
    Calls Try.prog 37 #[.slice A n c] w (Packed b w) := by
  subst hL
  have HR := Lib.hid hr; have HBY := Lib.hid hb
  clear hr hb
  go_enter Try.func37, Try.ntmps37
  go_wp2
  go_loopw [10, 3] (fun i o wr => PackRel b w i o wr) (fun i _ _ => b.length - (intOf i).toNat)
  case atStart => exact ⟨0, Nat.zero_le _, rfl, by rw [List.take_zero]; exact ⟨rfl, .inl ⟨rfl, rfl⟩⟩, Below.refl _ _⟩
  case round =>
    obtain ⟨k, hk, rfl, hown, hbl⟩ := hrel
    have HB := Lib.hid hbl
    by_cases hlt : k < b.length
    · obtain ⟨b1, o1, x, rfl, _, hx, cx⟩ := (HR.out.below hbl).get hlt
      have hxb := HBY.out.at hx
      have ht := take_one hx
      obtain ⟨v, hv1, hv2, hv3⟩ := pk_step (HBY.out.take k) hxb
      rw [← ht] at hv3
      have hkl : (b.take k).length = k := by rw [List.length_take]; omega
      rw [hkl] at hv1 hv2 hv3
      have hplen : (pk (b.take k)).length = need k := by rw [pk_len, hkl]
      have hm : k % 8 < 8 := Nat.mod_lt _ (by omega)
      have hpl := pow_le hm
      obtain ⟨d, hd1, hd2⟩ : ∃ d : Nat, (k : Int) / 8 = (d : Int) ∧ d = k / 8 := ⟨k / 8, by omega, rfl⟩
      obtain ⟨r, hr1, hr2⟩ : ∃ r : Nat, (k : Int) % 8 = (r : Int) ∧ r = k % 8 := ⟨k % 8, by omega, rfl⟩
      rw [← hd2] at hv1 hv3
      rw [← hr2] at hv1 hv2 hv3 hm hpl
      unfold bt at cx
      have HV1 := Lib.hid hv1; have HV3 := Lib.hid hv3; have HD := Lib.hid hd2; have HRR := Lib.hid hr2; have HPL := Lib.hid hplen; have HOWN := Lib.hid hown
      have HPP := Lib.hid hpl; have HV2 := Lib.hid hv2
      clear hv1 hv2 hv3 hd2 hr2 hx ht hkl hplen hown hbl hpl
      by_cases h0 : r = 0
      · have hre : ((r : Int) == 0) = true := by rw [h0]; rfl
        have hkn : need k = d := by have := HD.out; have := HRR.out; unfold need; omega
        have hown := HOWN.out
        rw [HPL.out, hkn] at hown
        have hv1 := HV1.out
        have hv3 := HV3.out
        rw [if_pos h0] at hv1 hv3
        have HO0 := Lib.hid hown; have H1 := Lib.hid hv1; have H3 := Lib.hid hv3; have H0 := Lib.hid h0; have HKN := Lib.hid hkn
        have hd1k : d ≤ 1000 := by have := HD.out; omega
        have hbs := HB.out.size
        clear hown hv1 hv3 h0 hkn
        obtain ⟨wo, rfl⟩ : ∃ wo : World, wo = wr := ⟨_, rfl⟩
        go_wp2_with (at_builtin; refine wpList_append_row _ rfl (.tmp 18) (.tmp 19) 47 rfl w.heap.size 52 (.int .u64 0) 8 Try.underlying47 infoU64' rfl _ d ((pk (b.take k)).map wd) rfl (HO0.out.alloc _) _ (some ⟨wo.heap.size, 0, none⟩) 1 1 [.int .u64 0] rfl (Row.one _ _ _) (by simp [Value.oneCell']) (by unfold maxLen; omega) (by omega) (by simp; omega) ?_; intro v5 w5 hown5 hgr5 hat5; have hb5 : Below w.heap.size w w5 := (HB.out.alloc hbs _).grown hgr5 (by simp; omega) (own_base HO0.out); have ho5 : w5.ownsRow w.heap.size 52 1 v5 (d + 1) ((pk (b.take k) ++ [0]).map wd) := (by rw [List.map_append]; exact hown5); obtain ⟨g, cap, rfl, hg, hc1, hc2, hgl⟩ := own_open ho5 (by omega); obtain ⟨cv, fv⟩ := own_cell ho5 (k := d) (u := wd v) (by rw [List.getElem?_map, H1.out]; rfl); have cv' : w5.cell? ⟨g, d, none⟩ = some (.int .u64 (v : Int)) := cv; have HO := Lib.hid ho5; have HBF := Lib.hid hb5; clear hown5 hgr5 hat5 hb5 ho5 cv)
        have HLF := Lib.hid (show (pk (b.take k) ++ [0]).length = d + 1 by rw [List.length_append, HPL.out, HKN.out]; rfl)
        go_loopw [6, 7] (fun v j wr => ShiftRel x r w5 v j wr) (fun _ j _ => r - (intOf j).toNat)
        case atStart => exact ⟨0, Nat.zero_le _, rfl, by rw [Nat.pow_zero, Nat.one_mul], rfl⟩
        case round =>
          obtain ⟨q, hq, rfl, rfl, rfl⟩ := hrel
          obtain ⟨y, hy⟩ : ∃ y, y = 256 ^ q * x := ⟨_, rfl⟩
          rw [← hy]
          have hp2 : 256 ^ q ≤ 256 ^ r := Nat.pow_le_pow_right (by omega) hq
          by_cases hqr : q < r
          · have hp3 : 256 ^ (q + 1) ≤ 256 ^ r := Nat.pow_le_pow_right (by omega) hqr
            have hy2 : y * 256 = 256 ^ (q + 1) * x := by rw [hy, Nat.pow_succ, Nat.mul_right_comm]
            have hy3 : y * 256 ≤ 72057594037927936 * 255 := by
              rw [hy2]
              exact Nat.mul_le_mul (Nat.le_trans hp3 HPP.out) (by omega)
            have e1 : IntKind.u64.wrap ((y : Int) * 256) = ((y * 256 : Nat) : Int) := by rw [IntKind.wrap_u64]; omega
            have HY2 := Lib.hid hy2
            clear hp2 hp3 hy hy2 hy3
            go_wp2
            go_roundw
            case rel => exact ⟨q + 1, by omega, by go_num, by rw [← HY2.out]; exact congrArg (Value.int .u64) (by omega), rfl⟩
            case measure => simp [intOf]; omega
          · obtain rfl : q = r := by omega
            have hvy : v + y < 18446744073709551616 := by rw [hy]; exact HV2.out
            have e2 : IntKind.u64.wrap ((v : Int) + (y : Int)) = ((v + y : Nat) : Int) := by rw [IntKind.wrap_u64]; omega
            have HY := Lib.hid hy
            clear hp2 hy hvy
            go_wp2
            go_roundw
            case rel =>
              refine ⟨k + 1, by omega, by go_num, ?_, HBF.out.setCell hg _⟩
              rw [H3.out, ← HY.out]
              have ho := own_set HO.out d (wd (v + y))
              rw [← List.map_set] at ho
              rw [List.length_set, HLF.out]
              exact ho
            case measure => simp [intOf]; omega
      · have hre : ((r : Int) == 0) = false := by rw [beq_eq_false_iff_ne]; omega
        have hv1 := HV1.out
        have hv3 := HV3.out
        rw [if_neg h0] at hv1 hv3
        have hkn : need k = d + 1 := by have := HD.out; have := HRR.out; unfold need; omega
        have HKN := Lib.hid hkn; have H1 := Lib.hid hv1; have H3 := Lib.hid hv3
        have hown := HOWN.out
        rw [HPL.out, hkn] at hown
        obtain ⟨g, cap, rfl, hg, hc1, hc2, hgl⟩ := own_open hown (by omega)
        obtain ⟨cv, fv⟩ := own_cell hown (k := d) (u := wd v) (by rw [List.getElem?_map, hv1]; rfl)
        unfold wd at cv
        have HO := Lib.hid hown
        clear hv1 hv3 hkn hown
        obtain ⟨wo, rfl⟩ : ∃ wo : World, wo = wr := ⟨_, rfl⟩
        have HLF := Lib.hid (show (pk (b.take k)).length = d + 1 by rw [HPL.out, HKN.out])
        have HBF := Lib.hid HB.out
        go_wp2
        go_loopw [6, 7] (fun v j wr => ShiftRel x r wo v j wr) (fun _ j _ => r - (intOf j).toNat)
        case atStart => exact ⟨0, Nat.zero_le _, rfl, by rw [Nat.pow_zero, Nat.one_mul], rfl⟩
        case round =>
          obtain ⟨q, hq, rfl, rfl, rfl⟩ := hrel
          obtain ⟨y, hy⟩ : ∃ y, y = 256 ^ q * x := ⟨_, rfl⟩
          rw [← hy]
          have hp2 : 256 ^ q ≤ 256 ^ r := Nat.pow_le_pow_right (by omega) hq
          by_cases hqr : q < r
          · have hp3 : 256 ^ (q + 1) ≤ 256 ^ r := Nat.pow_le_pow_right (by omega) hqr
            have hy2 : y * 256 = 256 ^ (q + 1) * x := by rw [hy, Nat.pow_succ, Nat.mul_right_comm]
            have hy3 : y * 256 ≤ 72057594037927936 * 255 := by
              rw [hy2]
              exact Nat.mul_le_mul (Nat.le_trans hp3 HPP.out) (by omega)
            have e1 : IntKind.u64.wrap ((y : Int) * 256) = ((y * 256 : Nat) : Int) := by rw [IntKind.wrap_u64]; omega
            have HY2 := Lib.hid hy2
            clear hp2 hp3 hy hy2 hy3
            go_wp2
            go_roundw
            case rel => exact ⟨q + 1, by omega, by go_num, by rw [← HY2.out]; exact congrArg (Value.int .u64) (by omega), rfl⟩
            case measure => simp [intOf]; omega
          · obtain rfl : q = r := by omega
            have hvy : v + y < 18446744073709551616 := by rw [hy]; exact HV2.out
            have e2 : IntKind.u64.wrap ((v : Int) + (y : Int)) = ((v + y : Nat) : Int) := by rw [IntKind.wrap_u64]; omega
            have HY := Lib.hid hy
            clear hp2 hy hvy
            go_wp2
            go_roundw
            case rel =>
              refine ⟨k + 1, by omega, by go_num, ?_, HBF.out.setCell hg _⟩
              rw [H3.out, ← HY.out]
              have ho := own_set HO.out d (wd (v + y))
              rw [← List.map_set] at ho
              rw [List.length_set, HLF.out]
              exact ho
            case measure => simp [intOf]; omega
    · obtain rfl : k = b.length := by omega
      have ho := hown
      rw [List.take_length] at ho
      have HO := Lib.hid ho
      clear ho hown
      go_wp2
      go_ret
      exact ⟨_, rfl, HO.out, HB.out⟩
end Go.Proofs.Ytajmboolgekdeaa
