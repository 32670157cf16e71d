import Derived.Test.YtjopeephohdmlaaUnRef
import Derived.Deep.DeepCutAuto
namespace Go.Proofs.Ytjopeephohdmlaa
open Wd U Go.ChangeShapes Go.WideShapes Go.RowKit Go.Sort
set_option linter.unusedVariables false

def DivRel (v r : Nat) (W : World) (x j : Value) (w : World) : Prop := ∃ q : Nat, q ≤ r ∧ j = .int .i64 q ∧ x = .int .u64 ((v / 256 ^ q : Nat) : Int) ∧ w = W
def LayRel (l : List Nat) (N g : Nat) (W : World) (i : Value) (w : World) : Prop := ∃ k : Nat, k ≤ N ∧ i = .int .i64 k ∧ BRow w g (bytesOf l k ++ List.replicate (N - k) 0) ∧ Below W.heap.size W w
theorem lay_step {l : List Nat} {N k v : Nat} (hk : k < N) (hv : l[k / 8]? = some v) : (bytesOf l k ++ List.replicate (N - k) 0).set k (v / 256 ^ (k % 8) % 256) = bytesOf l (k + 1) ++ List.replicate (N - (k + 1)) 0 := by
  rw [bytesOf_snoc, hv, Option.getD_some, List.append_assoc]
  have e : List.replicate (N - k) 0 = 0 :: List.replicate (N - (k + 1)) 0 := by
    rw [show N - k = (N - (k + 1)) + 1 by omega, List.replicate_succ]
  rw [e, List.set_append_right _ _ (by rw [bytesOf_len]; exact Nat.le_refl _), bytesOf_len, Nat.sub_self]
  rfl

set_option maxHeartbeats 2000000 in
theorem refUnpack_good (l : List Nat) (L N : Nat) (hL : l.length = L) (hl : Small l) (hle : L ≤ 100) (hN : need N = L) (b : Bool) (hb : decide (pk (bytesOf l N) = l) = b) (A : Option Addr) (c : Nat) (w : World) (hr : Row w w.heap.size A L (l.map wd)) :
    Calls Try.prog 8 #[.slice A L c, .int .i64 (N : Int)] w (Unpacked l N b w) := by
  have hN2 : N ≤ 800 := by unfold need at hN; omega
  have hmk := fun W => make_row (P := Try.prog) 22 5 (.int .u8 0) 1 Try.underlying22 infoU8 rfl N (by omega) (by omega) W
  have hcase : (L = 0 ∧ N = 0) ∨ (0 < L ∧ 8 * ((L : Int) - 1) < (N : Int) ∧ (N : Int) ≤ 8 * (L : Int)) := by unfold need at hN; omega
  have HL := Lib.hid hL; have HS := Lib.hid hl; have HR := Lib.hid hr; have HN := Lib.hid hN; have HBB := Lib.hid hb; have HC := Lib.hid hcase; have HMK := Lib.hid hmk
  have n0 : (0 : Int) ≤ (N : Int) := by omega
  clear hL hl hr hN hb hcase hmk
  go_enter Try.func8, Try.ntmps8
  go_upto_region 1 with fail
  go_cut [31] from 10 to 30 (fun x wx => x = .bool false ∧ wx = w)
  case first =>
    rcases HC.out with ⟨rfl, rfl⟩ | ⟨q1, q2, q3⟩
    · go_wp2_with fail
      go_meet
      exact ⟨rfl, rfl⟩
    · have hp : decide ((0 : Int) < (L : Int)) = true := decide_eq_true (by omega)
      go_wp2_with fail
      go_meet
      exact ⟨by first | rfl | (simp; omega), rfl⟩
  case rest =>
  obtain ⟨rfl, rfl⟩ := hcut
  have hmk := HMK.out
  go_wp2
  clear hmk
  go_loopw [36] (fun i wr => LayRel l N wc.heap.size wc i wr) (fun i _ => N - (intOf i).toNat)
  case atStart =>
    refine ⟨0, Nat.zero_le _, rfl, ?_, (Below.refl _ _).alloc (Nat.le_refl _) _⟩
    have := Cells.new wc 5 (Array.replicate N (Value.int .u8 0))
    unfold BRow
    rw [show bytesOf l 0 = [] from rfl, List.nil_append, Nat.sub_zero, List.map_replicate, List.toArray_replicate]
    exact this
  case round =>
    obtain ⟨k, hk, rfl, hbr, hbl⟩ := hrel
    have HBR := Lib.hid hbr; have HBL := Lib.hid hbl
    clear hbr
    by_cases hlt : k < N
    · have hkL : k / 8 < L := by have := HN.out; unfold need at this; omega
      obtain ⟨b1, o1, v, rfl, _, hv, cv⟩ := (HR.out.below hbl).get (k := k / 8) hkL
      have hvs := HS.out.at hv
      have hst := lay_step hlt hv
      obtain ⟨d, hd1, hd2⟩ : ∃ d : Nat, (k : Int) / 8 = (d : Int) ∧ d = k / 8 := ⟨k / 8, by omega, rfl⟩
      obtain ⟨r, hr1, hr2⟩ : ∃ r : Nat, (k : Int) % 8 = (r : Int) ∧ r = k % 8 := ⟨k % 8, by omega, rfl⟩
      rw [← hd2] at cv hkL
      rw [← hr2] at hst
      have hbl2 : (bytesOf l k ++ List.replicate (N - k) 0).length = N := by rw [List.length_append, bytesOf_len, List.length_replicate]; omega
      obtain ⟨z, hz⟩ : ∃ z, (bytesOf l k ++ List.replicate (N - k) 0)[k]? = some z := ⟨_, List.getElem?_eq_getElem (by omega)⟩
      have oz : wr.cell? ⟨wc.heap.size, k, none⟩ = some (bt z) := by rw [Cells.cell HBR.out, List.getElem?_toArray, List.getElem?_map, hz]; rfl
      have fz := Cells.free HBR.out k
      have HST := Lib.hid hst
      have d1 : (d : Int) < (L : Int) := by omega
      unfold wd at cv
      unfold bt at oz
      clear hv hst hd2 hr2 hbl2 hz hbl
      obtain ⟨wo, rfl⟩ : ∃ wo : World, wo = wr := ⟨_, rfl⟩
      go_wp2
      go_loopw [8, 9] (fun x j wr => DivRel v r wo x j wr) (fun _ j _ => r - (intOf j).toNat)
      case atStart => exact ⟨0, Nat.zero_le _, rfl, by rw [Nat.pow_zero, Nat.div_one], rfl⟩
      case round =>
        obtain ⟨q, hq, rfl, rfl, rfl⟩ := hrel
        obtain ⟨y, hy⟩ : ∃ y, y = v / 256 ^ q := ⟨_, rfl⟩
        rw [← hy]
        have hys : y < 18446744073709551616 := by rw [hy]; exact Nat.lt_of_le_of_lt (Nat.div_le_self _ _) hvs
        by_cases hqr : q < r
        · have hy2 : v / 256 ^ (q + 1) = y / 256 := by rw [hy, Nat.pow_succ, Nat.div_div_eq_div_mul]
          have HY2 := Lib.hid hy2
          clear hy hy2
          go_wp2
          go_roundw
          case rel => exact ⟨q + 1, by omega, by go_num, by rw [HY2.out]; exact congrArg (Value.int .u64) (by omega), rfl⟩
          case measure => simp [intOf]; omega
        · obtain rfl : q = r := by omega
          have HY := Lib.hid hy
          clear hy
          go_wp2
          go_roundw
          case rel =>
            refine ⟨k + 1, by omega, by go_num, ?_, HBL.out.setCell (Nat.le_refl _) _⟩
            rw [← HST.out, ← HY.out]
            have := BRow.set HBR.out k (y % 256)
            exact this
          case measure => simp [intOf]; omega
    · obtain rfl : k = N := by omega
      have hbr := HBR.out
      rw [Nat.sub_self, List.replicate_zero, List.append_nil] at hbr
      have hrow := hbr.row (B := wr.heap.size) (bytesOf_len l k) (Cells.lt hbr)
      have HROW := Lib.hid hrow; have HBR2 := Lib.hid hbr
      have HRr := Lib.hid ((HR.out.below hbl).more hbl.size)
      clear hbr hrow hbl
      go_wp2_with fail
      refine (refPack_any (bytesOf l k) k (bytesOf_len l k) (bytesOf_bytes l k) _ _ _ (by omega) HROW.out).mono ?_
      rintro e w5 ⟨v5, rfl, hown, hb5⟩
      obtain ⟨A5, c5, rfl, hrow5⟩ := Row.of_own hown
      have hpl : (pk (bytesOf l k)).length = L := by rw [pk_len, bytesOf_len]; exact HN.out
      rw [hpl] at hrow5 ⊢
      have HR5 := Lib.hid ((HRr.out.below hb5).more hb5.size)
      have HW5 := Lib.hid hrow5
      have HB5 := Lib.hid (HBL.out.trans (hb5.mono HBL.out.size))
      have HBR5 := Lib.hid (Cells.below' HBR2.out hb5)
      have HPL := Lib.hid hpl
      clear hown hb5 hrow5 hpl
      go_wp2_with fail
      refine (sameWords_any (pk (bytesOf l k)) l L L HPL.out HL.out (by omega) _ _ _ _ w5.heap.size _ HW5.out HR5.out).mono ?_
      rintro e w6 ⟨rfl, hgr⟩
      rw [HBB.out]
      have hb6 : Below w5.heap.size w5 w6 := by obtain ⟨q, os, rfl⟩ := hgr; exact below_grow' _ _ _
      have HB6 := Lib.hid (HB5.out.trans (hb6.mono HB5.out.size))
      have hbr6 : BRow w6 wc.heap.size (bytesOf l k) := Cells.below' HBR5.out hb6
      have HBR6 := Lib.hid hbr6
      clear hgr hb6 hbr6
      cases b
      · go_wp2
        go_ret2
        exact ⟨none, 0, 0, rfl, rfl, (fun h => by cases h), HB6.out⟩
      · go_wp2
        go_ret2
        refine ⟨_, _, k, rfl, by simp, fun _ => ?_, HB6.out⟩
        rw [Int.toNat_natCast]
        exact HBR6.out.row (bytesOf_len l k) (Cells.lt HBR6.out)
end Go.Proofs.Ytjopeephohdmlaa
