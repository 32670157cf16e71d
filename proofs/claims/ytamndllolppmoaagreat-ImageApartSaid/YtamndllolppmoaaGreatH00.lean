import Derived.Test.YtamndllolppmoaaGreatG01
import Derived.Test.YtamndllolppmoaaGreatG00
import Derived.Laws.Bits64
import Derived.IntWalk
import Derived.Test.YtamndllolppmoaaGreatG02
import Derived.Deep.DeepCutAuto
import Derived.Laws.BytesString
import Derived.Deep.WholeRow

namespace U
/-! words whose room is there ahead, laid byte by byte -/
def padW (b : List Nat) (k : Nat) : List Nat := (List.range (need b.length)).map (fun j => val (chunk (b.take k) j))
theorem padW_len (b : List Nat) (k : Nat) : (padW b k).length = need b.length := by unfold padW; simp
theorem padW_get (b : List Nat) (k j : Nat) : (padW b k)[j]? = if j < need b.length then some (val (chunk (b.take k) j)) else none := by
  unfold padW
  rw [List.getElem?_map]
  by_cases h : j < need b.length
  · rw [if_pos h, List.getElem?_range h]; rfl
  · rw [if_neg h, List.getElem?_eq_none (by simp; omega)]; rfl
theorem chunk_far {b : List Nat} {j : Nat} (h : b.length ≤ 8 * j) : chunk b j = [] := by unfold chunk; rw [List.drop_eq_nil_of_le h]; rfl
theorem padW_zero (b : List Nat) : padW b 0 = List.replicate (need b.length) 0 := by
  apply List.ext_getElem?
  intro j
  rw [padW_get, List.getElem?_replicate, List.take_zero, chunk_far (by simp)]
  rfl
theorem padW_all (b : List Nat) : padW b b.length = pk b := by
  apply List.ext_getElem?
  intro j
  rw [padW_get, pk_get, List.take_length]
theorem padW_step {b : List Nat} (hb : Bytes b) {k x : Nat} (hx : b[k]? = some x) :
    ∃ v, (padW b k)[k / 8]? = some v ∧ v < 256 ^ (k % 8) ∧ v + x * 256 ^ (k % 8) < 18446744073709551616 ∧ padW b (k + 1) = (padW b k).set (k / 8) (v + x * 256 ^ (k % 8)) := by
  have hk : k < b.length := (List.getElem?_eq_some_iff.1 hx).1
  have hxb := hb.at hx
  have hl : (b.take k).length = k := by rw [List.length_take]; omega
  have ht : b.take (k + 1) = b.take k ++ [x] := by rw [List.take_add_one, hx]; rfl
  have hcl : (chunk (b.take k) (k / 8)).length = k % 8 := by rw [chunk_len, hl]; omega
  have hv : val (chunk (b.take k) (k / 8)) < 256 ^ (k % 8) := by
    have := val_lt (c := chunk (b.take k) (k / 8)) (((hb.take k).drop _).take _)
    rw [hcl] at this
    exact this
  have hn : k / 8 < need b.length := by unfold need; omega
  have hpl := pow_le (k := k % 8) (by omega)
  refine ⟨_, by rw [padW_get, if_pos hn], hv, ?_, ?_⟩
  · have h1 : x * 256 ^ (k % 8) ≤ 255 * 256 ^ (k % 8) := Nat.mul_le_mul_right _ (by omega)
    omega
  · apply List.ext_getElem?
    intro j
    rw [padW_get, List.getElem?_set, padW_len, padW_get]
    by_cases hj : k / 8 = j
    · subst hj
      rw [if_pos hn, if_pos rfl, if_pos hn, ht]
      have := chunk_new (b := b.take k) x
      rw [hl] at this
      rw [this, val_snoc, hcl, Nat.mul_comm]
    · rw [if_neg hj]
      by_cases hjn : j < need b.length
      · rw [if_pos hjn, if_pos hjn]
        by_cases hj2 : j < k / 8
        · rw [ht, chunk_old x (by rw [hl]; exact hj2)]
        · rw [chunk_far (b := b.take (k + 1)) (by rw [List.length_take]; omega), chunk_far (b := b.take k) (by rw [List.length_take]; omega)]
      · rw [if_neg hjn, if_neg hjn]
theorem or_mul' (a b i : Nat) (h : a < 2 ^ i) : a ||| (b * 2 ^ i) = a + b * 2 ^ i := by
  rw [Nat.or_comm, ← Nat.shiftLeft_eq, ← Nat.shiftLeft_add_eq_or_of_lt h, Nat.add_comm]
theorem pow_two (r : Nat) : 2 ^ (r * 8) = 256 ^ r := by rw [Nat.mul_comm, Nat.pow_mul]
/-- the bytes of packed words -/
theorem bytes_pk {b : List Nat} (hb : Bytes b) : bytesOf (pk b) b.length = b := by
  apply List.ext_getElem?
  intro j
  unfold bytesOf
  rw [List.getElem?_map]
  by_cases hj : j < b.length
  · rw [List.getElem?_range hj]
    have hn : j / 8 < need b.length := by unfold need; omega
    show some (((pk b)[j / 8]?.getD 0) / 256 ^ (j % 8) % 256) = b[j]?
    rw [pk_get, if_pos hn, Option.getD_some]
    have hc : (chunk b (j / 8))[j % 8]? = b[j]? := by
      unfold chunk
      rw [List.getElem?_take_of_lt (by omega), List.getElem?_drop]
      congr 1
      omega
    rw [← hc]
    have hbc : Bytes (chunk b (j / 8)) := (hb.drop _).take _
    have hlt : j % 8 < (chunk b (j / 8)).length := by rw [chunk_len]; omega
    rw [List.getElem?_eq_getElem hlt]
    congr 1
    generalize chunk b (j / 8) = c at hbc hlt
    generalize j % 8 = i at hlt
    clear hc hn hj
    induction c generalizing i with
    | nil => simp at hlt
    | cons y c ih =>
      have hy : y < 256 := hbc y (by simp)
      cases i with
      | zero => show (y + 256 * val c) / 256 ^ 0 % 256 = y; rw [Nat.pow_zero, Nat.div_one]; omega
      | succ i =>
        have hlt' : i < c.length := by simpa using hlt
        have := ih (fun z hz => hbc z (by simp [hz])) i hlt'
        show (y + 256 * val c) / 256 ^ (i + 1) % 256 = c[i]
        rw [Nat.pow_succ, Nat.mul_comm (256 ^ i) 256, ← Nat.div_div_eq_div_mul, show (y + 256 * val c) / 256 = val c by omega]
        exact this
  · rw [List.getElem?_eq_none (by simp; omega), List.getElem?_eq_none (by omega)]; rfl
theorem mayU_pk {b : List Nat} (hb : Bytes b) : mayU (pk b) b.length = true := by
  unfold mayU
  rw [Int.toNat_natCast, bytes_pk hb, pk_len]
  simp
end U

namespace Go.Proofs.YtamndllolppmoaaGreat
open Wd U Go.ChangeShapes Go.WideShapes Go.RowKit Go.Sort
set_option linter.unusedVariables false

theorem more_num (s w : Nat) : Value.int .u64 (((s ^^^ w : Nat) : Int) * 1099511628211 % 18446744073709551616) = .int .u64 ((more s w : Nat) : Int) := by
  have e : (more s w : Nat) = (s ^^^ w) * 1099511628211 % 18446744073709551616 := by unfold more; rfl
  rw [e]
  congr 1
theorem more_wrap (s w : Nat) : IntKind.u64.wrap (((s ^^^ w : Nat) : Int) * 1099511628211) = ((more s w : Nat) : Int) := by
  have e : (more s w : Nat) = (s ^^^ w) * 1099511628211 % 18446744073709551616 := by unfold more; rfl
  rw [IntKind.wrap_u64, e, Int.natCast_emod, Int.natCast_mul]
  congr 1
def SumRel' (l : List Nat) (W : World) (i s : Value) (w : World) : Prop := ∃ k : Nat, k ≤ l.length ∧ i = .int .i64 k ∧ s = .int .u64 ((sum (l.take k) : Nat) : Int) ∧ w = W

set_option maxHeartbeats 400000 in
theorem refSum64_any (l : List Nat) (n : Nat) (hL : l.length = n) (hl : Small l) (A : Option Addr) (c B : Nat) (w : World) (hn : n ≤ 1000) (hr : Row w B A n (l.map wd)) :
    Calls Tryz.prog 61 #[.slice A n c] w fun e w' => e = .returned (.int .u64 ((sum l : Nat) : Int)) ∧ w = w' := by
  subst hL
  have HR := Lib.hid hr; have HL := Lib.hid hl
  clear hr hl
  go_enter Tryz.func61, Tryz.ntmps61
  go_wp2
  go_loopw [8, 3] (fun i s wr => SumRel' l w i s wr) (fun i _ _ => l.length - (intOf i).toNat)
  case atStart => exact ⟨0, Nat.zero_le _, rfl, by rw [List.take_zero, ← sum_nil]; exact start_val, rfl⟩
  case round =>
    obtain ⟨k, hk, rfl, hs, rfl⟩ := hrel
    obtain ⟨s, hs1⟩ : ∃ s, s = sum (l.take k) := ⟨_, rfl⟩
    rw [← hs1] at hs
    have hs2 : s < 18446744073709551616 := by rw [hs1]; exact sum_lt _
    have HS := Lib.hid hs1
    subst hs
    clear hs1
    by_cases hlt : k < l.length
    · obtain ⟨b, off, y, rfl, hb, hy, cy⟩ := HR.out.get hlt
      have hwy := HL.out.at hy
      have ht := take_one hy
      have hx := bits_xor_u64_nat s y hs2 hwy
      have HT := Lib.hid ht
      have HM := Lib.hid (more_num s y)
      unfold wd at cy
      clear ht hy hs2 hwy
      go_wp2
      go_roundw
      case rel => exact ⟨k + 1, by omega, by go_num, by rw [HT.out, sum_snoc, ← HS.out]; exact HM.out, rfl⟩
      case measure => simp [intOf]; omega
    · obtain rfl : k = l.length := by omega
      have hss := HS.out
      rw [List.take_length] at hss
      have HSS := Lib.hid hss
      clear hss
      go_wp2
      go_ret
      exact ⟨by rw [← HSS.out]; rfl, rfl⟩

def EqRel (n : Nat) (W : World) (i : Value) (w : World) : Prop := ∃ k d : Nat, k ≤ n ∧ i = .int .i64 k ∧ w = W.drewN d

set_option maxHeartbeats 400000 in
theorem sameWords_eq (ws : List Nat) (n : Nat) (hL : ws.length = n) (hn : n ≤ 1000) (A C : Option Addr) (c d B : Nat) (w : World) (hx : Row w B A n (ws.map wd)) (hy : Row w B C n (ws.map wd)) :
    Calls Tryz.prog 26 #[.slice A n c, .slice C n d] w (Grows (.bool true) w) := by
  have HX := Lib.hid hx; have HY := Lib.hid hy; have HL := Lib.hid hL
  clear hx hy hL
  go_enter Tryz.func26, Tryz.ntmps26
  go_wp2
  go_loopw [13] (fun i wr => EqRel n w i wr) (fun i _ => n - (intOf i).toNat)
  case atStart => exact ⟨0, 0, Nat.zero_le _, rfl, rfl⟩
  case round =>
    obtain ⟨k, q, hk, rfl, rfl⟩ := hrel
    by_cases hlt : k < n
    · obtain ⟨b1, o1, x, rfl, _, gx, cx⟩ := HX.out.get hlt
      obtain ⟨b2, o2, y, rfl, _, gy, cy⟩ := HY.out.get hlt
      obtain rfl : x = y := by rw [gx] at gy; exact Option.some.inj gy
      clear gx gy
      unfold wd at cx cy
      go_wp2
      go_quiet (fail)
      go_wp2
      go_roundw
      case rel => exact ⟨k + 1, q + nq, by omega, by go_num, rfl⟩
      case measure => simp [intOf]; omega
    · obtain rfl : k = n := by omega
      go_wp2
      go_ret
      exact ⟨rfl, grow_drewN (grow_none w) q⟩
end Go.Proofs.YtamndllolppmoaaGreat

namespace Go.Proofs.YtamndllolppmoaaGreat
open Wd U Go.ChangeShapes Go.WideShapes Go.RowKit Go.Sort
set_option linter.unusedVariables false

def AlikeW (xs ys : List Nat) (W : World) (i : Value) (w : World) : Prop := ∃ k d : Nat, k ≤ xs.length ∧ i = .int .i64 k ∧ xs.take k = ys.take k ∧ w = W.drewN d

set_option maxHeartbeats 400000 in
theorem sameWords_any (xs ys : List Nat) (n m : Nat) (hn : xs.length = n) (hm : ys.length = m) (hle : n ≤ 1000000) (A C : Option Addr) (c d B : Nat) (w : World) (hx : Row w B A n (xs.map wd)) (hy : Row w B C m (ys.map wd)) :
    Calls Tryz.prog 26 #[.slice A n c, .slice C m d] w (Grows (.bool (decide (xs = ys))) w) := by
  subst hn hm
  have HX := Lib.hid hx; have HY := Lib.hid hy
  clear hx hy
  by_cases hl : xs.length = ys.length
  · have HL := Lib.hid hl
    have hb : ((xs.length : Int) != (ys.length : Int)) = false := by simp [hl]
    clear hl
    go_enter Tryz.func26, Tryz.ntmps26
    go_wp2
    go_loopw [13] (fun i wr => AlikeW xs ys w i wr) (fun i _ => xs.length - (intOf i).toNat)
    case atStart => exact ⟨0, 0, Nat.zero_le _, rfl, rfl, rfl⟩
    case round =>
      obtain ⟨k, q, hk, rfl, ht, rfl⟩ := hrel
      have HT := Lib.hid ht; clear ht
      by_cases hlt : k < xs.length
      · have hlt2 : k < ys.length := by have := HL.out; omega
        have i1 : (k : Int) < (xs.length : Int) := by omega
        have i2 : (k : Int) < (ys.length : Int) := by omega
        have i0 : (0 : Int) ≤ (k : Int) := by omega
        obtain ⟨b1, o1, x, rfl, _, gx, cx⟩ := HX.out.get hlt
        obtain ⟨b2, o2, y, rfl, _, gy, cy⟩ := HY.out.get hlt2
        have HGX := Lib.hid gx; have HGY := Lib.hid gy
        clear gx gy
        unfold wd at cx cy
        by_cases hxy : x = y
        · subst hxy
          go_wp2
          go_quiet (fail)
          go_wp2
          go_roundw
          case rel => exact ⟨k + 1, q + nq, by omega, by go_num, by rw [take_one HGX.out, take_one HGY.out, HT.out], rfl⟩
          case measure => simp [intOf]; omega
        · have hne : ((x : Int) != (y : Int)) = true := by rw [bne_iff_ne]; omega
          have hdec : decide (xs = ys) = false := by
            apply decide_eq_false
            intro h
            have h1 := HGX.out
            rw [h, HGY.out] at h1
            exact hxy (Option.some.inj h1).symm
          have HDEC := Lib.hid hdec
          clear hxy hdec
          go_wp2
          go_quiet (fail)
          go_wp2
          go_ret
          exact ⟨by rw [HDEC.out]; rfl, grow_drewN (grow_drewN (grow_none w) _) _⟩
      · obtain rfl : k = xs.length := by omega
        have hdec : decide (xs = ys) = true := by
          apply decide_eq_true
          have h := HT.out
          rw [List.take_length, List.take_of_length_le (by have := HL.out; omega)] at h
          exact h
        have HDEC := Lib.hid hdec
        clear hdec
        go_wp2
        go_ret
        exact ⟨by rw [HDEC.out]; rfl, grow_drewN (grow_none w) _⟩
  · have hb : ((xs.length : Int) != (ys.length : Int)) = true := by rw [bne_iff_ne]; omega
    have hdec : decide (xs = ys) = false := decide_eq_false (fun h => hl (by rw [h]))
    have HDEC := Lib.hid hdec
    clear hl hdec
    go_enter Tryz.func26, Tryz.ntmps26
    go_wp2
    go_ret
    exact ⟨by rw [HDEC.out]; rfl, grow_none w⟩

/-- bytes in a block -/
def BRow (w : World) (g : Nat) (bs : List Nat) : Prop := Cells w g 5 (bs.map bt).toArray
theorem BRow.set {w : World} {g : Nat} {bs : List Nat} (h : BRow w g bs) (j c : Nat) : BRow (w.setCell ⟨g, j, none⟩ (.int .u8 (c : Int))) g (bs.set j c) := by
  have := Cells.set h j (.int .u8 (c : Int))
  unfold BRow
  rw [List.map_set, ← List.setIfInBounds_toArray]
  exact this
theorem BRow.row {w : World} {g n B : Nat} {bs : List Nat} (h : BRow w g bs) (hn : bs.length = n) (hg : g < B) : Row w B (some ⟨g, 0, none⟩) n (bs.map bt) := by
  have := Row.of_cells (B := B) h hg
  rw [show (List.map bt bs).toArray.size = n by rw [List.size_toArray, List.length_map]; exact hn] at this
  exact this

def Unpacked (l : List Nat) (n : Int) (b : Bool) (W : World) (e : Ending) (w : World) : Prop :=
  ∃ (A : Option Addr) (c k : Nat), e = .returned (.tuple #[.slice A k c, .bool b]) ∧ k = (if b then n.toNat else 0) ∧ (b = true → Row w w.heap.size A n.toNat ((bytesOf l n.toNat).map bt)) ∧ Below W.heap.size W w
def noU (W : World) (e : Ending) (w : World) : Prop := e = .returned (.tuple #[.slice none 0 0, .bool false]) ∧ w = W

end Go.Proofs.YtamndllolppmoaaGreat

namespace Go.Proofs.YtamndllolppmoaaGreat
open Wd U Go.ChangeShapes Go.WideShapes Go.RowKit Go.Sort
set_option linter.unusedVariables false

def DivRel (v r : Nat) (W : World) (x j : Value) (w : World) : Prop := ∃ q : Nat, q ≤ r ∧ j = .int .i64 q ∧ x = .int .u64 ((v / 256 ^ q : Nat) : Int) ∧ w = W
def LayRel (l : List Nat) (N g : Nat) (W : World) (i : Value) (w : World) : Prop := ∃ k : Nat, k ≤ N ∧ i = .int .i64 k ∧ BRow w g (bytesOf l k ++ List.replicate (N - k) 0) ∧ Below W.heap.size W w
theorem lay_step {l : List Nat} {N k v : Nat} (hk : k < N) (hv : l[k / 8]? = some v) : (bytesOf l k ++ List.replicate (N - k) 0).set k (v / 256 ^ (k % 8) % 256) = bytesOf l (k + 1) ++ List.replicate (N - (k + 1)) 0 := by
  rw [bytesOf_snoc, hv, Option.getD_some, List.append_assoc]
  have e : List.replicate (N - k) 0 = 0 :: List.replicate (N - (k + 1)) 0 := by
    rw [show N - k = (N - (k + 1)) + 1 by omega, List.replicate_succ]
  rw [e, List.set_append_right _ _ (by rw [bytesOf_len]; exact Nat.le_refl _), bytesOf_len, Nat.sub_self]
  rfl

end Go.Proofs.YtamndllolppmoaaGreat

namespace Go.Proofs.YtamndllolppmoaaGreat
open Wd U Go.ChangeShapes Go.WideShapes Go.RowKit Go.Sort
set_option linter.unusedVariables false

end Go.Proofs.YtamndllolppmoaaGreat
