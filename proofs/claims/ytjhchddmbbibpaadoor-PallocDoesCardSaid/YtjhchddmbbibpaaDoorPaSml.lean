import Derived.Test.YtjhchddmbbibpaaDoorPaList
import Derived.Test.YtjhchddmbbibpaaDoorGrow
import Derived.Laws.Bits64b
import Derived.Laws.Cover3
import Derived.Lib.SliceRun
import Derived.Shelf.Spec.TrailingZeros
import Derived.BigQuiet
import Derived.StillTailTactics
namespace Go.Proofs.YtjhchddmbbibpaaDoor
open Wd Pa Go.ChangeShapes Go.WideShapes Go.RowKit Go.Sort
set_option linter.unusedVariables false

def w64 (x : Nat) : Value := .int .u64 x
/-- the table of math/bits -/
def Tb (w : World) : Prop := TabAt 0 Lib.deBruijn64tab w
theorem Tb.below {B : Nat} {w w' : World} (h : Tb w) (hb : Below B w w') (hB : 0 < B) : Tb w' := fun j hj => (hb.cell (p := ⟨_, j, none⟩) hB).trans (h j hj)

set_option maxHeartbeats 1000000 in
theorem tz_core (x k idx : Nat) (w : World) (hx0 : ((x : Int) == 0) = false)
    (key : IntKind.u64.wrap (bits BinOp.and IntKind.u64 (x : Int) (IntKind.u64.wrap (-(x : Int))) * 285870213051353865) / 288230376151711744 = (idx : Int))
    (hi : idx < 64) (hk : k < 64) (hcell : w.cell? ⟨0, idx, none⟩ = some (.int .u8 k)) :
    Calls Tryd.prog 30 #[.int .u64 x] w fun e w' => e = .returned (.int .i64 k) ∧ w' = w := by
  go_enter Tryd.func30, Tryd.ntmps30
  go_wp2_with (simp only [key])
  go_ret
  exact ⟨rfl, rfl⟩
/-- where the lowest one of a word is -/
theorem tz_is (x : Nat) (hx : x < 18446744073709551616) (h0 : x ≠ 0) (w : World) (hT : Tb w) : Calls Tryd.prog 30 #[.int .u64 x] w fun e w' => e = .returned (.int .i64 (Lib.ctz 64 x)) ∧ w' = w := by
  obtain ⟨hlow, hk⟩ := Lib.lowest_bit 64 x h0 hx
  obtain ⟨hi, htab⟩ := Lib.deBruijn64_at _ hk
  have hcell := hT _ hi
  rw [htab] at hcell
  exact tz_core x _ _ w (by simp; omega) (tz64_key x _ hx h0 hlow) hi hk hcell

theorem and64 {a b c : Nat} (ha : a < 18446744073709551616) (hb : b < 18446744073709551616) (h : (a &&& b) = c) : bits .and .u64 (a : Int) (b : Int) = (c : Int) := by rw [bits_and_u64_nat a b ha hb, h]
theorem and127 (f : Nat) (hf : f < 18446744073709551616) : bits .and .i64 (wrap64 (f : Int)) 127 = ((f % 128 : Nat) : Int) := by
  have h1 : (BitVec.ofInt 64 (wrap64 (f : Int))).toNat = f := by
    rw [BitVec.toNat_ofInt]
    unfold wrap64
    omega
  show IntKind.i64.wrap ((BitVec.ofInt 64 (wrap64 (f : Int)) &&& BitVec.ofInt 64 127).toNat : Int) = _
  rw [BitVec.toNat_and, h1, show (BitVec.ofInt 64 127).toNat = 2 ^ 7 - 1 from rfl, Nat.and_two_pow_sub_one_eq_mod]
  exact IntWalk.i64_in _ (by omega)
set_option maxRecDepth 100000 in
set_option maxHeartbeats 4000000 in
/-- how many ones a word has -/
theorem ones_is (x : Nat) (hx : x < 18446744073709551616) (w : World) : Calls Tryd.prog 27 #[.int .u64 x] w fun e w' => e = .returned (.int .i64 (ones 64 x)) ∧ w = w' := by
  obtain ⟨a, b, c, d, e, ha, hb, hc, la, lb, lbb, lc, hd, ld, he, le, lee, ho, lo⟩ := count_ones x hx
  obtain ⟨o, hO⟩ : ∃ o, ones 64 x = o := ⟨_, rfl⟩
  rw [hO] at ho lo ⊢
  obtain ⟨x2, hx2⟩ : ∃ z, x / 2 = z := ⟨_, rfl⟩
  obtain ⟨a1, ha1⟩ : ∃ z, (x2 &&& 6148914691236517205) = z := ⟨_, rfl⟩
  obtain ⟨a2, ha2⟩ : ∃ z, (x &&& 6148914691236517205) = z := ⟨_, rfl⟩
  obtain ⟨y2, hy2⟩ : ∃ z, a / 4 = z := ⟨_, rfl⟩
  obtain ⟨b1, hb1⟩ : ∃ z, (y2 &&& 3689348814741910323) = z := ⟨_, rfl⟩
  obtain ⟨b2, hb2⟩ : ∃ z, (a &&& 3689348814741910323) = z := ⟨_, rfl⟩
  rw [hx2, ha1, ha2] at ha
  rw [hy2, hb1, hb2] at hb
  obtain ⟨c1, hc1⟩ : ∃ z, b / 16 + b = z := ⟨_, rfl⟩
  rw [hc1] at hc lbb
  have q1 : (x : Int) / 2 = (x2 : Int) := by omega
  have q2 : bits .and .u64 (x2 : Int) 6148914691236517205 = (a1 : Int) := by
    show bits .and .u64 (x2 : Int) ((6148914691236517205 : Nat) : Int) = _
    exact and64 (by omega) (by omega) ha1
  have q3 : bits .and .u64 (x : Int) 6148914691236517205 = (a2 : Int) := by
    show bits .and .u64 (x : Int) ((6148914691236517205 : Nat) : Int) = _
    exact and64 hx (by omega) ha2
  have q4 : IntKind.u64.wrap ((a1 : Int) + (a2 : Int)) = (a : Int) := by rw [IntKind.wrap_u64]; omega
  have q5 : (a : Int) / 4 = (y2 : Int) := by omega
  have q6 : bits .and .u64 (y2 : Int) 3689348814741910323 = (b1 : Int) := by
    show bits .and .u64 (y2 : Int) ((3689348814741910323 : Nat) : Int) = _
    exact and64 (by omega) (by omega) hb1
  have q7 : bits .and .u64 (a : Int) 3689348814741910323 = (b2 : Int) := by
    show bits .and .u64 (a : Int) ((3689348814741910323 : Nat) : Int) = _
    exact and64 la (by omega) hb2
  have q8 : IntKind.u64.wrap ((b1 : Int) + (b2 : Int)) = (b : Int) := by rw [IntKind.wrap_u64]; omega
  have q9 : IntKind.u64.wrap ((b : Int) / 16 + (b : Int)) = (c1 : Int) := by rw [IntKind.wrap_u64]; omega
  have q10 : bits .and .u64 (c1 : Int) 1085102592571150095 = (c : Int) := by
    show bits .and .u64 (c1 : Int) ((1085102592571150095 : Nat) : Int) = _
    exact and64 lbb (by omega) hc
  have q11 : IntKind.u64.wrap ((c : Int) + (c : Int) / 256) = (d : Int) := by rw [IntKind.wrap_u64]; omega
  have q12 : IntKind.u64.wrap ((d : Int) + (d : Int) / 65536) = (e : Int) := by rw [IntKind.wrap_u64]; omega
  obtain ⟨f, hf⟩ : ∃ f, e + e / 4294967296 = f := ⟨_, rfl⟩
  rw [hf] at lee ho
  have q13 : IntKind.u64.wrap ((e : Int) + (e : Int) / 4294967296) = (f : Int) := by rw [IntKind.wrap_u64]; omega
  have q14 : bits .and .i64 (wrap64 (f : Int)) 127 = (o : Int) := by rw [and127 f lee, ho]
  clear ha hb hc hd he hf ha1 ha2 hb1 hb2 hx2 hy2 hc1
  go_enter Tryd.func27, Tryd.ntmps27
  go_wp2
  go_ret
  exact ⟨rfl, rfl⟩

set_option maxRecDepth 100000 in
theorem word_is (j v : Nat) (i : Int) (hi : i = (j : Int) + 1) (hj : j < 1048576) (hv : v = j / 64) (w : World) : Calls Tryd.prog 22 #[.int .i64 i] w fun e w' => e = .returned (.int .i64 v) ∧ w = w' := by
  have q1 : wrap64 (i - 1) = (j : Int) := by unfold wrap64; omega
  have q2 : (j : Int) / 64 = (v : Int) := by omega
  clear hi hv
  go_enter Tryd.func22, Tryd.ntmps22
  go_wp2
  go_ret
  exact ⟨rfl, rfl⟩
set_option maxRecDepth 100000 in
theorem bit_is (j k m : Nat) (i : Int) (hi : i = (j : Int) + 1) (hj : j < 1048576) (hk : k = j % 64) (hm : m = 2 ^ k) (w : World) : Calls Tryd.prog 23 #[.int .i64 i] w fun e w' => e = .returned (.int .u64 m) ∧ w = w' := by
  have q1 : wrap64 (i - 1) = (j : Int) := by unfold wrap64; omega
  have q2 : (j : Int) % 64 = (k : Int) := by omega
  have hk64 : k < 64 := by omega
  have lm : m < 18446744073709551616 := by rw [hm]; exact two_pow_lt hk64
  have q3 : (2 : Int) ^ k = (m : Int) := by rw [hm]; simp
  have q4 : IntKind.u64.wrap (m : Int) = (m : Int) := by rw [IntKind.wrap_u64]; omega
  clear hi hk hm
  go_enter Tryd.func23, Tryd.ntmps23
  go_wp2
  go_ret
  exact ⟨rfl, rfl⟩
end Go.Proofs.YtjhchddmbbibpaaDoor
