import Derived.Test.YtjhchddmbbibpaaDoorPaNx
import Derived.StillTailTactics
import Derived.Deep.DeepCutAuto
namespace Go.Proofs.YtjhchddmbbibpaaDoor
open Wd Pa Go.ChangeShapes Go.WideShapes Go.RowKit Go.Sort
set_option linter.unusedVariables false

theorem bits_andNot_u64 (a b : Nat) (ha : a < 18446744073709551616) (hb : b < 18446744073709551616) : bits .andNot .u64 (a : Int) (b : Int) = ((a ^^^ (a &&& b) : Nat) : Int) := by
  have hx : a ^^^ (a &&& b) < 2 ^ 64 := Nat.xor_lt_two_pow ha (Nat.and_lt_two_pow _ hb)
  have h1 : (BitVec.ofInt 64 (a : Int)).toNat = a := by
    rw [BitVec.ofInt_natCast, BitVec.toNat_ofNat]; exact Nat.mod_eq_of_lt (by omega)
  have h2 : (BitVec.ofInt 64 (b : Int)).toNat = b := by
    rw [BitVec.ofInt_natCast, BitVec.toNat_ofNat]; exact Nat.mod_eq_of_lt (by omega)
  have e : BitVec.ofInt 64 (a : Int) &&& ~~~ BitVec.ofInt 64 (b : Int) = BitVec.ofInt 64 (a : Int) ^^^ (BitVec.ofInt 64 (a : Int) &&& BitVec.ofInt 64 (b : Int)) := by
    generalize BitVec.ofInt 64 (a : Int) = A
    generalize BitVec.ofInt 64 (b : Int) = B
    ext i hi
    simp only [BitVec.getElem_and, BitVec.getElem_not, BitVec.getElem_xor]
    cases A[i] <;> cases B[i] <;> rfl
  show IntKind.u64.wrap ((BitVec.ofInt 64 (a : Int) &&& ~~~ BitVec.ofInt 64 (b : Int)).toNat : Int) = _
  rw [e, BitVec.toNat_xor, BitVec.toNat_and, h1, h2, IntKind.wrap_u64]
  omega
theorem still_eq {P : Program} {f : FuncId} {args : Array Value} {w : World} {v : Value} (h : Calls P f args w fun e w' => e = .returned v ∧ w = w') : Calls P f args w fun e w' => e = .returned v ∧ w' = w := h.mono fun e w' ⟨a, b⟩ => ⟨a, b.symm⟩
section
variable {w w' : World} {B n : Nat} {f : Pp} {U U' : Nat → Bool} {ws : List Nat}
theorem PgAt.set (h : PgAt w B f n U ws) {v y : Nat} (hw : Wds n U' (ws.set v y)) (hv : v < ws.length) : PgAt (w.setCell ⟨f.h, v, none⟩ (.int .u64 y)) B f n U' (ws.set v y) := by
  refine ⟨?_, ?_, hw, h.few, ?_, h.gB, h.hB, h.tB, fun j hj => ?_⟩
  · rw [List.length_set]
    exact h.cells.far h.ne _
  · have k := h.words.set v (.int .u64 y)
    have e : (ws.map w64 ++ f.ex).toArray.setIfInBounds v (.int .u64 y) = ((ws.set v y).map w64 ++ f.ex).toArray := by
      rw [List.setIfInBounds_toArray, List.set_append_left _ _ (by simpa using hv), List.map_set]
      rfl
    rwa [e] at k
  · rw [List.length_set]; exact h.lc
  · have hb := h.tB; have hh := h.hB
    exact (Below.cell (B := f.h) ((Below.refl f.h w).setCell (p := ⟨f.h, v, none⟩) (Nat.le_refl _) _) (p := ⟨_, j, none⟩) (by simp only; omega)).trans (h.tab j hj)
theorem set_grown (w : World) (g v : Nat) (u : Value) (d : Nat) : w.grownBy ((w.drewN d).setCell ⟨g, v, none⟩ u) (some g) :=
  grown_set (grown_drewN (a := w) (w := w) ⟨rfl, rfl, rfl, Nat.le_refl _, fun _ _ _ => rfl⟩ d) v u
/-- the word of a page -/
theorem PgAt.page (h : PgAt w B f n U ws) {j v k m : Nat} (hj : j < n) (hv : v = j / 64) (hk : k = j % 64) (hm : m = 2 ^ k) :
    ∃ x y z : Nat, w.cell? ⟨f.h, v, none⟩ = some (.int .u64 x) ∧ (v : Int) < (ws.length : Int) ∧ v < ws.length ∧ bits .or .u64 (x : Int) (m : Int) = (y : Int) ∧ bits .andNot .u64 (x : Int) (m : Int) = (z : Int) ∧ Wds n (put U (j + 1) true) (ws.set v y) ∧ Wds n (put U (j + 1) false) (ws.set v z) ∧
      (bits .and .u64 (x : Int) (m : Int) != 0) = U (j + 1) := by
  subst hv hk hm
  obtain ⟨hv, x, hx, hx2, hb⟩ := h.wds.at hj
  have hm2 := two_pow_lt (k := j % 64) (Nat.mod_lt _ (by decide))
  refine ⟨x, _, _, h.cX hx, Int.ofNat_lt.2 hv, hv, bits_or_u64_nat x _ hx2 hm2, bits_andNot_u64 x _ hx2 hm2, (h.wds.on hj hx).2, (h.wds.give hj hx).2, ?_⟩
  rw [bits_and_u64_nat x _ hx2 hm2, ← hb]
  have z := and_bit_zero x (j % 64)
  cases hq : x.testBit (j % 64) with
  | false => rw [hq] at z; rw [z.2 rfl]; rfl
  | true =>
    rw [hq] at z
    rw [bne_iff_ne]
    intro e
    have := z.1 (Int.ofNat.inj e)
    cases this
end
/-- it takes the least free one -/
def TakeR (B : Nat) (f : Pp) (n : Nat) (U : Nat → Bool) (w : World) (e : Ending) (w' : World) : Prop :=
  (∃ r ws', 1 ≤ r ∧ r ≤ n ∧ U r = false ∧ (∀ q, 1 ≤ q → q < r → U q = true) ∧ e = .returned (.tuple #[.int .i64 r, .bool true]) ∧ PgAt w' B f n (put U r true) ws' ∧ w.grownBy w' (some f.h)) ∨
  ((∀ q, 1 ≤ q → q ≤ n → U q = true) ∧ e = .returned (.tuple #[.int .i64 0, .bool false]) ∧ ∃ d, w' = w.drewN d)
section
variable {w : World} {B n : Nat} {f : Pp} {U : Nat → Bool} {ws : List Nat}
set_option maxRecDepth 100000 in
set_option maxHeartbeats 400000 in
theorem take_is (h : PgAt w B f n U ws) : Calls Tryd.prog 10 #[f.ptr] w (TakeR B f n U w) := by
  have hfew := h.few
  have KN := Lib.hid (next_is h 1 true 1 18446744073709551615 rfl (Nat.le_refl _) (by omega) rfl)
  have KM := Lib.hid (fun (i : Int) (b : Bool) (hb : b = decide (1 ≤ i ∧ i ≤ n)) d => may_is (h.drewN d) i b hb)
  have HW := Lib.hid h
  have cW := h.cW
  clear h
  unfold Pp.ptr at KN KM ⊢
  go_enter Tryd.func10, Tryd.ntmps10
  go_wp2_with fail
  refine KN.out.mono ?_
  rintro e w1 ⟨r, rfl, hn, d, hw1⟩
  have HW1 : PgAt w1 B f n U ws := by rw [hw1]; exact HW.out.drewN d
  have HG := Lib.hid (show ∀ v u, w.grownBy ((w.drewN d).drew.setCell ⟨f.h, v, none⟩ u) (some f.h) from fun v u => set_grown w f.h v u (d + 1))
  rw [← hw1] at HG
  have KM1 := Lib.hid (KM.out r (decide (1 ≤ (r : Int) ∧ (r : Int) ≤ n)) rfl d)
  rw [← hw1] at KM1
  have cW := HW1.cW
  clear KM KN HW
  have HW1 := Lib.hid HW1; have HE := Lib.hid hw1
  clear hw1
  by_cases hr : r ≤ n
  · have h1 := hn.ge
    have KT : Hid _ := KM1
    rw [show decide (1 ≤ (r : Int) ∧ (r : Int) ≤ n) = true by rw [decide_eq_true_eq]; omega] at KT
    obtain ⟨j, hj⟩ : ∃ j, r = j + 1 := ⟨r - 1, by omega⟩
    obtain ⟨v, hv⟩ : ∃ v, v = j / 64 := ⟨_, rfl⟩
    obtain ⟨k, hk⟩ : ∃ k, k = j % 64 := ⟨_, rfl⟩
    obtain ⟨m, hm⟩ : ∃ m, m = 2 ^ k := ⟨_, rfl⟩
    have KV := Lib.hid (fun W => word_is j v (r : Int) (by omega) (by omega) hv W)
    have KB := Lib.hid (fun W => bit_is j k m (r : Int) (by omega) (by omega) hk hm W)
    obtain ⟨x, y, z, cx, i1, hvl, hor, -, hw, -, -⟩ := HW1.out.page (j := j) (by omega) hv hk hm
    have fz := HW1.out.words.free v
    rw [← hj] at hw
    have HD := Lib.hid hw; have HVL := Lib.hid hvl; have HN := Lib.hid hn; have HR := Lib.hid hr
    clear hn hv hk hm hw h1 hr hj KM1
    go_wp2_with (go_at_call 21; refine KT.out.mono ?_; rintro e w1 ⟨rfl, rfl⟩)
    go_upto_region 4 with fail
    refine wp_region_still_tail 12 (by kernel_rfl) (by kernel_rfl) ?_
    simp only [List.take_succ_cons, List.take_zero, List.drop_succ_cons, List.drop_zero]
    repeat (first | still_step | still_call (still_eq (KV.out _)) | still_call (still_eq (KB.out _)))
    try refine wpStill_nil ?_
    change wpList _ _ _ _ _ w1.drew
    have HW2 := Lib.hid (show PgAt w1.drew B f n U ws from HW1.out.drewN 1)
    have HG2 := Lib.hid (show ∀ v u, w.grownBy (w1.drew.setCell ⟨f.h, v, none⟩ u) (some f.h) from HG.out)
    obtain ⟨w2, hw2⟩ : ∃ w2, w1.drew = w2 := ⟨_, rfl⟩
    rw [hw2] at HW2 HG2 ⊢
    have fz := HW2.out.words.free v
    have cx2 : w2.cell? ⟨f.h, v, none⟩ = some (.int .u64 x) := by rw [← hw2]; exact cx
    clear cx cW hw2
    go_wp2
    go_ret2
    refine .inl ⟨r, _, HN.out.ge, HR.out, by have := HN.out.yes HR.out; simpa using this, HN.out.no, rfl, HW2.out.set HD.out HVL.out, HG2.out _ _⟩
  · have KT : Hid _ := KM1
    rw [show decide (1 ≤ (r : Int) ∧ (r : Int) ≤ n) = false by rw [decide_eq_false_iff_not]; omega] at KT
    have h2 := hn.le
    obtain rfl : r = n + 1 := by omega
    have HN := Lib.hid hn
    clear hn hr h2 KM1
    go_wp2_with (go_at_call 21; refine KT.out.mono ?_; rintro e w1 ⟨rfl, rfl⟩)
    go_ret2
    exact .inr ⟨fun q a b => HN.out.no q a (by omega), rfl, d, HE.out⟩
end
end Go.Proofs.YtjhchddmbbibpaaDoor
