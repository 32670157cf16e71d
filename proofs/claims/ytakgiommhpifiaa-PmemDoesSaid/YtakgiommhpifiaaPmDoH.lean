import Derived.Test.YtakgiommhpifiaaPmDoG
import Derived.Deep.RegionHeld3
namespace Go.Proofs.Ytakgiommhpifiaa
open Wd Pm Go.Maps Go.RowKit
set_option linter.unusedVariables false

set_option maxRecDepth 100000 in
theorem do_fence {w : World} (i v : Int) (D X : Nat) (keep : Value) {R1 : Steps} {R2 : Int → Steps} {er : Int}
    (h1 : ∀ w1, Below w.heap.size w w1 → Calls Try.prog 23 #[.pointer (some ⟨D, 0, none⟩)] w1 (Gives (.int .i64 er) R1 w1))
    (h2 : ∀ w1 w2, Below w.heap.size w w1 → R1 w1 w2 → Calls Try.prog 33 #[.pointer (some ⟨X, 0, none⟩)] w2 (GivesSome (α := Int) (.int .i64 ·) R2 w2)) :
    Calls Try.prog 11 #[.pointer (some ⟨D, 0, none⟩), .pointer (some ⟨X, 0, none⟩), .agg #[.int .i64 2, .int .i64 i, .int .u64 v, keep]] w (Did R1 R2 w (fun b => er == b)) := by
  have b0 : Below w.heap.size w (w.alloc (.cells #[.int .i64 2, .int .i64 i, .int .u64 v, keep] 32)) := (Below.refl _ _).alloc (Nat.le_refl _) _
  have h1' := h1 _ b0
  have HB := Lib.hid b0
  clear b0
  go_enter Try.func11, Try.ntmps11
  go_wp2_with (first
    | (go_at_call 23; refine h1'.mono ?_; rintro e w1 ⟨rfl, r1⟩)
    | (go_at_call 33; refine (h2 _ _ HB.out r1).mono ?_; rintro e w2 ⟨v2, rfl, r2⟩))
  go_ret
  exact ⟨v2, _, w1, rfl, HB.out, r1, r2⟩

/-- both did it, and said nothing -/
def Both (R1 R2 : Steps) (w : World) (e : Ending) (w' : World) : Prop := ∃ w1 w2, e = .returned (.bool true) ∧ Below w.heap.size w w1 ∧ R1 w1 w2 ∧ R2 w2 w'
set_option maxRecDepth 100000 in
theorem do_arm {w : World} (i v : Int) (D X : Nat) (A : Option Addr) (kl kc : Nat) {R1 R2 : Steps} (hk : KeepsDeed R1) {keep : Value} (ek : keep = .slice A kl kc)
    (h1 : ∀ w1, Below w.heap.size w w1 → Calls Try.prog 36 #[.pointer (some ⟨D, 0, none⟩), .int .i64 i] w1 (Gives (.tuple #[]) R1 w1))
    (h2 : ∀ w1 w2, Below w.heap.size w w1 → R1 w1 w2 → Calls Try.prog 37 #[.pointer (some ⟨X, 0, none⟩), .int .i64 i] w2 (Gives (.tuple #[]) R2 w2)) :
    Calls Try.prog 11 #[.pointer (some ⟨D, 0, none⟩), .pointer (some ⟨X, 0, none⟩), .agg #[.int .i64 4, .int .i64 i, .int .u64 v, keep]] w (Both R1 R2 w) := by
  subst ek
  have k0 := Cells.new w 32 #[.int .i64 4, .int .i64 i, .int .u64 v, .slice A kl kc]
  have c1 : (w.alloc (.cells #[.int .i64 4, .int .i64 i, .int .u64 v, .slice A kl kc] 32)).cell? ⟨w.heap.size, 1, none⟩ = some (.int .i64 i) := k0.cell 1
  have c3 : (w.alloc (.cells #[.int .i64 4, .int .i64 i, .int .u64 v, .slice A kl kc] 32)).cell? ⟨w.heap.size, 3, none⟩ = some (.slice A kl kc) := k0.cell 3
  have b0 : Below w.heap.size w (w.alloc (.cells #[.int .i64 4, .int .i64 i, .int .u64 v, .slice A kl kc] 32)) := (Below.refl _ _).alloc (Nat.le_refl _) _
  have h1' := h1 _ b0
  have KD := Lib.hid k0
  have HB := Lib.hid b0
  clear b0 k0
  go_enter Try.func11, Try.ntmps11
  go_wp2_with (first
    | (go_at_call 36; refine h1'.mono ?_; rintro e w1 ⟨rfl, r1⟩; have c11 : w1.cell? ⟨w.heap.size, 1, none⟩ = some (.int .i64 i) := (hk _ _ _ _ r1 KD.out).cell 1; have c13 : w1.cell? ⟨w.heap.size, 3, none⟩ = some (.slice A kl kc) := (hk _ _ _ _ r1 KD.out).cell 3)
    | (go_at_call 37; refine (h2 _ _ HB.out r1).mono ?_; rintro e w2 ⟨rfl, r2⟩))
  go_ret
  exact ⟨_, w1, rfl, HB.out, r1, r2⟩
set_option maxRecDepth 100000 in
theorem do_crash {w : World} (i v : Int) (D X : Nat) (A : Option Addr) (kl kc : Nat) {R1 R2 : Steps} (hk : KeepsDeed R1) {keep : Value} (ek : keep = .slice A kl kc)
    (h1 : ∀ w1, Below w.heap.size w w1 → Calls Try.prog 10 #[.pointer (some ⟨D, 0, none⟩), keep] w1 (Gives (.tuple #[]) R1 w1))
    (h2 : ∀ w1 w2, Below w.heap.size w w1 → R1 w1 w2 → Calls Try.prog 38 #[.pointer (some ⟨X, 0, none⟩), keep] w2 (Gives (.tuple #[]) R2 w2)) :
    Calls Try.prog 11 #[.pointer (some ⟨D, 0, none⟩), .pointer (some ⟨X, 0, none⟩), .agg #[.int .i64 5, .int .i64 i, .int .u64 v, keep]] w (Both R1 R2 w) := by
  subst ek
  have k0 := Cells.new w 32 #[.int .i64 5, .int .i64 i, .int .u64 v, .slice A kl kc]
  have c1 : (w.alloc (.cells #[.int .i64 5, .int .i64 i, .int .u64 v, .slice A kl kc] 32)).cell? ⟨w.heap.size, 1, none⟩ = some (.int .i64 i) := k0.cell 1
  have c3 : (w.alloc (.cells #[.int .i64 5, .int .i64 i, .int .u64 v, .slice A kl kc] 32)).cell? ⟨w.heap.size, 3, none⟩ = some (.slice A kl kc) := k0.cell 3
  have b0 : Below w.heap.size w (w.alloc (.cells #[.int .i64 5, .int .i64 i, .int .u64 v, .slice A kl kc] 32)) := (Below.refl _ _).alloc (Nat.le_refl _) _
  have h1' := h1 _ b0
  have KD := Lib.hid k0
  have HB := Lib.hid b0
  clear b0 k0
  go_enter Try.func11, Try.ntmps11
  go_wp2_with (first
    | (go_at_call 10; refine h1'.mono ?_; rintro e w1 ⟨rfl, r1⟩; have c11 : w1.cell? ⟨w.heap.size, 1, none⟩ = some (.int .i64 i) := (hk _ _ _ _ r1 KD.out).cell 1; have c13 : w1.cell? ⟨w.heap.size, 3, none⟩ = some (.slice A kl kc) := (hk _ _ _ _ r1 KD.out).cell 3)
    | (go_at_call 38; refine (h2 _ _ HB.out r1).mono ?_; rintro e w2 ⟨rfl, r2⟩))
  go_ret
  exact ⟨_, w1, rfl, HB.out, r1, r2⟩

set_option maxRecDepth 100000 in
set_option maxHeartbeats 2000000 in
theorem do_store {w : World} (kd i v : Int) (D X : Nat) (keep : Value) {R1 : Steps} {R2 : Int → Steps} {er : Int} (hk : KeepsDeed R1) (hk2 : ∀ v, KeepsDeed (R2 v)) (n1 : kd ≠ 1) (n2 : kd ≠ 2) (n3 : kd ≠ 3) (n4 : kd ≠ 4) (n5 : kd ≠ 5)
    (h1 : ∀ w1, Below w.heap.size w w1 → Calls Try.prog 9 #[.pointer (some ⟨D, 0, none⟩), .int .i64 i, .int .u64 v] w1 (Gives (.int .i64 er) R1 w1))
    (h2 : ∀ w1 w2, Below w.heap.size w w1 → R1 w1 w2 → Calls Try.prog 39 #[.pointer (some ⟨X, 0, none⟩), .int .i64 i, .int .u64 v] w2 (GivesSome (α := Int) (.int .i64 ·) R2 w2)) :
    Calls Try.prog 11 #[.pointer (some ⟨D, 0, none⟩), .pointer (some ⟨X, 0, none⟩), .agg #[.int .i64 kd, .int .i64 i, .int .u64 v, keep]] w (Did R1 R2 w (fun b => er == b)) := by
  have k0 := Cells.new w 32 #[.int .i64 kd, .int .i64 i, .int .u64 v, keep]
  have k0d : Cells (w.alloc (.cells #[.int .i64 kd, .int .i64 i, .int .u64 v, keep] 32)).drew w.heap.size 32 #[.int .i64 kd, .int .i64 i, .int .u64 v, keep] := k0
  have c1 : (w.alloc (.cells #[.int .i64 kd, .int .i64 i, .int .u64 v, keep] 32)).drew.cell? ⟨w.heap.size, 1, none⟩ = some (.int .i64 i) := k0d.cell 1
  have c2 : (w.alloc (.cells #[.int .i64 kd, .int .i64 i, .int .u64 v, keep] 32)).drew.cell? ⟨w.heap.size, 2, none⟩ = some (.int .u64 v) := k0d.cell 2
  have c0 : (w.alloc (.cells #[.int .i64 kd, .int .i64 i, .int .u64 v, keep] 32)).cell? ⟨w.heap.size, 0, none⟩ = some (.int .i64 kd) := k0.cell 0
  have b0 : Below w.heap.size w (w.alloc (.cells #[.int .i64 kd, .int .i64 i, .int .u64 v, keep] 32)).drew := below_drewN ((Below.refl _ _).alloc (Nat.le_refl _) _) 1
  have h1' := h1 _ b0
  have KD := Lib.hid k0d
  have HB := Lib.hid b0
  have q1 : (kd == 1) = false := by simpa using n1
  have q2 : (kd == 2) = false := by simpa using n2
  have q3 : (kd == 3) = false := by simpa using n3
  have q4 : (kd == 4) = false := by simpa using n4
  have q5 : (kd == 5) = false := by simpa using n5
  clear k0 k0d b0 n1 n2 n3 n4 n5
  go_enter Try.func11, Try.ntmps11
  go_wp2
  go_region_held3 (fun w' => w'.cell? ⟨w.heap.size, 1, none⟩ = some (.int .i64 i) ∧ w'.cell? ⟨w.heap.size, 2, none⟩ = some (.int .u64 v))
    (first | exact ⟨c1, c2⟩ | exact ⟨c11, c12⟩ | exact ⟨c21, c22⟩)
    (first
      | (go_at_call 9; (with_reducible refine h1'.mono ?_); rintro e w1 ⟨rfl, r1⟩; have K1 := hk _ _ _ _ r1 KD.out; have c11 : w1.cell? ⟨w.heap.size, 1, none⟩ = some (.int .i64 i) := K1.cell 1; have c12 : w1.cell? ⟨w.heap.size, 2, none⟩ = some (.int .u64 v) := K1.cell 2)
      | (go_at_call 39; (with_reducible refine (h2 _ _ HB.out r1).mono ?_); rintro e w2 ⟨v2, rfl, r2⟩; have K2 := hk2 _ _ _ _ _ r2 K1; have c21 : w2.cell? ⟨w.heap.size, 1, none⟩ = some (.int .i64 i) := K2.cell 1; have c22 : w2.cell? ⟨w.heap.size, 2, none⟩ = some (.int .u64 v) := K2.cell 2))
  go_wp2
  go_ret
  exact ⟨v2, _, w1, rfl, HB.out, r1, r2⟩
end Go.Proofs.Ytakgiommhpifiaa
