import Derived.Test.YtakgiommhpifiaaPmNil
import Derived.Test.YtakgiommhpifiaaPmDeed
import Derived.Deep.RegionHeld3
namespace Go.Proofs.Ytakgiommhpifiaa
open Wd Pm Go.Maps Go.RowKit
set_option linter.unusedVariables false

/-! Do, whatever both devices do -/
abbrev Steps := World → World → Prop
/-- a deed's variable stays -/
def KeepsDeed (R : Steps) : Prop := ∀ (w w' : World) (g : Nat) (cs : Array Value), R w w' → Cells w g 32 cs → Cells w' g 32 cs
/-- both did it: one, then the other -/
def Did {α : Type} (R1 : Steps) (R2 : α → Steps) (w : World) (g : α → Bool) (e : Ending) (w' : World) : Prop := ∃ v w1 w2, e = .returned (.bool (g v)) ∧ Below w.heap.size w w1 ∧ R1 w1 w2 ∧ R2 v w2 w'
/-- it returns v -/
def Gives (v : Value) (R : Steps) (w : World) (e : Ending) (w' : World) : Prop := e = .returned v ∧ R w w'
def GivesSome {α : Type} (f : α → Value) (R : α → Steps) (w : World) (e : Ending) (w' : World) : Prop := ∃ v, e = .returned (f v) ∧ R v w w'

set_option maxRecDepth 100000 in
set_option maxHeartbeats 2000000 in
theorem do_flush {w : World} (i v : Int) (D X : Nat) (keep : Value) {R1 : Steps} {R2 : Int → Steps} {er : Int} (hk : KeepsDeed R1) (hk2 : ∀ v, KeepsDeed (R2 v))
    (h1 : ∀ w1, Below w.heap.size w w1 → Calls Try.prog 22 #[.pointer (some ⟨D, 0, none⟩), .int .i64 i] w1 (Gives (.int .i64 er) R1 w1))
    (h2 : ∀ w1 w2, Below w.heap.size w w1 → R1 w1 w2 → Calls Try.prog 32 #[.pointer (some ⟨X, 0, none⟩), .int .i64 i] w2 (GivesSome (α := Int) (.int .i64 ·) R2 w2)) :
    Calls Try.prog 11 #[.pointer (some ⟨D, 0, none⟩), .pointer (some ⟨X, 0, none⟩), .agg #[.int .i64 1, .int .i64 i, .int .u64 v, keep]] w (Did R1 R2 w (fun b => er == b)) := by
  have k0 := Cells.new w 32 #[.int .i64 1, .int .i64 i, .int .u64 v, keep]
  have c1 : (w.alloc (.cells #[.int .i64 1, .int .i64 i, .int .u64 v, keep] 32)).cell? ⟨w.heap.size, 1, none⟩ = some (.int .i64 i) := k0.cell 1
  have k0d : Cells (w.alloc (.cells #[.int .i64 1, .int .i64 i, .int .u64 v, keep] 32)).drew w.heap.size 32 #[.int .i64 1, .int .i64 i, .int .u64 v, keep] := k0
  have b0 : Below w.heap.size w (w.alloc (.cells #[.int .i64 1, .int .i64 i, .int .u64 v, keep] 32)).drew := below_drewN ((Below.refl _ _).alloc (Nat.le_refl _) _) 1
  have h1' := h1 _ b0
  have KD := Lib.hid k0d
  have HB := Lib.hid b0
  clear k0 k0d b0
  go_enter Try.func11, Try.ntmps11
  go_wp2
  have c1d : (w.alloc (.cells #[.int .i64 1, .int .i64 i, .int .u64 v, keep] 32)).drew.cell? ⟨w.heap.size, 1, none⟩ = some (.int .i64 i) := KD.out.cell 1
  go_region_held3 (fun w' => w'.cell? ⟨w.heap.size, 1, none⟩ = some (.int .i64 i))
    (first | exact c1d | exact c11 | exact c21)
    (first
      | (go_at_call 22; (with_reducible refine h1'.mono ?_); rintro e w1 ⟨rfl, r1⟩; have K1 := hk _ _ _ _ r1 KD.out; have c11 : w1.cell? ⟨w.heap.size, 1, none⟩ = some (.int .i64 i) := K1.cell 1)
      | (go_at_call 32; (with_reducible refine (h2 _ _ HB.out r1).mono ?_); rintro e w2 ⟨v2, rfl, r2⟩; have c21 : w2.cell? ⟨w.heap.size, 1, none⟩ = some (.int .i64 i) := (hk2 _ _ _ _ _ r2 K1).cell 1))
  all_goals
    go_wp2
    go_ret
    exact ⟨v2, _, w1, rfl, HB.out, r1, r2⟩
set_option maxRecDepth 100000 in
set_option maxHeartbeats 2000000 in
theorem do_evict {w : World} (i v : Int) (D X : Nat) (keep : Value) {R1 : Steps} {R2 : Bool → Steps} {er : Bool} (hk : KeepsDeed R1) (hk2 : ∀ v, KeepsDeed (R2 v))
    (h1 : ∀ w1, Below w.heap.size w w1 → Calls Try.prog 34 #[.pointer (some ⟨D, 0, none⟩), .int .i64 i] w1 (Gives (.bool er) R1 w1))
    (h2 : ∀ w1 w2, Below w.heap.size w w1 → R1 w1 w2 → Calls Try.prog 35 #[.pointer (some ⟨X, 0, none⟩), .int .i64 i] w2 (GivesSome (α := Bool) (.bool ·) R2 w2)) :
    Calls Try.prog 11 #[.pointer (some ⟨D, 0, none⟩), .pointer (some ⟨X, 0, none⟩), .agg #[.int .i64 3, .int .i64 i, .int .u64 v, keep]] w (Did R1 R2 w (fun b => er == b)) := by
  have k0 := Cells.new w 32 #[.int .i64 3, .int .i64 i, .int .u64 v, keep]
  have c1 : (w.alloc (.cells #[.int .i64 3, .int .i64 i, .int .u64 v, keep] 32)).cell? ⟨w.heap.size, 1, none⟩ = some (.int .i64 i) := k0.cell 1
  have k0d : Cells (w.alloc (.cells #[.int .i64 3, .int .i64 i, .int .u64 v, keep] 32)).drew w.heap.size 32 #[.int .i64 3, .int .i64 i, .int .u64 v, keep] := k0
  have b0 : Below w.heap.size w (w.alloc (.cells #[.int .i64 3, .int .i64 i, .int .u64 v, keep] 32)).drew := below_drewN ((Below.refl _ _).alloc (Nat.le_refl _) _) 1
  have h1' := h1 _ b0
  have KD := Lib.hid k0d
  have HB := Lib.hid b0
  clear k0 k0d b0
  go_enter Try.func11, Try.ntmps11
  go_wp2
  have c1d : (w.alloc (.cells #[.int .i64 3, .int .i64 i, .int .u64 v, keep] 32)).drew.cell? ⟨w.heap.size, 1, none⟩ = some (.int .i64 i) := KD.out.cell 1
  go_region_held3 (fun w' => w'.cell? ⟨w.heap.size, 1, none⟩ = some (.int .i64 i))
    (first | exact c1d | exact c11 | exact c21)
    (first
      | (go_at_call 34; (with_reducible refine h1'.mono ?_); rintro e w1 ⟨rfl, r1⟩; have K1 := hk _ _ _ _ r1 KD.out; have c11 : w1.cell? ⟨w.heap.size, 1, none⟩ = some (.int .i64 i) := K1.cell 1)
      | (go_at_call 35; (with_reducible refine (h2 _ _ HB.out r1).mono ?_); rintro e w2 ⟨v2, rfl, r2⟩; have c21 : w2.cell? ⟨w.heap.size, 1, none⟩ = some (.int .i64 i) := (hk2 _ _ _ _ _ r2 K1).cell 1))
  all_goals
    go_wp2
    go_ret
    exact ⟨v2, _, w1, rfl, HB.out, r1, r2⟩
end Go.Proofs.Ytakgiommhpifiaa
