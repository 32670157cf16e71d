import Derived.Test.YthonpifdhjpbgaaMtWalks
import Derived.Laws.Cover2
namespace Go.Proofs.Ythonpifdhjpbgaa
open Wd So Go.ChangeShapes Go.WideShapes Go.RowKit
set_option linter.unusedVariables false

/-- of none 0 and false; else some float of this value, and true -/
def Maybe (b : Bool) (o : Option Nat) (w : World) (e : Ending) (w' : World) : Prop :=
  ∃ r, e = .returned (.tuple #[.float .f64 r, .bool b]) ∧ r < 18446744073709551616 ∧ (b = false → r = 0) ∧ (b = true → Fl.cv r = o) ∧ Below w.heap.size w w'

def meanO (l : List Nat) : Option Nat := Fl.divO (Fl.sumO l) (Fl.cv (floatOfInt .f64 l.length))

theorem mean_none (A : Option Addr) (c : Nat) (w : World) (o : Option Nat) : Calls Try.prog 9 #[.slice A 0 c] w (Maybe false o w) := by
  go_enter Try.func9, Try.ntmps9
  go_wp2
  go_ret2
  exact ⟨0, rfl, by omega, fun _ => rfl, (fun h => by cases h), Below.refl _ _⟩

theorem mean_some (l : List Nat) (A : Option Addr) (c : Nat) (w : World) (h0 : 0 < l.length) (hn : l.length ≤ 1000) (hr : Row w w.heap.size A l.length (l.map (Value.float .f64))) :
    Calls Try.prog 9 #[.slice A l.length c] w (Maybe true (meanO l) w) := by
  have HL := Lib.hid hr; clear hr
  have hne : ((l.length : Int) == 0) = false := by rw [beq_eq_false_iff_ne]; omega
  go_enter Try.func9, Try.ntmps9
  go_wp2_with fail
  refine (sum_any l A c _ hn HL.out).mono ?_
  rintro e w2 ⟨x, n, rfl, hx, hc, rfl⟩
  obtain ⟨r, m, e1, h1, c1⟩ := arith_dv Try.prog .quo _ 26 x (floatOfInt .f64 (l.length : Int)) (w.drewN n) (.inl ⟨rfl, rfl⟩)
  have HC := Lib.hid hc; have C1 := Lib.hid c1; clear hc c1
  go_wp2
  go_ret2
  exact ⟨r, rfl, h1, (fun h => by cases h), fun _ => by rw [C1.out, HC.out]; rfl, below_drewN (Below.refl _ _) _⟩
end Go.Proofs.Ythonpifdhjpbgaa
