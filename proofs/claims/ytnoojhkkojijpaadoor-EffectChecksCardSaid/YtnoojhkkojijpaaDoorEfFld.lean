import Derived.Test.YtnoojhkkojijpaaDoorEfOpen
import Derived.WalkKit
namespace Go.Proofs.YtnoojhkkojijpaaDoor
open Wd U Go.RowKit Go.ChangeShapes Go.WideShapes Go.Sort
set_option linter.unusedVariables false
theorem fld8 (x0 x1 x2 x3 x4 x5 x6 x7 : Value) (A : Option Addr) (n c : Nat) (w : World) : (Instr.field 24 (.agg #[x0, x1, x2, x3, x4, x5, x6, x7, .slice A n c]) 8).run Tryd.prog w = .ok (.slice A n c) w := by
  simp [Instr.field, go_sem, asAgg]
end Go.Proofs.YtnoojhkkojijpaaDoor
