import Derived.Test.YtlfmfdbgchpjgaaExBa
namespace Go.Proofs.Ytlfmfdbgchpjgaa
open Wd Ex Go.RowKit Go.ChangeShapes Go.WideShapes Go.Sort
set_option linter.unusedVariables false
theorem back_walk {w : World} (ps : List Int) (A : Option Addr) (c : Nat) (hr : Row w w.heap.size A ps.length (ps.map (Value.int .i64))) (hok : ∀ y ∈ ps, (Lit.int .i64 y).wf = true) (hm : ps.length ≤ maxLen)
    (l : List Ext) (C : Option Addr) (d : Nat) (hx : Exs w 0 w.heap.size C l) (hs : Small l) (hm2 : l.length ≤ maxLen) (n : Int) (_ : (Lit.int .i64 n).wf = true) (_ : World) :
    Calls Try.prog 4 #[.slice A ps.length c, .slice C l.length d, .int .i64 n] w (TrueB w) := back_any n hr hx hs hm hm2
end Go.Proofs.Ytlfmfdbgchpjgaa
