import Derived.Test.YtlfmfdbgchpjgaaExBu
namespace Go.Proofs.Ytlfmfdbgchpjgaa
open Wd Ex Go.RowKit Go.ChangeShapes Go.WideShapes Go.Sort
set_option linter.unusedVariables false
theorem builds_walk {w : World} (ps : List Int) (A : Option Addr) (c : Nat) (hr : Row w w.heap.size A ps.length (ps.map (Value.int .i64))) (hok : ∀ y ∈ ps, (Lit.int .i64 y).wf = true) (hm : ps.length ≤ maxLen)
    (os : List Int) (C : Option Addr) (d : Nat) (hy : Row w w.heap.size C os.length (os.map (Value.int .i64))) (hok2 : ∀ y ∈ os, (Lit.int .i64 y).wf = true) (hm2 : os.length ≤ maxLen) (_ : World) :
    Calls Try.prog 5 #[.slice A ps.length c, .slice C os.length d] w (TrueB w) := builds_any hr hy hm hm2
end Go.Proofs.Ytlfmfdbgchpjgaa
