import Derived.Test.YtcimmfhbffofjaaRcAp
import Derived.Test.YtcimmfhbffofjaaRcAw
namespace Go.Proofs.Ytcimmfhbffofjaa
open Wd U Go.ChangeShapes Go.WideShapes Go.RowKit Go.Sort
set_option linter.unusedVariables false

theorem recordApart_walk (a : Eff) {w : World} (oa : a.Ok w w.heap.size) (b : Eff) (ob : b.Ok w w.heap.size) (r : Int) (_ : (Lit.int .i64 r).wf = true) (q : Int) (_ : (Lit.int .i64 q).wf = true) :
    Calls Try.prog 5 #[a.val, b.val, .int .i64 r, .int .i64 q] w (TrueB w) := apart_walk recAwake_true a b r q oa ob
end Go.Proofs.Ytcimmfhbffofjaa
