import Derived.Test.YtlfmfdbgchpjgaaExDo
namespace Go.Proofs.Ytlfmfdbgchpjgaa
open Wd Ex Go.RowKit Go.ChangeShapes Go.WideShapes Go.Sort
set_option linter.unusedVariables false
theorem i64_le {y : Int} (h : (Lit.int .i64 y).wf = true) : y ≤ 9223372036854775807 := by
  have h : IntKind.i64.min ≤ y ∧ y ≤ IntKind.i64.max := by simpa [Lit.wf] using h
  have m2 : IntKind.i64.max = 9223372036854775807 := by decide
  omega
theorem does_walk {w : World} (ps : List Int) (A : Option Addr) (c : Nat) (hr : Row w w.heap.size A ps.length (ps.map (Value.int .i64))) (hok : ∀ y ∈ ps, (Lit.int .i64 y).wf = true) (hm : ps.length ≤ maxLen)
    (l : List Ext) (C : Option Addr) (d : Nat) (hx : Exs w 0 w.heap.size C l) (hs : Small l) (hm2 : l.length ≤ maxLen) (i : Int) (_ : (Lit.int .i64 i).wf = true) (n : Int) (_ : (Lit.int .i64 n).wf = true) (_ : World) :
    Calls Try.prog 3 #[.slice A ps.length c, .slice C l.length d, .int .i64 i, .int .i64 n] w (TrueB w) := does_any i n hr (fun p hp => i64_le (hok p hp)) hx hs hm hm2
end Go.Proofs.Ytlfmfdbgchpjgaa
