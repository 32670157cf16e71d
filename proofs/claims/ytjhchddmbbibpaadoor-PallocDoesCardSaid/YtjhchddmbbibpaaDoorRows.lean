/-
  NARROWER THAN 'FOR EVERY INPUT', by the rows' own cells (each row's printed sentence says how): PallocDoes: laid · PallocRuns: laid · PallocOnce: laid · PallocAll: laid.
  DERIVED. THE GIVEN ROWS OF THIS SEAT. 4 by the template 'for every input the law returns true; each argument reads behind the call as it read before'; 0 by the template 'total and deterministic' (their statements: YtjhchddmbbibpaaDoorTotals.lean).
  GIVEN WITH THE SEED: the statements are not yours to turn. If you find one false, say at which input.
  Laid BY PROGRAM, IN A SANDBOX (cutbox-rows.mjs): the forced cells as the released guide's own fill.sh prints them over the translation 6e0bc94b76d399d1… (all of the seat's roots in one cut). By AI agents, Wed Nov 11 2026. No macro, syntax, notation, axiom, sorry.
-/
import Derived.Test.YtjhchddmbbibpaaDoorChecked
import GoSem.Claim
import GoSem.ClaimJoined
import GoSem.ClaimMapViews
import Derived.JoinedTies
import Derived.KernelRfl
namespace Go.Proofs.YtjhchddmbbibpaaDoor
/- THE CELL 'sum', in the pinned program and in every row, IS THE sha256 OF THE DUMP (.gsa) THAT YtjhchddmbbibpaaDoorProg.lean LOADS. Nothing in Lean hashes anything: it is a label: what it is worth is what the hold of that sum in a sandbox is worth. -/
noncomputable def Tryd.pinned : Pinned := { name := "ytjhchddmbbibpaadoor", sum := "6e0bc94b76d399d1d567531d2bbed73f5953a3dc12f9c294bd8271178b380af4", checked := Tryd.checked }
namespace Rows
def none {H : Type} : Left H := { results := [], args := [] }

/- WHAT THE LISTED PACKAGE-LEVEL VARIABLES READ AS WHEN THE CALL BEGINS. Each datum BY PROGRAM (the guide's laid-datum.mjs) off the statement by which the dump's own 'gosem.cut.vars' lays the variable. In a bare row this is a premise. The card (YtjhchddmbbibpaaDoorCards.lean) ties it to the program's text. -/
def laid_math_bits_deBruijn64tab {H : Type} : DataW H := .agg [.lit (.int .u8 0), .lit (.int .u8 1), .lit (.int .u8 56), .lit (.int .u8 2), .lit (.int .u8 57), .lit (.int .u8 49), .lit (.int .u8 28), .lit (.int .u8 3), .lit (.int .u8 61), .lit (.int .u8 58), .lit (.int .u8 42), .lit (.int .u8 50), .lit (.int .u8 38), .lit (.int .u8 29), .lit (.int .u8 17), .lit (.int .u8 4), .lit (.int .u8 62), .lit (.int .u8 47), .lit (.int .u8 59), .lit (.int .u8 36), .lit (.int .u8 45), .lit (.int .u8 43), .lit (.int .u8 51), .lit (.int .u8 22), .lit (.int .u8 53), .lit (.int .u8 39), .lit (.int .u8 33), .lit (.int .u8 30), .lit (.int .u8 24), .lit (.int .u8 18), .lit (.int .u8 12), .lit (.int .u8 5), .lit (.int .u8 63), .lit (.int .u8 55), .lit (.int .u8 48), .lit (.int .u8 27), .lit (.int .u8 60), .lit (.int .u8 41), .lit (.int .u8 37), .lit (.int .u8 16), .lit (.int .u8 46), .lit (.int .u8 35), .lit (.int .u8 44), .lit (.int .u8 21), .lit (.int .u8 52), .lit (.int .u8 32), .lit (.int .u8 23), .lit (.int .u8 11), .lit (.int .u8 54), .lit (.int .u8 26), .lit (.int .u8 40), .lit (.int .u8 15), .lit (.int .u8 34), .lit (.int .u8 20), .lit (.int .u8 31), .lit (.int .u8 10), .lit (.int .u8 25), .lit (.int .u8 14), .lit (.int .u8 19), .lit (.int .u8 9), .lit (.int .u8 13), .lit (.int .u8 8), .lit (.int .u8 7), .lit (.int .u8 6)]

/-- 'sumplaw12.PallocDoes': WHATEVER THE INPUT: true; the input reads as it did. -/
def pallocDoesSpec : ChangeSpec := { name := "pallocDoes", fn := fun _ => fun
  | [d1, d2, d3] => { results := [.lit (.bool true)], args := [d1, d2, d3] }
  | _ => none }
def pallocDoesRow : OpenClaim := { program := "ytjhchddmbbibpaadoor", sum := "6e0bc94b76d399d1d567531d2bbed73f5953a3dc12f9c294bd8271178b380af4", func := "sump/sumplaw12.PallocDoes", spec := "pallocDoes", named := ["math/bits.deBruijn64tab"], apart := false, laid := [("math/bits.deBruijn64tab", laid_math_bits_deBruijn64tab)] }
def PallocDoesSaid : Prop := pallocDoesRow.holds Tryd.pinned (OpenSpec.ofChange pallocDoesSpec)

/-- ITS FALSE NEIGHBOUR: 'it returns false'. Refute it at one input. -/
def pallocDoesWrong : ChangeSpec := { name := "pallocDoes", fn := fun _ => fun
  | [d1, d2, d3] => { results := [.lit (.bool false)], args := [d1, d2, d3] }
  | _ => none }
def PallocDoesWrongFalsely : Prop := pallocDoesRow.holds Tryd.pinned (OpenSpec.ofChange pallocDoesWrong)

/-- 'sumplaw12.PallocRuns': WHATEVER THE INPUT: true; the input reads as it did. -/
def pallocRunsSpec : ChangeSpec := { name := "pallocRuns", fn := fun _ => fun
  | [d1, d2, d3] => { results := [.lit (.bool true)], args := [d1, d2, d3] }
  | _ => none }
def pallocRunsRow : OpenClaim := { program := "ytjhchddmbbibpaadoor", sum := "6e0bc94b76d399d1d567531d2bbed73f5953a3dc12f9c294bd8271178b380af4", func := "sump/sumplaw12.PallocRuns", spec := "pallocRuns", named := ["math/bits.deBruijn64tab"], apart := false, laid := [("math/bits.deBruijn64tab", laid_math_bits_deBruijn64tab)] }
def PallocRunsSaid : Prop := pallocRunsRow.holds Tryd.pinned (OpenSpec.ofChange pallocRunsSpec)

/-- ITS FALSE NEIGHBOUR: 'it returns false'. Refute it at one input. -/
def pallocRunsWrong : ChangeSpec := { name := "pallocRuns", fn := fun _ => fun
  | [d1, d2, d3] => { results := [.lit (.bool false)], args := [d1, d2, d3] }
  | _ => none }
def PallocRunsWrongFalsely : Prop := pallocRunsRow.holds Tryd.pinned (OpenSpec.ofChange pallocRunsWrong)

/-- 'sumplaw12.PallocOnce': WHATEVER THE INPUT: true; the input reads as it did. -/
def pallocOnceSpec : ChangeSpec := { name := "pallocOnce", fn := fun _ => fun
  | [d1, d2, d3] => { results := [.lit (.bool true)], args := [d1, d2, d3] }
  | _ => none }
def pallocOnceRow : OpenClaim := { program := "ytjhchddmbbibpaadoor", sum := "6e0bc94b76d399d1d567531d2bbed73f5953a3dc12f9c294bd8271178b380af4", func := "sump/sumplaw12.PallocOnce", spec := "pallocOnce", named := ["math/bits.deBruijn64tab"], apart := false, laid := [("math/bits.deBruijn64tab", laid_math_bits_deBruijn64tab)] }
def PallocOnceSaid : Prop := pallocOnceRow.holds Tryd.pinned (OpenSpec.ofChange pallocOnceSpec)

/-- ITS FALSE NEIGHBOUR: 'it returns false'. Refute it at one input. -/
def pallocOnceWrong : ChangeSpec := { name := "pallocOnce", fn := fun _ => fun
  | [d1, d2, d3] => { results := [.lit (.bool false)], args := [d1, d2, d3] }
  | _ => none }
def PallocOnceWrongFalsely : Prop := pallocOnceRow.holds Tryd.pinned (OpenSpec.ofChange pallocOnceWrong)

/-- 'sumplaw12.PallocAll': WHATEVER THE INPUT: true; the input reads as it did. -/
def pallocAllSpec : ChangeSpec := { name := "pallocAll", fn := fun _ => fun
  | [d1, d2, d3] => { results := [.lit (.bool true)], args := [d1, d2, d3] }
  | _ => none }
def pallocAllRow : OpenClaim := { program := "ytjhchddmbbibpaadoor", sum := "6e0bc94b76d399d1d567531d2bbed73f5953a3dc12f9c294bd8271178b380af4", func := "sump/sumplaw12.PallocAll", spec := "pallocAll", named := ["math/bits.deBruijn64tab"], apart := false, laid := [("math/bits.deBruijn64tab", laid_math_bits_deBruijn64tab)] }
def PallocAllSaid : Prop := pallocAllRow.holds Tryd.pinned (OpenSpec.ofChange pallocAllSpec)

/-- ITS FALSE NEIGHBOUR: 'it returns false'. Refute it at one input. -/
def pallocAllWrong : ChangeSpec := { name := "pallocAll", fn := fun _ => fun
  | [d1, d2, d3] => { results := [.lit (.bool false)], args := [d1, d2, d3] }
  | _ => none }
def PallocAllWrongFalsely : Prop := pallocAllRow.holds Tryd.pinned (OpenSpec.ofChange pallocAllWrong)

/- THE SECOND FORM. 'bulk': how many values and letters a reading holds, each counted each time it is reached (what is shared counts as often as it is met; a slice's spare places count too). A statement '..UptoSaid' is the law's where the arguments, and the package variables that the reading takes, are together of bulk at most 1048576: NARROWER than '..Said'. Prove '..Said' where nothing that the law and all that it calls make is longer than what came in: it says more and counts as full. Else prove '..UptoSaid'. A law counts once. -/
mutual
def uptoBulk {H : Type} : DataW H → Nat
  | .lit (.string bytes) => bytes.length + 1
  | .lit _ => 1
  | .nil => 1
  | .ptr d => uptoBulk d + 1
  | .slice elems spare => uptoBulkAll elems + uptoBulkAll spare + 1
  | .agg parts => uptoBulkAll parts + 1
  | .iface _ d => uptoBulk d + 1
  | .map entries => uptoBulkEntries entries + 1
  | .held _ => 1
def uptoBulkAll {H : Type} : List (DataW H) → Nat
  | [] => 0
  | d :: r => uptoBulk d + uptoBulkAll r
def uptoBulkEntries {H : Type} : List (Lit × DataW H) → Nat
  | [] => 0
  | x :: r => uptoBulkEntry x + uptoBulkEntries r
def uptoBulkEntry {H : Type} : Lit × DataW H → Nat
  | (.string bytes, d) => bytes.length + uptoBulk d + 1
  | (_, d) => uptoBulk d + 1
 end
def uptoSmall : (H : Type) → List (DataW H) → Bool := fun _ ds => decide (uptoBulkAll ds ≤ 1048576)
def OpenSpec.upto (s : _root_.Go.ChangeSpec) : _root_.Go.OpenSpec := { _root_.Go.OpenSpec.ofChange s with cond := some uptoSmall }

/-- 'sumplaw12.PallocDoes', WHERE WHAT IT READS IS OF BULK AT MOST 1048576: true; the input reads as it did. -/
def pallocDoesUptoRow : OpenClaim := { program := "ytjhchddmbbibpaadoor", sum := "6e0bc94b76d399d1d567531d2bbed73f5953a3dc12f9c294bd8271178b380af4", func := "sump/sumplaw12.PallocDoes", spec := "pallocDoes", named := ["math/bits.deBruijn64tab"], apart := false, laid := [("math/bits.deBruijn64tab", laid_math_bits_deBruijn64tab)], narrowed := true }
def PallocDoesUptoSaid : Prop := pallocDoesUptoRow.holds Tryd.pinned (OpenSpec.upto pallocDoesSpec)

/-- 'sumplaw12.PallocRuns', WHERE WHAT IT READS IS OF BULK AT MOST 1048576: true; the input reads as it did. -/
def pallocRunsUptoRow : OpenClaim := { program := "ytjhchddmbbibpaadoor", sum := "6e0bc94b76d399d1d567531d2bbed73f5953a3dc12f9c294bd8271178b380af4", func := "sump/sumplaw12.PallocRuns", spec := "pallocRuns", named := ["math/bits.deBruijn64tab"], apart := false, laid := [("math/bits.deBruijn64tab", laid_math_bits_deBruijn64tab)], narrowed := true }
def PallocRunsUptoSaid : Prop := pallocRunsUptoRow.holds Tryd.pinned (OpenSpec.upto pallocRunsSpec)

/-- 'sumplaw12.PallocOnce', WHERE WHAT IT READS IS OF BULK AT MOST 1048576: true; the input reads as it did. -/
def pallocOnceUptoRow : OpenClaim := { program := "ytjhchddmbbibpaadoor", sum := "6e0bc94b76d399d1d567531d2bbed73f5953a3dc12f9c294bd8271178b380af4", func := "sump/sumplaw12.PallocOnce", spec := "pallocOnce", named := ["math/bits.deBruijn64tab"], apart := false, laid := [("math/bits.deBruijn64tab", laid_math_bits_deBruijn64tab)], narrowed := true }
def PallocOnceUptoSaid : Prop := pallocOnceUptoRow.holds Tryd.pinned (OpenSpec.upto pallocOnceSpec)

/-- 'sumplaw12.PallocAll', WHERE WHAT IT READS IS OF BULK AT MOST 1048576: true; the input reads as it did. -/
def pallocAllUptoRow : OpenClaim := { program := "ytjhchddmbbibpaadoor", sum := "6e0bc94b76d399d1d567531d2bbed73f5953a3dc12f9c294bd8271178b380af4", func := "sump/sumplaw12.PallocAll", spec := "pallocAll", named := ["math/bits.deBruijn64tab"], apart := false, laid := [("math/bits.deBruijn64tab", laid_math_bits_deBruijn64tab)], narrowed := true }
def PallocAllUptoSaid : Prop := pallocAllUptoRow.holds Tryd.pinned (OpenSpec.upto pallocAllSpec)

end Rows
end Go.Proofs.YtjhchddmbbibpaaDoor
