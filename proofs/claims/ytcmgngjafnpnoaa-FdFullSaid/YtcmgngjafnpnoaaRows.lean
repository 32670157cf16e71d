/-
  No cell of these rows narrows 'for every input' (looked for: loops, veiled, ifaces, maps, wideKeys, modest, calm, conditions, laid).
  DERIVED. THE GIVEN ROWS OF THIS SEAT. 3 by the template 'for every input the law returns true; each argument reads behind the call as it read before'; 0 by the template 'total and deterministic' (their statements: YtcmgngjafnpnoaaTotals.lean).
  GIVEN WITH THE SEED: the statements are not yours to turn. If you find one false, say at which input.
  Laid BY PROGRAM, IN A SANDBOX (cutbox-rows.mjs): the forced cells as the released guide's own fill.sh prints them over the translation 20c6803103f4798b… (all of the seat's roots in one cut). By AI agents, Wed Nov 11 2026. No macro, syntax, notation, axiom, sorry.
-/
import Derived.Test.YtcmgngjafnpnoaaChecked
import GoSem.Claim
import GoSem.ClaimJoined
import GoSem.ClaimMapViews
import Derived.JoinedTies
import Derived.KernelRfl
namespace Go.Proofs.Ytcmgngjafnpnoaa
/- THE CELL 'sum', in the pinned program and in every row, IS THE sha256 OF THE DUMP (.gsa) THAT YtcmgngjafnpnoaaProg.lean LOADS. Nothing in Lean hashes anything: it is a label: what it is worth is what the hold of that sum in a sandbox is worth. -/
noncomputable def Try.pinned : Pinned := { name := "ytcmgngjafnpnoaa", sum := "20c6803103f4798bb044420eeb7b635b429cf665823b6b019e3211e0c1c95769", checked := Try.checked }
namespace Rows
def none {H : Type} : Left H := { results := [], args := [] }

/-- 'sumplaw24.FdDoes': WHATEVER THE INPUT: true; the input reads as it did. -/
def fdDoesSpec : ChangeSpec := { name := "fdDoes", fn := fun _ => fun
  | [d1, d2] => { results := [.lit (.bool true)], args := [d1, d2] }
  | _ => none }
def fdDoesRow : OpenClaim := { program := "ytcmgngjafnpnoaa", sum := "20c6803103f4798bb044420eeb7b635b429cf665823b6b019e3211e0c1c95769", func := "sump/sumplaw24.FdDoes", spec := "fdDoes", unfollowed := true, recurses := true, apart := false }
def FdDoesSaid : Prop := fdDoesRow.holds Try.pinned (OpenSpec.ofChange fdDoesSpec)

/-- ITS FALSE NEIGHBOUR: 'it returns false'. Refute it at one input. -/
def fdDoesWrong : ChangeSpec := { name := "fdDoes", fn := fun _ => fun
  | [d1, d2] => { results := [.lit (.bool false)], args := [d1, d2] }
  | _ => none }
def FdDoesWrongFalsely : Prop := fdDoesRow.holds Try.pinned (OpenSpec.ofChange fdDoesWrong)

/-- 'sumplaw24.FdOpens': WHATEVER THE INPUT: true; the input reads as it did. -/
def fdOpensSpec : ChangeSpec := { name := "fdOpens", fn := fun _ => fun
  | [d1, d2, d3] => { results := [.lit (.bool true)], args := [d1, d2, d3] }
  | _ => none }
def fdOpensRow : OpenClaim := { program := "ytcmgngjafnpnoaa", sum := "20c6803103f4798bb044420eeb7b635b429cf665823b6b019e3211e0c1c95769", func := "sump/sumplaw24.FdOpens", spec := "fdOpens", unfollowed := true, recurses := true, apart := false }
def FdOpensSaid : Prop := fdOpensRow.holds Try.pinned (OpenSpec.ofChange fdOpensSpec)

/-- ITS FALSE NEIGHBOUR: 'it returns false'. Refute it at one input. -/
def fdOpensWrong : ChangeSpec := { name := "fdOpens", fn := fun _ => fun
  | [d1, d2, d3] => { results := [.lit (.bool false)], args := [d1, d2, d3] }
  | _ => none }
def FdOpensWrongFalsely : Prop := fdOpensRow.holds Try.pinned (OpenSpec.ofChange fdOpensWrong)

/-- 'sumplaw24.FdFull': WHATEVER THE INPUT: true; the input reads as it did. -/
def fdFullSpec : ChangeSpec := { name := "fdFull", fn := fun _ => fun
  | [d1, d2, d3] => { results := [.lit (.bool true)], args := [d1, d2, d3] }
  | _ => none }
def fdFullRow : OpenClaim := { program := "ytcmgngjafnpnoaa", sum := "20c6803103f4798bb044420eeb7b635b429cf665823b6b019e3211e0c1c95769", func := "sump/sumplaw24.FdFull", spec := "fdFull", unfollowed := true, recurses := true, apart := false }
def FdFullSaid : Prop := fdFullRow.holds Try.pinned (OpenSpec.ofChange fdFullSpec)

/-- ITS FALSE NEIGHBOUR: 'it returns false'. Refute it at one input. -/
def fdFullWrong : ChangeSpec := { name := "fdFull", fn := fun _ => fun
  | [d1, d2, d3] => { results := [.lit (.bool false)], args := [d1, d2, d3] }
  | _ => none }
def FdFullWrongFalsely : Prop := fdFullRow.holds Try.pinned (OpenSpec.ofChange fdFullWrong)

/- THE SECOND FORM. 'bulk': how many values and letters a reading holds, each counted each time it is reached (what is shared counts as often as it is met; a slice's spare places count too). A statement '..UptoSaid' is the law's where the arguments, and the package variables that the reading takes, are together of bulk at most 1048576: NARROWER than '..Said'. Prove '..Said' where nothing that the law and all that it calls make is longer than what came in: it says more and counts as full. Else prove '..UptoSaid'. A law counts once. -/
mutual
def uptoBulk {H : Type} : DataW H → Nat
  | .lit (.string bytes) => bytes.length + 1
  | .lit _ => 1
  | .nil => 1
  | .ptr d => uptoBulk d + 1
  | .slice elems spare => uptoBulkAll elems + uptoBulkAll spare + 1
  | .agg parts => uptoBulkAll parts + 1
  | .iface _ d => uptoBulk d + 1
  | .map entries => uptoBulkEntries entries + 1
  | .held _ => 1
def uptoBulkAll {H : Type} : List (DataW H) → Nat
  | [] => 0
  | d :: r => uptoBulk d + uptoBulkAll r
def uptoBulkEntries {H : Type} : List (Lit × DataW H) → Nat
  | [] => 0
  | x :: r => uptoBulkEntry x + uptoBulkEntries r
def uptoBulkEntry {H : Type} : Lit × DataW H → Nat
  | (.string bytes, d) => bytes.length + uptoBulk d + 1
  | (_, d) => uptoBulk d + 1
 end
def uptoSmall : (H : Type) → List (DataW H) → Bool := fun _ ds => decide (uptoBulkAll ds ≤ 1048576)
def OpenSpec.upto (s : _root_.Go.ChangeSpec) : _root_.Go.OpenSpec := { _root_.Go.OpenSpec.ofChange s with cond := some uptoSmall }

/-- 'sumplaw24.FdDoes', WHERE WHAT IT READS IS OF BULK AT MOST 1048576: true; the input reads as it did. -/
def fdDoesUptoRow : OpenClaim := { program := "ytcmgngjafnpnoaa", sum := "20c6803103f4798bb044420eeb7b635b429cf665823b6b019e3211e0c1c95769", func := "sump/sumplaw24.FdDoes", spec := "fdDoes", unfollowed := true, recurses := true, apart := false, narrowed := true }
def FdDoesUptoSaid : Prop := fdDoesUptoRow.holds Try.pinned (OpenSpec.upto fdDoesSpec)

/-- 'sumplaw24.FdOpens', WHERE WHAT IT READS IS OF BULK AT MOST 1048576: true; the input reads as it did. -/
def fdOpensUptoRow : OpenClaim := { program := "ytcmgngjafnpnoaa", sum := "20c6803103f4798bb044420eeb7b635b429cf665823b6b019e3211e0c1c95769", func := "sump/sumplaw24.FdOpens", spec := "fdOpens", unfollowed := true, recurses := true, apart := false, narrowed := true }
def FdOpensUptoSaid : Prop := fdOpensUptoRow.holds Try.pinned (OpenSpec.upto fdOpensSpec)

/-- 'sumplaw24.FdFull', WHERE WHAT IT READS IS OF BULK AT MOST 1048576: true; the input reads as it did. -/
def fdFullUptoRow : OpenClaim := { program := "ytcmgngjafnpnoaa", sum := "20c6803103f4798bb044420eeb7b635b429cf665823b6b019e3211e0c1c95769", func := "sump/sumplaw24.FdFull", spec := "fdFull", unfollowed := true, recurses := true, apart := false, narrowed := true }
def FdFullUptoSaid : Prop := fdFullUptoRow.holds Try.pinned (OpenSpec.upto fdFullSpec)

end Rows
end Go.Proofs.Ytcmgngjafnpnoaa
