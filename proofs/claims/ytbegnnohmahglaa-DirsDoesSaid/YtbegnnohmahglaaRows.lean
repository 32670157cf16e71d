/-
  No cell of these rows narrows 'for every input' (looked for: loops, veiled, ifaces, maps, wideKeys, modest, calm, conditions, laid).
  DERIVED. THE GIVEN ROWS OF THIS SEAT. 3 by the template 'for every input the law returns true; each argument reads behind the call as it read before'; 0 by the template 'total and deterministic' (their statements: YtbegnnohmahglaaTotals.lean).
  GIVEN WITH THE SEED: the statements are not yours to turn. If you find one false, say at which input.
  Laid BY PROGRAM, IN A SANDBOX (cutbox-rows.mjs): the forced cells as the released guide's own fill.sh prints them over the translation f9f787e0e0c3fc31… (all of the seat's roots in one cut). By AI agents, Wed Nov 11 2026. No macro, syntax, notation, axiom, sorry.
-/
import Derived.Test.YtbegnnohmahglaaChecked
import GoSem.Claim
import GoSem.ClaimJoined
import GoSem.ClaimMapViews
import Derived.JoinedTies
import Derived.KernelRfl
namespace Go.Proofs.Ytbegnnohmahglaa
/- THE CELL 'sum', in the pinned program and in every row, IS THE sha256 OF THE DUMP (.gsa) THAT YtbegnnohmahglaaProg.lean LOADS. Nothing in Lean hashes anything: it is a label: what it is worth is what the hold of that sum in a sandbox is worth. -/
noncomputable def Try.pinned : Pinned := { name := "ytbegnnohmahglaa", sum := "f9f787e0e0c3fc31a6bfc204b1d8bef86c70ffa6bc428b6bef3356d409c7474d", checked := Try.checked }
namespace Rows
def none {H : Type} : Left H := { results := [], args := [] }

/-- 'sumplaw15.DirsDoes': WHATEVER THE INPUT: true; the input reads as it did. -/
def dirsDoesSpec : ChangeSpec := { name := "dirsDoes", fn := fun _ => fun
  | [d1, d2, d3] => { results := [.lit (.bool true)], args := [d1, d2, d3] }
  | _ => none }
def dirsDoesRow : OpenClaim := { program := "ytbegnnohmahglaa", sum := "f9f787e0e0c3fc31a6bfc204b1d8bef86c70ffa6bc428b6bef3356d409c7474d", func := "sump/sumplaw15.DirsDoes", spec := "dirsDoes", inPlace := ["slices.overlaps[sump/api.Entry]", "internal/bytealg.IndexByteString", "internal/bytealg.IndexString"], unfollowed := true, recurses := true, named := ["internal/bytealg.MaxLen"], apart := false }
def DirsDoesSaid : Prop := dirsDoesRow.holds Try.pinned (OpenSpec.ofChange dirsDoesSpec)

/-- ITS FALSE NEIGHBOUR: 'it returns false'. Refute it at one input. -/
def dirsDoesWrong : ChangeSpec := { name := "dirsDoes", fn := fun _ => fun
  | [d1, d2, d3] => { results := [.lit (.bool false)], args := [d1, d2, d3] }
  | _ => none }
def DirsDoesWrongFalsely : Prop := dirsDoesRow.holds Try.pinned (OpenSpec.ofChange dirsDoesWrong)

/-- 'sumplaw15.DirsStay': WHATEVER THE INPUT: true; the input reads as it did. -/
def dirsStaySpec : ChangeSpec := { name := "dirsStay", fn := fun _ => fun
  | [d1, d2, d3] => { results := [.lit (.bool true)], args := [d1, d2, d3] }
  | _ => none }
def dirsStayRow : OpenClaim := { program := "ytbegnnohmahglaa", sum := "f9f787e0e0c3fc31a6bfc204b1d8bef86c70ffa6bc428b6bef3356d409c7474d", func := "sump/sumplaw15.DirsStay", spec := "dirsStay", inPlace := ["slices.overlaps[sump/api.Entry]", "internal/bytealg.IndexByteString", "internal/bytealg.IndexString"], unfollowed := true, recurses := true, named := ["internal/bytealg.MaxLen"], apart := false }
def DirsStaySaid : Prop := dirsStayRow.holds Try.pinned (OpenSpec.ofChange dirsStaySpec)

/-- ITS FALSE NEIGHBOUR: 'it returns false'. Refute it at one input. -/
def dirsStayWrong : ChangeSpec := { name := "dirsStay", fn := fun _ => fun
  | [d1, d2, d3] => { results := [.lit (.bool false)], args := [d1, d2, d3] }
  | _ => none }
def DirsStayWrongFalsely : Prop := dirsStayRow.holds Try.pinned (OpenSpec.ofChange dirsStayWrong)

/-- 'sumplaw15.DirsFinds': WHATEVER THE INPUT: true; the input reads as it did. -/
def dirsFindsSpec : ChangeSpec := { name := "dirsFinds", fn := fun _ => fun
  | [d1, d2] => { results := [.lit (.bool true)], args := [d1, d2] }
  | _ => none }
def dirsFindsRow : OpenClaim := { program := "ytbegnnohmahglaa", sum := "f9f787e0e0c3fc31a6bfc204b1d8bef86c70ffa6bc428b6bef3356d409c7474d", func := "sump/sumplaw15.DirsFinds", spec := "dirsFinds", inPlace := ["slices.overlaps[sump/api.Entry]", "internal/bytealg.IndexByteString", "internal/bytealg.IndexString"], unfollowed := true, recurses := true, named := ["internal/bytealg.MaxLen"], apart := false }
def DirsFindsSaid : Prop := dirsFindsRow.holds Try.pinned (OpenSpec.ofChange dirsFindsSpec)

/-- ITS FALSE NEIGHBOUR: 'it returns false'. Refute it at one input. -/
def dirsFindsWrong : ChangeSpec := { name := "dirsFinds", fn := fun _ => fun
  | [d1, d2] => { results := [.lit (.bool false)], args := [d1, d2] }
  | _ => none }
def DirsFindsWrongFalsely : Prop := dirsFindsRow.holds Try.pinned (OpenSpec.ofChange dirsFindsWrong)

/- THE SECOND FORM. 'bulk': how many values and letters a reading holds, each counted each time it is reached (what is shared counts as often as it is met; a slice's spare places count too). A statement '..UptoSaid' is the law's where the arguments, and the package variables that the reading takes, are together of bulk at most 1048576: NARROWER than '..Said'. Prove '..Said' where nothing that the law and all that it calls make is longer than what came in: it says more and counts as full. Else prove '..UptoSaid'. A law counts once. -/
mutual
def uptoBulk {H : Type} : DataW H → Nat
  | .lit (.string bytes) => bytes.length + 1
  | .lit _ => 1
  | .nil => 1
  | .ptr d => uptoBulk d + 1
  | .slice elems spare => uptoBulkAll elems + uptoBulkAll spare + 1
  | .agg parts => uptoBulkAll parts + 1
  | .iface _ d => uptoBulk d + 1
  | .map entries => uptoBulkEntries entries + 1
  | .held _ => 1
def uptoBulkAll {H : Type} : List (DataW H) → Nat
  | [] => 0
  | d :: r => uptoBulk d + uptoBulkAll r
def uptoBulkEntries {H : Type} : List (Lit × DataW H) → Nat
  | [] => 0
  | x :: r => uptoBulkEntry x + uptoBulkEntries r
def uptoBulkEntry {H : Type} : Lit × DataW H → Nat
  | (.string bytes, d) => bytes.length + uptoBulk d + 1
  | (_, d) => uptoBulk d + 1
 end
def uptoSmall : (H : Type) → List (DataW H) → Bool := fun _ ds => decide (uptoBulkAll ds ≤ 1048576)
def OpenSpec.upto (s : _root_.Go.ChangeSpec) : _root_.Go.OpenSpec := { _root_.Go.OpenSpec.ofChange s with cond := some uptoSmall }

/-- 'sumplaw15.DirsDoes', WHERE WHAT IT READS IS OF BULK AT MOST 1048576: true; the input reads as it did. -/
def dirsDoesUptoRow : OpenClaim := { program := "ytbegnnohmahglaa", sum := "f9f787e0e0c3fc31a6bfc204b1d8bef86c70ffa6bc428b6bef3356d409c7474d", func := "sump/sumplaw15.DirsDoes", spec := "dirsDoes", inPlace := ["slices.overlaps[sump/api.Entry]", "internal/bytealg.IndexByteString", "internal/bytealg.IndexString"], unfollowed := true, recurses := true, named := ["internal/bytealg.MaxLen"], apart := false, narrowed := true }
def DirsDoesUptoSaid : Prop := dirsDoesUptoRow.holds Try.pinned (OpenSpec.upto dirsDoesSpec)

/-- 'sumplaw15.DirsStay', WHERE WHAT IT READS IS OF BULK AT MOST 1048576: true; the input reads as it did. -/
def dirsStayUptoRow : OpenClaim := { program := "ytbegnnohmahglaa", sum := "f9f787e0e0c3fc31a6bfc204b1d8bef86c70ffa6bc428b6bef3356d409c7474d", func := "sump/sumplaw15.DirsStay", spec := "dirsStay", inPlace := ["slices.overlaps[sump/api.Entry]", "internal/bytealg.IndexByteString", "internal/bytealg.IndexString"], unfollowed := true, recurses := true, named := ["internal/bytealg.MaxLen"], apart := false, narrowed := true }
def DirsStayUptoSaid : Prop := dirsStayUptoRow.holds Try.pinned (OpenSpec.upto dirsStaySpec)

/-- 'sumplaw15.DirsFinds', WHERE WHAT IT READS IS OF BULK AT MOST 1048576: true; the input reads as it did. -/
def dirsFindsUptoRow : OpenClaim := { program := "ytbegnnohmahglaa", sum := "f9f787e0e0c3fc31a6bfc204b1d8bef86c70ffa6bc428b6bef3356d409c7474d", func := "sump/sumplaw15.DirsFinds", spec := "dirsFinds", inPlace := ["slices.overlaps[sump/api.Entry]", "internal/bytealg.IndexByteString", "internal/bytealg.IndexString"], unfollowed := true, recurses := true, named := ["internal/bytealg.MaxLen"], apart := false, narrowed := true }
def DirsFindsUptoSaid : Prop := dirsFindsUptoRow.holds Try.pinned (OpenSpec.upto dirsFindsSpec)

end Rows
end Go.Proofs.Ytbegnnohmahglaa
