/-
  NARROWER THAN 'FOR EVERY INPUT', by the rows' own cells (each row's printed sentence says how): EffectChecks: laid · EffectTouches: laid · EffectShapes: laid.
  DERIVED. THE GIVEN ROWS OF THIS SEAT. 3 by the template 'for every input the law returns true; each argument reads behind the call as it read before'; 0 by the template 'total and deterministic' (their statements: YtnoojhkkojijpaaDoorTotals.lean).
  GIVEN WITH THE SEED: the statements are not yours to turn. If you find one false, say at which input.
  Laid BY PROGRAM, IN A SANDBOX (cutbox-rows.mjs): the forced cells as the released guide's own fill.sh prints them over the translation dd3ab63fc4a53425… (all of the seat's roots in one cut). By AI agents, Wed Nov 11 2026. No macro, syntax, notation, axiom, sorry.
-/
import Derived.Test.YtnoojhkkojijpaaDoorChecked
import GoSem.Claim
import GoSem.ClaimJoined
import GoSem.ClaimMapViews
import Derived.JoinedTies
import Derived.KernelRfl
namespace Go.Proofs.YtnoojhkkojijpaaDoor
/- THE CELL 'sum', in the pinned program and in every row, IS THE sha256 OF THE DUMP (.gsa) THAT YtnoojhkkojijpaaDoorProg.lean LOADS. Nothing in Lean hashes anything: it is a label: what it is worth is what the hold of that sum in a sandbox is worth. -/
noncomputable def Tryd.pinned : Pinned := { name := "ytnoojhkkojijpaadoor", sum := "dd3ab63fc4a5342529379a298ef7d56300e3f11f4fc29b359248cf6c10815ca3", checked := Tryd.checked }
namespace Rows
def none {H : Type} : Left H := { results := [], args := [] }

/- WHAT THE LISTED PACKAGE-LEVEL VARIABLES READ AS WHEN THE CALL BEGINS. Each datum BY PROGRAM (the guide's laid-datum.mjs) off the statement by which the dump's own 'gosem.cut.vars' lays the variable. In a bare row this is a premise. The card (YtnoojhkkojijpaaDoorCards.lean) ties it to the program's text. -/
def laid_sump_effect_kindWords {H : Type} : DataW H := .agg [.lit (.string []), .lit (.string [109, 97, 107, 101]), .lit (.string [108, 105, 110, 107]), .lit (.string [117, 110, 108, 105, 110, 107]), .lit (.string [114, 109, 100, 105, 114]), .lit (.string [114, 101, 110, 97, 109, 101]), .lit (.string [116, 114, 117, 110, 99]), .lit (.string [119, 114, 105, 116, 101]), .lit (.string [100, 114, 111, 112])]

/-- 'sumplaw09.EffectChecks': WHATEVER THE INPUT: true; the input reads as it did. -/
def effectChecksSpec : ChangeSpec := { name := "effectChecks", fn := fun _ => fun
  | [d1, d2, d3] => { results := [.lit (.bool true)], args := [d1, d2, d3] }
  | _ => none }
def effectChecksRow : OpenClaim := { program := "ytnoojhkkojijpaadoor", sum := "dd3ab63fc4a5342529379a298ef7d56300e3f11f4fc29b359248cf6c10815ca3", func := "sump/sumplaw09.EffectChecks", spec := "effectChecks", inPlace := ["internal/bytealg.IndexByteString", "internal/bytealg.IndexString"], named := ["sump/effect.kindWords", "internal/bytealg.MaxLen"], apart := false, laid := [("sump/effect.kindWords", laid_sump_effect_kindWords)] }
def EffectChecksSaid : Prop := effectChecksRow.holds Tryd.pinned (OpenSpec.ofChange effectChecksSpec)

/-- ITS FALSE NEIGHBOUR: 'it returns false'. Refute it at one input. -/
def effectChecksWrong : ChangeSpec := { name := "effectChecks", fn := fun _ => fun
  | [d1, d2, d3] => { results := [.lit (.bool false)], args := [d1, d2, d3] }
  | _ => none }
def EffectChecksWrongFalsely : Prop := effectChecksRow.holds Tryd.pinned (OpenSpec.ofChange effectChecksWrong)

/-- 'sumplaw09.EffectTouches': WHATEVER THE INPUT: true; the input reads as it did. -/
def effectTouchesSpec : ChangeSpec := { name := "effectTouches", fn := fun _ => fun
  | [d1, d2] => { results := [.lit (.bool true)], args := [d1, d2] }
  | _ => none }
def effectTouchesRow : OpenClaim := { program := "ytnoojhkkojijpaadoor", sum := "dd3ab63fc4a5342529379a298ef7d56300e3f11f4fc29b359248cf6c10815ca3", func := "sump/sumplaw09.EffectTouches", spec := "effectTouches", inPlace := ["internal/bytealg.IndexByteString", "internal/bytealg.IndexString"], unfollowed := true, recurses := true, named := ["sump/effect.kindWords", "internal/bytealg.MaxLen"], apart := false, laid := [("sump/effect.kindWords", laid_sump_effect_kindWords)] }
def EffectTouchesSaid : Prop := effectTouchesRow.holds Tryd.pinned (OpenSpec.ofChange effectTouchesSpec)

/-- ITS FALSE NEIGHBOUR: 'it returns false'. Refute it at one input. -/
def effectTouchesWrong : ChangeSpec := { name := "effectTouches", fn := fun _ => fun
  | [d1, d2] => { results := [.lit (.bool false)], args := [d1, d2] }
  | _ => none }
def EffectTouchesWrongFalsely : Prop := effectTouchesRow.holds Tryd.pinned (OpenSpec.ofChange effectTouchesWrong)

/-- 'sumplaw09.EffectShapes': WHATEVER THE INPUT: true; the input reads as it did. -/
def effectShapesSpec : ChangeSpec := { name := "effectShapes", fn := fun _ => fun
  | [d1, d2] => { results := [.lit (.bool true)], args := [d1, d2] }
  | _ => none }
def effectShapesRow : OpenClaim := { program := "ytnoojhkkojijpaadoor", sum := "dd3ab63fc4a5342529379a298ef7d56300e3f11f4fc29b359248cf6c10815ca3", func := "sump/sumplaw09.EffectShapes", spec := "effectShapes", inPlace := ["internal/bytealg.IndexByteString", "internal/bytealg.IndexString"], named := ["sump/effect.kindWords", "internal/bytealg.MaxLen"], apart := false, laid := [("sump/effect.kindWords", laid_sump_effect_kindWords)] }
def EffectShapesSaid : Prop := effectShapesRow.holds Tryd.pinned (OpenSpec.ofChange effectShapesSpec)

/-- ITS FALSE NEIGHBOUR: 'it returns false'. Refute it at one input. -/
def effectShapesWrong : ChangeSpec := { name := "effectShapes", fn := fun _ => fun
  | [d1, d2] => { results := [.lit (.bool false)], args := [d1, d2] }
  | _ => none }
def EffectShapesWrongFalsely : Prop := effectShapesRow.holds Tryd.pinned (OpenSpec.ofChange effectShapesWrong)

/- THE SECOND FORM. 'bulk': how many values and letters a reading holds, each counted each time it is reached (what is shared counts as often as it is met; a slice's spare places count too). A statement '..UptoSaid' is the law's where the arguments, and the package variables that the reading takes, are together of bulk at most 1048576: NARROWER than '..Said'. Prove '..Said' where nothing that the law and all that it calls make is longer than what came in: it says more and counts as full. Else prove '..UptoSaid'. A law counts once. -/
mutual
def uptoBulk {H : Type} : DataW H → Nat
  | .lit (.string bytes) => bytes.length + 1
  | .lit _ => 1
  | .nil => 1
  | .ptr d => uptoBulk d + 1
  | .slice elems spare => uptoBulkAll elems + uptoBulkAll spare + 1
  | .agg parts => uptoBulkAll parts + 1
  | .iface _ d => uptoBulk d + 1
  | .map entries => uptoBulkEntries entries + 1
  | .held _ => 1
def uptoBulkAll {H : Type} : List (DataW H) → Nat
  | [] => 0
  | d :: r => uptoBulk d + uptoBulkAll r
def uptoBulkEntries {H : Type} : List (Lit × DataW H) → Nat
  | [] => 0
  | x :: r => uptoBulkEntry x + uptoBulkEntries r
def uptoBulkEntry {H : Type} : Lit × DataW H → Nat
  | (.string bytes, d) => bytes.length + uptoBulk d + 1
  | (_, d) => uptoBulk d + 1
 end
def uptoSmall : (H : Type) → List (DataW H) → Bool := fun _ ds => decide (uptoBulkAll ds ≤ 1048576)
def OpenSpec.upto (s : _root_.Go.ChangeSpec) : _root_.Go.OpenSpec := { _root_.Go.OpenSpec.ofChange s with cond := some uptoSmall }

/-- 'sumplaw09.EffectChecks', WHERE WHAT IT READS IS OF BULK AT MOST 1048576: true; the input reads as it did. -/
def effectChecksUptoRow : OpenClaim := { program := "ytnoojhkkojijpaadoor", sum := "dd3ab63fc4a5342529379a298ef7d56300e3f11f4fc29b359248cf6c10815ca3", func := "sump/sumplaw09.EffectChecks", spec := "effectChecks", inPlace := ["internal/bytealg.IndexByteString", "internal/bytealg.IndexString"], named := ["sump/effect.kindWords", "internal/bytealg.MaxLen"], apart := false, laid := [("sump/effect.kindWords", laid_sump_effect_kindWords)], narrowed := true }
def EffectChecksUptoSaid : Prop := effectChecksUptoRow.holds Tryd.pinned (OpenSpec.upto effectChecksSpec)

/-- 'sumplaw09.EffectTouches', WHERE WHAT IT READS IS OF BULK AT MOST 1048576: true; the input reads as it did. -/
def effectTouchesUptoRow : OpenClaim := { program := "ytnoojhkkojijpaadoor", sum := "dd3ab63fc4a5342529379a298ef7d56300e3f11f4fc29b359248cf6c10815ca3", func := "sump/sumplaw09.EffectTouches", spec := "effectTouches", inPlace := ["internal/bytealg.IndexByteString", "internal/bytealg.IndexString"], unfollowed := true, recurses := true, named := ["sump/effect.kindWords", "internal/bytealg.MaxLen"], apart := false, laid := [("sump/effect.kindWords", laid_sump_effect_kindWords)], narrowed := true }
def EffectTouchesUptoSaid : Prop := effectTouchesUptoRow.holds Tryd.pinned (OpenSpec.upto effectTouchesSpec)

/-- 'sumplaw09.EffectShapes', WHERE WHAT IT READS IS OF BULK AT MOST 1048576: true; the input reads as it did. -/
def effectShapesUptoRow : OpenClaim := { program := "ytnoojhkkojijpaadoor", sum := "dd3ab63fc4a5342529379a298ef7d56300e3f11f4fc29b359248cf6c10815ca3", func := "sump/sumplaw09.EffectShapes", spec := "effectShapes", inPlace := ["internal/bytealg.IndexByteString", "internal/bytealg.IndexString"], named := ["sump/effect.kindWords", "internal/bytealg.MaxLen"], apart := false, laid := [("sump/effect.kindWords", laid_sump_effect_kindWords)], narrowed := true }
def EffectShapesUptoSaid : Prop := effectShapesUptoRow.holds Tryd.pinned (OpenSpec.upto effectShapesSpec)

end Rows
end Go.Proofs.YtnoojhkkojijpaaDoor
