/-
  DERIVED. GIVEN WITH THE SEED: THE CARDS: each row of YtnoojhkkojijpaaDoorRows.lean that lists a variable, with what it lists TIED to the program's text (the seventh form; the later family's looks); each row that meets fmt, with fmt's text TOLD by the authors' own Lean function (tested against real Go, not proved from fmt's source: count such statements apart). THE CARD IS WHAT COUNTS. Prove the row's statement (the work); the ties are given (YtnoojhkkojijpaaDoorTie.lean); close each card by the builder's one call (the guide's Derived/Test/ToyasCard.lean, 'card_holds'). Laid BY PROGRAM, IN A SANDBOX (cutbox-door.mjs). By AI agents, Wed Nov 11 2026. No macro, syntax, notation, axiom, sorry.
-/
import Derived.Test.YtnoojhkkojijpaaDoorRows
import GoSem.ClaimSeven
namespace Go.Proofs.YtnoojhkkojijpaaDoor
namespace Rows

/-- THE TIED CARD OF 'sumplaw09.EffectChecks'. -/
def effectChecksCard : Claim7 := { stood := { row := effectChecksRow, standIns := [], harness := (true, "3f0152f140427188f03517537199a6e046b4ff9d59f31fdd77ed42ea2e31c330"), looks := false }, kinds := [], alts := [], laidByText := true, laidKinds := [.data], laidTests := true, laidLooks := .later }
def EffectChecksCardSaid : Prop := Claim7.holds Tryd.pinned (.plain (OpenSpec.ofChange effectChecksSpec)) effectChecksCard

/-- THE TIED CARD OF 'sumplaw09.EffectTouches'. -/
def effectTouchesCard : Claim7 := { stood := { row := effectTouchesRow, standIns := [], harness := (true, "3f0152f140427188f03517537199a6e046b4ff9d59f31fdd77ed42ea2e31c330"), looks := false }, kinds := [], alts := [], laidByText := true, laidKinds := [.data], laidTests := true, laidLooks := .later }
def EffectTouchesCardSaid : Prop := Claim7.holds Tryd.pinned (.plain (OpenSpec.ofChange effectTouchesSpec)) effectTouchesCard

/-- THE TIED CARD OF 'sumplaw09.EffectShapes'. -/
def effectShapesCard : Claim7 := { stood := { row := effectShapesRow, standIns := [], harness := (true, "3f0152f140427188f03517537199a6e046b4ff9d59f31fdd77ed42ea2e31c330"), looks := false }, kinds := [], alts := [], laidByText := true, laidKinds := [.data], laidTests := true, laidLooks := .later }
def EffectShapesCardSaid : Prop := Claim7.holds Tryd.pinned (.plain (OpenSpec.ofChange effectShapesSpec)) effectShapesCard

/-- THE SECOND FORM's CARD OF 'sumplaw09.EffectChecks'. -/
def effectChecksUptoCard : Claim7 := { stood := { row := effectChecksUptoRow, standIns := [], harness := (true, "3f0152f140427188f03517537199a6e046b4ff9d59f31fdd77ed42ea2e31c330"), looks := false }, kinds := [], alts := [], laidByText := true, laidKinds := [.data], laidTests := true, laidLooks := .later }
def EffectChecksUptoCardSaid : Prop := Claim7.holds Tryd.pinned (.plain (OpenSpec.upto effectChecksSpec)) effectChecksUptoCard

/-- THE SECOND FORM's CARD OF 'sumplaw09.EffectTouches'. -/
def effectTouchesUptoCard : Claim7 := { stood := { row := effectTouchesUptoRow, standIns := [], harness := (true, "3f0152f140427188f03517537199a6e046b4ff9d59f31fdd77ed42ea2e31c330"), looks := false }, kinds := [], alts := [], laidByText := true, laidKinds := [.data], laidTests := true, laidLooks := .later }
def EffectTouchesUptoCardSaid : Prop := Claim7.holds Tryd.pinned (.plain (OpenSpec.upto effectTouchesSpec)) effectTouchesUptoCard

/-- THE SECOND FORM's CARD OF 'sumplaw09.EffectShapes'. -/
def effectShapesUptoCard : Claim7 := { stood := { row := effectShapesUptoRow, standIns := [], harness := (true, "3f0152f140427188f03517537199a6e046b4ff9d59f31fdd77ed42ea2e31c330"), looks := false }, kinds := [], alts := [], laidByText := true, laidKinds := [.data], laidTests := true, laidLooks := .later }
def EffectShapesUptoCardSaid : Prop := Claim7.holds Tryd.pinned (.plain (OpenSpec.upto effectShapesSpec)) effectShapesUptoCard
end Rows
end Go.Proofs.YtnoojhkkojijpaaDoor
