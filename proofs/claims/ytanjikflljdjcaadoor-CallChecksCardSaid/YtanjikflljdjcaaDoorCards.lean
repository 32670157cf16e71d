/-
  DERIVED. GIVEN WITH THE SEED: THE CARDS: each row of YtanjikflljdjcaaDoorRows.lean that lists a variable, with what it lists TIED to the program's text (the seventh form; the later family's looks); each row that meets fmt, with fmt's text TOLD by the authors' own Lean function (tested against real Go, not proved from fmt's source: count such statements apart). THE CARD IS WHAT COUNTS. Prove the row's statement (the work); the ties are given (YtanjikflljdjcaaDoorTie.lean); close each card by the builder's one call (the guide's Derived/Test/ToyasCard.lean, 'card_holds'). Laid BY PROGRAM, IN A SANDBOX (cutbox-door.mjs). By AI agents, Wed Nov 11 2026. No macro, syntax, notation, axiom, sorry.
-/
import Derived.Test.YtanjikflljdjcaaDoorRows
import GoSem.ClaimSeven
namespace Go.Proofs.YtanjikflljdjcaaDoor
namespace Rows

/-- THE TIED CARD OF 'sumplaw25.CallChecks'. -/
def callChecksCard : Claim7 := { stood := { row := callChecksRow, standIns := [], harness := (true, "a1d6ce3f9b104de57ea4fc45dea624a410a5307edd4f54ea0f6bc7b886f90099"), looks := false }, kinds := [], alts := [], laidByText := true, laidKinds := [.data], laidTests := true, laidLooks := .later }
def CallChecksCardSaid : Prop := Claim7.holds Tryd.pinned (.plain (OpenSpec.ofChange callChecksSpec)) callChecksCard

/-- THE TIED CARD OF 'sumplaw25.CallWords'. -/
def callWordsCard : Claim7 := { stood := { row := callWordsRow, standIns := [], harness := (true, "a1d6ce3f9b104de57ea4fc45dea624a410a5307edd4f54ea0f6bc7b886f90099"), looks := false }, kinds := [], alts := [], laidByText := true, laidKinds := [.data], laidTests := true, laidLooks := .later }
def CallWordsCardSaid : Prop := Claim7.holds Tryd.pinned (.plain (OpenSpec.ofChange callWordsSpec)) callWordsCard

/-- THE SECOND FORM's CARD OF 'sumplaw25.CallChecks'. -/
def callChecksUptoCard : Claim7 := { stood := { row := callChecksUptoRow, standIns := [], harness := (true, "a1d6ce3f9b104de57ea4fc45dea624a410a5307edd4f54ea0f6bc7b886f90099"), looks := false }, kinds := [], alts := [], laidByText := true, laidKinds := [.data], laidTests := true, laidLooks := .later }
def CallChecksUptoCardSaid : Prop := Claim7.holds Tryd.pinned (.plain (OpenSpec.upto callChecksSpec)) callChecksUptoCard

/-- THE SECOND FORM's CARD OF 'sumplaw25.CallWords'. -/
def callWordsUptoCard : Claim7 := { stood := { row := callWordsUptoRow, standIns := [], harness := (true, "a1d6ce3f9b104de57ea4fc45dea624a410a5307edd4f54ea0f6bc7b886f90099"), looks := false }, kinds := [], alts := [], laidByText := true, laidKinds := [.data], laidTests := true, laidLooks := .later }
def CallWordsUptoCardSaid : Prop := Claim7.holds Tryd.pinned (.plain (OpenSpec.upto callWordsSpec)) callWordsUptoCard
end Rows
end Go.Proofs.YtanjikflljdjcaaDoor
