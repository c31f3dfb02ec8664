/-
  DERIVED. GIVEN WITH THE SEED: THE CARDS: each row of YtbpmgpbmeganoaaDoorRows.lean that lists a variable, with what it lists TIED to the program's text (the seventh form; the later family's looks); each row that meets fmt, with fmt's text TOLD by the authors' own Lean function (tested against real Go, not proved from fmt's source: count such statements apart). THE CARD IS WHAT COUNTS. Prove the row's statement (the work); the ties are given (YtbpmgpbmeganoaaDoorTie.lean); close each card by the builder's one call (the guide's Derived/Test/ToyasCard.lean, 'card_holds'). Laid BY PROGRAM, IN A SANDBOX (cutbox-door.mjs). By AI agents, Wed Nov 11 2026. No macro, syntax, notation, axiom, sorry.
-/
import Derived.Test.YtbpmgpbmeganoaaDoorRows
import GoSem.ClaimSeven
namespace Go.Proofs.YtbpmgpbmeganoaaDoor
namespace Rows

/-- THE TIED CARD OF 'cartularylaw.StepEncodes'. -/
def stepEncodesCard : Claim7 := { stood := { row := stepEncodesRow, standIns := [], harness := (true, "81e3ec37c951115e2e8fa9648a4567b1a31e03e0cf026f494d96186bdaae519b"), looks := false }, kinds := [], alts := [], laidByText := true, laidKinds := [.data], laidTests := true, laidLooks := .later }
def StepEncodesCardSaid : Prop := Claim7.holds Tryd.pinned (.plain (OpenSpec.ofChange stepEncodesSpec)) stepEncodesCard

/-- THE TIED CARD OF 'cartularylaw.StepDecodes'. -/
def stepDecodesCard : Claim7 := { stood := { row := stepDecodesRow, standIns := [], harness := (true, "81e3ec37c951115e2e8fa9648a4567b1a31e03e0cf026f494d96186bdaae519b"), looks := false }, kinds := [], alts := [], laidByText := true, laidKinds := [.data], laidTests := true, laidLooks := .later }
def StepDecodesCardSaid : Prop := Claim7.holds Tryd.pinned (.plain (OpenSpec.ofChange stepDecodesSpec)) stepDecodesCard

/-- THE TIED CARD OF 'cartularylaw.StepSigns'. -/
def stepSignsCard : Claim7 := { stood := { row := stepSignsRow, standIns := [], harness := (true, "81e3ec37c951115e2e8fa9648a4567b1a31e03e0cf026f494d96186bdaae519b"), looks := false }, kinds := [], alts := [], laidByText := true, laidKinds := [.data], laidTests := true, laidLooks := .later }
def StepSignsCardSaid : Prop := Claim7.holds Tryd.pinned (.plain (OpenSpec.ofChange stepSignsSpec)) stepSignsCard

/-- THE TIED CARD OF 'cartularylaw.StepChecks'. -/
def stepChecksCard : Claim7 := { stood := { row := stepChecksRow, standIns := [], harness := (true, "81e3ec37c951115e2e8fa9648a4567b1a31e03e0cf026f494d96186bdaae519b"), looks := false }, kinds := [], alts := [], laidByText := true, laidKinds := [.data], laidTests := true, laidLooks := .later }
def StepChecksCardSaid : Prop := Claim7.holds Tryd.pinned (.plain (OpenSpec.ofChange stepChecksSpec)) stepChecksCard

/-- THE TIED CARD OF 'cartularylaw.StepReplays'. -/
def stepReplaysCard : Claim7 := { stood := { row := stepReplaysRow, standIns := [], harness := (true, "81e3ec37c951115e2e8fa9648a4567b1a31e03e0cf026f494d96186bdaae519b"), looks := false }, kinds := [], alts := [], laidByText := true, laidKinds := [.data], laidTests := true, laidLooks := .later }
def StepReplaysCardSaid : Prop := Claim7.holds Tryd.pinned (.plain (OpenSpec.ofChange stepReplaysSpec)) stepReplaysCard

/-- THE TIED CARD OF 'cartularykeep.StepBack'. -/
def stepBackCard : Claim7 := { stood := { row := stepBackRow, standIns := [], harness := (true, "81e3ec37c951115e2e8fa9648a4567b1a31e03e0cf026f494d96186bdaae519b"), looks := false }, kinds := [], alts := [], laidByText := true, laidKinds := [.data], laidTests := true, laidLooks := .later }
def StepBackCardSaid : Prop := Claim7.holds Tryd.pinned (.plain (OpenSpec.ofChange stepBackSpec)) stepBackCard

/-- THE TIED CARD OF 'cartularykeep.StepOnly'. -/
def stepOnlyCard : Claim7 := { stood := { row := stepOnlyRow, standIns := [], harness := (true, "81e3ec37c951115e2e8fa9648a4567b1a31e03e0cf026f494d96186bdaae519b"), looks := false }, kinds := [], alts := [], laidByText := true, laidKinds := [.data], laidTests := true, laidLooks := .later }
def StepOnlyCardSaid : Prop := Claim7.holds Tryd.pinned (.plain (OpenSpec.ofChange stepOnlySpec)) stepOnlyCard

/-- THE TIED CARD OF 'cartularykeep.StepOrder'. -/
def stepOrderCard : Claim7 := { stood := { row := stepOrderRow, standIns := [], harness := (true, "81e3ec37c951115e2e8fa9648a4567b1a31e03e0cf026f494d96186bdaae519b"), looks := false }, kinds := [], alts := [], laidByText := true, laidKinds := [.data], laidTests := true, laidLooks := .later }
def StepOrderCardSaid : Prop := Claim7.holds Tryd.pinned (.plain (OpenSpec.ofChange stepOrderSpec)) stepOrderCard

/-- THE TIED CARD OF 'cartularykeep.StepSealed'. -/
def stepSealedCard : Claim7 := { stood := { row := stepSealedRow, standIns := [], harness := (true, "81e3ec37c951115e2e8fa9648a4567b1a31e03e0cf026f494d96186bdaae519b"), looks := false }, kinds := [], alts := [], laidByText := true, laidKinds := [.data], laidTests := true, laidLooks := .later }
def StepSealedCardSaid : Prop := Claim7.holds Tryd.pinned (.plain (OpenSpec.ofChange stepSealedSpec)) stepSealedCard

/-- THE TIED CARD OF 'cartularykeep.StepParts'. -/
def stepPartsCard : Claim7 := { stood := { row := stepPartsRow, standIns := [], harness := (true, "81e3ec37c951115e2e8fa9648a4567b1a31e03e0cf026f494d96186bdaae519b"), looks := false }, kinds := [], alts := [], laidByText := true, laidKinds := [.data], laidTests := true, laidLooks := .later }
def StepPartsCardSaid : Prop := Claim7.holds Tryd.pinned (.plain (OpenSpec.ofChange stepPartsSpec)) stepPartsCard

/-- THE SECOND FORM's CARD OF 'cartularylaw.StepEncodes'. -/
def stepEncodesUptoCard : Claim7 := { stood := { row := stepEncodesUptoRow, standIns := [], harness := (true, "81e3ec37c951115e2e8fa9648a4567b1a31e03e0cf026f494d96186bdaae519b"), looks := false }, kinds := [], alts := [], laidByText := true, laidKinds := [.data], laidTests := true, laidLooks := .later }
def StepEncodesUptoCardSaid : Prop := Claim7.holds Tryd.pinned (.plain (OpenSpec.upto stepEncodesSpec)) stepEncodesUptoCard

/-- THE SECOND FORM's CARD OF 'cartularylaw.StepDecodes'. -/
def stepDecodesUptoCard : Claim7 := { stood := { row := stepDecodesUptoRow, standIns := [], harness := (true, "81e3ec37c951115e2e8fa9648a4567b1a31e03e0cf026f494d96186bdaae519b"), looks := false }, kinds := [], alts := [], laidByText := true, laidKinds := [.data], laidTests := true, laidLooks := .later }
def StepDecodesUptoCardSaid : Prop := Claim7.holds Tryd.pinned (.plain (OpenSpec.upto stepDecodesSpec)) stepDecodesUptoCard

/-- THE SECOND FORM's CARD OF 'cartularylaw.StepSigns'. -/
def stepSignsUptoCard : Claim7 := { stood := { row := stepSignsUptoRow, standIns := [], harness := (true, "81e3ec37c951115e2e8fa9648a4567b1a31e03e0cf026f494d96186bdaae519b"), looks := false }, kinds := [], alts := [], laidByText := true, laidKinds := [.data], laidTests := true, laidLooks := .later }
def StepSignsUptoCardSaid : Prop := Claim7.holds Tryd.pinned (.plain (OpenSpec.upto stepSignsSpec)) stepSignsUptoCard

/-- THE SECOND FORM's CARD OF 'cartularylaw.StepChecks'. -/
def stepChecksUptoCard : Claim7 := { stood := { row := stepChecksUptoRow, standIns := [], harness := (true, "81e3ec37c951115e2e8fa9648a4567b1a31e03e0cf026f494d96186bdaae519b"), looks := false }, kinds := [], alts := [], laidByText := true, laidKinds := [.data], laidTests := true, laidLooks := .later }
def StepChecksUptoCardSaid : Prop := Claim7.holds Tryd.pinned (.plain (OpenSpec.upto stepChecksSpec)) stepChecksUptoCard

/-- THE SECOND FORM's CARD OF 'cartularylaw.StepReplays'. -/
def stepReplaysUptoCard : Claim7 := { stood := { row := stepReplaysUptoRow, standIns := [], harness := (true, "81e3ec37c951115e2e8fa9648a4567b1a31e03e0cf026f494d96186bdaae519b"), looks := false }, kinds := [], alts := [], laidByText := true, laidKinds := [.data], laidTests := true, laidLooks := .later }
def StepReplaysUptoCardSaid : Prop := Claim7.holds Tryd.pinned (.plain (OpenSpec.upto stepReplaysSpec)) stepReplaysUptoCard

/-- THE SECOND FORM's CARD OF 'cartularykeep.StepBack'. -/
def stepBackUptoCard : Claim7 := { stood := { row := stepBackUptoRow, standIns := [], harness := (true, "81e3ec37c951115e2e8fa9648a4567b1a31e03e0cf026f494d96186bdaae519b"), looks := false }, kinds := [], alts := [], laidByText := true, laidKinds := [.data], laidTests := true, laidLooks := .later }
def StepBackUptoCardSaid : Prop := Claim7.holds Tryd.pinned (.plain (OpenSpec.upto stepBackSpec)) stepBackUptoCard

/-- THE SECOND FORM's CARD OF 'cartularykeep.StepOnly'. -/
def stepOnlyUptoCard : Claim7 := { stood := { row := stepOnlyUptoRow, standIns := [], harness := (true, "81e3ec37c951115e2e8fa9648a4567b1a31e03e0cf026f494d96186bdaae519b"), looks := false }, kinds := [], alts := [], laidByText := true, laidKinds := [.data], laidTests := true, laidLooks := .later }
def StepOnlyUptoCardSaid : Prop := Claim7.holds Tryd.pinned (.plain (OpenSpec.upto stepOnlySpec)) stepOnlyUptoCard

/-- THE SECOND FORM's CARD OF 'cartularykeep.StepOrder'. -/
def stepOrderUptoCard : Claim7 := { stood := { row := stepOrderUptoRow, standIns := [], harness := (true, "81e3ec37c951115e2e8fa9648a4567b1a31e03e0cf026f494d96186bdaae519b"), looks := false }, kinds := [], alts := [], laidByText := true, laidKinds := [.data], laidTests := true, laidLooks := .later }
def StepOrderUptoCardSaid : Prop := Claim7.holds Tryd.pinned (.plain (OpenSpec.upto stepOrderSpec)) stepOrderUptoCard

/-- THE SECOND FORM's CARD OF 'cartularykeep.StepSealed'. -/
def stepSealedUptoCard : Claim7 := { stood := { row := stepSealedUptoRow, standIns := [], harness := (true, "81e3ec37c951115e2e8fa9648a4567b1a31e03e0cf026f494d96186bdaae519b"), looks := false }, kinds := [], alts := [], laidByText := true, laidKinds := [.data], laidTests := true, laidLooks := .later }
def StepSealedUptoCardSaid : Prop := Claim7.holds Tryd.pinned (.plain (OpenSpec.upto stepSealedSpec)) stepSealedUptoCard

/-- THE SECOND FORM's CARD OF 'cartularykeep.StepParts'. -/
def stepPartsUptoCard : Claim7 := { stood := { row := stepPartsUptoRow, standIns := [], harness := (true, "81e3ec37c951115e2e8fa9648a4567b1a31e03e0cf026f494d96186bdaae519b"), looks := false }, kinds := [], alts := [], laidByText := true, laidKinds := [.data], laidTests := true, laidLooks := .later }
def StepPartsUptoCardSaid : Prop := Claim7.holds Tryd.pinned (.plain (OpenSpec.upto stepPartsSpec)) stepPartsUptoCard
end Rows
end Go.Proofs.YtbpmgpbmeganoaaDoor
