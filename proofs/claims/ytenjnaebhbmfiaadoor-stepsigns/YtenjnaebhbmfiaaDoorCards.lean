/-
  DERIVED. GIVEN WITH THE SEED: THE CARDS: each row of YtenjnaebhbmfiaaDoorRows.lean that lists a variable, with what it lists TIED to the program's text (the seventh form; the later family's looks); each row that meets fmt, with fmt's text TOLD by the authors' own Lean function (tested against real Go, not proved from fmt's source: count such statements apart). THE CARD IS WHAT COUNTS. Prove the row's statement (the work); the ties are given (YtenjnaebhbmfiaaDoorTie.lean); close each card by the builder's one call (the guide's Derived/Test/ToyasCard.lean, 'card_holds'). Laid BY PROGRAM, IN A SANDBOX (cutbox-door.mjs). By AI agents, Wed Nov 11 2026. No macro, syntax, notation, axiom, sorry.
-/
import Derived.Test.YtenjnaebhbmfiaaDoorRows
import GoSem.ClaimSeven
namespace Go.Proofs.YtenjnaebhbmfiaaDoor
namespace Rows

/-- THE TIED CARD OF 'cartularylaw.StepSigns'. -/
def stepSignsCard : Claim7 := { stood := { row := stepSignsRow, standIns := [], harness := (true, "34bf9d05dc2db06a1b0cbb305d1303aac549caa57c157874747d99b521de9b05"), looks := false }, kinds := [], alts := [], laidByText := true, laidKinds := [.data], laidTests := true, laidLooks := .later }
def StepSignsCardSaid : Prop := Claim7.holds Tryd.pinned (.plain (OpenSpec.ofChange stepSignsSpec)) stepSignsCard

/-- THE SECOND FORM's CARD OF 'cartularylaw.StepSigns'. -/
def stepSignsUptoCard : Claim7 := { stood := { row := stepSignsUptoRow, standIns := [], harness := (true, "34bf9d05dc2db06a1b0cbb305d1303aac549caa57c157874747d99b521de9b05"), looks := false }, kinds := [], alts := [], laidByText := true, laidKinds := [.data], laidTests := true, laidLooks := .later }
def StepSignsUptoCardSaid : Prop := Claim7.holds Tryd.pinned (.plain (OpenSpec.upto stepSignsSpec)) stepSignsUptoCard
end Rows
end Go.Proofs.YtenjnaebhbmfiaaDoor
