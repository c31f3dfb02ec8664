/-
  DERIVED. GIVEN WITH THE SEED: THE CARDS: each row of YtchpgngphgjmnaaDoorRows.lean that lists a variable, with what it lists TIED to the program's text (the seventh form; the later family's looks); each row that meets fmt, with fmt's text TOLD by the authors' own Lean function (tested against real Go, not proved from fmt's source: count such statements apart). THE CARD IS WHAT COUNTS. Prove the row's statement (the work); the ties are given (YtchpgngphgjmnaaDoorTie.lean); close each card by the builder's one call (the guide's Derived/Test/ToyasCard.lean, 'card_holds'). Laid BY PROGRAM, IN A SANDBOX (cutbox-door.mjs). By AI agents, Wed Nov 11 2026. No macro, syntax, notation, axiom, sorry.
-/
import Derived.Test.YtchpgngphgjmnaaDoorRows
import GoSem.ClaimSeven
namespace Go.Proofs.YtchpgngphgjmnaaDoor
namespace Rows

/-- THE TIED CARD OF 'cartularykeep.StepBack'. -/
def stepBackCard : Claim7 := { stood := { row := stepBackRow, standIns := [], harness := (true, "216d9716a1c1e194e38b57e5543e6a135e9f0c1b0887cd4ee78707eb6b9d57a1"), looks := false }, kinds := [], alts := [], laidByText := true, laidKinds := [.data], laidTests := true, laidLooks := .later }
def StepBackCardSaid : Prop := Claim7.holds Tryd.pinned (.plain (OpenSpec.ofChange stepBackSpec)) stepBackCard

/-- THE TIED CARD OF 'cartularykeep.StepOnly'. -/
def stepOnlyCard : Claim7 := { stood := { row := stepOnlyRow, standIns := [], harness := (true, "216d9716a1c1e194e38b57e5543e6a135e9f0c1b0887cd4ee78707eb6b9d57a1"), looks := false }, kinds := [], alts := [], laidByText := true, laidKinds := [.data], laidTests := true, laidLooks := .later }
def StepOnlyCardSaid : Prop := Claim7.holds Tryd.pinned (.plain (OpenSpec.ofChange stepOnlySpec)) stepOnlyCard

/-- THE TIED CARD OF 'cartularykeep.StepOrder'. -/
def stepOrderCard : Claim7 := { stood := { row := stepOrderRow, standIns := [], harness := (true, "216d9716a1c1e194e38b57e5543e6a135e9f0c1b0887cd4ee78707eb6b9d57a1"), looks := false }, kinds := [], alts := [], laidByText := true, laidKinds := [.data], laidTests := true, laidLooks := .later }
def StepOrderCardSaid : Prop := Claim7.holds Tryd.pinned (.plain (OpenSpec.ofChange stepOrderSpec)) stepOrderCard

/-- THE TIED CARD OF 'cartularykeep.StepSealed'. -/
def stepSealedCard : Claim7 := { stood := { row := stepSealedRow, standIns := [], harness := (true, "216d9716a1c1e194e38b57e5543e6a135e9f0c1b0887cd4ee78707eb6b9d57a1"), looks := false }, kinds := [], alts := [], laidByText := true, laidKinds := [.data], laidTests := true, laidLooks := .later }
def StepSealedCardSaid : Prop := Claim7.holds Tryd.pinned (.plain (OpenSpec.ofChange stepSealedSpec)) stepSealedCard

/-- THE SECOND FORM's CARD OF 'cartularykeep.StepBack'. -/
def stepBackUptoCard : Claim7 := { stood := { row := stepBackUptoRow, standIns := [], harness := (true, "216d9716a1c1e194e38b57e5543e6a135e9f0c1b0887cd4ee78707eb6b9d57a1"), looks := false }, kinds := [], alts := [], laidByText := true, laidKinds := [.data], laidTests := true, laidLooks := .later }
def StepBackUptoCardSaid : Prop := Claim7.holds Tryd.pinned (.plain (OpenSpec.upto stepBackSpec)) stepBackUptoCard

/-- THE SECOND FORM's CARD OF 'cartularykeep.StepOnly'. -/
def stepOnlyUptoCard : Claim7 := { stood := { row := stepOnlyUptoRow, standIns := [], harness := (true, "216d9716a1c1e194e38b57e5543e6a135e9f0c1b0887cd4ee78707eb6b9d57a1"), looks := false }, kinds := [], alts := [], laidByText := true, laidKinds := [.data], laidTests := true, laidLooks := .later }
def StepOnlyUptoCardSaid : Prop := Claim7.holds Tryd.pinned (.plain (OpenSpec.upto stepOnlySpec)) stepOnlyUptoCard

/-- THE SECOND FORM's CARD OF 'cartularykeep.StepOrder'. -/
def stepOrderUptoCard : Claim7 := { stood := { row := stepOrderUptoRow, standIns := [], harness := (true, "216d9716a1c1e194e38b57e5543e6a135e9f0c1b0887cd4ee78707eb6b9d57a1"), looks := false }, kinds := [], alts := [], laidByText := true, laidKinds := [.data], laidTests := true, laidLooks := .later }
def StepOrderUptoCardSaid : Prop := Claim7.holds Tryd.pinned (.plain (OpenSpec.upto stepOrderSpec)) stepOrderUptoCard

/-- THE SECOND FORM's CARD OF 'cartularykeep.StepSealed'. -/
def stepSealedUptoCard : Claim7 := { stood := { row := stepSealedUptoRow, standIns := [], harness := (true, "216d9716a1c1e194e38b57e5543e6a135e9f0c1b0887cd4ee78707eb6b9d57a1"), looks := false }, kinds := [], alts := [], laidByText := true, laidKinds := [.data], laidTests := true, laidLooks := .later }
def StepSealedUptoCardSaid : Prop := Claim7.holds Tryd.pinned (.plain (OpenSpec.upto stepSealedSpec)) stepSealedUptoCard
end Rows
end Go.Proofs.YtchpgngphgjmnaaDoor
