/-
  DERIVED. GIVEN WITH THE SEED: THE CARDS: each row of YtkcnogmjnmnbdaaGreatDoorRows.lean that lists a variable, with what it lists TIED to the program's text (the seventh form; the later family's looks); each row that meets fmt, with fmt's text TOLD by the authors' own Lean function (tested against real Go, not proved from fmt's source: count such statements apart). THE CARD IS WHAT COUNTS. Prove the row's statement (the work); the ties are given (YtkcnogmjnmnbdaaGreatDoorTie.lean); close each card by the builder's one call (the guide's Derived/Test/ToyasCard.lean, 'card_holds'). Laid BY PROGRAM, IN A SANDBOX (cutbox-door.mjs). By AI agents, Wed Nov 11 2026. No macro, syntax, notation, axiom, sorry.
-/
import Derived.Test.YtkcnogmjnmnbdaaGreatDoorRows
import GoSem.ClaimSeven
namespace Go.Proofs.YtkcnogmjnmnbdaaGreatDoor
namespace Rows

/-- THE TIED CARD OF 'cartularylaw.StoreReaches'. -/
def storeReachesCard : Claim7 := { stood := { row := storeReachesRow, standIns := [], harness := (true, "b9ed981b9086687a6e6490f6c16a5d326a54e51906235ce01e08ce6653a26786"), looks := false }, kinds := [], alts := [], laidByText := true, laidKinds := [.data], laidTests := true, laidLooks := .later }
def StoreReachesCardSaid : Prop := Claim7.holds Tryz.pinned (.plain (OpenSpec.ofChange storeReachesSpec)) storeReachesCard

/-- THE TIED CARD OF 'cartularylaw.StoreSweeps'. -/
def storeSweepsCard : Claim7 := { stood := { row := storeSweepsRow, standIns := [], harness := (true, "b9ed981b9086687a6e6490f6c16a5d326a54e51906235ce01e08ce6653a26786"), looks := false }, kinds := [], alts := [], laidByText := true, laidKinds := [.data], laidTests := true, laidLooks := .later }
def StoreSweepsCardSaid : Prop := Claim7.holds Tryz.pinned (.plain (OpenSpec.ofChange storeSweepsSpec)) storeSweepsCard

/-- THE TIED CARD OF 'cartularykeep.StoreClosed'. -/
def storeClosedCard : Claim7 := { stood := { row := storeClosedRow, standIns := [], harness := (true, "b9ed981b9086687a6e6490f6c16a5d326a54e51906235ce01e08ce6653a26786"), looks := false }, kinds := [], alts := [], laidByText := true, laidKinds := [.data], laidTests := true, laidLooks := .later }
def StoreClosedCardSaid : Prop := Claim7.holds Tryz.pinned (.plain (OpenSpec.ofChange storeClosedSpec)) storeClosedCard

/-- THE TIED CARD OF 'cartularykeep.StoreSwept'. -/
def storeSweptCard : Claim7 := { stood := { row := storeSweptRow, standIns := [], harness := (true, "b9ed981b9086687a6e6490f6c16a5d326a54e51906235ce01e08ce6653a26786"), looks := false }, kinds := [], alts := [], laidByText := true, laidKinds := [.data], laidTests := true, laidLooks := .later }
def StoreSweptCardSaid : Prop := Claim7.holds Tryz.pinned (.plain (OpenSpec.ofChange storeSweptSpec)) storeSweptCard

/-- THE SECOND FORM's CARD OF 'cartularylaw.StoreReaches'. -/
def storeReachesUptoCard : Claim7 := { stood := { row := storeReachesUptoRow, standIns := [], harness := (true, "b9ed981b9086687a6e6490f6c16a5d326a54e51906235ce01e08ce6653a26786"), looks := false }, kinds := [], alts := [], laidByText := true, laidKinds := [.data], laidTests := true, laidLooks := .later }
def StoreReachesUptoCardSaid : Prop := Claim7.holds Tryz.pinned (.plain (OpenSpec.upto storeReachesSpec)) storeReachesUptoCard

/-- THE SECOND FORM's CARD OF 'cartularylaw.StoreSweeps'. -/
def storeSweepsUptoCard : Claim7 := { stood := { row := storeSweepsUptoRow, standIns := [], harness := (true, "b9ed981b9086687a6e6490f6c16a5d326a54e51906235ce01e08ce6653a26786"), looks := false }, kinds := [], alts := [], laidByText := true, laidKinds := [.data], laidTests := true, laidLooks := .later }
def StoreSweepsUptoCardSaid : Prop := Claim7.holds Tryz.pinned (.plain (OpenSpec.upto storeSweepsSpec)) storeSweepsUptoCard

/-- THE SECOND FORM's CARD OF 'cartularykeep.StoreClosed'. -/
def storeClosedUptoCard : Claim7 := { stood := { row := storeClosedUptoRow, standIns := [], harness := (true, "b9ed981b9086687a6e6490f6c16a5d326a54e51906235ce01e08ce6653a26786"), looks := false }, kinds := [], alts := [], laidByText := true, laidKinds := [.data], laidTests := true, laidLooks := .later }
def StoreClosedUptoCardSaid : Prop := Claim7.holds Tryz.pinned (.plain (OpenSpec.upto storeClosedSpec)) storeClosedUptoCard

/-- THE SECOND FORM's CARD OF 'cartularykeep.StoreSwept'. -/
def storeSweptUptoCard : Claim7 := { stood := { row := storeSweptUptoRow, standIns := [], harness := (true, "b9ed981b9086687a6e6490f6c16a5d326a54e51906235ce01e08ce6653a26786"), looks := false }, kinds := [], alts := [], laidByText := true, laidKinds := [.data], laidTests := true, laidLooks := .later }
def StoreSweptUptoCardSaid : Prop := Claim7.holds Tryz.pinned (.plain (OpenSpec.upto storeSweptSpec)) storeSweptUptoCard
end Rows
end Go.Proofs.YtkcnogmjnmnbdaaGreatDoor
