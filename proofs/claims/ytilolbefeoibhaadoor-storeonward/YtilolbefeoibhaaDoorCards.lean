/-
  DERIVED. GIVEN WITH THE SEED: THE CARDS: each row of YtilolbefeoibhaaDoorRows.lean that lists a variable, with what it lists TIED to the program's text (the seventh form; the later family's looks); each row that meets fmt, with fmt's text TOLD by the authors' own Lean function (tested against real Go, not proved from fmt's source: count such statements apart). THE CARD IS WHAT COUNTS. Prove the row's statement (the work); the ties are given (YtilolbefeoibhaaDoorTie.lean); close each card by the builder's one call (the guide's Derived/Test/ToyasCard.lean, 'card_holds'). Laid BY PROGRAM, IN A SANDBOX (cutbox-door.mjs). By AI agents, Wed Nov 11 2026. No macro, syntax, notation, axiom, sorry.
-/
import Derived.Test.YtilolbefeoibhaaDoorRows
import GoSem.ClaimSeven
namespace Go.Proofs.YtilolbefeoibhaaDoor
namespace Rows

/-- THE TIED CARD OF 'cartularykeep.StoreBack'. -/
def storeBackCard : Claim7 := { stood := { row := storeBackRow, standIns := [], harness := (true, "8cfa95e3f2fe8ecc06f14a6e273b60e2827ba838ca2669f2bf2105a89582b0d9"), looks := false }, kinds := [], alts := [], laidByText := true, laidKinds := [.data], laidTests := true, laidLooks := .later }
def StoreBackCardSaid : Prop := Claim7.holds Tryd.pinned (.plain (OpenSpec.ofChange storeBackSpec)) storeBackCard

/-- THE TIED CARD OF 'cartularykeep.StoreOnward'. -/
def storeOnwardCard : Claim7 := { stood := { row := storeOnwardRow, standIns := [], harness := (true, "8cfa95e3f2fe8ecc06f14a6e273b60e2827ba838ca2669f2bf2105a89582b0d9"), looks := false }, kinds := [], alts := [], laidByText := true, laidKinds := [.data], laidTests := true, laidLooks := .later }
def StoreOnwardCardSaid : Prop := Claim7.holds Tryd.pinned (.plain (OpenSpec.ofChange storeOnwardSpec)) storeOnwardCard

/-- THE SECOND FORM's CARD OF 'cartularykeep.StoreBack'. -/
def storeBackUptoCard : Claim7 := { stood := { row := storeBackUptoRow, standIns := [], harness := (true, "8cfa95e3f2fe8ecc06f14a6e273b60e2827ba838ca2669f2bf2105a89582b0d9"), looks := false }, kinds := [], alts := [], laidByText := true, laidKinds := [.data], laidTests := true, laidLooks := .later }
def StoreBackUptoCardSaid : Prop := Claim7.holds Tryd.pinned (.plain (OpenSpec.upto storeBackSpec)) storeBackUptoCard

/-- THE SECOND FORM's CARD OF 'cartularykeep.StoreOnward'. -/
def storeOnwardUptoCard : Claim7 := { stood := { row := storeOnwardUptoRow, standIns := [], harness := (true, "8cfa95e3f2fe8ecc06f14a6e273b60e2827ba838ca2669f2bf2105a89582b0d9"), looks := false }, kinds := [], alts := [], laidByText := true, laidKinds := [.data], laidTests := true, laidLooks := .later }
def StoreOnwardUptoCardSaid : Prop := Claim7.holds Tryd.pinned (.plain (OpenSpec.upto storeOnwardSpec)) storeOnwardUptoCard
end Rows
end Go.Proofs.YtilolbefeoibhaaDoor
