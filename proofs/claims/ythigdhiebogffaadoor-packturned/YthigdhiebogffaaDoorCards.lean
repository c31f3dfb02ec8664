/-
  DERIVED. GIVEN WITH THE SEED: THE CARDS: each row of YthigdhiebogffaaDoorRows.lean that lists a variable, with what it lists TIED to the program's text (the seventh form; the later family's looks); each row that meets fmt, with fmt's text TOLD by the authors' own Lean function (tested against real Go, not proved from fmt's source: count such statements apart). THE CARD IS WHAT COUNTS. Prove the row's statement (the work); the ties are given (YthigdhiebogffaaDoorTie.lean); close each card by the builder's one call (the guide's Derived/Test/ToyasCard.lean, 'card_holds'). Laid BY PROGRAM, IN A SANDBOX (cutbox-door.mjs). By AI agents, Wed Nov 11 2026. No macro, syntax, notation, axiom, sorry.
-/
import Derived.Test.YthigdhiebogffaaDoorRows
import GoSem.ClaimSeven
namespace Go.Proofs.YthigdhiebogffaaDoor
namespace Rows

/-- THE TIED CARD OF 'cartularylaw.PackReads'. -/
def packReadsCard : Claim7 := { stood := { row := packReadsRow, standIns := [], harness := (true, "9556739eed40fbf7045379f3cad6774d86825217f800c8f5d3348dc06c5c8541"), looks := false }, kinds := [], alts := [], laidByText := true, laidKinds := [.data], laidTests := true, laidLooks := .later }
def PackReadsCardSaid : Prop := Claim7.holds Tryd.pinned (.plain (OpenSpec.ofChange packReadsSpec)) packReadsCard

/-- THE TIED CARD OF 'cartularylaw.PackWrites'. -/
def packWritesCard : Claim7 := { stood := { row := packWritesRow, standIns := [], harness := (true, "9556739eed40fbf7045379f3cad6774d86825217f800c8f5d3348dc06c5c8541"), looks := false }, kinds := [], alts := [], laidByText := true, laidKinds := [.data], laidTests := true, laidLooks := .later }
def PackWritesCardSaid : Prop := Claim7.holds Tryd.pinned (.plain (OpenSpec.ofChange packWritesSpec)) packWritesCard

/-- THE TIED CARD OF 'cartularykeep.PackBack'. -/
def packBackCard : Claim7 := { stood := { row := packBackRow, standIns := [], harness := (true, "9556739eed40fbf7045379f3cad6774d86825217f800c8f5d3348dc06c5c8541"), looks := false }, kinds := [], alts := [], laidByText := true, laidKinds := [.data], laidTests := true, laidLooks := .later }
def PackBackCardSaid : Prop := Claim7.holds Tryd.pinned (.plain (OpenSpec.ofChange packBackSpec)) packBackCard

/-- THE TIED CARD OF 'cartularykeep.PackTurned'. -/
def packTurnedCard : Claim7 := { stood := { row := packTurnedRow, standIns := [], harness := (true, "9556739eed40fbf7045379f3cad6774d86825217f800c8f5d3348dc06c5c8541"), looks := false }, kinds := [], alts := [], laidByText := true, laidKinds := [.data], laidTests := true, laidLooks := .later }
def PackTurnedCardSaid : Prop := Claim7.holds Tryd.pinned (.plain (OpenSpec.ofChange packTurnedSpec)) packTurnedCard

/-- THE TIED CARD OF 'cartularykeep.PackThin'. -/
def packThinCard : Claim7 := { stood := { row := packThinRow, standIns := [], harness := (true, "9556739eed40fbf7045379f3cad6774d86825217f800c8f5d3348dc06c5c8541"), looks := false }, kinds := [], alts := [], laidByText := true, laidKinds := [.data], laidTests := true, laidLooks := .later }
def PackThinCardSaid : Prop := Claim7.holds Tryd.pinned (.plain (OpenSpec.ofChange packThinSpec)) packThinCard

/-- THE SECOND FORM's CARD OF 'cartularylaw.PackReads'. -/
def packReadsUptoCard : Claim7 := { stood := { row := packReadsUptoRow, standIns := [], harness := (true, "9556739eed40fbf7045379f3cad6774d86825217f800c8f5d3348dc06c5c8541"), looks := false }, kinds := [], alts := [], laidByText := true, laidKinds := [.data], laidTests := true, laidLooks := .later }
def PackReadsUptoCardSaid : Prop := Claim7.holds Tryd.pinned (.plain (OpenSpec.upto packReadsSpec)) packReadsUptoCard

/-- THE SECOND FORM's CARD OF 'cartularylaw.PackWrites'. -/
def packWritesUptoCard : Claim7 := { stood := { row := packWritesUptoRow, standIns := [], harness := (true, "9556739eed40fbf7045379f3cad6774d86825217f800c8f5d3348dc06c5c8541"), looks := false }, kinds := [], alts := [], laidByText := true, laidKinds := [.data], laidTests := true, laidLooks := .later }
def PackWritesUptoCardSaid : Prop := Claim7.holds Tryd.pinned (.plain (OpenSpec.upto packWritesSpec)) packWritesUptoCard

/-- THE SECOND FORM's CARD OF 'cartularykeep.PackBack'. -/
def packBackUptoCard : Claim7 := { stood := { row := packBackUptoRow, standIns := [], harness := (true, "9556739eed40fbf7045379f3cad6774d86825217f800c8f5d3348dc06c5c8541"), looks := false }, kinds := [], alts := [], laidByText := true, laidKinds := [.data], laidTests := true, laidLooks := .later }
def PackBackUptoCardSaid : Prop := Claim7.holds Tryd.pinned (.plain (OpenSpec.upto packBackSpec)) packBackUptoCard

/-- THE SECOND FORM's CARD OF 'cartularykeep.PackTurned'. -/
def packTurnedUptoCard : Claim7 := { stood := { row := packTurnedUptoRow, standIns := [], harness := (true, "9556739eed40fbf7045379f3cad6774d86825217f800c8f5d3348dc06c5c8541"), looks := false }, kinds := [], alts := [], laidByText := true, laidKinds := [.data], laidTests := true, laidLooks := .later }
def PackTurnedUptoCardSaid : Prop := Claim7.holds Tryd.pinned (.plain (OpenSpec.upto packTurnedSpec)) packTurnedUptoCard

/-- THE SECOND FORM's CARD OF 'cartularykeep.PackThin'. -/
def packThinUptoCard : Claim7 := { stood := { row := packThinUptoRow, standIns := [], harness := (true, "9556739eed40fbf7045379f3cad6774d86825217f800c8f5d3348dc06c5c8541"), looks := false }, kinds := [], alts := [], laidByText := true, laidKinds := [.data], laidTests := true, laidLooks := .later }
def PackThinUptoCardSaid : Prop := Claim7.holds Tryd.pinned (.plain (OpenSpec.upto packThinSpec)) packThinUptoCard
end Rows
end Go.Proofs.YthigdhiebogffaaDoor
