/- The arguments that are lists of structs, opened. -/
import Derived.Test.YtbpmgpbmeganoaaDoorLists
import Derived.Test.YtbpmgpbmeganoaaDoorWWrites
import Derived.Deep.Slices
import Derived.Deep.Fields
namespace Go.Proofs.YtbpmgpbmeganoaaDoor
open Go.ChangeShapes Go.WideShapes Go.ChangeAt Go.RowKit Go.Deep

section
variable {b : Nat} {H : Type} {enc : TypeId × Value → H} {w : World} {spare : Nat → Bool} {held : Bool}
/-- a put as data -/
def putDat (x : PutT) : DataW H := .agg [.lit (.int .i64 x.1), .lit (.int .i64 x.2.1), .lit (.string x.2.2.data.toList)]
theorem bulk_puts (L : List PutT) : wt L ≤ 16 * Rows.uptoBulkAll (L.map (putDat (H := H))) ∧ L.length ≤ Rows.uptoBulkAll (L.map (putDat (H := H))) := by
  induction L with
  | nil => simp [wt]
  | cons x L ih =>
    have e : x.2.2.data.toList.length = x.2.2.size := rfl
    simp only [List.map_cons, Rows.uptoBulkAll, putDat, Rows.uptoBulk, wt, List.length_cons, e]
    omega
end
end Go.Proofs.YtbpmgpbmeganoaaDoor
