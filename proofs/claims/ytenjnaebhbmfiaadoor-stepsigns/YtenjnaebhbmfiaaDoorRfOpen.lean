/- An argument that is a list of refs, opened: what it holds, how large it may be. -/
import Derived.Test.YtenjnaebhbmfiaaDoorRfMem
import Derived.Test.YtenjnaebhbmfiaaDoorWLaw
import Derived.Test.YtenjnaebhbmfiaaDoorWOpen
namespace Go.Proofs.YtenjnaebhbmfiaaDoor
open Go.ChangeShapes Go.WideShapes Go.ChangeAt Go.RowKit Go.Deep

section
variable {b : Nat} {H : Type} {enc : TypeId × Value → H} {w : World} {spare : Nat → Bool} {held : Bool}
def rfDat (x : Rf) : DataW H := .agg [.lit (.string x.name.data.toList), .lit (.string x.id.data.toList)]
end
end Go.Proofs.YtenjnaebhbmfiaaDoor
