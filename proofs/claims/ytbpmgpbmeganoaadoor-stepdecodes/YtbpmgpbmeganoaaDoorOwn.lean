/- Two facts of the program that every claim asks. -/
import Derived.Test.YtbpmgpbmeganoaaDoorRows
import Derived.WalkKit
import Derived.ProofKit
namespace Go.Proofs.YtbpmgpbmeganoaaDoor
open Go.ChangeShapes Go.WideShapes Go.ChangeAt Go.RowKit

theorem laidOut : laidOutB Tryd.prog = true := by kernel_rfl
theorem own : ownKnob Tryd.prog.godebug = none := by kernel_rfl
end Go.Proofs.YtbpmgpbmeganoaaDoor
