/- Two facts of the program that every claim asks. -/
import Derived.Test.YtpekjnifmhlopaaRows
import Derived.WalkKit
import Derived.ProofKit
namespace Go.Proofs.Ytpekjnifmhlopaa
open Go.ChangeShapes Go.WideShapes Go.ChangeAt Go.RowKit

theorem laidOut : laidOutB Try.prog = true := by kernel_rfl
theorem own : ownKnob Try.prog.godebug = none := by kernel_rfl
end Go.Proofs.Ytpekjnifmhlopaa
