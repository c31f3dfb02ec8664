/- wire.GetText: its contract. -/
import Derived.Test.YtnijnphalhfabaaWGet
namespace Go.Proofs.Ytnijnphalhfabaa
open Go.RowKit

end Go.Proofs.Ytnijnphalhfabaa
