/- wire.GetText: its contract. -/
import Derived.Test.YtngeiagpodgabaaWGet
namespace Go.Proofs.Ytngeiagpodgabaa
open Go.RowKit

end Go.Proofs.Ytngeiagpodgabaa
