/- What the program's text lays down of a byte: its zero, its cells, its bytes. -/
import Derived.Test.YtnijnphalhfabaaProg
import Derived.Test.YtnijnphalhfabaaMem
namespace Go.Proofs.Ytnijnphalhfabaa
open Go.RowKit

theorem info_u8 : (Try.prog.info? 5).map (fun i => (i.zero, i.size, i.bytes)) = some (some (.int .u8 0), 1, 1) := by kernel_rfl
end Go.Proofs.Ytnijnphalhfabaa
