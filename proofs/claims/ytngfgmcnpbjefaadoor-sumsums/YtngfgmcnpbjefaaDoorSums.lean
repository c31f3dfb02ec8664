/- law.SumSums: its walk. -/
import Derived.Test.YtngfgmcnpbjefaaDoorRefSum
namespace Go.Proofs.YtngfgmcnpbjefaaDoor
open Go.RowKit

set_option maxHeartbeats 1000000 in
theorem SumSums_any (s : ByteArray) (hs : s.size ≤ 140737488355328) (w : World) (ht : Tab w) :
    Calls Tryd.prog 3 #[.string s] w fun e w' => e = .returned (.bool true) ∧ Below w.heap.size w w' := by
  go_enter Tryd.func3, Tryd.ntmps3
  go_wp2_with fail
  (with_reducible refine (Sum_any s (by omega) _ ht).mono ?_)
  rintro e w1 ⟨rfl, b1⟩
  have t1 := ht.below b1 ht.1
  go_wp2_with fail
  (with_reducible refine (RefSum_any s (by omega) _).mono ?_)
  rintro e w2 ⟨rfl, b2⟩
  have t2 := t1.below b2 t1.1
  have B2 := b1.trans (b2.mono b1.size)
  generalize bs (sha s.data.toList) = d at *
  go_wp2_with fail
  (with_reducible refine (sums_any _ t2).mono ?_)
  rintro e w3 ⟨rfl, b3⟩
  go_wp2_with fail
  go_ret
  exact ⟨rfl, B2.trans (b3.mono B2.size)⟩
end Go.Proofs.YtngfgmcnpbjefaaDoor
