/- law.SumSeals: its walk. -/
import Derived.Test.YtngfgmcnpbjefaaDoorRefSeal
namespace Go.Proofs.YtngfgmcnpbjefaaDoor
open Go.RowKit

set_option maxHeartbeats 1000000 in
theorem SumSeals_any (key b : ByteArray) (hk : key.size ≤ 140737488355328) (hb : b.size ≤ 140737488355328) (w : World) (ht : Tab w) :
    Calls Tryd.prog 5 #[.string key, .string b] w fun e w' => e = .returned (.bool true) ∧ Below w.heap.size w w' := by
  go_enter Tryd.func5, Tryd.ntmps5
  go_wp2_with fail
  (with_reducible refine (Seal_any key b hk hb _ ht).mono ?_)
  rintro e w1 ⟨rfl, b1⟩
  have t1 := ht.below b1 ht.1
  go_wp2_with fail
  (with_reducible refine (RefSeal_any key b hk hb _).mono ?_)
  rintro e w2 ⟨rfl, b2⟩
  have t2 := t1.below b2 t1.1
  have B2 := b1.trans (b2.mono b1.size)
  generalize bs (sealOf key.data.toList b.data.toList) = d at *
  go_wp2_with fail
  (with_reducible refine (sums_any _ t2).mono ?_)
  rintro e w3 ⟨rfl, b3⟩
  go_wp2_with fail
  go_ret
  exact ⟨rfl, B2.trans (b3.mono B2.size)⟩
end Go.Proofs.YtngfgmcnpbjefaaDoor
