/- law.sums and keep.abc: each answers true. -/
import Derived.Test.YtngfgmcnpbjefaaDoorHex
namespace Go.Proofs.YtngfgmcnpbjefaaDoor
open Go.RowKit

theorem Sum_abc (w : World) (ht : Tab w) : Calls Tryd.prog 11 #[.string ⟨#[97, 98, 99]⟩] w fun e w' => e = .returned (.string (bs abcDigest)) ∧ Below w.heap.size w w' := by
  have h := Sum_any ⟨#[97, 98, 99]⟩ (by decide) w ht
  rw [show (ByteArray.mk #[97, 98, 99]).data.toList = [97, 98, 99] from rfl, sha_abc] at h
  exact h

set_option maxRecDepth 100000 in
set_option maxHeartbeats 1000000 in
theorem abc_any (w : World) (ht : Tab w) :
    Calls Tryd.prog 28 #[] w fun e w' => e = .returned (.bool true) ∧ Below w.heap.size w w' := by
  have hsz : (bs abcDigest).size = 32 := rfl
  go_enter Tryd.func28, Tryd.ntmps28
  go_wp2_with fail
  (with_reducible refine (Sum_abc _ ht).mono ?_)
  rintro e w1 ⟨rfl, b1⟩
  go_wp2_with fail
  have hx : (bs abcDigest).extract 0 4 = bs [0xba, 0x78, 0x16, 0xbf] := by decide
  rw [hx]
  (with_reducible refine (Hex_any (bs [0xba, 0x78, 0x16, 0xbf]) (by decide) _).mono ?_)
  rintro e w2 ⟨rfl, b2⟩
  rw [show bs (hexOf (bs [0xba, 0x78, 0x16, 0xbf]).data.toList) = ⟨#[98, 97, 55, 56, 49, 54, 98, 102]⟩ from by decide]
  go_wp2_with fail
  go_ret
  exact ⟨rfl, b1.trans (b2.mono b1.size)⟩

set_option maxRecDepth 100000 in
set_option maxHeartbeats 1000000 in
theorem sums_any (w : World) (ht : Tab w) :
    Calls Tryd.prog 13 #[] w fun e w' => e = .returned (.bool true) ∧ Below w.heap.size w w' := by
  go_enter Tryd.func13, Tryd.ntmps13
  go_wp2_with fail
  (with_reducible refine (Sum_abc _ ht).mono ?_)
  rintro e w1 ⟨rfl, b1⟩
  go_wp2_with fail
  (with_reducible refine (Hex_any (bs abcDigest) (by decide) _).mono ?_)
  rintro e w2 ⟨rfl, b2⟩
  rw [show bs (hexOf (bs abcDigest).data.toList) = ⟨#[98, 97, 55, 56, 49, 54, 98, 102, 56, 102, 48, 49, 99, 102, 101, 97, 52, 49, 52, 49, 52, 48, 100, 101, 53, 100, 97, 101, 50, 50, 50, 51, 98, 48, 48, 51, 54, 49, 97, 51, 57, 54, 49, 55, 55, 97, 57, 99, 98, 52, 49, 48, 102, 102, 54, 49, 102, 50, 48, 48, 49, 53, 97, 100]⟩ from by decide]
  go_wp2_with fail
  go_ret
  exact ⟨rfl, b1.trans (b2.mono b1.size)⟩
end Go.Proofs.YtngfgmcnpbjefaaDoor
