/- The rotation of a word: the contracts of sum.rotated and the document's own. -/
import Derived.Test.YtgffbdkngnpfpaaDoorProg
import Derived.Test.YtgffbdkngnpfpaaDoorSha
import Derived.WalkSpells
import Derived.WalkLawsBesides
namespace Go.Proofs.YtgffbdkngnpfpaaDoor
open Go.RowKit

theorem and31 (n : Nat) (h1 : 1 ≤ n) (h2 : n ≤ 31) : bits .and .u64 (IntKind.u64.wrap (-(n : Int))) 31 = ((32 - n : Nat) : Int) := by
  have hw : IntKind.u64.wrap (-(n : Int)) = 18446744073709551616 - (n : Int) := by rw [IntKind.wrap_u64]; omega
  have hb : (18446744073709551616 - (n : Int)).toNat = 18446744073709551616 - n := by omega
  rw [hw, u64_and _ _ (by omega) (by omega) (by omega) (by omega), hb]
  rw [show (31 : Int).toNat = 31 from rfl, nat_mask5]
  omega

set_option maxHeartbeats 400000 in
theorem rotated_any (x : UInt32) (n : Nat) (h1 : 1 ≤ n) (h2 : n ≤ 31) (w : World) :
    Calls Tryd.prog 80 #[.int .u32 (wd x), .int .i64 (n : Int)] w fun e w' => e = .returned (.int .u32 (wd (rotr x n))) ∧ w' = w := by
  have h := and31 n h1 h2
  have hr := wd_rot x n h1 h2
  generalize hc : 32 - n = c at *
  have hd : IntKind.u64.wrap (32 - (c : Int)) = n := by rw [IntKind.wrap_u64]; omega
  have hm : min c 32 = c := by omega
  have hn : min n 32 = n := by omega
  clear hc
  go_enter Tryd.func80, Tryd.ntmps80
  go_wp2
  go_ret
  rw [IntKind.wrap_u32'] at hr
  rw [← hr]
  exact ⟨rfl, rfl⟩

theorem rotated_int (x : UInt32) (m : Int) (h1 : 1 ≤ m) (h2 : m ≤ 31) (w : World) :
    Calls Tryd.prog 80 #[.int .u32 (wd x), .int .i64 m] w fun e w' => e = .returned (.int .u32 (wd (rotr x m.toNat))) ∧ w' = w := by
  obtain ⟨n, rfl⟩ := Int.eq_ofNat_of_zero_le (show 0 ≤ m by omega)
  exact rotated_any x n (by omega) (by omega) w

end Go.Proofs.YtgffbdkngnpfpaaDoor
