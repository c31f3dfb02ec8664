/- keep.pick: its contract. -/
import Derived.Test.YtnijnphalhfabaaProg
import Derived.Test.YtnijnphalhfabaaMem
namespace Go.Proofs.Ytnijnphalhfabaa
open Go.RowKit

def pk (k n : Int) : Int := if k.tmod n < 0 then k.tmod n + n else k.tmod n
theorem pk_in (k : Int) (n : Nat) (hn : 0 < n) : 0 ≤ pk k n ∧ pk k n < n := by
  have h1 := Int.tmod_lt_of_pos k (b := (n : Int)) (by omega)
  have h2 := Int.lt_tmod_of_pos k (b := (n : Int)) (by omega)
  unfold pk
  split <;> omega
theorem pick_any (k : Int) (n : Nat) (hn : 0 < n) (hn2 : n ≤ 281474976710656) (w : World) :
    Calls Try.prog 28 #[.int .i64 k, .int .i64 (n : Int)] w fun e w' => e = .returned (.int .i64 (pk k n)) ∧ w = w' := by
  have h1 := Int.tmod_lt_of_pos k (b := (n : Int)) (by omega)
  have h2 := Int.lt_tmod_of_pos k (b := (n : Int)) (by omega)
  by_cases h : k.tmod n < 0
  · have HP : Hid (pk k n = k.tmod n + n) := by show _ = _; unfold pk; rw [if_pos h]
    have hw : wrap64 (k.tmod n + n) = k.tmod n + n := IntWalk.wrap64_in _ (by omega)
    go_enter Try.func28, Try.ntmps28
    go_wp2_with fail
    go_ret
    exact ⟨by rw [HP.out]; rfl, rfl⟩
  · have HP : Hid (pk k n = k.tmod n) := by show _ = _; unfold pk; rw [if_neg h]
    go_enter Try.func28, Try.ntmps28
    go_wp2_with fail
    go_ret
    exact ⟨by rw [HP.out]; rfl, rfl⟩

end Go.Proofs.Ytnijnphalhfabaa
