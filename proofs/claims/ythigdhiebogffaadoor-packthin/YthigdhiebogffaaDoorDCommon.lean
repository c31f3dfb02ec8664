/- delta.commonBytes: its contract. -/
import Derived.Test.YthigdhiebogffaaDoorDMath
import Derived.BigQuiet
import Derived.Deep.QuietTactic
namespace Go.Proofs.YthigdhiebogffaaDoor
open Go.RowKit

/-- the loop: so many bytes are alike; of the world only the draws have changed -/
def CbRel (a b : ByteArray) (w : World) (i : Value) (wr : World) : Prop :=
  ∃ k : Nat, i = .int .i64 (k : Int) ∧ k ≤ a.size ∧ k ≤ b.size ∧ lcp a.data.toList b.data.toList = k + lcp (a.data.toList.drop k) (b.data.toList.drop k) ∧ Below w.heap.size w wr

set_option maxRecDepth 100000 in
set_option maxHeartbeats 1000000 in
theorem commonBytes_any (a b : ByteArray) (ha : a.size ≤ 8192) (_ : b.size ≤ 8192) (w : World) :
    Calls Tryd.prog 98 #[.string a, .string b] w fun x w' => x = .returned (.int .i64 (lcp a.data.toList b.data.toList : Int)) ∧ Below w.heap.size w w' := by
  go_enter Tryd.func98, Tryd.ntmps98
  go_wp2_with fail
  go_loopw [5] (fun i wr => CbRel a b w i wr) (fun i _ => a.size - (intOf i).toNat)
  case atStart => exact ⟨0, rfl, Nat.zero_le _, Nat.zero_le _, by simp, Below.refl _ _⟩
  case round =>
    obtain ⟨k, rfl, hka, hkb, hl, hB⟩ := hrel
    by_cases h1 : k < a.size
    · have i1 : (k : Int) < a.size := by omega
      by_cases h2 : k < b.size
      · have i2 : (k : Int) < b.size := by omega
        have HE : Hid (a.data.toList[k] = a[k]'h1 ∧ b.data.toList[k] = b[k]'h2) := Lib.hid ⟨rfl, rfl⟩
        by_cases h3 : (a[k]'h1) = (b[k]'h2)
        · have i3 : (((a[k]'h1).toNat : Int) == ((b[k]'h2).toNat : Int)) = true := by rw [h3]; simp
          have HL := Lib.hid hl
          clear hl
          go_wp2_with fail
          go_quiet (fail)
          go_wp2_with fail
          go_roundw
          case rel =>
            refine ⟨k + 1, by rw [Int.natCast_add]; rfl, h1, h2, ?_, below_drewN hB _⟩
            rw [HL.out, lcp_more _ _ _ h1 h2 (by rw [HE.out.1, HE.out.2]; exact h3)]
            omega
          case measure => simp [intOf]; omega
        · have i3 : (((a[k]'h1).toNat : Int) == ((b[k]'h2).toNat : Int)) = false := by
            rw [beq_eq_false_iff_ne]
            intro e
            exact h3 (UInt8.toNat_inj.1 (by omega))
          rw [lcp_stop _ _ _ (fun _ _ => by rw [HE.out.1, HE.out.2]; exact h3), Nat.add_zero] at hl
          have HL := Lib.hid hl
          clear hl
          go_wp2_with fail
          go_quiet (fail)
          go_wp2_with fail
          go_ret
          exact ⟨by rw [HL.out]; rfl, below_drewN hB _⟩
      · have i2 : decide ((k : Int) < b.size) = false := by rw [decide_eq_false_iff_not]; omega
        rw [lcp_stop _ _ _ (fun _ h => absurd h h2), Nat.add_zero] at hl
        have HL := Lib.hid hl
        clear hl
        go_wp2_with fail
        go_quiet (fail)
        go_wp2_with fail
        go_ret
        exact ⟨by rw [HL.out]; rfl, below_drewN hB _⟩
    · have i1 : decide ((k : Int) < a.size) = false := by rw [decide_eq_false_iff_not]; omega
      rw [lcp_stop _ _ _ (fun h _ => absurd h h1), Nat.add_zero] at hl
      have HL := Lib.hid hl
      clear hl
      go_wp2_with fail
      go_quiet (fail)
      go_wp2_with fail
      go_ret
      exact ⟨by rw [HL.out]; rfl, below_drewN hB _⟩
end Go.Proofs.YthigdhiebogffaaDoor
