/- law.deltas, keep.deltas, law.DeltaApplies: the walks. -/
import Derived.Test.YtpblkhdmfmmjmaaDRefApply
namespace Go.Proofs.Ytpblkhdmfmmjmaa
open Go.RowKit

theorem Apply_any (b d : ByteArray) (hb : b.size ≤ 281474976710656) (hd : d.size ≤ 281474976710656) (w : World) :
    Calls Try.prog 6 #[.string b, .string d] w fun x w' => x = .returned (.tuple #[.string (bs (applyD b.data.toList d.data.toList).1), .int .i64 (applyD b.data.toList d.data.toList).2]) ∧ Below w.heap.size w w' := by
  have q := Apply_l b d.data.toList hb hd w
  rw [bs_of] at q
  exact q
theorem RefApply_any (b d : ByteArray) (hb : b.size ≤ 281474976710656) (hd : d.size ≤ 281474976710656) (w : World) :
    Calls Try.prog 7 #[.string b, .string d] w fun x w' => x = .returned (.tuple #[.string (bs (applyD b.data.toList d.data.toList).1), .int .i64 (applyD b.data.toList d.data.toList).2]) ∧ Below w.heap.size w w' := by
  have q := RefApply_l b d.data.toList hb hd w
  rw [bs_of] at q
  exact q
theorem abc_D : applyD [97, 98, 99] [3, 2, 5, 1] = ([98, 99], 0) := by decide +kernel
theorem abc_any (w : World) : Calls Try.prog 6 #[.string ⟨#[97, 98, 99]⟩, .string ⟨#[3, 2, 5, 1]⟩] w fun x w' => x = .returned (.tuple #[.string ⟨#[98, 99]⟩, .int .i64 0]) ∧ Below w.heap.size w w' := by
  have q := Apply_any ⟨#[97, 98, 99]⟩ ⟨#[3, 2, 5, 1]⟩ (by decide) (by decide) w
  rw [show (⟨#[97, 98, 99]⟩ : ByteArray).data.toList = [97, 98, 99] from rfl, show (⟨#[3, 2, 5, 1]⟩ : ByteArray).data.toList = [3, 2, 5, 1] from rfl, abc_D] at q
  exact q
theorem lawDeltas_any (w : World) : Calls Try.prog 8 #[] w fun e w' => e = .returned (.bool true) ∧ Below w.heap.size w w' := by
  have q := abc_any w
  go_enter Try.func8, Try.ntmps8
  go_wp2_with fail
  (with_reducible refine q.mono ?_)
  clear q
  rintro _ w1 ⟨rfl, b1⟩
  go_wp2_with fail
  go_ret
  exact ⟨rfl, b1⟩
theorem keepDeltas_any (w : World) : Calls Try.prog 10 #[] w fun e w' => e = .returned (.bool true) ∧ Below w.heap.size w w' := by
  have q := abc_any w
  go_enter Try.func10, Try.ntmps10
  go_wp2_with fail
  (with_reducible refine q.mono ?_)
  clear q
  rintro _ w1 ⟨rfl, b1⟩
  go_wp2_with fail
  go_ret
  exact ⟨rfl, b1⟩

set_option maxRecDepth 100000 in
theorem DeltaApplies_any (b d : ByteArray) (hb : b.size ≤ 140737488355328) (hd : d.size ≤ 140737488355328) (w : World) :
    Calls Try.prog 3 #[.string b, .string d] w fun e w' => e = .returned (.bool true) ∧ Below w.heap.size w w' := by
  have q1 := fun W => Apply_any b d (by omega) (by omega) W
  have q2 := fun W => RefApply_any b d (by omega) (by omega) W
  generalize bs (applyD b.data.toList d.data.toList).1 = S at *
  generalize (applyD b.data.toList d.data.toList).2 = E at *
  go_enter Try.func3, Try.ntmps3
  go_wp2_with fail
  (with_reducible refine (q1 w).mono ?_)
  clear q1
  rintro _ w1 ⟨rfl, b1⟩
  go_wp2_with fail
  (with_reducible refine (q2 w1).mono ?_)
  clear q2
  rintro _ w2 ⟨rfl, b2⟩
  have b3 := b1.trans (b2.mono b1.size)
  clear b1 b2
  have q := lawDeltas_any w2
  go_wp2_with fail
  (with_reducible refine q.mono ?_)
  clear q
  rintro _ w3 ⟨rfl, b4⟩
  go_wp2_with fail
  go_ret
  exact ⟨rfl, b3.trans (b4.mono b3.size)⟩
end Go.Proofs.Ytpblkhdmfmmjmaa
