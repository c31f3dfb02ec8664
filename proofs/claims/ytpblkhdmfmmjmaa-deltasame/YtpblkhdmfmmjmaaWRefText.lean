/- ref.GetText: its contract; both read alike. -/
import Derived.Test.YtpblkhdmfmmjmaaWRefGet
namespace Go.Proofs.Ytpblkhdmfmmjmaa
open Go.RowKit

def RefGetIs (s : ByteArray) (n k : Nat) (e : Int) : Prop := ∀ W, Calls Try.prog 28 #[.string s] W fun x w' => x = .returned (.tuple #[.int .i64 (n : Int), .int .i64 (k : Int), .int .i64 e]) ∧ Below W.heap.size W w'
theorem refGetIs_some (s : ByteArray) (hs : s.size ≤ 281474976710656) (n k : Nat) (h : got s.data.toList = some (n, k)) : RefGetIs s n k 0 := fun W => by
  have q := RefGet_any s hs W
  rw [h] at q
  exact q
theorem refGetIs_none (s : ByteArray) (hs : s.size ≤ 281474976710656) (h : got s.data.toList = none) : RefGetIs s 0 0 2 := fun W => by
  have q := RefGet_any s hs W
  rw [h] at q
  exact q
/-- both read a number alike -/
theorem gets_alike (s : ByteArray) (hs : s.size ≤ 281474976710656) : ∃ (n k : Nat) (e : Int), GetIs s n k e ∧ RefGetIs s n k e ∧ k ≤ s.size := by
  cases hg : got s.data.toList with
  | none => exact ⟨0, 0, 2, getIs_none s hs hg, refGetIs_none s hs hg, Nat.zero_le _⟩
  | some nk =>
    obtain ⟨n, k⟩ := nk
    exact ⟨n, k, 0, getIs_some s hs n k hg, refGetIs_some s hs n k hg, (got_some _ _ _ hg).2.2.2.2⟩
end Go.Proofs.Ytpblkhdmfmmjmaa
