/- wire.GetText: its contract. -/
import Derived.Test.YtpblkhdmfmmjmaaWGet
namespace Go.Proofs.Ytpblkhdmfmmjmaa
open Go.RowKit

def GetIs (s : ByteArray) (n k : Nat) (e : Int) : Prop := ∀ W, Calls Try.prog 25 #[.string s] W fun x w' => x = .returned (.tuple #[.int .i64 (n : Int), .int .i64 (k : Int), .int .i64 e]) ∧ W = w'
theorem getIs_some (s : ByteArray) (hs : s.size ≤ 281474976710656) (n k : Nat) (h : got s.data.toList = some (n, k)) : GetIs s n k 0 := fun W => by
  have q := Get_any s hs W
  rw [h] at q
  exact q
theorem getIs_none (s : ByteArray) (hs : s.size ≤ 281474976710656) (h : got s.data.toList = none) : GetIs s 0 0 2 := fun W => by
  have q := Get_any s hs W
  rw [h] at q
  exact q
end Go.Proofs.Ytpblkhdmfmmjmaa
