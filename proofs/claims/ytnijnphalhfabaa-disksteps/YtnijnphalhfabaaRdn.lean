/- A number read off a list of bytes; parts of a text. -/
import Derived.Test.YtnijnphalhfabaaWBase
namespace Go.Proofs.Ytnijnphalhfabaa
open Go.RowKit

def rdNum (l : List UInt8) : Option (Nat × List UInt8) :=
  match got l with
  | none => none
  | some (n, k) => some (n, l.drop k)
theorem toList_data (s : ByteArray) : s.toList = s.data.toList := by
  first | exact ByteArray.toList_eq s | simp
theorem bs_drop (l : List UInt8) (k : Nat) : (bs l).extract k (bs l).size = bs (l.drop k) := by
  apply bytes_eq
  rw [extract_drop, bs_list, bs_list, bs_size, List.take_of_length_le (by rw [List.length_drop]; omega)]
theorem bs_mid (l : List UInt8) (k n : Nat) : (bs l).extract k (k + n) = bs ((l.drop k).take n) := by
  apply bytes_eq
  rw [extract_drop, bs_list, bs_list, show k + n - k = n from by omega]
theorem bs_head (l : List UInt8) (n : Nat) : (bs l).extract 0 n = bs (l.take n) := by
  have := bs_mid l 0 n
  simpa using this
theorem rdNum_lt {l r : List UInt8} {n : Nat} (h : rdNum l = some (n, r)) : n < 4611686018427387904 := by
  unfold rdNum at h
  cases hg : got l with
  | none => simp [hg] at h
  | some y =>
    obtain ⟨m, k⟩ := y
    simp only [hg, Option.some.injEq, Prod.mk.injEq] at h
    have hk := got_some l m k hg
    omega
theorem rdNum_num (n : Nat) (h : n < 4611686018427387904) (r : List UInt8) : rdNum (num n ++ r) = some (n, r) := by
  unfold rdNum
  rw [got_num n h r]
  simp only
  rw [List.drop_left']
  rfl
end Go.Proofs.Ytnijnphalhfabaa
