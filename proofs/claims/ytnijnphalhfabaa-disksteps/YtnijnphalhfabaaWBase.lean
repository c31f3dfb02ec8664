/- Put and PutText, as callers use them; texts cut and joined. -/
import Derived.Test.YtnijnphalhfabaaWText
namespace Go.Proofs.Ytnijnphalhfabaa
open Go.RowKit

theorem empty_append (x : ByteArray) : (⟨#[]⟩ : ByteArray) ++ x = x := by
  apply ByteArray.ext
  simp
theorem extract_drop (s : ByteArray) (a b : Nat) : (s.extract a b).data.toList = (s.data.toList.drop a).take (b - a) := by
  rw [ByteArray.data_extract, Array.toList_extract]
theorem bs_extract (s : ByteArray) (k : Nat) : bs (s.data.toList.take k) = s.extract 0 k := by
  apply ByteArray.ext
  apply Array.ext'
  rw [extract_drop, bs_list]
  simp

theorem bytes_eq {a b : ByteArray} (h : a.data.toList = b.data.toList) : a = b := by
  apply ByteArray.ext
  apply Array.ext'
  exact h
theorem list_len (a : ByteArray) : a.data.toList.length = a.size := rfl
theorem extract_tail (b x : ByteArray) : (b ++ x).extract b.size (b ++ x).size = x := by
  apply bytes_eq
  rw [extract_drop, append_list, ByteArray.size_append, ← list_len b, List.drop_left', Nat.add_sub_cancel_left, ← list_len x, List.take_length]
  rfl
theorem extract_head (b x : ByteArray) : (b ++ x).extract 0 b.size = b := by
  apply bytes_eq
  rw [extract_drop, append_list, List.drop_zero, Nat.sub_zero, ← list_len b, List.take_left']
  rfl
end Go.Proofs.Ytnijnphalhfabaa
