/- wire.GetText: its contract. -/
import Derived.Test.YtgffbdkngnpfpaaWGet
namespace Go.Proofs.Ytgffbdkngnpfpaa
open Go.RowKit

def GetIs (s : ByteArray) (n k : Nat) (e : Int) : Prop := ∀ W, Calls Try.prog 49 #[.string s] W fun x w' => x = .returned (.tuple #[.int .i64 (n : Int), .int .i64 (k : Int), .int .i64 e]) ∧ W = w'
theorem getIs_some (s : ByteArray) (hs : s.size ≤ 281474976710656) (n k : Nat) (h : got s.data.toList = some (n, k)) : GetIs s n k 0 := fun W => by
  have q := Get_any s hs W
  rw [h] at q
  exact q
theorem getIs_none (s : ByteArray) (hs : s.size ≤ 281474976710656) (h : got s.data.toList = none) : GetIs s 0 0 2 := fun W => by
  have q := Get_any s hs W
  rw [h] at q
  exact q
def TextIs (s r : ByteArray) (k : Nat) (e : Int) : Prop := ∀ W, Calls Try.prog 61 #[.string s] W fun x w' => x = .returned (.tuple #[.string r, .int .i64 (k : Int), .int .i64 e]) ∧ W = w'

set_option maxRecDepth 100000 in
theorem text_none (s : ByteArray) (hs : s.size ≤ 281474976710656) (h : got s.data.toList = none) : TextIs s ⟨#[]⟩ 0 2 := fun w => by
  have C := getIs_none s hs h
  clear h
  go_enter Try.func61, Try.ntmps61
  go_wp2_with fail
  have c1 := C w
  (with_reducible refine c1.mono ?_)
  clear c1
  rintro e w1 ⟨rfl, rfl⟩
  go_wp2_with fail
  go_ret3
  exact ⟨rfl, rfl⟩
set_option maxRecDepth 100000 in
theorem text_long (s : ByteArray) (hs : s.size ≤ 281474976710656) (n k : Nat) (h : got s.data.toList = some (n, k)) (hn : 4096 < n) : TextIs s ⟨#[]⟩ 0 1 := fun w => by
  have C := getIs_some s hs n k h
  have hb := got_some _ _ _ h
  have hn1 : (4096 : Int) < n := by omega
  clear h
  go_enter Try.func61, Try.ntmps61
  go_wp2_with fail
  have c1 := C w
  (with_reducible refine c1.mono ?_)
  clear c1
  rintro e w1 ⟨rfl, rfl⟩
  go_wp2_with fail
  go_ret3
  exact ⟨rfl, rfl⟩
set_option maxRecDepth 100000 in
theorem text_short (s : ByteArray) (hs : s.size ≤ 281474976710656) (n k : Nat) (h : got s.data.toList = some (n, k)) (hn : n ≤ 4096) (hl : s.size < k + n) : TextIs s ⟨#[]⟩ 0 2 := fun w => by
  have C := getIs_some s hs n k h
  have hk : k ≤ 9 := (got_some _ _ _ h).2.2.2.1
  have hn1 : ¬ ((4096 : Int) < n) := by omega
  have hn2 : ((s.size : Int) - k) < n := by omega
  clear h
  go_enter Try.func61, Try.ntmps61
  go_wp2_with fail
  have c1 := C w
  (with_reducible refine c1.mono ?_)
  clear c1
  rintro e w1 ⟨rfl, rfl⟩
  go_wp2_with fail
  go_ret3
  exact ⟨rfl, rfl⟩
set_option maxRecDepth 100000 in
theorem text_yes (s : ByteArray) (hs : s.size ≤ 281474976710656) (n k : Nat) (h : got s.data.toList = some (n, k)) (hn : n ≤ 4096) (hl : k + n ≤ s.size) : TextIs s (s.extract k (k + n)) (k + n) 0 := fun w => by
  have C := getIs_some s hs n k h
  have hk : k ≤ 9 := (got_some _ _ _ h).2.2.2.1
  have hn1 : ¬ ((4096 : Int) < n) := by omega
  have hn2 : ¬ ((s.size : Int) - k) < n := by omega
  clear h
  go_enter Try.func61, Try.ntmps61
  go_wp2_with fail
  have c1 := C w
  (with_reducible refine c1.mono ?_)
  clear c1
  rintro e w1 ⟨rfl, rfl⟩
  go_wp2_with fail
  go_ret3
  exact ⟨rfl, rfl⟩
end Go.Proofs.Ytgffbdkngnpfpaa
