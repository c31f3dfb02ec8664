/- ref.GetText, law.WireGets: the walks. -/
import Derived.Test.YtpfafgmafgfokaaWRefGet
namespace Go.Proofs.Ytpfafgmafgfokaa
open Go.RowKit

def RefGetIs (s : ByteArray) (n k : Nat) (e : Int) : Prop := ∀ W, Calls Try.prog 17 #[.string s] W fun x w' => x = .returned (.tuple #[.int .i64 (n : Int), .int .i64 (k : Int), .int .i64 e]) ∧ Below W.heap.size W w'
theorem refGetIs_some (s : ByteArray) (hs : s.size ≤ 281474976710656) (n k : Nat) (h : got s.data.toList = some (n, k)) : RefGetIs s n k 0 := fun W => by
  have q := RefGet_any s hs W
  rw [h] at q
  exact q
theorem refGetIs_none (s : ByteArray) (hs : s.size ≤ 281474976710656) (h : got s.data.toList = none) : RefGetIs s 0 0 2 := fun W => by
  have q := RefGet_any s hs W
  rw [h] at q
  exact q
def RefGetTextIs (s r : ByteArray) (k : Nat) (e : Int) : Prop := ∀ W, Calls Try.prog 19 #[.string s] W fun x w' => x = .returned (.tuple #[.string r, .int .i64 (k : Int), .int .i64 e]) ∧ Below W.heap.size W w'

set_option maxRecDepth 100000 in
theorem refText_none (s : ByteArray) (hs : s.size ≤ 281474976710656) (h : got s.data.toList = none) : RefGetTextIs s ⟨#[]⟩ 0 2 := fun w => by
  have C := refGetIs_none s hs h
  clear h
  go_enter Try.func19, Try.ntmps19
  go_wp2_with fail
  have c1 := C w
  (with_reducible refine c1.mono ?_)
  clear c1
  rintro e w1 ⟨rfl, b1⟩
  go_wp2_with fail
  go_ret3
  exact ⟨rfl, b1⟩
set_option maxRecDepth 100000 in
theorem refText_long (s : ByteArray) (hs : s.size ≤ 281474976710656) (n k : Nat) (h : got s.data.toList = some (n, k)) (hn : 4096 < n) : RefGetTextIs s ⟨#[]⟩ 0 1 := fun w => by
  have C := refGetIs_some s hs n k h
  have hn1 : (4096 : Int) < n := by omega
  clear h
  go_enter Try.func19, Try.ntmps19
  go_wp2_with fail
  have c1 := C w
  (with_reducible refine c1.mono ?_)
  clear c1
  rintro e w1 ⟨rfl, b1⟩
  go_wp2_with fail
  go_ret3
  exact ⟨rfl, b1⟩
set_option maxRecDepth 100000 in
theorem refText_short (s : ByteArray) (hs : s.size ≤ 281474976710656) (n k : Nat) (h : got s.data.toList = some (n, k)) (hn : n ≤ 4096) (hl : s.size < k + n) : RefGetTextIs s ⟨#[]⟩ 0 2 := fun w => by
  have C := refGetIs_some s hs n k h
  have hk : k ≤ 9 := (got_some _ _ _ h).2.2.2.1
  have hn1 : ¬ ((4096 : Int) < n) := by omega
  have hn2 : ((s.size : Int) - k) < n := by omega
  clear h
  go_enter Try.func19, Try.ntmps19
  go_wp2_with fail
  have c1 := C w
  (with_reducible refine c1.mono ?_)
  clear c1
  rintro e w1 ⟨rfl, b1⟩
  go_wp2_with fail
  go_ret3
  exact ⟨rfl, b1⟩
set_option maxRecDepth 100000 in
theorem refText_yes (s : ByteArray) (hs : s.size ≤ 281474976710656) (n k : Nat) (h : got s.data.toList = some (n, k)) (hn : n ≤ 4096) (hl : k + n ≤ s.size) : RefGetTextIs s (s.extract k (k + n)) (k + n) 0 := fun w => by
  have C := refGetIs_some s hs n k h
  have hk : k ≤ 9 := (got_some _ _ _ h).2.2.2.1
  have hn1 : ¬ ((4096 : Int) < n) := by omega
  have hn2 : ¬ ((s.size : Int) - k) < n := by omega
  clear h
  go_enter Try.func19, Try.ntmps19
  go_wp2_with fail
  have c1 := C w
  (with_reducible refine c1.mono ?_)
  clear c1
  rintro e w1 ⟨rfl, b1⟩
  go_wp2_with fail
  go_ret3
  exact ⟨rfl, b1⟩

/-- both read a number alike -/
theorem gets_alike (s : ByteArray) (hs : s.size ≤ 281474976710656) : ∃ (n k : Nat) (e : Int), GetIs s n k e ∧ RefGetIs s n k e ∧ k ≤ s.size := by
  cases hg : got s.data.toList with
  | none => exact ⟨0, 0, 2, getIs_none s hs hg, refGetIs_none s hs hg, Nat.zero_le _⟩
  | some nk =>
    obtain ⟨n, k⟩ := nk
    exact ⟨n, k, 0, getIs_some s hs n k hg, refGetIs_some s hs n k hg, (got_some _ _ _ hg).2.2.2.2⟩
/-- both read a text alike -/
theorem texts_alike (s : ByteArray) (hs : s.size ≤ 281474976710656) : ∃ (r : ByteArray) (k : Nat) (e : Int), TextIs s r k e ∧ RefGetTextIs s r k e ∧ k ≤ s.size := by
  cases hg : got s.data.toList with
  | none => exact ⟨_, 0, 2, text_none s hs hg, refText_none s hs hg, Nat.zero_le _⟩
  | some nk =>
    obtain ⟨n, k⟩ := nk
    by_cases h1 : 4096 < n
    · exact ⟨_, 0, 1, text_long s hs n k hg h1, refText_long s hs n k hg h1, Nat.zero_le _⟩
    · by_cases h2 : s.size < k + n
      · exact ⟨_, 0, 2, text_short s hs n k hg (by omega) h2, refText_short s hs n k hg (by omega) h2, Nat.zero_le _⟩
      · exact ⟨_, k + n, 0, text_yes s hs n k hg (by omega) (by omega), refText_yes s hs n k hg (by omega) (by omega), by omega⟩

set_option maxRecDepth 100000 in
set_option maxHeartbeats 1000000 in
theorem WireGets_any (s : ByteArray) (hs : s.size ≤ 281474976710656) (w : World) :
    Calls Try.prog 4 #[.string s] w fun e w' => e = .returned (.bool true) ∧ Below w.heap.size w w' := by
  obtain ⟨n, k, e1, C1, D1, _⟩ := gets_alike s hs
  obtain ⟨r, j, e2, C2, D2, _⟩ := texts_alike s hs
  go_enter Try.func4, Try.ntmps4
  go_wp2_with fail
  have c1 := C1 w
  (with_reducible refine c1.mono ?_)
  clear c1
  rintro e w1 ⟨rfl, rfl⟩
  go_wp2_with fail
  have c1 := D1 w
  (with_reducible refine c1.mono ?_)
  clear c1
  rintro e w1 ⟨rfl, b1⟩
  go_wp2_with fail
  have c1 := C2 w1
  (with_reducible refine c1.mono ?_)
  clear c1
  rintro e w2 ⟨rfl, rfl⟩
  go_wp2_with fail
  have c1 := D2 w1
  (with_reducible refine c1.mono ?_)
  clear c1
  rintro e w2 ⟨rfl, b2⟩
  have B2 := b1.trans (b2.mono b1.size)
  go_wp2_with fail
  (with_reducible refine (lawPuts_any _).mono ?_)
  rintro e w3 ⟨rfl, b3⟩
  go_wp2_with fail
  go_ret
  exact ⟨rfl, B2.trans (b3.mono B2.size)⟩
end Go.Proofs.Ytpfafgmafgfokaa
