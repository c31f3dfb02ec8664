/- ref.Text: its contract. -/
import Derived.Test.YtgffbdkngnpfpaaWRef
namespace Go.Proofs.Ytgffbdkngnpfpaa
open Go.RowKit

set_option maxRecDepth 100000 in
theorem RefText_any (s : ByteArray) (hs : s.size ≤ 281474976710656) (w : World) :
    Calls Try.prog 24 #[.string s] w fun e w' => e = .returned (.string (bs (num s.size) ++ s)) ∧ Below w.heap.size w w' := by
  have hx : (bs (num s.size)).size ≤ 9 := by rw [bs_size]; exact num_len9 _ (by omega)
  have C := RefNumber_yes s.size (by omega)
  generalize bs (num s.size) = x at *
  have HC := Lib.hid C
  clear C
  go_enter Try.func24, Try.ntmps24
  go_wp2_with fail
  (with_reducible refine (HC.out _).mono ?_)
  rintro e w1 ⟨rfl, b1⟩
  go_wp2_with fail
  go_ret
  exact ⟨rfl, b1⟩
def RefTextIs (s r : ByteArray) : Prop := ∀ W, Calls Try.prog 24 #[.string s] W fun x w' => x = .returned (.string r) ∧ Below W.heap.size W w'
end Go.Proofs.Ytgffbdkngnpfpaa
