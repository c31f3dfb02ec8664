/- law.SumHexes: its walk. -/
import Derived.Test.YtngfgmcnpbjefaaDoorRefUnhex
namespace Go.Proofs.YtngfgmcnpbjefaaDoor
open Go.RowKit

def UIs (s r : ByteArray) (e : Int) : Prop := ∀ W, Calls Tryd.prog 24 #[.string s] W fun x w' => x = .returned (.tuple #[.string r, .int .i64 e]) ∧ Below W.heap.size W w'
def RUIs (s r : ByteArray) (e : Int) : Prop := ∀ W, Calls Tryd.prog 25 #[.string s] W fun x w' => x = .returned (.tuple #[.string r, .int .i64 e]) ∧ Below W.heap.size W w'

set_option maxHeartbeats 1000000 in
theorem Hexes_walk (s r : ByteArray) (e : Int) (hs : s.size ≤ 1048576) (C1 : UIs s r e) (C2 : RUIs s r e) (w : World) (ht : Tab w) :
    Calls Tryd.prog 6 #[.string s] w fun e w' => e = .returned (.bool true) ∧ Below w.heap.size w w' := by
  go_enter Tryd.func6, Tryd.ntmps6
  go_wp2_with fail
  have c1 := C1 w
  (with_reducible refine c1.mono ?_)
  clear c1
  rintro _ w1 ⟨rfl, b1⟩
  have t1 := ht.below b1 ht.1
  go_wp2_with fail
  have c1 := C2 w1
  (with_reducible refine c1.mono ?_)
  clear c1
  rintro _ w2 ⟨rfl, b2⟩
  have t2 := t1.below b2 t1.1
  have B2 := b1.trans (b2.mono b1.size)
  go_wp2_with fail
  (with_reducible refine (Hex_any s (by omega) _).mono ?_)
  rintro _ w3 ⟨rfl, b3⟩
  have t3 := t2.below b3 t2.1
  have B3 := B2.trans (b3.mono B2.size)
  go_wp2_with fail
  (with_reducible refine (RefHex_any s hs _).mono ?_)
  rintro _ w4 ⟨rfl, b4⟩
  have t4 := t3.below b4 t3.1
  have B4 := B3.trans (b4.mono B3.size)
  generalize bs (hexOf s.data.toList) = d at *
  go_wp2_with fail
  (with_reducible refine (sums_any _ t4).mono ?_)
  rintro _ w5 ⟨rfl, b5⟩
  go_wp2_with fail
  go_ret
  exact ⟨rfl, B4.trans (b5.mono B4.size)⟩

theorem SumHexes_any (s : ByteArray) (hs : s.size ≤ 1048576) (w : World) (ht : Tab w) :
    Calls Tryd.prog 6 #[.string s] w fun e w' => e = .returned (.bool true) ∧ Below w.heap.size w w' := by
  have q1 := Unhex_any s (by omega)
  have q2 := RefUnhex_any s hs
  cases hu : unpair s.data.toList with
  | none =>
    rw [hu] at q1 q2
    exact Hexes_walk s ⟨#[]⟩ 2 hs (fun W => q1 W) (fun W => q2 W) w ht
  | some p =>
    rw [hu] at q1 q2
    exact Hexes_walk s (bs p) 0 hs (fun W => q1 W) (fun W => q2 W) w ht
end Go.Proofs.YtngfgmcnpbjefaaDoor
