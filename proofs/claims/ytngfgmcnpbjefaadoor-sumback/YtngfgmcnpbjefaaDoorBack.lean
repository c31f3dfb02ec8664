/- keep.SumBack: the walk. -/
import Derived.Test.YtngfgmcnpbjefaaDoorUnhexW
import Derived.Test.YtngfgmcnpbjefaaDoorTests
namespace Go.Proofs.YtngfgmcnpbjefaaDoor
open Go.RowKit

def UnhexIs (s y : ByteArray) (f : Int) : Prop := ∀ W, Calls Tryd.prog 24 #[.string s] W fun x w' => x = .returned (.tuple #[.string y, .int .i64 f]) ∧ Below W.heap.size W w'
def HexIs (b h : ByteArray) : Prop := ∀ W, Calls Tryd.prog 26 #[.string b] W fun x w' => x = .returned (.string h) ∧ Below W.heap.size W w'

set_option maxRecDepth 100000 in
set_option maxHeartbeats 1000000 in
theorem Back_walk (b s h y : ByteArray) (f : Int) (hb : b.size ≤ 140737488355328) (hh : h.size = 2 * b.size) (C1 : HexIs b h) (C2 : UnhexIs h b 0) (C3 : UnhexIs s y f) (hway : (f = 2 ∧ y = ⟨#[]⟩) ∨ (f = 0 ∧ HexIs y s)) (w : World) (ht : Tab w) :
    Calls Tryd.prog 10 #[.string b, .string s] w fun e w' => e = .returned (.bool true) ∧ Below w.heap.size w w' := by
  have h1 : ((h.size : Int) != 2 * (b.size : Int)) = false := by rw [bne_eq_false_iff_eq]; omega
  clear hh
  go_enter Tryd.func10, Tryd.ntmps10
  go_wp2_with fail
  have c1 := C1 w
  (with_reducible refine c1.mono ?_)
  clear c1
  rintro e w1 ⟨rfl, b1⟩
  have t1 := ht.below b1 ht.1
  go_wp2_with fail
  have c1 := C2 w1
  (with_reducible refine c1.mono ?_)
  clear c1
  rintro e w2 ⟨rfl, b2⟩
  have t2 := t1.below b2 t1.1
  have B2 := b1.trans (b2.mono b1.size)
  go_wp2_with fail
  (with_reducible refine (abc_any _ t2).mono ?_)
  rintro e w3 ⟨rfl, b3⟩
  have B3 := B2.trans (b3.mono B2.size)
  go_wp2_with fail
  have c1 := C3 w3
  (with_reducible refine c1.mono ?_)
  clear c1
  rintro e w4 ⟨rfl, b4⟩
  have B4 := B3.trans (b4.mono B3.size)
  rcases hway with ⟨rfl, rfl⟩ | ⟨rfl, C4⟩
  · go_wp2_with fail
    go_ret
    exact ⟨rfl, B4⟩
  · go_wp2_with fail
    have c1 := C4 w4
    (with_reducible refine c1.mono ?_)
    clear c1
    rintro e w5 ⟨rfl, b5⟩
    go_wp2_with fail
    go_ret
    exact ⟨rfl, B4.trans (b5.mono B4.size)⟩

theorem SumBack_any (b s : ByteArray) (hb : b.size ≤ 140737488355328) (hs : s.size ≤ 140737488355328) (w : World) (ht : Tab w) :
    Calls Tryd.prog 10 #[.string b, .string s] w fun e w' => e = .returned (.bool true) ∧ Below w.heap.size w w' := by
  have C1 : HexIs b (bs (hexOf b.data.toList)) := fun W => Hex_any b hb W
  have hh : (bs (hexOf b.data.toList)).size = 2 * b.size := by rw [bs_size, hexOf_length]; rfl
  have C2 : UnhexIs (bs (hexOf b.data.toList)) b 0 := fun W => by
    have q := Unhex_any (bs (hexOf b.data.toList)) (by rw [hh]; omega) W
    rw [bs_list, unpair_hex] at q
    refine q.mono fun e w' ⟨h1, h2⟩ => ⟨?_, h2⟩
    rw [h1, bs_of]
  have q3 := Unhex_any s (by omega)
  cases hu : unpair s.data.toList with
  | none =>
    rw [hu] at q3
    exact Back_walk b s _ ⟨#[]⟩ 2 hb hh C1 C2 (fun W => q3 W) (.inl ⟨rfl, rfl⟩) w ht
  | some p =>
    rw [hu] at q3
    have hp := hex_unpair _ _ hu
    have hl := hexOf_length p
    rw [hp] at hl
    have hl2 : s.size = 2 * p.length := hl
    have C4 : HexIs (bs p) s := fun W => by
      have q := Hex_any (bs p) (by rw [bs_size]; omega) W
      rw [bs_list, hp, bs_of] at q
      exact q
    exact Back_walk b s _ (bs p) 0 hb hh C1 C2 (fun W => q3 W) (.inr ⟨rfl, C4⟩) w ht
end Go.Proofs.YtngfgmcnpbjefaaDoor
