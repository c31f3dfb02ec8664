/- ref.Sum: its contract. -/
import Derived.Test.YtgffbdkngnpfpaaDoorRefOver
import Derived.Test.YtgffbdkngnpfpaaDoorRefText
import Derived.Deep.RegionHeld3
namespace Go.Proofs.YtgffbdkngnpfpaaDoor
open Go.RowKit

theorem sha_parts (l : List UInt8) : sha l = digest (blocks (blocks startH (l.take (whole l.length))) (l.drop (whole l.length) ++ pad l.length)) := by
  rw [← blocks_whole]; rfl
theorem pad_length (m : Nat) : (pad m).length = 72 - (m + 8) % 64 := by rw [← padTo_eight, padTo_length]; omega

set_option maxRecDepth 100000 in
set_option maxHeartbeats 1000000 in
theorem RefSum_any (s : ByteArray) (hs : s.size < 1152921504606846976) (w : World) :
    Calls Tryd.prog 9 #[.string s] w fun e w' => e = .returned (.string (bs (sha s.data.toList))) ∧ Below w.heap.size w w' := by
  have HS := Lib.hid (sha_parts s.data.toList)
  have hsl : s.data.toList.length = s.size := by simp
  rw [hsl] at HS
  clear hsl
  go_enter Tryd.func9, Tryd.ntmps9
  go_upto_region 2 with fail
  have hk : (s.size : Int) - (s.size : Int) % 64 = ((whole s.size : Nat) : Int) := by unfold whole; omega
  rw [hk]
  have hk1 : whole s.size ≤ s.size := whole_le _
  have hk2 : whole s.size % 64 = 0 := whole_mod _
  have hk3 : s.size - whole s.size = s.size % 64 := by unfold whole; omega
  clear hk
  generalize whole s.size = kk at *
  have e1 : (s.extract 0 kk).size = kk := by simp; omega
  have e2 : (s.extract kk s.size).size = s.size % 64 := by simp; omega
  have l1 : (s.extract 0 kk).data.toList = s.data.toList.take kk := by rw [extract_list]; simp
  have l2 : (s.extract kk s.size).data.toList = s.data.toList.drop kk := by rw [extract_list, List.take_of_length_le (by simp)]
  have HS2 : Hid (sha s.data.toList = digest (blocks (blocks startH (s.extract 0 kk).data.toList) (s.extract kk s.size ++ bs (pad s.size)).data.toList)) := by
    show _ = _
    rw [HS.out, l1, append_list, l2, bs_list]
  have hp : (s.extract kk s.size ++ bs (pad s.size)).size % 64 = 0 ∧ (s.extract kk s.size ++ bs (pad s.size)).size ≤ 200 := by
    rw [ByteArray.size_append, e2, bs_size, pad_length]; omega
  have E1 := Lib.hid e1
  have E2 := Lib.hid e2
  have HP := Lib.hid hp
  have HK2 := Lib.hid hk2
  clear HS l1 l2 e1 e2 hp hk2 hk3
  have g0 : 0 ≤ (kk : Int) := by omega
  have g1 : (kk : Int) ≤ s.size := by omega
  go_region_with (first
      | (go_at_call 29
         (with_reducible refine (Start_any _).mono ?_)
         rintro e w1 ⟨rfl, b1⟩)
      | (go_at_call 28
         (with_reducible refine (over_any startH rfl (s.extract 0 kk) (by rw [E1.out]; omega) (by rw [E1.out]; exact HK2.out) _).mono ?_)
         rintro e w2 ⟨rfl, b2⟩
         have hx := blocks_len8 startH (s.extract 0 kk).data.toList rfl
         generalize blocks startH (s.extract 0 kk).data.toList = X at *
         have Hx := Lib.hid hx
         clear hx)
      | (go_at_call 30
         (with_reducible refine (padded_any (s.extract kk s.size) s.size hs E2.out _).mono ?_)
         rintro e w3 ⟨rfl, b3⟩
         generalize s.extract kk s.size ++ bs (pad s.size) = p at *)
      | (go_at_call 28
         (with_reducible refine (over_any X Hx.out p (by have := HP.out.2; omega) HP.out.1 _).mono ?_)
         rintro e w4 ⟨rfl, b4⟩
         have hy := blocks_len8 X p.data.toList Hx.out
         generalize blocks X p.data.toList = Y at *
         have Hy := Lib.hid hy
         clear hy)
      | (go_at_call 27
         (with_reducible refine (text_any Y Hy.out _).mono ?_)
         rintro e w5 ⟨rfl, b5⟩))
  go_wp2_with fail
  go_ret
  refine ⟨by rw [HS2.out]; rfl, ?_⟩
  have c1 : Below w.heap.size w w1 := (Below.refl _ w).drew.trans b1
  have c2 := c1.trans (b2.mono c1.size)
  have c3 := c2.trans (b3.mono c2.size)
  have c4 := c3.trans (b4.mono c3.size)
  exact c4.trans (b5.mono c4.size)
end Go.Proofs.YtgffbdkngnpfpaaDoor
