/- ref.text: its contract. -/
import Derived.Test.YtngfgmcnpbjefaaDoorRefPad
namespace Go.Proofs.YtngfgmcnpbjefaaDoor
open Go.RowKit
attribute [local go_sem] wd_b24 wd_b16 wd_b8 wd_b0

def outS (hs : List UInt32) : Nat → ByteArray
  | 0 => ⟨#[]⟩
  | k + 1 => outS hs k ++ bs (wbytes (hs.getD k 0))
theorem outS_size (hs : List UInt32) (k : Nat) : (outS hs k).size = 4 * k := by
  induction k with
  | zero => rfl
  | succ k ih => rw [outS, ByteArray.size_append, ih, bs_size]; simp [wbytes]; omega
theorem outS_eight (hs : List UInt32) (h : hs.length = 8) : outS hs 8 = bs (digest hs) := by
  obtain ⟨a, b, c, d, e, f, g, i, rfl⟩ := eight h
  apply ByteArray.ext
  apply Array.ext'
  simp only [outS, append_list, bs_list]
  simp [digest]
def TRel (hs : List UInt32) (w : World) (t i : Value) (wr : World) : Prop :=
  ∃ k : Nat, k ≤ 8 ∧ i = .int .i64 (k : Int) ∧ t = .string (outS hs k) ∧ Below w.heap.size w wr

set_option maxRecDepth 100000 in
set_option maxHeartbeats 1000000 in
theorem text_any (hs : List UInt32) (hl : hs.length = 8) (w : World) :
    Calls Tryd.prog 31 #[.agg (warr hs)] w
      fun e w' => e = .returned (.string (bs (digest hs))) ∧ Below w.heap.size w w' := by
  have Hl := Lib.hid hl
  clear hl
  have hA0 : Arr (w.alloc (.cells (warr hs) 26)) w.heap.size 26 (warr hs) := Arr.new_at w _ _ rfl
  go_enter Tryd.func31, Tryd.ntmps31
  go_wp2_with (refine wpList_load_row rfl 26 _ rfl w.heap.size rfl 26 (warr hs) (0, 0) _ hA0 Tryd.underlying26 rfl (info8 hs Hl.out) ?_)
  clear hA0
  go_loopw [3, 7] (fun t i wr => TRel hs w t i wr) (fun _ i _ => 8 - (intOf i).toNat)
  case atStart => exact ⟨0, by omega, rfl, rfl, (Below.refl _ _).alloc (Nat.le_refl _) _⟩
  case round =>
    obtain ⟨k, hk, rfl, rfl, hB⟩ := hrel
    have hsz := outS_size hs k
    by_cases hlt : k < 8
    · have hv := run_index8 hs Hl.out k hlt wr
      have HE : Hid (outS hs (k + 1) = outS hs k ++ bs (wbytes (hs.getD k 0))) := rfl
      generalize hs.getD k 0 = x at *
      have hb := run_bytes (P := Tryd.prog) (Arr.new wr 5 (barr (wbytes x))) (wbytes x) (by rw [barr]; exact List.take_of_length_le (by simp)) 4
      rw [show (wbytes x).length = 4 from rfl, ← run_convert_bytes_string _ 49 9 5 _ _ _ Tryd.underlying49 Tryd.underlying5 Tryd.underlying9] at hb
      have h4 : (bs (wbytes x)).size = 4 := by rw [bs_size]; rfl
      have ha : barr (wbytes x) = #[.int .u8 ((b24 x).toNat : Int), .int .u8 ((b16 x).toNat : Int), .int .u8 ((b8 x).toNat : Int), .int .u8 ((b0 x).toNat : Int)] := rfl
      rw [ha] at hb
      clear ha
      have hsm : (outS hs k).size ≤ 32 := by omega
      clear hsz
      generalize bs (wbytes x) = wb at *
      generalize outS hs k = t at *
      go_wp2
      refine ⟨⟨k + 1, by omega, by go_num, by rw [HE.out], hB.alloc hB.size _⟩, by simp [intOf]; omega⟩
    · obtain rfl : k = 8 := by omega
      have HE := Lib.hid (outS_eight hs Hl.out)
      clear hsz
      generalize outS hs 8 = t at *
      go_wp2
      go_ret
      exact ⟨by rw [← HE.out]; rfl, hB⟩
end Go.Proofs.YtngfgmcnpbjefaaDoor
