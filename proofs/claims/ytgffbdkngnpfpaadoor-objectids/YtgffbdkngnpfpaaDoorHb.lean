/- sum.headBytes: its contract. -/
import Derived.Test.YtgffbdkngnpfpaaDoorPbs
import Derived.Test.YtgffbdkngnpfpaaDoorBytes
namespace Go.Proofs.YtgffbdkngnpfpaaDoor
open Go.RowKit
attribute [local go_sem] wd_b24 wd_b16 wd_b8 wd_b0

def HWorld (l : List UInt8) (w : World) (W : World) : Prop :=
  Arr W (w.heap.size + 1) 107 (barr l) ∧ Below w.heap.size w W
def HRel (hs : List UInt32) (w : World) (i : Value) (wr : World) : Prop :=
  ∃ k : Nat, k ≤ 8 ∧ i = .int .i64 k ∧ HWorld (outTo hs k) w wr
theorem HWorld.put {l : List UInt8} {w W : World} (h : HWorld l w W) (k : Nat) (x : UInt8) : HWorld (l.set k x) w (W.setCell ⟨w.heap.size + 1, k, none⟩ (.int .u8 (x.toNat : Int))) := by
  refine ⟨?_, h.2.setCell (by simp) _⟩
  have := h.1.put k (.int .u8 (x.toNat : Int))
  rw [barr_set] at this
  exact this

set_option maxRecDepth 100000 in
set_option maxHeartbeats 1000000 in
theorem headBytes_any (hs : List UInt32) (hl : hs.length = 8) (w : World) :
    Calls Tryd.prog 61 #[.agg (warr hs)] w
      fun e w' => e = .returned (.string (bs (digest hs))) ∧ Below w.heap.size w w' := by
  have Hl := Lib.hid hl
  clear hl
  have hA0 : Arr ((w.alloc (.cells (warr hs) 53)).alloc (.cells (barr (List.replicate 32 0)) 107)) w.heap.size 53 (warr hs) := (Arr.new_at w _ _ rfl).alloc _
  go_enter Tryd.func61, Tryd.ntmps61
  go_wp2_with (refine wpList_load_row rfl 53 _ rfl w.heap.size rfl 53 (warr hs) (0, 0) _ hA0 Tryd.underlying53 rfl (info8 hs Hl.out) ?_)
  clear hA0
  go_loopw [7] (fun i wr => HRel hs w i wr) (fun i _ => 8 - (intOf i).toNat)
  case atStart =>
    refine ⟨0, by omega, rfl, ?_, ((Below.refl _ _).alloc (Nat.le_refl _) _).alloc (by simp) _⟩
    exact Arr.new_at (w.alloc _) _ _ (by simp)
  case round =>
    obtain ⟨k, hk, rfl, hW⟩ := hrel
    have hlen := outTo_length hs k
    by_cases hlt : k < 8
    · have hv := run_index8 hs Hl.out k hlt wr
      have hc0 : wr.cell? ⟨w.heap.size + 1, 4 * k, none⟩ = some (.int .u8 (((outTo hs k).getD (4 * k) 0).toNat : Int)) := (hW.1.cell _).trans (barr_at _ _ (by omega))
      have hc1 : wr.cell? ⟨w.heap.size + 1, 4 * k + 1, none⟩ = some (.int .u8 (((outTo hs k).getD (4 * k + 1) 0).toNat : Int)) := (hW.1.cell _).trans (barr_at _ _ (by omega))
      have hc2 : wr.cell? ⟨w.heap.size + 1, 4 * k + 2, none⟩ = some (.int .u8 (((outTo hs k).getD (4 * k + 2) 0).toNat : Int)) := (hW.1.cell _).trans (barr_at _ _ (by omega))
      have hc3 : wr.cell? ⟨w.heap.size + 1, 4 * k + 3, none⟩ = some (.int .u8 (((outTo hs k).getD (4 * k + 3) 0).toNat : Int)) := (hW.1.cell _).trans (barr_at _ _ (by omega))
      have hf0 : wr.frozen? ⟨w.heap.size + 1, 4 * k, none⟩ = false := hW.1.free _
      have hf1 : wr.frozen? ⟨w.heap.size + 1, 4 * k + 1, none⟩ = false := hW.1.free _
      have hf2 : wr.frozen? ⟨w.heap.size + 1, 4 * k + 2, none⟩ = false := hW.1.free _
      have hf3 : wr.frozen? ⟨w.heap.size + 1, 4 * k + 3, none⟩ = false := hW.1.free _
      clear hlen
      generalize ((outTo hs k).getD (4 * k) 0) = y0 at *
      generalize ((outTo hs k).getD (4 * k + 1) 0) = y1 at *
      generalize ((outTo hs k).getD (4 * k + 2) 0) = y2 at *
      generalize ((outTo hs k).getD (4 * k + 3) 0) = y3 at *
      have HE : Hid (outTo hs (k + 1) = ((((outTo hs k).set (4 * k) (b24 (hs.getD k 0))).set (4 * k + 1) (b16 (hs.getD k 0))).set (4 * k + 2) (b8 (hs.getD k 0))).set (4 * k + 3) (b0 (hs.getD k 0))) := rfl
      generalize hs.getD k 0 = x at *
      go_wp2
      refine ⟨⟨k + 1, by omega, by go_num, ?_⟩, by simp [intOf]; omega⟩
      rw [HE.out]
      exact (((hW.put _ _).put _ _).put _ _).put _ _
    · obtain rfl : k = 8 := by omega
      rw [outTo_digest hs Hl.out] at hW
      have hd := digest_length hs Hl.out
      have hb := run_bytes (P := Tryd.prog) hW.1 (digest hs) (by rw [barr]; exact List.take_of_length_le (by simp)) 32
      rw [hd, ← run_convert_bytes_string wr 88 9 5 _ _ _ Tryd.underlying88 Tryd.underlying5 Tryd.underlying9] at hb
      clear hd hlen hlt hk
      generalize hD : digest hs = D at *
      have HD := Lib.hid hD
      clear hD
      go_wp2
      go_ret
      exact ⟨by rw [HD.out]; rfl, hW.2⟩
end Go.Proofs.YtgffbdkngnpfpaaDoor
