/- sum.padding: its contract. -/
import Derived.Test.YtgffbdkngnpfpaaDoorHb
import Derived.Test.YtgffbdkngnpfpaaDoorInf
namespace Go.Proofs.YtgffbdkngnpfpaaDoor
open Go.RowKit

def lb (n j : Nat) : UInt8 := UInt8.ofNat (n / 2 ^ (56 - 8 * j))
theorem lb_list (n : Nat) : (List.range 8).map (lb n) = lenBytes n := by simp [lb, lenBytes, List.range, List.range.loop]
/-- what the slice holds behind j appends -/
def padTo (m j : Nat) : List UInt8 := 128 :: (List.replicate (63 - (m + 8) % 64) 0 ++ (List.range j).map (lb (m * 8)))
theorem padTo_length (m j : Nat) : (padTo m j).length = 64 - (m + 8) % 64 + j := by simp [padTo]; omega
theorem padTo_succ (m j : Nat) : padTo m (j + 1) = padTo m j ++ [lb (m * 8) j] := by simp [padTo, List.range_succ]
theorem padTo_eight (m : Nat) : padTo m 8 = pad m := by rw [padTo, lb_list, pad]

/-- a slice of the call's own, at the row's head, holds these bytes -/
def OwnB (w : World) (base g cap : Nat) (l : List UInt8) : Prop := w.ownsRow base 5 1 (.slice (some ⟨g, 0, none⟩) l.length cap) l.length (l.map bv)
def PadRel (m base : Nat) (w : World) (t s : Value) (wr : World) : Prop :=
  ∃ j : Nat, j ≤ 8 ∧ s = .int .i64 (56 - 8 * (j : Int)) ∧ t = .slice (some ⟨base, 0, none⟩) (padTo m j).length (72 - (m + 8) % 64) ∧ OwnB wr base base (72 - (m + 8) % 64) (padTo m j) ∧ Below base w wr

theorem make_pad (m : Nat) (_hm : m < 1152921504606846976) (w : World) : ∃ M : Array Value, M.toList = List.replicate (72 - (m + 8) % 64) (bv 0) ∧
    (Instr.makeSlice 88 (.int .i64 (1 + (63 - ((m : Int) + 8) % 64))) (.int .i64 (1 + (63 - ((m : Int) + 8) % 64) + 8))).run Tryd.prog w =
      .ok (.slice (some ⟨w.heap.size, 0, none⟩) (64 - (m + 8) % 64) (72 - (m + 8) % 64)) (w.alloc (.cells M 5)) := by
  obtain ⟨i, hi, hz0, hz1, hz2⟩ := info_parts info_u8
  have h := run_make (P := Tryd.prog) w 88 5 i _ Tryd.underlying88 hi hz0 .i64 .i64 (1 + (63 - ((m : Int) + 8) % 64)) (1 + (63 - ((m : Int) + 8) % 64) + 8) (by omega) (by omega) (by rw [hz2]; omega) (by omega)
  have e1 : (1 + (63 - ((m : Int) + 8) % 64)).toNat = 64 - (m + 8) % 64 := by omega
  have e2 : (1 + (63 - ((m : Int) + 8) % 64) + 8).toNat = 72 - (m + 8) % 64 := by omega
  rw [e1, e2, hz1, Nat.mul_one] at h
  exact ⟨_, toList_madeCells_one _ _, h⟩

theorem OwnB.made (w : World) (M : Array Value) (n cap : Nat) (hM : M.toList = List.replicate cap (bv 0)) (hn : n ≤ cap) (hc : cap ≤ maxLen) :
    OwnB (w.alloc (.cells M 5)) w.heap.size w.heap.size cap (List.replicate n 0) := by
  have hs : M.size = cap := by rw [← Array.length_toList, hM, List.length_replicate]
  refine ⟨by simp, .inr ⟨w.heap.size, cap, M, rfl, Nat.le_refl _, heap_alloc_new w _, by simpa using hn, hc, by omega, ?_⟩⟩
  rw [hM]
  simp [List.take_replicate, Nat.min_eq_left hn]

set_option maxRecDepth 100000 in
set_option maxHeartbeats 1000000 in
theorem padding_any (m : Nat) (hm : m < 1152921504606846976) (w : World) :
    Calls Tryd.prog 63 #[.int .i64 (m : Int)] w
      fun e w' => e = .returned (.string (bs (pad m))) ∧ Below w.heap.size w w' := by
  obtain ⟨M, hM, hmk⟩ := make_pad m hm w
  have hB0 : Below w.heap.size w (w.alloc (.cells M 5)) := (Below.refl _ _).alloc (Nat.le_refl _) _
  have hO := OwnB.made w M (64 - (m + 8) % 64) (72 - (m + 8) % 64) hM (by omega) (by unfold maxLen; omega)
  clear hM
  generalize w.alloc (.cells M 5) = W at *
  have hc0 := World.ownsRow.cellAt hO 0 (by simp; omega)
  have hf0 := World.ownsRow.frozenAt hO 0
  rw [show ((List.replicate (64 - (m + 8) % 64) (0 : UInt8)).map bv)[0]? = some (.int .u8 0) from by rw [List.map_replicate, List.getElem?_replicate, if_pos (by omega)]; rfl] at hc0
  have hO1 : OwnB (W.setCell ⟨w.heap.size, 0, none⟩ (.int .u8 128)) w.heap.size w.heap.size (72 - (m + 8) % 64) (padTo m 0) := by
    have h := World.ownsRow.stored hO 0 (.int .u8 128)
    have e : (padTo m 0).length = (List.replicate (64 - (m + 8) % 64) (0 : UInt8)).length := by rw [padTo_length]; simp
    have e2 : (padTo m 0).map bv = ((List.replicate (64 - (m + 8) % 64) (0 : UInt8)).map bv).set 0 (.int .u8 128) := by
      rw [show 64 - (m + 8) % 64 = (63 - (m + 8) % 64) + 1 from by omega, List.replicate_succ]
      simp [padTo, bv]
    unfold OwnB
    rw [e, e2]
    exact h.1
  have HO := Lib.hid hO
  clear hO
  have hz : (m + 8) % 64 < 64 := Nat.mod_lt _ (by omega)
  go_enter Tryd.func63, Tryd.ntmps63
  go_wp2_with fail
  go_loopw [4, 6] (fun t s wr => PadRel m w.heap.size w t s wr) (fun _ s _ => (8 + intOf s).toNat)
  case atStart =>
    exact ⟨0, by omega, rfl, by rw [padTo_length]; rfl, hO1, hB0.setCell (Nat.le_refl _) _⟩
  case round =>
    clear hO1 hB0 hmk hc0 hf0 HO
    obtain ⟨j, hj, rfl, rfl, hO, hB⟩ := hrel
    have hl := padTo_length m j
    by_cases hlt : j < 8
    · obtain ⟨i, hi, hz0, hz1, hz2⟩ := info_parts info_u8
      have hcv : IntKind.u8.wrap ((m : Int) * 8 / 2 ^ (56 - 8 * j)) = ((lb (m * 8) j).toNat : Int) := by
        have e : (m : Int) * 8 / 2 ^ (56 - 8 * j) = ((m * 8 / 2 ^ (56 - 8 * j) : Nat) : Int) := by simp
        rw [e, IntKind.wrap_u8']; unfold lb; rw [UInt8.toNat_ofNat']; omega
      have HS := Lib.hid (padTo_succ m j)
      have Hi := Lib.hid hi
      have Hz1 := Lib.hid hz1
      have Hl := Lib.hid hl
      clear hi hz0 hz1 hz2 hl
      have hge : 0 ≤ 56 - 8 * (j : Int) := by omega
      generalize lb (m * 8) j = b at *
      go_wp2_with (at_builtin; refine wpList_append_fits _ rfl _ _ 88 rfl w.heap.size 5 i 1 Tryd.underlying88 Hi.out Hz1.out w.heap.size _ _ ((padTo m j).map bv) rfl (World.ownsRow.alloc hO _) ⟨wr.heap.size, 0, none⟩ 1 1 [.int .u8 (b.toNat : Int)] rfl rfl (new_cells wr [.int .u8 (b.toNat : Int)] 5) (bytes_one [b]) (by have := Hl.out; omega) ?_)
      intro w2 hown hgrow
      go_wp2_with fail
      refine ⟨⟨j + 1, by omega, by go_num, ?_, ?_, ?_⟩, by simp [intOf]; omega⟩
      · rw [HS.out]; simp
      · rw [HS.out]; unfold OwnB; simpa [bv] using hown
      · exact (hB.alloc hB.size _).grown hgrow (by simp; have := hB.size; omega) (by intro k hk; cases hk; exact Nat.le_refl _)
    · obtain rfl : j = 8 := by omega
      rw [padTo_eight] at hO ⊢
      have hb := run_bytes_own (P := Tryd.prog) hO
      rw [← run_convert_bytes_string wr 88 9 5 _ _ _ Tryd.underlying88 Tryd.underlying5 Tryd.underlying9] at hb
      clear hl hlt hj
      generalize hP : pad m = p at *
      have HP := Lib.hid hP
      clear hP
      go_wp2
      go_ret
      exact ⟨by rw [HP.out]; rfl, hB⟩
end Go.Proofs.YtgffbdkngnpfpaaDoor
