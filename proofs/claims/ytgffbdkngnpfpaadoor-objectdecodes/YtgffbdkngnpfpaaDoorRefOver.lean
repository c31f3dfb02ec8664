/- ref.over: its contract. -/
import Derived.Test.YtgffbdkngnpfpaaDoorRefBlock
import Derived.Deep.RegionLaw
import Derived.Deep.RegionWith
namespace Go.Proofs.YtgffbdkngnpfpaaDoor
open Go.RowKit

def OvRel (hs : List UInt32) (s : ByteArray) (w : World) (i : Value) (wr : World) : Prop :=
  ∃ (p : Nat) (hk : List UInt32), i = .int .i64 (p : Int) ∧ p ≤ s.size ∧ p % 64 = 0 ∧ hk.length = 8 ∧ blocks hk (s.data.toList.drop p) = blocks hs s.data.toList ∧
    Arr wr w.heap.size 53 (warr hk) ∧ Arr wr (w.heap.size + 1) 53 (warr (List.replicate 8 0)) ∧ Below w.heap.size w wr

set_option maxRecDepth 100000 in
set_option maxHeartbeats 1000000 in
theorem over_any (hs : List UInt32) (hl : hs.length = 8) (s : ByteArray) (hm : s.size ≤ 1152921504606847104) (h64 : s.size % 64 = 0) (w : World) :
    Calls Tryd.prog 28 #[.agg (warr hs), .string s] w
      fun e w' => e = .returned (.agg (warr (blocks hs s.data.toList))) ∧ Below w.heap.size w w' := by
  have Hl := Lib.hid hl
  clear hl
  go_enter Tryd.func28, Tryd.ntmps28
  go_wp2
  go_loopw [5] (fun i wr => OvRel hs s w i wr) (fun i _ => s.size - (intOf i).toNat)
  case atStart =>
    refine ⟨0, hs, rfl, Nat.zero_le _, rfl, Hl.out, rfl, ?_, ?_, ?_⟩
    · exact (Arr.new_at w _ _ rfl).alloc _
    · exact Arr.new_at (w.alloc _) _ _ (by simp)
    · exact ((Below.refl _ _).alloc (Nat.le_refl _) _).alloc (by simp) _
  case round =>
    obtain ⟨p, hk, rfl, hts, hp, hk8, hbl, hA, hZ, hB⟩ := hrel
    have Hbl := Lib.hid hbl
    clear hbl
    obtain ⟨h0, h1, h2, h3, h4, h5, h6, h7, rfl⟩ := eight hk8
    clear hk8
    by_cases hlt : p < s.size
    · obtain ⟨c0, c1, c2, c3, c4, c5, c6, c7⟩ := cells8 hA
      have hx : (s.extract p (p + 64)).size = 64 := by simp; omega
      have hi : (p : Int) < s.size := by omega
      have hp64 : p + 64 ≤ s.size := by omega
      have hxl : (s.extract p (p + 64)).data.toList = (s.data.toList.drop p).take 64 := by rw [extract_list, List.drop_take]; simp
      go_wp2
      have Hx := Lib.hid hx
      have Hxl := Lib.hid hxl
      clear hx hxl
      have w64 : IntKind.i64.wrap ((p : Int) + 64) = (p : Int) + 64 := IntWalk.i64_in _ (by omega)
      have n64 : ((p : Int) + 64).toNat = p + 64 := by omega
      have g0 : (p : Int) ≤ (p : Int) + 64 := by omega
      have g1 : 0 ≤ (p : Int) := by omega
      have g2 : 0 ≤ (p : Int) + 64 := by omega
      have g3 : (p : Int) + 64 ≤ s.size := by omega
      go_region_with (first
        | (go_at_call 54
           (with_reducible refine (Block_lit h0 h1 h2 h3 h4 h5 h6 h7 (s.extract p (p + 64)) (by rw [Hx.out]; decide) (by rw [Hx.out]; decide) _).mono ?_)
           rintro e w2 ⟨rfl, hb2⟩
           have hA2 := hA.drew.below hb2 hA.lt
           have hC := block_length [h0, h1, h2, h3, h4, h5, h6, h7] (s.extract p (p + 64)).data.toList
           generalize hX : block [h0, h1, h2, h3, h4, h5, h6, h7] (s.extract p (p + 64)).data.toList = C at *
           have HX := Lib.hid hX
           have hst := hA2.store (P := Tryd.prog) (warr C) (by rw [warr_size, warr_size, hC]) (warr_one C)
           have hsz : (warr C).size = 8 := by rw [warr_size, hC]; rfl
           have HC := Lib.hid hC
           clear hX hC))
      all_goals
        clear hst hsz
        have hZ2 : Arr w2 (w.heap.size + 1) 53 (warr (List.replicate 8 0)) := hZ.drew.below hb2 hZ.lt
        have hB2 : Below w.heap.size w w2 := hB.drew.trans (hb2.mono (Nat.le_of_lt hA.lt))
        clear hA hZ hB hb2 c0 c1 c2 c3 c4 c5 c6 c7
        go_wp2
        refine ⟨⟨p + 64, C, by go_num, hp64, by omega, HC.out, ?_, hA2.row _, hZ2.row_far (by omega) _, below_setRow hB2 (Nat.le_refl _) _⟩, by simp [intOf]; omega⟩
        have e1 : blocks [h0, h1, h2, h3, h4, h5, h6, h7] (s.data.toList.drop p) = blocks (block [h0, h1, h2, h3, h4, h5, h6, h7] ((s.data.toList.drop p).take 64)) ((s.data.toList.drop p).drop 64) :=
          blocks_step _ _ (by simp; omega)
        rw [← Hbl.out, e1, ← Hxl.out, HX.out, List.drop_drop]
    · obtain rfl : p = s.size := by omega
      have hE : blocks [h0, h1, h2, h3, h4, h5, h6, h7] (s.data.toList.drop s.size) = [h0, h1, h2, h3, h4, h5, h6, h7] := blocks_end _ _ (by simp)
      rw [Hbl.out] at hE
      have HE := Lib.hid hE
      clear hE
      have h8 : [h0, h1, h2, h3, h4, h5, h6, h7].length = 8 := rfl
      generalize [h0, h1, h2, h3, h4, h5, h6, h7] = C at *
      have HC := Lib.hid h8
      clear h8
      go_wp2_with (first
        | (refine wpList_load_row rfl 53 _ rfl w.heap.size rfl 53 (warr C) (0, 0) _ hA Tryd.underlying53 rfl (info8 C HC.out) ?_)
        | (refine wpList_store_row rfl 53 _ _ rfl (w.heap.size + 1) (warr C) rfl rfl 53 (warr (List.replicate 8 0)) hZ (info8 C HC.out) (by rw [warr_size, warr_size, HC.out]; rfl) (warr_one C) ?_))
      refine bodyPost_ret (v := .agg (warr C)) ?_ rfl ⟨by rw [HE.out], below_setRow hB (by omega) _⟩
      exact results_cell_row Tryd.results28 _ _ (w.heap.size + 1) 53 (warr C) (0, 0) _ rfl (hZ.row _) Tryd.underlying53 rfl (info8 C HC.out)
end Go.Proofs.YtgffbdkngnpfpaaDoor
