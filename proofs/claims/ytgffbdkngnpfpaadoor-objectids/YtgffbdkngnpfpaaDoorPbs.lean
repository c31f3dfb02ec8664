/- sum.processBlocks: its contract. -/
import Derived.Test.YtgffbdkngnpfpaaDoorBw
import Derived.Deep.RegionLaw
import Derived.Deep.RegionWith
namespace Go.Proofs.YtgffbdkngnpfpaaDoor
open Go.RowKit

/-- A list of eight, taken apart. -/
theorem eight {l : List UInt32} (h : l.length = 8) : ∃ a b c d e f g i, l = [a, b, c, d, e, f, g, i] := by
  match l, h with
  | [a, b, c, d, e, f, g, i], _ => exact ⟨a, b, c, d, e, f, g, i, rfl⟩
theorem cells8 {w : World} {g : Nat} {t : TypeId} {h0 h1 h2 h3 h4 h5 h6 h7 : UInt32} (h : Arr w g t (warr [h0, h1, h2, h3, h4, h5, h6, h7])) :
    w.cell? ⟨g, 0, none⟩ = some (.int .u32 (wd h0)) ∧ w.cell? ⟨g, 1, none⟩ = some (.int .u32 (wd h1)) ∧ w.cell? ⟨g, 2, none⟩ = some (.int .u32 (wd h2)) ∧ w.cell? ⟨g, 3, none⟩ = some (.int .u32 (wd h3)) ∧
    w.cell? ⟨g, 4, none⟩ = some (.int .u32 (wd h4)) ∧ w.cell? ⟨g, 5, none⟩ = some (.int .u32 (wd h5)) ∧ w.cell? ⟨g, 6, none⟩ = some (.int .u32 (wd h6)) ∧ w.cell? ⟨g, 7, none⟩ = some (.int .u32 (wd h7)) :=
  ⟨h.cell 0, h.cell 1, h.cell 2, h.cell 3, h.cell 4, h.cell 5, h.cell 6, h.cell 7⟩

theorem Tab.drew {w : World} (h : Tab w) : Tab w.drew := h
theorem frees8 {w : World} {g : Nat} {t : TypeId} {cs : Array Value} (h : Arr w g t cs) :
    w.frozen? ⟨g, 0, none⟩ = false ∧ w.frozen? ⟨g, 1, none⟩ = false ∧ w.frozen? ⟨g, 2, none⟩ = false ∧ w.frozen? ⟨g, 3, none⟩ = false ∧ w.frozen? ⟨g, 4, none⟩ = false ∧ w.frozen? ⟨g, 5, none⟩ = false ∧ w.frozen? ⟨g, 6, none⟩ = false ∧ w.frozen? ⟨g, 7, none⟩ = false :=
  ⟨h.free 0, h.free 1, h.free 2, h.free 3, h.free 4, h.free 5, h.free 6, h.free 7⟩

def strOf : Value → ByteArray | .string s => s | _ => ByteArray.empty
def BsRel (hs : List UInt32) (s : ByteArray) (w : World) (b : Value) (wr : World) : Prop :=
  ∃ (t : ByteArray) (hk : List UInt32), b = .string t ∧ t.size ≤ s.size ∧ hk.length = 8 ∧ blocks hk t.data.toList = blocks hs s.data.toList ∧
    Arr wr w.heap.size 53 (warr hk) ∧ Arr wr (w.heap.size + 1) 53 (warr (List.replicate 8 0)) ∧ Below w.heap.size w wr

set_option maxRecDepth 100000 in
set_option maxHeartbeats 1000000 in
theorem processBlocks_any (hs : List UInt32) (hl : hs.length = 8) (s : ByteArray) (_hm : s.size ≤ maxLen) (w : World) (ht : Tab w) :
    Calls Tryd.prog 62 #[.agg (warr hs), .string s] w
      fun e w' => e = .returned (.agg (warr (blocks hs s.data.toList))) ∧ Below w.heap.size w w' := by
  unfold maxLen at _hm
  have Hl := Lib.hid hl
  clear hl
  go_enter Tryd.func62, Tryd.ntmps62
  go_wp2
  go_loopw [1] (fun b wr => BsRel hs s w b wr) (fun b _ => (strOf b).size)
  case atStart =>
    refine ⟨s, hs, rfl, Nat.le_refl _, Hl.out, rfl, ?_, ?_, ?_⟩
    · exact (Arr.new_at w _ _ rfl).alloc _
    · exact Arr.new_at (w.alloc _) _ _ (by simp)
    · exact ((Below.refl _ _).alloc (Nat.le_refl _) _).alloc (by simp) _
  case round =>
    obtain ⟨t, hk, rfl, hts, hk8, hbl, hA, hZ, hB⟩ := hrel
    have Hbl := Lib.hid hbl
    clear hbl
    obtain ⟨h0, h1, h2, h3, h4, h5, h6, h7, rfl⟩ := eight hk8
    clear hk8
    have hT : Tab wr := ht.below hB ht.1
    by_cases hlt : 64 ≤ t.size
    · obtain ⟨c0, c1, c2, c3, c4, c5, c6, c7⟩ := cells8 hA
      have hx : (t.extract 0 64).size = 64 := by simp; omega
      go_wp2
      have Hx := Lib.hid hx
      clear hx
      go_region_with (first
        | (go_at_call 76
           (with_reducible refine (blockWords_any (t.extract 0 64) Hx.out _).mono ?_)
           rintro e w1 ⟨rfl, hb1⟩
           have hA1 := hA.drew.below hb1 hA.lt
           have hT1 := hT.drew.below hb1 hT.1
           obtain ⟨d0, d1, d2, d3, d4, d5, d6, d7⟩ := cells8 hA1)
        | (go_at_call 75
           (with_reducible refine (processBlock_any h0 h1 h2 h3 h4 h5 h6 h7 (schedTo (List.take 64 t.data.toList) 48) (schedTo_length _ _) _ hT1).mono ?_)
           rintro e w2 ⟨rfl, hb2⟩
           have hA2 := hA1.below hb2 hA1.lt
           have hC := compress_length [h0, h1, h2, h3, h4, h5, h6, h7] (schedTo (List.take 64 t.data.toList) 48)
           generalize hX : compress [h0, h1, h2, h3, h4, h5, h6, h7] (schedTo (List.take 64 t.data.toList) 48) = C at *
           have HX := Lib.hid hX
           have hst := hA2.store (P := Tryd.prog) (warr C) (by rw [warr_size, warr_size, hC]) (warr_one C)
           have hsz : (warr C).size = 8 := by rw [warr_size, hC]; rfl
           have HC := Lib.hid hC
           clear hX hC))
      all_goals
        clear hst hsz
        have hZ2 : Arr w2 (w.heap.size + 1) 53 (warr (List.replicate 8 0)) := (hZ.drew.below hb1 hZ.lt).below hb2 ((hZ.drew.below hb1 hZ.lt).lt)
        have hB2 : Below w.heap.size w w2 := (hB.drew.trans (hb1.mono (Nat.le_of_lt hA.lt))).trans (hb2.mono (Nat.le_of_lt hA1.lt))
        clear hA hA1 hZ hB hb1 hb2 c0 c1 c2 c3 c4 c5 c6 c7 hT hT1
        try clear d0 d1 d2 d3 d4 d5 d6 d7
        go_wp2
        refine ⟨⟨t.extract 64 t.size, C, rfl, by simp; omega, HC.out, ?_, hA2.row _, hZ2.row_far (by omega) _, below_setRow hB2 (Nat.le_refl _) _⟩, by simp [strOf]; omega⟩
        have e1 : blocks [h0, h1, h2, h3, h4, h5, h6, h7] t.data.toList = blocks (compress [h0, h1, h2, h3, h4, h5, h6, h7] (schedTo (List.take 64 t.data.toList) 48)) (t.data.toList.drop 64) :=
          blocks_step _ _ (by simpa using hlt)
        rw [← Hbl.out, e1, HX.out, extract_list, List.take_of_length_le (by simp)]
    · have hE : blocks [h0, h1, h2, h3, h4, h5, h6, h7] t.data.toList = [h0, h1, h2, h3, h4, h5, h6, h7] := blocks_end _ _ (by simp; omega)
      rw [Hbl.out] at hE
      have HE := Lib.hid hE
      clear hE
      have h8 : [h0, h1, h2, h3, h4, h5, h6, h7].length = 8 := rfl
      generalize [h0, h1, h2, h3, h4, h5, h6, h7] = C at *
      have HC := Lib.hid h8
      clear h8
      go_wp2_with (first
        | (refine wpList_load_row rfl 53 _ rfl w.heap.size rfl 53 (warr C) (0, 0) _ hA Tryd.underlying53 rfl (info8 C HC.out) ?_)
        | (refine wpList_store_row rfl 53 _ _ rfl (w.heap.size + 1) (warr C) rfl rfl 53 (warr (List.replicate 8 0)) hZ (info8 C HC.out) (by rw [warr_size, warr_size, HC.out]; rfl) (warr_one C) ?_))
      refine bodyPost_ret (v := .agg (warr C)) ?_ rfl ⟨by rw [HE.out], below_setRow hB (by omega) _⟩
      exact results_cell_row Tryd.results62 _ _ (w.heap.size + 1) 53 (warr C) (0, 0) _ rfl (hZ.row _) Tryd.underlying53 rfl (info8 C HC.out)
end Go.Proofs.YtgffbdkngnpfpaaDoor
