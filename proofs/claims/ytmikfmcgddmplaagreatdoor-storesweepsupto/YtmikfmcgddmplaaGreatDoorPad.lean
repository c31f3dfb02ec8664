/- Texts in one: Pbs, Hb, Pad. -/
import Derived.Test.YtmikfmcgddmplaaGreatDoorBw
import Derived.Deep.RegionLaw
import Derived.Deep.RegionWith
import Derived.Test.YtmikfmcgddmplaaGreatDoorBytes
import Derived.Test.YtmikfmcgddmplaaGreatDoorWNum
/- sum.processBlocks: its contract. -/
namespace Go.Proofs.YtmikfmcgddmplaaGreatDoor
open Go.RowKit

/-- A list of eight, taken apart. -/
theorem eight {l : List UInt32} (h : l.length = 8) : ∃ a b c d e f g i, l = [a, b, c, d, e, f, g, i] := by
  match l, h with
  | [a, b, c, d, e, f, g, i], _ => exact ⟨a, b, c, d, e, f, g, i, rfl⟩
theorem cells8 {w : World} {g : Nat} {t : TypeId} {h0 h1 h2 h3 h4 h5 h6 h7 : UInt32} (h : Arr w g t (warr [h0, h1, h2, h3, h4, h5, h6, h7])) :
    w.cell? ⟨g, 0, none⟩ = some (.int .u32 (wd h0)) ∧ w.cell? ⟨g, 1, none⟩ = some (.int .u32 (wd h1)) ∧ w.cell? ⟨g, 2, none⟩ = some (.int .u32 (wd h2)) ∧ w.cell? ⟨g, 3, none⟩ = some (.int .u32 (wd h3)) ∧
    w.cell? ⟨g, 4, none⟩ = some (.int .u32 (wd h4)) ∧ w.cell? ⟨g, 5, none⟩ = some (.int .u32 (wd h5)) ∧ w.cell? ⟨g, 6, none⟩ = some (.int .u32 (wd h6)) ∧ w.cell? ⟨g, 7, none⟩ = some (.int .u32 (wd h7)) :=
  ⟨h.cell 0, h.cell 1, h.cell 2, h.cell 3, h.cell 4, h.cell 5, h.cell 6, h.cell 7⟩

theorem Tab.drew {w : World} (h : Tab w) : Tab w.drew := h
theorem frees8 {w : World} {g : Nat} {t : TypeId} {cs : Array Value} (h : Arr w g t cs) :
    w.frozen? ⟨g, 0, none⟩ = false ∧ w.frozen? ⟨g, 1, none⟩ = false ∧ w.frozen? ⟨g, 2, none⟩ = false ∧ w.frozen? ⟨g, 3, none⟩ = false ∧ w.frozen? ⟨g, 4, none⟩ = false ∧ w.frozen? ⟨g, 5, none⟩ = false ∧ w.frozen? ⟨g, 6, none⟩ = false ∧ w.frozen? ⟨g, 7, none⟩ = false :=
  ⟨h.free 0, h.free 1, h.free 2, h.free 3, h.free 4, h.free 5, h.free 6, h.free 7⟩

def strOf : Value → ByteArray | .string s => s | _ => ByteArray.empty
def BsRel (hs : List UInt32) (s : ByteArray) (w : World) (b : Value) (wr : World) : Prop :=
  ∃ (t : ByteArray) (hk : List UInt32), b = .string t ∧ t.size ≤ s.size ∧ hk.length = 8 ∧ blocks hk t.data.toList = blocks hs s.data.toList ∧
    Arr wr w.heap.size 85 (warr hk) ∧ Arr wr (w.heap.size + 1) 85 (warr (List.replicate 8 0)) ∧ Below w.heap.size w wr

set_option maxRecDepth 100000 in
set_option maxHeartbeats 1000000 in
theorem processBlocks_any (hs : List UInt32) (hl : hs.length = 8) (s : ByteArray) (_hm : s.size ≤ maxLen) (w : World) (ht : Tab w) :
    Calls Tryz.prog 148 #[.agg (warr hs), .string s] w
      fun e w' => e = .returned (.agg (warr (blocks hs s.data.toList))) ∧ Below w.heap.size w w' := by
  unfold maxLen at _hm
  have Hl := Lib.hid hl
  clear hl
  go_enter Tryz.func148, Tryz.ntmps148
  go_wp2
  go_loopw [1] (fun b wr => BsRel hs s w b wr) (fun b _ => (strOf b).size)
  case atStart =>
    refine ⟨s, hs, rfl, Nat.le_refl _, Hl.out, rfl, ?_, ?_, ?_⟩
    · exact (Arr.new_at w _ _ rfl).alloc _
    · exact Arr.new_at (w.alloc _) _ _ (by simp)
    · exact ((Below.refl _ _).alloc (Nat.le_refl _) _).alloc (by simp) _
  case round =>
    obtain ⟨t, hk, rfl, hts, hk8, hbl, hA, hZ, hB⟩ := hrel
    have Hbl := Lib.hid hbl
    clear hbl
    obtain ⟨h0, h1, h2, h3, h4, h5, h6, h7, rfl⟩ := eight hk8
    clear hk8
    have hT : Tab wr := ht.below hB ht.1
    by_cases hlt : 64 ≤ t.size
    · obtain ⟨c0, c1, c2, c3, c4, c5, c6, c7⟩ := cells8 hA
      have hx : (t.extract 0 64).size = 64 := by simp; omega
      go_wp2
      have Hx := Lib.hid hx
      clear hx
      go_region_with (first
        | (go_at_call 158
           (with_reducible refine (blockWords_any (t.extract 0 64) Hx.out _).mono ?_)
           rintro e w1 ⟨rfl, hb1⟩
           have hA1 := hA.drew.below hb1 hA.lt
           have hT1 := hT.drew.below hb1 hT.1
           obtain ⟨d0, d1, d2, d3, d4, d5, d6, d7⟩ := cells8 hA1)
        | (go_at_call 157
           (with_reducible refine (processBlock_any h0 h1 h2 h3 h4 h5 h6 h7 (schedTo (List.take 64 t.data.toList) 48) (schedTo_length _ _) _ hT1).mono ?_)
           rintro e w2 ⟨rfl, hb2⟩
           have hA2 := hA1.below hb2 hA1.lt
           have hC := compress_length [h0, h1, h2, h3, h4, h5, h6, h7] (schedTo (List.take 64 t.data.toList) 48)
           generalize hX : compress [h0, h1, h2, h3, h4, h5, h6, h7] (schedTo (List.take 64 t.data.toList) 48) = C at *
           have HX := Lib.hid hX
           have hst := hA2.store (P := Tryz.prog) (warr C) (by rw [warr_size, warr_size, hC]) (warr_one C)
           have hsz : (warr C).size = 8 := by rw [warr_size, hC]; rfl
           have HC := Lib.hid hC
           clear hX hC))
      all_goals
        clear hst hsz
        have hZ2 : Arr w2 (w.heap.size + 1) 85 (warr (List.replicate 8 0)) := (hZ.drew.below hb1 hZ.lt).below hb2 ((hZ.drew.below hb1 hZ.lt).lt)
        have hB2 : Below w.heap.size w w2 := (hB.drew.trans (hb1.mono (Nat.le_of_lt hA.lt))).trans (hb2.mono (Nat.le_of_lt hA1.lt))
        clear hA hA1 hZ hB hb1 hb2 c0 c1 c2 c3 c4 c5 c6 c7 hT hT1
        try clear d0 d1 d2 d3 d4 d5 d6 d7
        go_wp2
        refine ⟨⟨t.extract 64 t.size, C, rfl, by simp; omega, HC.out, ?_, hA2.row _, hZ2.row_far (by omega) _, below_setRow hB2 (Nat.le_refl _) _⟩, by simp [strOf]; omega⟩
        have e1 : blocks [h0, h1, h2, h3, h4, h5, h6, h7] t.data.toList = blocks (compress [h0, h1, h2, h3, h4, h5, h6, h7] (schedTo (List.take 64 t.data.toList) 48)) (t.data.toList.drop 64) :=
          blocks_step _ _ (by simpa using hlt)
        rw [← Hbl.out, e1, HX.out, extract_list, List.take_of_length_le (by simp)]
    · have hE : blocks [h0, h1, h2, h3, h4, h5, h6, h7] t.data.toList = [h0, h1, h2, h3, h4, h5, h6, h7] := blocks_end _ _ (by simp; omega)
      rw [Hbl.out] at hE
      have HE := Lib.hid hE
      clear hE
      have h8 : [h0, h1, h2, h3, h4, h5, h6, h7].length = 8 := rfl
      generalize [h0, h1, h2, h3, h4, h5, h6, h7] = C at *
      have HC := Lib.hid h8
      clear h8
      go_wp2_with (first
        | (refine wpList_load_row rfl 85 _ rfl w.heap.size rfl 85 (warr C) (0, 0) _ hA Tryz.underlying85 rfl (info8 C HC.out) ?_)
        | (refine wpList_store_row rfl 85 _ _ rfl (w.heap.size + 1) (warr C) rfl rfl 85 (warr (List.replicate 8 0)) hZ (info8 C HC.out) (by rw [warr_size, warr_size, HC.out]; rfl) (warr_one C) ?_))
      refine bodyPost_ret (v := .agg (warr C)) ?_ rfl ⟨by rw [HE.out], below_setRow hB (by omega) _⟩
      exact results_cell_row Tryz.results148 _ _ (w.heap.size + 1) 85 (warr C) (0, 0) _ rfl (hZ.row _) Tryz.underlying85 rfl (info8 C HC.out)
end Go.Proofs.YtmikfmcgddmplaaGreatDoor

/- sum.headBytes: its contract. -/
namespace Go.Proofs.YtmikfmcgddmplaaGreatDoor
open Go.RowKit
attribute [local go_sem] wd_b24 wd_b16 wd_b8 wd_b0

def HWorld (l : List UInt8) (w : World) (W : World) : Prop :=
  Arr W (w.heap.size + 1) 179 (barr l) ∧ Below w.heap.size w W
def HRel (hs : List UInt32) (w : World) (i : Value) (wr : World) : Prop :=
  ∃ k : Nat, k ≤ 8 ∧ i = .int .i64 k ∧ HWorld (outTo hs k) w wr
theorem HWorld.put {l : List UInt8} {w W : World} (h : HWorld l w W) (k : Nat) (x : UInt8) : HWorld (l.set k x) w (W.setCell ⟨w.heap.size + 1, k, none⟩ (.int .u8 (x.toNat : Int))) := by
  refine ⟨?_, h.2.setCell (by simp) _⟩
  have := h.1.put k (.int .u8 (x.toNat : Int))
  rw [barr_set] at this
  exact this

set_option maxRecDepth 100000 in
set_option maxHeartbeats 1000000 in
theorem headBytes_any (hs : List UInt32) (hl : hs.length = 8) (w : World) :
    Calls Tryz.prog 147 #[.agg (warr hs)] w
      fun e w' => e = .returned (.string (bs (digest hs))) ∧ Below w.heap.size w w' := by
  have Hl := Lib.hid hl
  clear hl
  have hA0 : Arr ((w.alloc (.cells (warr hs) 85)).alloc (.cells (barr (List.replicate 32 0)) 179)) w.heap.size 85 (warr hs) := (Arr.new_at w _ _ rfl).alloc _
  go_enter Tryz.func147, Tryz.ntmps147
  go_wp2_with (refine wpList_load_row rfl 85 _ rfl w.heap.size rfl 85 (warr hs) (0, 0) _ hA0 Tryz.underlying85 rfl (info8 hs Hl.out) ?_)
  clear hA0
  go_loopw [7] (fun i wr => HRel hs w i wr) (fun i _ => 8 - (intOf i).toNat)
  case atStart =>
    refine ⟨0, by omega, rfl, ?_, ((Below.refl _ _).alloc (Nat.le_refl _) _).alloc (by simp) _⟩
    exact Arr.new_at (w.alloc _) _ _ (by simp)
  case round =>
    obtain ⟨k, hk, rfl, hW⟩ := hrel
    have hlen := outTo_length hs k
    by_cases hlt : k < 8
    · have hv := run_index8 hs Hl.out k hlt wr
      have hc0 : wr.cell? ⟨w.heap.size + 1, 4 * k, none⟩ = some (.int .u8 (((outTo hs k).getD (4 * k) 0).toNat : Int)) := (hW.1.cell _).trans (barr_at _ _ (by omega))
      have hc1 : wr.cell? ⟨w.heap.size + 1, 4 * k + 1, none⟩ = some (.int .u8 (((outTo hs k).getD (4 * k + 1) 0).toNat : Int)) := (hW.1.cell _).trans (barr_at _ _ (by omega))
      have hc2 : wr.cell? ⟨w.heap.size + 1, 4 * k + 2, none⟩ = some (.int .u8 (((outTo hs k).getD (4 * k + 2) 0).toNat : Int)) := (hW.1.cell _).trans (barr_at _ _ (by omega))
      have hc3 : wr.cell? ⟨w.heap.size + 1, 4 * k + 3, none⟩ = some (.int .u8 (((outTo hs k).getD (4 * k + 3) 0).toNat : Int)) := (hW.1.cell _).trans (barr_at _ _ (by omega))
      have hf0 : wr.frozen? ⟨w.heap.size + 1, 4 * k, none⟩ = false := hW.1.free _
      have hf1 : wr.frozen? ⟨w.heap.size + 1, 4 * k + 1, none⟩ = false := hW.1.free _
      have hf2 : wr.frozen? ⟨w.heap.size + 1, 4 * k + 2, none⟩ = false := hW.1.free _
      have hf3 : wr.frozen? ⟨w.heap.size + 1, 4 * k + 3, none⟩ = false := hW.1.free _
      clear hlen
      generalize ((outTo hs k).getD (4 * k) 0) = y0 at *
      generalize ((outTo hs k).getD (4 * k + 1) 0) = y1 at *
      generalize ((outTo hs k).getD (4 * k + 2) 0) = y2 at *
      generalize ((outTo hs k).getD (4 * k + 3) 0) = y3 at *
      have HE : Hid (outTo hs (k + 1) = ((((outTo hs k).set (4 * k) (b24 (hs.getD k 0))).set (4 * k + 1) (b16 (hs.getD k 0))).set (4 * k + 2) (b8 (hs.getD k 0))).set (4 * k + 3) (b0 (hs.getD k 0))) := rfl
      generalize hs.getD k 0 = x at *
      go_wp2
      refine ⟨⟨k + 1, by omega, by go_num, ?_⟩, by simp [intOf]; omega⟩
      rw [HE.out]
      exact (((hW.put _ _).put _ _).put _ _).put _ _
    · obtain rfl : k = 8 := by omega
      rw [outTo_digest hs Hl.out] at hW
      have hd := digest_length hs Hl.out
      have hb := run_bytes (P := Tryz.prog) hW.1 (digest hs) (by rw [barr]; exact List.take_of_length_le (by simp)) 32
      rw [hd, ← run_convert_bytes_string wr 105 9 5 _ _ _ Tryz.underlying105 Tryz.underlying5 Tryz.underlying9] at hb
      clear hd hlen hlt hk
      generalize hD : digest hs = D at *
      have HD := Lib.hid hD
      clear hD
      go_wp2
      go_ret
      exact ⟨by rw [HD.out]; rfl, hW.2⟩
end Go.Proofs.YtmikfmcgddmplaaGreatDoor

/- sum.padding: its contract. -/
namespace Go.Proofs.YtmikfmcgddmplaaGreatDoor
open Go.RowKit

def lb (n j : Nat) : UInt8 := UInt8.ofNat (n / 2 ^ (56 - 8 * j))
theorem lb_list (n : Nat) : (List.range 8).map (lb n) = lenBytes n := by simp [lb, lenBytes, List.range, List.range.loop]
/-- what the slice holds behind j appends -/
def padTo (m j : Nat) : List UInt8 := 128 :: (List.replicate (63 - (m + 8) % 64) 0 ++ (List.range j).map (lb (m * 8)))
theorem padTo_length (m j : Nat) : (padTo m j).length = 64 - (m + 8) % 64 + j := by simp [padTo]; omega
theorem padTo_succ (m j : Nat) : padTo m (j + 1) = padTo m j ++ [lb (m * 8) j] := by simp [padTo, List.range_succ]
theorem padTo_eight (m : Nat) : padTo m 8 = pad m := by rw [padTo, lb_list, pad]

/-- a slice of the call's own, at the row's head, holds these bytes -/
def OwnB (w : World) (base g cap : Nat) (l : List UInt8) : Prop := w.ownsRow base 5 1 (.slice (some ⟨g, 0, none⟩) l.length cap) l.length (l.map bv)
def PadRel (m base : Nat) (w : World) (t s : Value) (wr : World) : Prop :=
  ∃ j : Nat, j ≤ 8 ∧ s = .int .i64 (56 - 8 * (j : Int)) ∧ t = .slice (some ⟨base, 0, none⟩) (padTo m j).length (72 - (m + 8) % 64) ∧ OwnB wr base base (72 - (m + 8) % 64) (padTo m j) ∧ Below base w wr

theorem make_pad (m : Nat) (_hm : m < 1152921504606846976) (w : World) : ∃ M : Array Value, M.toList = List.replicate (72 - (m + 8) % 64) (bv 0) ∧
    (Instr.makeSlice 105 (.int .i64 (1 + (63 - ((m : Int) + 8) % 64))) (.int .i64 (1 + (63 - ((m : Int) + 8) % 64) + 8))).run Tryz.prog w =
      .ok (.slice (some ⟨w.heap.size, 0, none⟩) (64 - (m + 8) % 64) (72 - (m + 8) % 64)) (w.alloc (.cells M 5)) := by
  obtain ⟨i, hi, hz0, hz1, hz2⟩ := info_parts info_u8
  have h := run_make (P := Tryz.prog) w 105 5 i _ Tryz.underlying105 hi hz0 .i64 .i64 (1 + (63 - ((m : Int) + 8) % 64)) (1 + (63 - ((m : Int) + 8) % 64) + 8) (by omega) (by omega) (by rw [hz2]; omega) (by omega)
  have e1 : (1 + (63 - ((m : Int) + 8) % 64)).toNat = 64 - (m + 8) % 64 := by omega
  have e2 : (1 + (63 - ((m : Int) + 8) % 64) + 8).toNat = 72 - (m + 8) % 64 := by omega
  rw [e1, e2, hz1, Nat.mul_one] at h
  exact ⟨_, toList_madeCells_one _ _, h⟩

theorem OwnB.made (w : World) (M : Array Value) (n cap : Nat) (hM : M.toList = List.replicate cap (bv 0)) (hn : n ≤ cap) (hc : cap ≤ maxLen) :
    OwnB (w.alloc (.cells M 5)) w.heap.size w.heap.size cap (List.replicate n 0) := by
  have hs : M.size = cap := by rw [← Array.length_toList, hM, List.length_replicate]
  refine ⟨by simp, .inr ⟨w.heap.size, cap, M, rfl, Nat.le_refl _, heap_alloc_new w _, by simpa using hn, hc, by omega, ?_⟩⟩
  rw [hM]
  simp [List.take_replicate, Nat.min_eq_left hn]

set_option maxRecDepth 100000 in
set_option maxHeartbeats 1000000 in
theorem padding_any (m : Nat) (hm : m < 1152921504606846976) (w : World) :
    Calls Tryz.prog 149 #[.int .i64 (m : Int)] w
      fun e w' => e = .returned (.string (bs (pad m))) ∧ Below w.heap.size w w' := by
  obtain ⟨M, hM, hmk⟩ := make_pad m hm w
  have hB0 : Below w.heap.size w (w.alloc (.cells M 5)) := (Below.refl _ _).alloc (Nat.le_refl _) _
  have hO := OwnB.made w M (64 - (m + 8) % 64) (72 - (m + 8) % 64) hM (by omega) (by unfold maxLen; omega)
  clear hM
  generalize w.alloc (.cells M 5) = W at *
  have hc0 := World.ownsRow.cellAt hO 0 (by simp; omega)
  have hf0 := World.ownsRow.frozenAt hO 0
  rw [show ((List.replicate (64 - (m + 8) % 64) (0 : UInt8)).map bv)[0]? = some (.int .u8 0) from by rw [List.map_replicate, List.getElem?_replicate, if_pos (by omega)]; rfl] at hc0
  have hO1 : OwnB (W.setCell ⟨w.heap.size, 0, none⟩ (.int .u8 128)) w.heap.size w.heap.size (72 - (m + 8) % 64) (padTo m 0) := by
    have h := World.ownsRow.stored hO 0 (.int .u8 128)
    have e : (padTo m 0).length = (List.replicate (64 - (m + 8) % 64) (0 : UInt8)).length := by rw [padTo_length]; simp
    have e2 : (padTo m 0).map bv = ((List.replicate (64 - (m + 8) % 64) (0 : UInt8)).map bv).set 0 (.int .u8 128) := by
      rw [show 64 - (m + 8) % 64 = (63 - (m + 8) % 64) + 1 from by omega, List.replicate_succ]
      simp [padTo, bv]
    unfold OwnB
    rw [e, e2]
    exact h.1
  have HO := Lib.hid hO
  clear hO
  have hz : (m + 8) % 64 < 64 := Nat.mod_lt _ (by omega)
  go_enter Tryz.func149, Tryz.ntmps149
  go_wp2_with fail
  go_loopw [4, 6] (fun t s wr => PadRel m w.heap.size w t s wr) (fun _ s _ => (8 + intOf s).toNat)
  case atStart =>
    exact ⟨0, by omega, rfl, by rw [padTo_length]; rfl, hO1, hB0.setCell (Nat.le_refl _) _⟩
  case round =>
    clear hO1 hB0 hmk hc0 hf0 HO
    obtain ⟨j, hj, rfl, rfl, hO, hB⟩ := hrel
    have hl := padTo_length m j
    by_cases hlt : j < 8
    · obtain ⟨i, hi, hz0, hz1, hz2⟩ := info_parts info_u8
      have hcv : IntKind.u8.wrap ((m : Int) * 8 / 2 ^ (56 - 8 * j)) = ((lb (m * 8) j).toNat : Int) := by
        have e : (m : Int) * 8 / 2 ^ (56 - 8 * j) = ((m * 8 / 2 ^ (56 - 8 * j) : Nat) : Int) := by simp
        rw [e, IntKind.wrap_u8']; unfold lb; rw [UInt8.toNat_ofNat']; omega
      have HS := Lib.hid (padTo_succ m j)
      have Hi := Lib.hid hi
      have Hz1 := Lib.hid hz1
      have Hl := Lib.hid hl
      clear hi hz0 hz1 hz2 hl
      have hge : 0 ≤ 56 - 8 * (j : Int) := by omega
      generalize lb (m * 8) j = b at *
      go_wp2_with (at_builtin; refine wpList_append_fits _ rfl _ _ 105 rfl w.heap.size 5 i 1 Tryz.underlying105 Hi.out Hz1.out w.heap.size _ _ ((padTo m j).map bv) rfl (World.ownsRow.alloc hO _) ⟨wr.heap.size, 0, none⟩ 1 1 [.int .u8 (b.toNat : Int)] rfl rfl (new_cells wr [.int .u8 (b.toNat : Int)] 5) (bytes_one [b]) (by have := Hl.out; omega) ?_)
      intro w2 hown hgrow
      go_wp2_with fail
      refine ⟨⟨j + 1, by omega, by go_num, ?_, ?_, ?_⟩, by simp [intOf]; omega⟩
      · rw [HS.out]; simp
      · rw [HS.out]; unfold OwnB; simpa [bv] using hown
      · exact (hB.alloc hB.size _).grown hgrow (by simp; have := hB.size; omega) (by intro k hk; cases hk; exact Nat.le_refl _)
    · obtain rfl : j = 8 := by omega
      rw [padTo_eight] at hO ⊢
      have hb := run_bytes_own (P := Tryz.prog) hO
      rw [← run_convert_bytes_string wr 105 9 5 _ _ _ Tryz.underlying105 Tryz.underlying5 Tryz.underlying9] at hb
      clear hl hlt hj
      generalize hP : pad m = p at *
      have HP := Lib.hid hP
      clear hP
      go_wp2
      go_ret
      exact ⟨by rw [HP.out]; rfl, hB⟩
end Go.Proofs.YtmikfmcgddmplaaGreatDoor
