/- Texts in one: RefOver, RefPad, RefText, RefSum. -/
import Derived.Test.YtmikfmcgddmplaaGreatDoorRefBlock
import Derived.Deep.RegionLaw
import Derived.Deep.RegionWith
import Derived.Test.YtmikfmcgddmplaaGreatDoorRefLeaf
import Derived.Deep.RegionHeld3
/- ref.over: its contract. -/
namespace Go.Proofs.YtmikfmcgddmplaaGreatDoor
open Go.RowKit

def OvRel (hs : List UInt32) (s : ByteArray) (w : World) (i : Value) (wr : World) : Prop :=
  ∃ (p : Nat) (hk : List UInt32), i = .int .i64 (p : Int) ∧ p ≤ s.size ∧ p % 64 = 0 ∧ hk.length = 8 ∧ blocks hk (s.data.toList.drop p) = blocks hs s.data.toList ∧
    Arr wr w.heap.size 85 (warr hk) ∧ Arr wr (w.heap.size + 1) 85 (warr (List.replicate 8 0)) ∧ Below w.heap.size w wr

set_option maxRecDepth 100000 in
set_option maxHeartbeats 1000000 in
theorem over_any (hs : List UInt32) (hl : hs.length = 8) (s : ByteArray) (hm : s.size ≤ 1152921504606847104) (h64 : s.size % 64 = 0) (w : World) :
    Calls Tryz.prog 45 #[.agg (warr hs), .string s] w
      fun e w' => e = .returned (.agg (warr (blocks hs s.data.toList))) ∧ Below w.heap.size w w' := by
  have Hl := Lib.hid hl
  clear hl
  go_enter Tryz.func45, Tryz.ntmps45
  go_wp2
  go_loopw [5] (fun i wr => OvRel hs s w i wr) (fun i _ => s.size - (intOf i).toNat)
  case atStart =>
    refine ⟨0, hs, rfl, Nat.zero_le _, rfl, Hl.out, rfl, ?_, ?_, ?_⟩
    · exact (Arr.new_at w _ _ rfl).alloc _
    · exact Arr.new_at (w.alloc _) _ _ (by simp)
    · exact ((Below.refl _ _).alloc (Nat.le_refl _) _).alloc (by simp) _
  case round =>
    obtain ⟨p, hk, rfl, hts, hp, hk8, hbl, hA, hZ, hB⟩ := hrel
    have Hbl := Lib.hid hbl
    clear hbl
    obtain ⟨h0, h1, h2, h3, h4, h5, h6, h7, rfl⟩ := eight hk8
    clear hk8
    by_cases hlt : p < s.size
    · obtain ⟨c0, c1, c2, c3, c4, c5, c6, c7⟩ := cells8 hA
      have hx : (s.extract p (p + 64)).size = 64 := by simp; omega
      have hi : (p : Int) < s.size := by omega
      have hp64 : p + 64 ≤ s.size := by omega
      have hxl : (s.extract p (p + 64)).data.toList = (s.data.toList.drop p).take 64 := by rw [extract_list, List.drop_take]; simp
      go_wp2
      have Hx := Lib.hid hx
      have Hxl := Lib.hid hxl
      clear hx hxl
      have w64 : IntKind.i64.wrap ((p : Int) + 64) = (p : Int) + 64 := IntWalk.i64_in _ (by omega)
      have n64 : ((p : Int) + 64).toNat = p + 64 := by omega
      have g0 : (p : Int) ≤ (p : Int) + 64 := by omega
      have g1 : 0 ≤ (p : Int) := by omega
      have g2 : 0 ≤ (p : Int) + 64 := by omega
      have g3 : (p : Int) + 64 ≤ s.size := by omega
      go_region_with (first
        | (go_at_call 87
           (with_reducible refine (Block_lit h0 h1 h2 h3 h4 h5 h6 h7 (s.extract p (p + 64)) (by rw [Hx.out]; decide) (by rw [Hx.out]; decide) _).mono ?_)
           rintro e w2 ⟨rfl, hb2⟩
           have hA2 := hA.drew.below hb2 hA.lt
           have hC := block_length [h0, h1, h2, h3, h4, h5, h6, h7] (s.extract p (p + 64)).data.toList
           generalize hX : block [h0, h1, h2, h3, h4, h5, h6, h7] (s.extract p (p + 64)).data.toList = C at *
           have HX := Lib.hid hX
           have hst := hA2.store (P := Tryz.prog) (warr C) (by rw [warr_size, warr_size, hC]) (warr_one C)
           have hsz : (warr C).size = 8 := by rw [warr_size, hC]; rfl
           have HC := Lib.hid hC
           clear hX hC))
      all_goals
        clear hst hsz
        have hZ2 : Arr w2 (w.heap.size + 1) 85 (warr (List.replicate 8 0)) := hZ.drew.below hb2 hZ.lt
        have hB2 : Below w.heap.size w w2 := hB.drew.trans (hb2.mono (Nat.le_of_lt hA.lt))
        clear hA hZ hB hb2 c0 c1 c2 c3 c4 c5 c6 c7
        go_wp2
        refine ⟨⟨p + 64, C, by go_num, hp64, by omega, HC.out, ?_, hA2.row _, hZ2.row_far (by omega) _, below_setRow hB2 (Nat.le_refl _) _⟩, by simp [intOf]; omega⟩
        have e1 : blocks [h0, h1, h2, h3, h4, h5, h6, h7] (s.data.toList.drop p) = blocks (block [h0, h1, h2, h3, h4, h5, h6, h7] ((s.data.toList.drop p).take 64)) ((s.data.toList.drop p).drop 64) :=
          blocks_step _ _ (by simp; omega)
        rw [← Hbl.out, e1, ← Hxl.out, HX.out, List.drop_drop]
    · obtain rfl : p = s.size := by omega
      have hE : blocks [h0, h1, h2, h3, h4, h5, h6, h7] (s.data.toList.drop s.size) = [h0, h1, h2, h3, h4, h5, h6, h7] := blocks_end _ _ (by simp)
      rw [Hbl.out] at hE
      have HE := Lib.hid hE
      clear hE
      have h8 : [h0, h1, h2, h3, h4, h5, h6, h7].length = 8 := rfl
      generalize [h0, h1, h2, h3, h4, h5, h6, h7] = C at *
      have HC := Lib.hid h8
      clear h8
      go_wp2_with (first
        | (refine wpList_load_row rfl 85 _ rfl w.heap.size rfl 85 (warr C) (0, 0) _ hA Tryz.underlying85 rfl (info8 C HC.out) ?_)
        | (refine wpList_store_row rfl 85 _ _ rfl (w.heap.size + 1) (warr C) rfl rfl 85 (warr (List.replicate 8 0)) hZ (info8 C HC.out) (by rw [warr_size, warr_size, HC.out]; rfl) (warr_one C) ?_))
      refine bodyPost_ret (v := .agg (warr C)) ?_ rfl ⟨by rw [HE.out], below_setRow hB (by omega) _⟩
      exact results_cell_row Tryz.results45 _ _ (w.heap.size + 1) 85 (warr C) (0, 0) _ rfl (hZ.row _) Tryz.underlying85 rfl (info8 C HC.out)
end Go.Proofs.YtmikfmcgddmplaaGreatDoor

/- ref.padded: its contract. -/
namespace Go.Proofs.YtmikfmcgddmplaaGreatDoor
open Go.RowKit

/-- the rest, the bit, and k zeroes -/
def zs (r : ByteArray) : Nat → ByteArray
  | 0 => r ++ ⟨#[128]⟩
  | k + 1 => zs r k ++ ⟨#[0]⟩
theorem zs_list (r : ByteArray) (k : Nat) : (zs r k).data.toList = r.data.toList ++ 128 :: List.replicate k 0 := by
  induction k with
  | zero => simp [zs]
  | succ k ih => rw [zs, append_list, ih, List.replicate_succ']; simp
theorem zs_size (r : ByteArray) (k : Nat) : (zs r k).size = r.size + 1 + k := by
  induction k with
  | zero => simp [zs, ByteArray.size_append]; rfl
  | succ k ih => rw [zs, ByteArray.size_append, ih]; rfl
/-- the length's bytes, the last j of them set -/
def lnTo (n : Nat) : Nat → List UInt8
  | 0 => List.replicate 8 0
  | j + 1 => (lnTo n j).set (7 - j) (UInt8.ofNat (n / 256 ^ j))
theorem lnTo_length (n j : Nat) : (lnTo n j).length = 8 := by
  induction j with
  | zero => rfl
  | succ j ih => rw [lnTo, List.length_set, ih]
theorem lnTo_eight (n : Nat) : lnTo n 8 = lenBytes n := by simp [lnTo, lenBytes, List.replicate]

def ZRel (r : ByteArray) (K : Nat) (w : World) (t : Value) (wr : World) : Prop := ∃ k : Nat, k ≤ K ∧ t = .string (zs r k) ∧ w = wr
def LWorld (l : List UInt8) (g : Nat) (w W : World) : Prop := Arr W g 125 (barr l) ∧ Below w.heap.size w W ∧ w.heap.size ≤ g
def LRel (n g : Nat) (w : World) (x i : Value) (wr : World) : Prop :=
  ∃ q : Nat, q ≤ 8 ∧ i = .int .i64 ((q : Int) - 1) ∧ x = .int .u64 ((n / 256 ^ (8 - q) : Nat) : Int) ∧ LWorld (lnTo n (8 - q)) g w wr
theorem LWorld.put {l : List UInt8} {g : Nat} {w W : World} (h : LWorld l g w W) (k : Nat) (x : UInt8) : LWorld (l.set k x) g w (W.setCell ⟨g, k, none⟩ (.int .u8 (x.toNat : Int))) := by
  refine ⟨?_, h.2.1.setCell (by simpa using h.2.2) _, h.2.2⟩
  have := h.1.put k (.int .u8 (x.toNat : Int))
  rw [barr_set] at this
  exact this

set_option maxRecDepth 100000 in
set_option maxHeartbeats 1000000 in
theorem padded_any (r : ByteArray) (m : Nat) (hm : m < 1152921504606846976) (hr : r.size = m % 64) (w : World) :
    Calls Tryz.prog 47 #[.string r, .int .i64 (m : Int)] w
      fun e w' => e = .returned (.string (r ++ bs (pad m))) ∧ Below w.heap.size w w' := by
  have hrl : r.size < 64 := by rw [hr]; exact Nat.mod_lt _ (by omega)
  have HZ : Hid (∀ k, k ≤ 63 - (m + 8) % 64 → ((r.size + 1 + k) % 64 = 56 ↔ k = 63 - (m + 8) % 64)) := by
    intro k hk; omega
  clear hr
  have HK : Hid (bs (pad m) = bs (128 :: (List.replicate (63 - (m + 8) % 64) 0 ++ lenBytes (m * 8)))) := rfl
  have hK : 63 - (m + 8) % 64 ≤ 63 := by omega
  generalize 63 - (m + 8) % 64 = K at *
  go_enter Tryz.func47, Tryz.ntmps47
  go_wp2_with fail
  go_loopw [5] (fun t wr => ZRel r K w t wr) (fun t _ => r.size + 1 + K - (strOf t).size)
  case atStart => exact ⟨0, Nat.zero_le _, rfl, rfl⟩
  case round =>
    obtain ⟨k, hk, rfl, rfl⟩ := hrel
    have hz := zs_size r k
    have hlt64 : (zs r k).size ≤ 200 := by omega
    have HZS : Hid (zs r (k + 1) = zs r k ++ ⟨#[0]⟩) := rfl
    have hiff := HZ.out k hk
    rw [← hz] at hiff
    have HzL := Lib.hid (zs_list r k)
    by_cases hlt : k < K
    · have hne : ((zs r k).size : Int) % 64 ≠ 56 := by omega
      have Hz := Lib.hid hz
      clear hz hiff
      generalize zs r k = t at *
      go_wp2_with fail
      refine ⟨⟨k + 1, by omega, by rw [HZS.out], rfl⟩, ?_⟩
      have := Hz.out
      simp [strOf, ByteArray.size_append]
      show _ - (_ + 1) < _
      omega
    · obtain rfl : k = K := by omega
      have hne : ((zs r k).size : Int) % 64 = 56 := by omega
      clear HZS hz hiff hlt hk
      generalize zs r k = t at *
      go_wp2_with fail
      rw [show (#[Value.int .u8 0, Value.int .u8 0, Value.int .u8 0, Value.int .u8 0, Value.int .u8 0, Value.int .u8 0, Value.int .u8 0, Value.int .u8 0] : Array Value) = barr (lnTo (m * 8) 0) from rfl]
      have hm8 : (m : Int) * 8 = ((m * 8 / 256 ^ (8 - 8) : Nat) : Int) := by simp
      have HN : Hid (m * 8 < 9223372036854775808) := by show m * 8 < 9223372036854775808; omega
      rw [hm8]
      clear hm8 HZ
      generalize m * 8 = N at *
      refine wp_forget (LWorld (lnTo N 0) w.heap.size w) ⟨Arr.new _ _ _, (Below.refl _ _).alloc (Nat.le_refl _) _, Nat.le_refl _⟩ ?_
      intro W hW0
      go_loopw [7, 8] (fun x i wz => LRel N w.heap.size w x i wz) (fun _ i _ => (intOf i + 1).toNat)
      case atStart => exact ⟨8, Nat.le_refl _, rfl, rfl, hW0⟩
      case round =>
        clear hW0 W
        obtain ⟨q, hq, rfl, rfl, hW⟩ := hrel
        cases q with
        | succ q =>
          rw [show ((q + 1 : Nat) : Int) - 1 = (q : Int) from by omega] at *
          have hl := lnTo_length N (8 - (q + 1))
          have hc : wr.cell? ⟨w.heap.size, q, none⟩ = some (.int .u8 (((lnTo N (8 - (q + 1))).getD q 0).toNat : Int)) := (hW.1.cell _).trans (barr_at _ _ (by omega))
          have hf : wr.frozen? ⟨w.heap.size, q, none⟩ = false := hW.1.free _
          have HE : Hid (lnTo N (8 - q) = (lnTo N (8 - (q + 1))).set q (UInt8.ofNat (N / 256 ^ (8 - (q + 1))))) := by
            show _ = _
            rw [show 8 - q = 8 - (q + 1) + 1 from by omega, lnTo, show 7 - (8 - (q + 1)) = q from by omega]
          have HX : Hid (N / 256 ^ (8 - q) = N / 256 ^ (8 - (q + 1)) / 256) := by
            show _ = _
            rw [show 8 - q = 8 - (q + 1) + 1 from by omega, Nat.pow_succ, Nat.div_div_eq_div_mul]
          have hx : N / 256 ^ (8 - (q + 1)) ≤ N := Nat.div_le_self _ _
          have hN := HN.out
          generalize N / 256 ^ (8 - (q + 1)) = x at *
          have hcv : IntKind.u8.wrap (x : Int) = ((UInt8.ofNat x).toNat : Int) := by rw [IntKind.wrap_u8', UInt8.toNat_ofNat']; omega
          generalize (lnTo N (8 - (q + 1))).getD q 0 = y0 at *
          clear hl
          generalize lnTo N (8 - (q + 1)) = L at *
          generalize hb : UInt8.ofNat x = b at *
          clear hb
          have hi : 0 ≤ (q : Int) := by omega
          have hi8 : (q : Int) < 8 := by omega
          go_wp2_with fail
          refine ⟨⟨q, by omega, by go_num, ?_, ?_⟩, by simp [intOf]⟩
          · rw [HX.out]; go_num
          · rw [HE.out]; exact hW.put q b
        | zero =>
          have hl : (lenBytes N).length = 8 := rfl
          rw [show 8 - 0 = 8 from rfl, lnTo_eight] at hW
          have hb := run_bytes (P := Tryz.prog) hW.1 (lenBytes N) (by rw [barr]; exact List.take_of_length_le (by simp)) 8
          rw [hl, ← run_convert_bytes_string wr 105 9 5 _ _ _ Tryz.underlying105 Tryz.underlying5 Tryz.underlying9] at hb
          have hsz : (bs (lenBytes N)).size = 8 := by rw [bs_size]; rfl
          have HF : Hid (Value.string (r ++ bs (pad m)) = .string (t ++ bs (lenBytes N))) := by
            show _ = _
            rw [HK.out]
            congr 1
            apply ByteArray.ext
            apply Array.ext'
            rw [append_list, append_list, HzL.out, bs_list, bs_list]
            simp
          clear hl HK HzL
          generalize lenBytes N = LB at *
          rw [show (((0 : Nat) : Int) - 1) = -1 from rfl]
          go_wp2_with fail
          go_ret
          exact ⟨by rw [HF.out]; rfl, hW.2.1⟩
end Go.Proofs.YtmikfmcgddmplaaGreatDoor

/- ref.text: its contract. -/
namespace Go.Proofs.YtmikfmcgddmplaaGreatDoor
open Go.RowKit
attribute [local go_sem] wd_b24 wd_b16 wd_b8 wd_b0

def outS (hs : List UInt32) : Nat → ByteArray
  | 0 => ⟨#[]⟩
  | k + 1 => outS hs k ++ bs (wbytes (hs.getD k 0))
theorem outS_size (hs : List UInt32) (k : Nat) : (outS hs k).size = 4 * k := by
  induction k with
  | zero => rfl
  | succ k ih => rw [outS, ByteArray.size_append, ih, bs_size]; simp [wbytes]; omega
theorem outS_eight (hs : List UInt32) (h : hs.length = 8) : outS hs 8 = bs (digest hs) := by
  obtain ⟨a, b, c, d, e, f, g, i, rfl⟩ := eight h
  apply ByteArray.ext
  apply Array.ext'
  simp only [outS, append_list, bs_list]
  simp [digest]
def TRel (hs : List UInt32) (w : World) (t i : Value) (wr : World) : Prop :=
  ∃ k : Nat, k ≤ 8 ∧ i = .int .i64 (k : Int) ∧ t = .string (outS hs k) ∧ Below w.heap.size w wr

set_option maxRecDepth 100000 in
set_option maxHeartbeats 1000000 in
theorem text_any (hs : List UInt32) (hl : hs.length = 8) (w : World) :
    Calls Tryz.prog 44 #[.agg (warr hs)] w
      fun e w' => e = .returned (.string (bs (digest hs))) ∧ Below w.heap.size w w' := by
  have Hl := Lib.hid hl
  clear hl
  have hA0 : Arr (w.alloc (.cells (warr hs) 85)) w.heap.size 85 (warr hs) := Arr.new_at w _ _ rfl
  go_enter Tryz.func44, Tryz.ntmps44
  go_wp2_with (refine wpList_load_row rfl 85 _ rfl w.heap.size rfl 85 (warr hs) (0, 0) _ hA0 Tryz.underlying85 rfl (info8 hs Hl.out) ?_)
  clear hA0
  go_loopw [3, 7] (fun t i wr => TRel hs w t i wr) (fun _ i _ => 8 - (intOf i).toNat)
  case atStart => exact ⟨0, by omega, rfl, rfl, (Below.refl _ _).alloc (Nat.le_refl _) _⟩
  case round =>
    obtain ⟨k, hk, rfl, rfl, hB⟩ := hrel
    have hsz := outS_size hs k
    by_cases hlt : k < 8
    · have hv := run_index8 hs Hl.out k hlt wr
      have HE : Hid (outS hs (k + 1) = outS hs k ++ bs (wbytes (hs.getD k 0))) := rfl
      generalize hs.getD k 0 = x at *
      have hb := run_bytes (P := Tryz.prog) (Arr.new wr 5 (barr (wbytes x))) (wbytes x) (by rw [barr]; exact List.take_of_length_le (by simp)) 4
      rw [show (wbytes x).length = 4 from rfl, ← run_convert_bytes_string _ 105 9 5 _ _ _ Tryz.underlying105 Tryz.underlying5 Tryz.underlying9] at hb
      have h4 : (bs (wbytes x)).size = 4 := by rw [bs_size]; rfl
      have ha : barr (wbytes x) = #[.int .u8 ((b24 x).toNat : Int), .int .u8 ((b16 x).toNat : Int), .int .u8 ((b8 x).toNat : Int), .int .u8 ((b0 x).toNat : Int)] := rfl
      rw [ha] at hb
      clear ha
      have hsm : (outS hs k).size ≤ 32 := by omega
      clear hsz
      generalize bs (wbytes x) = wb at *
      generalize outS hs k = t at *
      go_wp2
      refine ⟨⟨k + 1, by omega, by go_num, by rw [HE.out], hB.alloc hB.size _⟩, by simp [intOf]; omega⟩
    · obtain rfl : k = 8 := by omega
      have HE := Lib.hid (outS_eight hs Hl.out)
      clear hsz
      generalize outS hs 8 = t at *
      go_wp2
      go_ret
      exact ⟨by rw [← HE.out]; rfl, hB⟩
end Go.Proofs.YtmikfmcgddmplaaGreatDoor

/- ref.Sum: its contract. -/
namespace Go.Proofs.YtmikfmcgddmplaaGreatDoor
open Go.RowKit

theorem sha_parts (l : List UInt8) : sha l = digest (blocks (blocks startH (l.take (whole l.length))) (l.drop (whole l.length) ++ pad l.length)) := by
  rw [← blocks_whole]; rfl
theorem pad_length (m : Nat) : (pad m).length = 72 - (m + 8) % 64 := by rw [← padTo_eight, padTo_length]; omega

set_option maxRecDepth 100000 in
set_option maxHeartbeats 1000000 in
theorem RefSum_any (s : ByteArray) (hs : s.size < 1152921504606846976) (w : World) :
    Calls Tryz.prog 25 #[.string s] w fun e w' => e = .returned (.string (bs (sha s.data.toList))) ∧ Below w.heap.size w w' := by
  have HS := Lib.hid (sha_parts s.data.toList)
  have hsl : s.data.toList.length = s.size := by simp
  rw [hsl] at HS
  clear hsl
  go_enter Tryz.func25, Tryz.ntmps25
  go_upto_region 2 with fail
  have hk : (s.size : Int) - (s.size : Int) % 64 = ((whole s.size : Nat) : Int) := by unfold whole; omega
  rw [hk]
  have hk1 : whole s.size ≤ s.size := whole_le _
  have hk2 : whole s.size % 64 = 0 := whole_mod _
  have hk3 : s.size - whole s.size = s.size % 64 := by unfold whole; omega
  clear hk
  generalize whole s.size = kk at *
  have e1 : (s.extract 0 kk).size = kk := by simp; omega
  have e2 : (s.extract kk s.size).size = s.size % 64 := by simp; omega
  have l1 : (s.extract 0 kk).data.toList = s.data.toList.take kk := by rw [extract_list]; simp
  have l2 : (s.extract kk s.size).data.toList = s.data.toList.drop kk := by rw [extract_list, List.take_of_length_le (by simp)]
  have HS2 : Hid (sha s.data.toList = digest (blocks (blocks startH (s.extract 0 kk).data.toList) (s.extract kk s.size ++ bs (pad s.size)).data.toList)) := by
    show _ = _
    rw [HS.out, l1, append_list, l2, bs_list]
  have hp : (s.extract kk s.size ++ bs (pad s.size)).size % 64 = 0 ∧ (s.extract kk s.size ++ bs (pad s.size)).size ≤ 200 := by
    rw [ByteArray.size_append, e2, bs_size, pad_length]; omega
  have E1 := Lib.hid e1
  have E2 := Lib.hid e2
  have HP := Lib.hid hp
  have HK2 := Lib.hid hk2
  clear HS l1 l2 e1 e2 hp hk2 hk3
  have g0 : 0 ≤ (kk : Int) := by omega
  have g1 : (kk : Int) ≤ s.size := by omega
  go_region_with (first
      | (go_at_call 46
         (with_reducible refine (Start_any _).mono ?_)
         rintro e w1 ⟨rfl, b1⟩)
      | (go_at_call 45
         (with_reducible refine (over_any startH rfl (s.extract 0 kk) (by rw [E1.out]; omega) (by rw [E1.out]; exact HK2.out) _).mono ?_)
         rintro e w2 ⟨rfl, b2⟩
         have hx := blocks_len8 startH (s.extract 0 kk).data.toList rfl
         generalize blocks startH (s.extract 0 kk).data.toList = X at *
         have Hx := Lib.hid hx
         clear hx)
      | (go_at_call 47
         (with_reducible refine (padded_any (s.extract kk s.size) s.size hs E2.out _).mono ?_)
         rintro e w3 ⟨rfl, b3⟩
         generalize s.extract kk s.size ++ bs (pad s.size) = p at *)
      | (go_at_call 45
         (with_reducible refine (over_any X Hx.out p (by have := HP.out.2; omega) HP.out.1 _).mono ?_)
         rintro e w4 ⟨rfl, b4⟩
         have hy := blocks_len8 X p.data.toList Hx.out
         generalize blocks X p.data.toList = Y at *
         have Hy := Lib.hid hy
         clear hy)
      | (go_at_call 44
         (with_reducible refine (text_any Y Hy.out _).mono ?_)
         rintro e w5 ⟨rfl, b5⟩))
  go_wp2_with fail
  go_ret
  refine ⟨by rw [HS2.out]; rfl, ?_⟩
  have c1 : Below w.heap.size w w1 := (Below.refl _ w).drew.trans b1
  have c2 := c1.trans (b2.mono c1.size)
  have c3 := c2.trans (b3.mono c2.size)
  have c4 := c3.trans (b4.mono c3.size)
  exact c4.trans (b5.mono c4.size)
end Go.Proofs.YtmikfmcgddmplaaGreatDoor
