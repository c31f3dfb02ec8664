/- ref.Add: its contract. -/
import Derived.Test.YtngfgmcnpbjefaaDoorRefGood
namespace Go.Proofs.YtngfgmcnpbjefaaDoor
open Go.RowKit

theorem store10 {W : World} {g : Nat} {t : TypeId} (h : Arr W g t zeroS) (y0 y1 y2 y3 y4 y5 y6 y7 : UInt32) (r : ByteArray) (m : Int) :
    Arr ((((((((((W.setCell ⟨g, 0, none⟩ (.int .u32 (wd y0))).setCell ⟨g, 1, none⟩ (.int .u32 (wd y1))).setCell ⟨g, 2, none⟩ (.int .u32 (wd y2))).setCell ⟨g, 3, none⟩ (.int .u32 (wd y3))).setCell ⟨g, 4, none⟩ (.int .u32 (wd y4))).setCell ⟨g, 5, none⟩ (.int .u32 (wd y5))).setCell ⟨g, 6, none⟩ (.int .u32 (wd y6))).setCell ⟨g, 7, none⟩ (.int .u32 (wd y7))).setCell ⟨g, 8, none⟩ (.string r)).setCell ⟨g, 9, none⟩ (.int .i64 m)) g t (sarr [y0, y1, y2, y3, y4, y5, y6, y7] r m) := by
  have q := ((((((((((h.put 0 (.int .u32 (wd y0))).put 1 (.int .u32 (wd y1))).put 2 (.int .u32 (wd y2))).put 3 (.int .u32 (wd y3))).put 4 (.int .u32 (wd y4))).put 5 (.int .u32 (wd y5))).put 6 (.int .u32 (wd y6))).put 7 (.int .u32 (wd y7))).put 8 (.string r)).put 9 (.int .i64 m))
  have e : ((((((((((zeroS.setIfInBounds 0 (.int .u32 (wd y0))).setIfInBounds 1 (.int .u32 (wd y1))).setIfInBounds 2 (.int .u32 (wd y2))).setIfInBounds 3 (.int .u32 (wd y3))).setIfInBounds 4 (.int .u32 (wd y4))).setIfInBounds 5 (.int .u32 (wd y5))).setIfInBounds 6 (.int .u32 (wd y6))).setIfInBounds 7 (.int .u32 (wd y7))).setIfInBounds 8 (.string r)).setIfInBounds 9 (.int .i64 m)) = sarr [y0, y1, y2, y3, y4, y5, y6, y7] r m := by kernel_rfl
  rw [e] at q
  exact q
theorem store10_below {W w : World} {g B : Nat} (hb : Below B w W) (hg : B ≤ g) (y0 y1 y2 y3 y4 y5 y6 y7 : UInt32) (r : ByteArray) (m : Int) :
    Below B w ((((((((((W.setCell ⟨g, 0, none⟩ (.int .u32 (wd y0))).setCell ⟨g, 1, none⟩ (.int .u32 (wd y1))).setCell ⟨g, 2, none⟩ (.int .u32 (wd y2))).setCell ⟨g, 3, none⟩ (.int .u32 (wd y3))).setCell ⟨g, 4, none⟩ (.int .u32 (wd y4))).setCell ⟨g, 5, none⟩ (.int .u32 (wd y5))).setCell ⟨g, 6, none⟩ (.int .u32 (wd y6))).setCell ⟨g, 7, none⟩ (.int .u32 (wd y7))).setCell ⟨g, 8, none⟩ (.string r)).setCell ⟨g, 9, none⟩ (.int .i64 m)) := ((((((((((hb.setCell hg _).setCell hg _).setCell hg _).setCell hg _).setCell hg _).setCell hg _).setCell hg _).setCell hg _).setCell hg _).setCell hg _)

set_option maxRecDepth 100000 in
set_option maxHeartbeats 1000000 in
theorem RefAdd_ok (hs : List UInt32) (h8 : hs.length = 8) (r b : ByteArray) (m : Nat) (h : okS r m) (hb : m + b.size < 1152921504606846976) (hbz : b.size ≤ 140737488355328) (w : World) :
    Calls Tryd.prog 15 #[.agg (sarr hs r m), .string b] w fun e w' => e = .returned (.tuple #[stv (blocks hs (r.data.toList ++ b.data.toList)) (restOf (r.data.toList ++ b.data.toList)) (m + b.size), .int .i64 0]) ∧ Below w.heap.size w w' := by
  have hr : r.size < 64 := by have := h.2.2; omega
  have hsum : ¬ (9223372036854775807 < r.size + b.size) := by omega
  obtain ⟨h0, h1, h2, h3, h4, h5, h6, h7, rfl⟩ := eight h8
  clear h8
  have HE : Hid (stv (blocks [h0, h1, h2, h3, h4, h5, h6, h7] (r.data.toList ++ b.data.toList)) (restOf (r.data.toList ++ b.data.toList)) (m + b.size) =
      .agg (sarr (blocks [h0, h1, h2, h3, h4, h5, h6, h7] ((r ++ b).extract 0 (whole (r ++ b).size)).data.toList) ((r ++ b).extract (whole (r ++ b).size) (r ++ b).size) ((m : Int) + b.size))) := by
    have e1 : ((r ++ b).extract 0 (whole (r ++ b).size)).data.toList = (r ++ b).data.toList.take (whole (r ++ b).data.toList.length) := by rw [extract_list]; simp
    have e2 : (r ++ b).extract (whole (r ++ b).size) (r ++ b).size = bs (restOf (r ++ b).data.toList) := by
      apply ByteArray.ext
      apply Array.ext'
      rw [bs_list, restOf, extract_list, List.take_of_length_le (by simp)]
      simp
    show _ = _
    rw [e1, e2, ← blocks_whole, append_list]
    unfold stv
    rw [Int.natCast_add]
  go_enter Tryd.func15, Tryd.ntmps15
  go_upto_region 1 with fail
  refine wp_forget (SW [h0, h1, h2, h3, h4, h5, h6, h7] r m w) ⟨(Arr.new _ _ _).alloc _, Arr.new_at (w.alloc _) _ _ (by simp), ((Below.refl _ _).alloc (Nat.le_refl _) _).alloc (by simp) _⟩ ?_
  intro W hW
  go_wp2_with (refine wpList_load_row rfl 28 _ rfl w.heap.size rfl 28 _ (0, 0) _ hW.1 Tryd.underlying28 rfl (infoS _ rfl _ _) ?_)
  (with_reducible refine (RefGood_yes [h0, h1, h2, h3, h4, h5, h6, h7] rfl r m h _).mono ?_)
  rintro e w1 ⟨rfl, b1⟩
  have hW1 := hW.below b1
  clear hW b1 W
  have c8 : w1.cell? ⟨w.heap.size, 8, none⟩ = some (.string r) := hW1.1.cell 8
  have c9 : w1.cell? ⟨w.heap.size, 9, none⟩ = some (.int .i64 m) := hW1.1.cell 9
  go_upto_region 4 with fail
  have hsz : (r ++ b).size ≤ 140737488355400 := by rw [ByteArray.size_append]; omega
  generalize r ++ b = s at *
  clear c8 c9
  go_upto_region 5 with fail
  rw [show ((s.size : Int) - (s.size : Int) % 64) = ((whole s.size : Nat) : Int) from by unfold whole; omega]
  have hk1 : whole s.size ≤ s.size := whole_le _
  have hk2 : whole s.size % 64 = 0 := whole_mod _
  generalize whole s.size = kk at *
  have E1 : Hid ((s.extract 0 kk).size = kk) := by show _ = _; simp; omega
  have HK2 := Lib.hid hk2
  clear hk2
  have g0 : 0 ≤ (kk : Int) := by omega
  have g1 : (kk : Int) ≤ s.size := by omega
  obtain ⟨c0, c1, c2, c3, c4, c5, c6, c7, c8, c9⟩ := cells10 hW1.1
  have w9 : IntKind.i64.wrap ((m : Int) + b.size) = (m : Int) + b.size := IntWalk.i64_in _ (by omega)
  clear h hr hsum
  go_region_with (first
    | (go_at_call 32
       (with_reducible refine (over_lit h0 h1 h2 h3 h4 h5 h6 h7 (s.extract 0 kk) (by rw [E1.out]; omega) (by rw [E1.out]; exact HK2.out) _).mono ?_)
       rintro e w2 ⟨rfl, b2⟩
       have hW2 := hW1.drew.below b2
       have hx := blocks_len8 [h0, h1, h2, h3, h4, h5, h6, h7] (s.extract 0 kk).data.toList rfl
       generalize blocks [h0, h1, h2, h3, h4, h5, h6, h7] (s.extract 0 kk).data.toList = X at *
       obtain ⟨y0, y1, y2, y3, y4, y5, y6, y7, rfl⟩ := eight hx
       have hwx : warr [y0, y1, y2, y3, y4, y5, y6, y7] = #[.int .u32 (wd y0), .int .u32 (wd y1), .int .u32 (wd y2), .int .u32 (wd y3), .int .u32 (wd y4), .int .u32 (wd y5), .int .u32 (wd y6), .int .u32 (wd y7)] := rfl
       clear hx
       obtain ⟨z0, z1, z2, z3, z4, z5, z6, z7, z8, z9⟩ := cells10 (h0 := 0) (h1 := 0) (h2 := 0) (h3 := 0) (h4 := 0) (h5 := 0) (h6 := 0) (h7 := 0) (r := ⟨#[]⟩) (m := 0) hW2.2.1
       obtain ⟨f0, f1, f2, f3, f4, f5, f6, f7⟩ := frees8 hW2.2.1
       have f8 := hW2.2.1.free 8
       have f9 := hW2.2.1.free 9
       obtain ⟨d0, d1, d2, d3, d4, d5, d6, d7, d8, d9⟩ := cells10 hW2.1))
  all_goals
    clear z0 z1 z2 z3 z4 z5 z6 z7 z8 z9 f0 f1 f2 f3 f4 f5 f6 f7 f8 f9 d0 d1 d2 d3 d4 d5 d6 d7 d8 d9 c0 c1 c2 c3 c4 c5 c6 c7 c8 c9 hwx
    go_wp2_with fail
    refine bodyPost_ret (v := .tuple #[.agg (sarr [y0, y1, y2, y3, y4, y5, y6, y7] (s.extract kk s.size) ((m : Int) + b.size)), .int .i64 0]) ?_ rfl ⟨by rw [HE.out], store10_below hW2.2.2 (by omega) y0 y1 y2 y3 y4 y5 y6 y7 (s.extract kk s.size) ((m : Int) + b.size)⟩
    rw [results_cell_tmp Tryd.results15]
    have hld := run_loadVar_row (P := Tryd.prog) _ _ _ 28 (sarr [y0, y1, y2, y3, y4, y5, y6, y7] (s.extract kk s.size) ((m : Int) + b.size)) _ _ (store10 hW2.2.1 y0 y1 y2 y3 y4 y5 y6 y7 (s.extract kk s.size) ((m : Int) + b.size)) Tryd.underlying28 rfl (infoS _ rfl _ _)
    simp [Act.put, asAddr, hld, Result.andThen]

set_option maxRecDepth 100000 in
set_option maxHeartbeats 1000000 in
theorem RefAdd_bad (hs : List UInt32) (h8 : hs.length = 8) (r b : ByteArray) (m : Int) (hm : -9223372036854775808 ≤ m) (hM : m ≤ 9223372036854775807) (h : ¬ okS r m) (w : World) :
    Calls Tryd.prog 15 #[.agg (sarr hs r m), .string b] w fun e w' => e = .returned (.tuple #[.agg zeroS, .int .i64 3]) ∧ Below w.heap.size w w' := by
  go_enter Tryd.func15, Tryd.ntmps15
  go_upto_region 1 with fail
  refine wp_forget (SW hs r m w) ⟨(Arr.new _ _ _).alloc _, Arr.new_at (w.alloc _) _ _ (by simp), ((Below.refl _ _).alloc (Nat.le_refl _) _).alloc (by simp) _⟩ ?_
  intro W hW
  go_wp2_with (refine wpList_load_row rfl 28 _ rfl w.heap.size rfl 28 _ (0, 0) _ hW.1 Tryd.underlying28 rfl (infoS _ h8 _ _) ?_)
  (with_reducible refine (RefGood_no hs h8 r m hm hM h _).mono ?_)
  rintro e w1 ⟨rfl, b1⟩
  have hW1 := hW.below b1
  go_wp2_with (refine wpList_store_row rfl 28 _ _ rfl (w.heap.size + 1) zeroS rfl rfl 28 zeroS hW1.2.1 (infoS (List.replicate 8 0) rfl ⟨#[]⟩ 0) rfl (sarr_one _ _ _) ?_)
  refine bodyPost_ret (v := .tuple #[.agg zeroS, .int .i64 3]) ?_ rfl ⟨rfl, below_setRow hW1.2.2 (by omega) _⟩
  rw [results_cell_tmp Tryd.results15]
  have hld := run_loadVar_row (P := Tryd.prog) _ _ _ 28 _ _ _ (hW1.2.1.row zeroS) Tryd.underlying28 rfl (infoS (List.replicate 8 0) rfl ⟨#[]⟩ 0)
  simp [asAddr, hld, Result.andThen]

set_option maxRecDepth 100000 in
set_option maxHeartbeats 1000000 in
theorem RefAdd_long (hs : List UInt32) (h8 : hs.length = 8) (r b : ByteArray) (m : Nat) (h : okS r m) (hb : 1152921504606846976 ≤ m + b.size) (hbz : b.size ≤ 140737488355328) (w : World) :
    Calls Tryd.prog 15 #[.agg (sarr hs r m), .string b] w fun e w' => e = .returned (.tuple #[.agg zeroS, .int .i64 3]) ∧ Below w.heap.size w w' := by
  have hm := h.2.1
  have hd1 : decide (576460752303423488 < (b.size : Int)) = false := by simp; omega
  have hd2 : decide (1152921504606846976 ≤ (m : Int) + (b.size : Int)) = true := by simp; omega
  have hmz : (m : Int) ≤ 1152921504606846976 := by omega
  have Hh := Lib.hid h
  clear h hb hm
  go_enter Tryd.func15, Tryd.ntmps15
  go_upto_region 1 with fail
  refine wp_forget (SW hs r m w) ⟨(Arr.new _ _ _).alloc _, Arr.new_at (w.alloc _) _ _ (by simp), ((Below.refl _ _).alloc (Nat.le_refl _) _).alloc (by simp) _⟩ ?_
  intro W hW
  go_wp2_with (refine wpList_load_row rfl 28 _ rfl w.heap.size rfl 28 _ (0, 0) _ hW.1 Tryd.underlying28 rfl (infoS _ h8 _ _) ?_)
  (with_reducible refine (RefGood_yes hs h8 r m Hh.out _).mono ?_)
  rintro e w1 ⟨rfl, b1⟩
  have hW1 := hW.below b1
  have c9 : w1.cell? ⟨w.heap.size, 9, none⟩ = some (.int .i64 m) := by
    rw [hW1.1.cell 9]
    obtain ⟨_, _, _, _, _, _, _, _, rfl⟩ := eight h8
    rfl
  go_upto_region 2 with fail
  go_wp2_with (refine wpList_store_row rfl 28 _ _ rfl (w.heap.size + 1) zeroS rfl rfl 28 zeroS hW1.2.1 (infoS (List.replicate 8 0) rfl ⟨#[]⟩ 0) rfl (sarr_one _ _ _) ?_)
  refine bodyPost_ret (v := .tuple #[.agg zeroS, .int .i64 3]) ?_ rfl ⟨rfl, below_setRow hW1.2.2 (by omega) _⟩
  rw [results_cell_tmp Tryd.results15]
  have hld := run_loadVar_row (P := Tryd.prog) _ _ _ 28 _ _ _ (hW1.2.1.row zeroS) Tryd.underlying28 rfl (infoS (List.replicate 8 0) rfl ⟨#[]⟩ 0)
  simp [asAddr, hld, Result.andThen]
end Go.Proofs.YtngfgmcnpbjefaaDoor
