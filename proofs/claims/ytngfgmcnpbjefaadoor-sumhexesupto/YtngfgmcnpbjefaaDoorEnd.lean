/- sum.Add where it errs, sum.End: their contracts. -/
import Derived.Test.YtngfgmcnpbjefaaDoorGood
namespace Go.Proofs.YtngfgmcnpbjefaaDoor
open Go.RowKit

set_option maxRecDepth 100000 in
set_option maxHeartbeats 1000000 in
theorem Add_bad (hs : List UInt32) (h8 : hs.length = 8) (r b : ByteArray) (m : Int) (hm : -9223372036854775808 ≤ m) (hM : m ≤ 9223372036854775807) (h : ¬ okS r m) (w : World) :
    Calls Tryd.prog 14 #[.agg (sarr hs r m), .string b] w fun e w' => e = .returned (.tuple #[.agg zeroS, .int .i64 3]) ∧ Below w.heap.size w w' := by
  go_enter Tryd.func14, Tryd.ntmps14
  go_upto_region 1 with fail
  refine wp_forget (SW hs r m w) ⟨(Arr.new _ _ _).alloc _, Arr.new_at (w.alloc _) _ _ (by simp), ((Below.refl _ _).alloc (Nat.le_refl _) _).alloc (by simp) _⟩ ?_
  intro W hW
  go_wp2_with (refine wpList_load_row rfl 28 _ rfl w.heap.size rfl 28 _ (0, 0) _ hW.1 Tryd.underlying28 rfl (infoS _ h8 _ _) ?_)
  (with_reducible refine (Good_no hs h8 r m hm hM h _).mono ?_)
  rintro e w1 ⟨rfl, b1⟩
  have hW1 := hW.below b1
  go_wp2_with (refine wpList_store_row rfl 28 _ _ rfl (w.heap.size + 1) zeroS rfl rfl 28 zeroS hW1.2.1 (infoS (List.replicate 8 0) rfl ⟨#[]⟩ 0) rfl (sarr_one _ _ _) ?_)
  refine bodyPost_ret (v := .tuple #[.agg zeroS, .int .i64 3]) ?_ rfl ⟨rfl, below_setRow hW1.2.2 (by omega) _⟩
  rw [results_cell_tmp Tryd.results14]
  have hld := run_loadVar_row (P := Tryd.prog) _ _ _ 28 _ _ _ (hW1.2.1.row zeroS) Tryd.underlying28 rfl (infoS (List.replicate 8 0) rfl ⟨#[]⟩ 0)
  simp [asAddr, hld, Result.andThen]

set_option maxRecDepth 100000 in
set_option maxHeartbeats 1000000 in
theorem Add_long (hs : List UInt32) (h8 : hs.length = 8) (r b : ByteArray) (m : Nat) (h : okS r m) (hb : 1152921504606846976 ≤ m + b.size) (_hbm : b.size ≤ 9223372036854775807) (w : World) :
    Calls Tryd.prog 14 #[.agg (sarr hs r m), .string b] w fun e w' => e = .returned (.tuple #[.agg zeroS, .int .i64 3]) ∧ Below w.heap.size w w' := by
  have hm := h.2.1
  have hd : decide (1152921504606846976 - (m : Int) ≤ (b.size : Int)) = true := by simp; omega
  have Hb := Lib.hid hb
  clear hb
  go_enter Tryd.func14, Tryd.ntmps14
  go_upto_region 1 with fail
  refine wp_forget (SW hs r m w) ⟨(Arr.new _ _ _).alloc _, Arr.new_at (w.alloc _) _ _ (by simp), ((Below.refl _ _).alloc (Nat.le_refl _) _).alloc (by simp) _⟩ ?_
  intro W hW
  go_wp2_with (refine wpList_load_row rfl 28 _ rfl w.heap.size rfl 28 _ (0, 0) _ hW.1 Tryd.underlying28 rfl (infoS _ h8 _ _) ?_)
  (with_reducible refine (Good_yes hs h8 r m h _).mono ?_)
  rintro e w1 ⟨rfl, b1⟩
  have hW1 := hW.below b1
  have c9 : w1.cell? ⟨w.heap.size, 9, none⟩ = some (.int .i64 m) := by
    rw [hW1.1.cell 9]
    obtain ⟨_, _, _, _, _, _, _, _, rfl⟩ := eight h8
    rfl
  go_wp2_with (refine wpList_store_row rfl 28 _ _ rfl (w.heap.size + 1) zeroS rfl rfl 28 zeroS hW1.2.1 (infoS (List.replicate 8 0) rfl ⟨#[]⟩ 0) rfl (sarr_one _ _ _) ?_)
  refine bodyPost_ret (v := .tuple #[.agg zeroS, .int .i64 3]) ?_ rfl ⟨rfl, below_setRow hW1.2.2 (by omega) _⟩
  rw [results_cell_tmp Tryd.results14]
  have hld := run_loadVar_row (P := Tryd.prog) _ _ _ 28 _ _ _ (hW1.2.1.row zeroS) Tryd.underlying28 rfl (infoS (List.replicate 8 0) rfl ⟨#[]⟩ 0)
  simp [asAddr, hld, Result.andThen]

set_option maxRecDepth 100000 in
set_option maxHeartbeats 1000000 in
theorem End_ok (hs : List UInt32) (h8 : hs.length = 8) (r : ByteArray) (m : Nat) (h : okS r m) (w : World) (ht : Tab w) :
    Calls Tryd.prog 16 #[.agg (sarr hs r m)] w fun e w' => e = .returned (.tuple #[.string (bs (shaFrom hs r.data.toList m)), .int .i64 0]) ∧ Below w.heap.size w w' := by
  have hr : r.size < 64 := by have := h.2.2; omega
  have hm : m < 1152921504606846976 := by have := h.2.1; omega
  go_enter Tryd.func16, Tryd.ntmps16
  go_upto_region 1 with fail
  refine wp_forget (fun W => Arr W w.heap.size 28 (sarr hs r m) ∧ Below w.heap.size w W) ⟨Arr.new _ _ _, (Below.refl _ _).alloc (Nat.le_refl _) _⟩ ?_
  rintro W ⟨hA, hB⟩
  go_wp2_with (refine wpList_load_row rfl 28 _ rfl w.heap.size rfl 28 _ (0, 0) _ hA Tryd.underlying28 rfl (infoS _ h8 _ _) ?_)
  (with_reducible refine (Good_yes hs h8 r m h _).mono ?_)
  rintro e w1 ⟨rfl, b1⟩
  have hA1 := hA.below b1 hA.lt
  have hB1 : Below w.heap.size w w1 := hB.trans (b1.mono hB.size)
  have t1 := ht.below hB1 ht.1
  go_wp2_with (refine wpList_load_row rfl 28 _ rfl w.heap.size rfl 28 _ (0, 0) _ hA1 Tryd.underlying28 rfl (infoS _ h8 _ _) ?_)
  (with_reducible refine (finish_any hs h8 r m hm hr _ t1).mono ?_)
  rintro e w2 ⟨rfl, b2⟩
  go_wp2_with fail
  go_ret2
  exact ⟨rfl, hB1.trans (b2.mono hB1.size)⟩

set_option maxRecDepth 100000 in
set_option maxHeartbeats 1000000 in
theorem End_bad (hs : List UInt32) (h8 : hs.length = 8) (r : ByteArray) (m : Int) (hm : -9223372036854775808 ≤ m) (hM : m ≤ 9223372036854775807) (h : ¬ okS r m) (w : World) :
    Calls Tryd.prog 16 #[.agg (sarr hs r m)] w fun e w' => e = .returned (.tuple #[.string ⟨#[]⟩, .int .i64 3]) ∧ Below w.heap.size w w' := by
  go_enter Tryd.func16, Tryd.ntmps16
  go_upto_region 1 with fail
  refine wp_forget (fun W => Arr W w.heap.size 28 (sarr hs r m) ∧ Below w.heap.size w W) ⟨Arr.new _ _ _, (Below.refl _ _).alloc (Nat.le_refl _) _⟩ ?_
  rintro W ⟨hA, hB⟩
  go_wp2_with (refine wpList_load_row rfl 28 _ rfl w.heap.size rfl 28 _ (0, 0) _ hA Tryd.underlying28 rfl (infoS _ h8 _ _) ?_)
  (with_reducible refine (Good_no hs h8 r m hm hM h _).mono ?_)
  rintro e w1 ⟨rfl, b1⟩
  have hB1 : Below w.heap.size w w1 := hB.trans (b1.mono hB.size)
  go_wp2_with fail
  go_ret2
  exact ⟨rfl, hB1⟩
end Go.Proofs.YtngfgmcnpbjefaaDoor
