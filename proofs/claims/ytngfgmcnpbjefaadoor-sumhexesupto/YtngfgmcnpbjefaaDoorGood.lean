/- sum.Good, sum.Add, sum.End: their contracts. -/
import Derived.Test.YtngfgmcnpbjefaaDoorTests
namespace Go.Proofs.YtngfgmcnpbjefaaDoor
open Go.RowKit

/-- A state of whatever content, as a value. -/
def stx (hs : List UInt32) (r : ByteArray) (m : Int) : Value := .agg (sarr hs r m)
/-- Is it one that something may have led to? -/
def okS (r : ByteArray) (m : Int) : Prop := 0 ≤ m ∧ m < 1152921504606846976 ∧ (r.size : Int) = m % 64

set_option maxRecDepth 100000 in
set_option maxHeartbeats 1000000 in
theorem Good_yes (hs : List UInt32) (h8 : hs.length = 8) (r : ByteArray) (m : Int) (h : okS r m) (w : World) :
    Calls Tryd.prog 18 #[.agg (sarr hs r m)] w fun e w' => e = .returned (.bool true) ∧ Below w.heap.size w w' := by
  obtain ⟨h0, h1, h2⟩ := h
  obtain ⟨x0, x1, x2, x3, x4, x5, x6, x7, rfl⟩ := eight h8
  have c8 : (sarr [x0, x1, x2, x3, x4, x5, x6, x7] r m)[8]? = some (.string r) := rfl
  have c9 : (sarr [x0, x1, x2, x3, x4, x5, x6, x7] r m)[9]? = some (.int .i64 m) := rfl
  generalize sarr [x0, x1, x2, x3, x4, x5, x6, x7] r m = A at *
  have t1 : ((r.size : Int) == m % 64) = true := by simp [h2]
  clear h2
  go_enter Tryd.func18, Tryd.ntmps18
  go_wp2
  go_ret
  exact ⟨rfl, (Below.refl _ _).alloc (Nat.le_refl _) _⟩

set_option maxRecDepth 100000 in
set_option maxHeartbeats 1000000 in
theorem Good_no (hs : List UInt32) (h8 : hs.length = 8) (r : ByteArray) (m : Int) (hm : -9223372036854775808 ≤ m) (hM : m ≤ 9223372036854775807) (h : ¬ okS r m) (w : World) :
    Calls Tryd.prog 18 #[.agg (sarr hs r m)] w fun e w' => e = .returned (.bool false) ∧ Below w.heap.size w w' := by
  obtain ⟨x0, x1, x2, x3, x4, x5, x6, x7, rfl⟩ := eight h8
  have c8 : (sarr [x0, x1, x2, x3, x4, x5, x6, x7] r m)[8]? = some (.string r) := rfl
  have c9 : (sarr [x0, x1, x2, x3, x4, x5, x6, x7] r m)[9]? = some (.int .i64 m) := rfl
  generalize sarr [x0, x1, x2, x3, x4, x5, x6, x7] r m = A at *
  by_cases h0 : 0 ≤ m
  · by_cases h1 : m < 1152921504606846976
    · have t1 : ((r.size : Int) == m % 64) = false := by
        rw [beq_eq_false_iff_ne]
        intro e
        exact h ⟨h0, h1, e⟩
      clear h
      go_enter Tryd.func18, Tryd.ntmps18
      go_wp2
      go_ret
      exact ⟨rfl, (Below.refl _ _).alloc (Nat.le_refl _) _⟩
    · have t1 : decide (m < 1152921504606846976) = false := by simpa using h1
      clear h
      go_enter Tryd.func18, Tryd.ntmps18
      go_wp2
      go_ret
      exact ⟨rfl, (Below.refl _ _).alloc (Nat.le_refl _) _⟩
  · have t1 : decide (0 ≤ m) = false := by simpa using h0
    clear h
    go_enter Tryd.func18, Tryd.ntmps18
    go_wp2
    go_ret
    exact ⟨rfl, (Below.refl _ _).alloc (Nat.le_refl _) _⟩

set_option maxRecDepth 100000 in
set_option maxHeartbeats 1000000 in
theorem Add_ok (hs : List UInt32) (h8 : hs.length = 8) (r b : ByteArray) (m : Nat) (h : okS r m) (hb : m + b.size < 1152921504606846976) (w : World) (ht : Tab w) :
    Calls Tryd.prog 14 #[.agg (sarr hs r m), .string b] w fun e w' => e = .returned (.tuple #[stv (blocks hs (r.data.toList ++ b.data.toList)) (restOf (r.data.toList ++ b.data.toList)) (m + b.size), .int .i64 0]) ∧ Below w.heap.size w w' := by
  have hr : r.size < 64 := by have := h.2.2; omega
  go_enter Tryd.func14, Tryd.ntmps14
  go_upto_region 1 with fail
  refine wp_forget (SW hs r m w) ⟨(Arr.new _ _ _).alloc _, Arr.new_at (w.alloc _) _ _ (by simp), ((Below.refl _ _).alloc (Nat.le_refl _) _).alloc (by simp) _⟩ ?_
  intro W hW
  go_wp2_with (refine wpList_load_row rfl 28 _ rfl w.heap.size rfl 28 _ (0, 0) _ hW.1 Tryd.underlying28 rfl (infoS _ h8 _ _) ?_)
  (with_reducible refine (Good_yes hs h8 r m h _).mono ?_)
  rintro e w1 ⟨rfl, b1⟩
  have hW1 := hW.below b1
  have c9 : w1.cell? ⟨w.heap.size, 9, none⟩ = some (.int .i64 m) := by
    rw [hW1.1.cell 9]
    obtain ⟨_, _, _, _, _, _, _, _, rfl⟩ := eight h8
    rfl
  go_upto_region 3 with fail
  go_wp2_with (refine wpList_load_row rfl 28 _ rfl w.heap.size rfl 28 _ (0, 0) _ hW1.1 Tryd.underlying28 rfl (infoS _ h8 _ _) ?_)
  have t1 : Tab w1 := ht.below hW1.2.2 ht.1
  (with_reducible refine (absorb_any hs h8 r b m hb hr _ t1).mono ?_)
  rintro e w2 ⟨rfl, b2⟩
  have hW2 := hW1.below b2
  have hl := blocks_len8 hs (r.data.toList ++ b.data.toList) h8
  have hi := infoS _ hl (bs (restOf (r.data.toList ++ b.data.toList))) ((m + b.size : Nat) : Int)
  have hz := sarr_size _ hl (bs (restOf (r.data.toList ++ b.data.toList))) ((m + b.size : Nat) : Int)
  have ho := sarr_one (blocks hs (r.data.toList ++ b.data.toList)) (bs (restOf (r.data.toList ++ b.data.toList))) ((m + b.size : Nat) : Int)
  have HE : Hid (stv (blocks hs (r.data.toList ++ b.data.toList)) (restOf (r.data.toList ++ b.data.toList)) (m + b.size) = .agg (sarr (blocks hs (r.data.toList ++ b.data.toList)) (bs (restOf (r.data.toList ++ b.data.toList))) ((m + b.size : Nat) : Int))) := rfl
  generalize sarr (blocks hs (r.data.toList ++ b.data.toList)) (bs (restOf (r.data.toList ++ b.data.toList))) ((m + b.size : Nat) : Int) = X at *
  have Hi := Lib.hid hi
  have Hz := Lib.hid hz
  have Ho := Lib.hid ho
  clear hi hz ho hl
  go_wp2_with (refine wpList_store_row rfl 28 _ _ rfl (w.heap.size + 1) X rfl rfl 28 zeroS hW2.2.1 Hi.out (by rw [Hz.out]; rfl) Ho.out ?_)
  refine bodyPost_ret (v := .tuple #[.agg X, .int .i64 0]) ?_ rfl ⟨by rw [HE.out], below_setRow hW2.2.2 (by omega) _⟩
  rw [results_cell_tmp Tryd.results14]
  have hld := run_loadVar_row (P := Tryd.prog) _ _ _ 28 _ _ _ (hW2.2.1.row X) Tryd.underlying28 rfl Hi.out
  simp [asAddr, hld, Result.andThen]
end Go.Proofs.YtngfgmcnpbjefaaDoor
