/- ref.GoodState, ref.End: their contracts. -/
import Derived.Test.YtngfgmcnpbjefaaDoorRefSum
import Derived.Test.YtngfgmcnpbjefaaDoorEq
namespace Go.Proofs.YtngfgmcnpbjefaaDoor
open Go.RowKit

theorem over_lit (h0 h1 h2 h3 h4 h5 h6 h7 : UInt32) (s : ByteArray) (hm : s.size ≤ 1152921504606847104) (h64 : s.size % 64 = 0) (w : World) :
    Calls Tryd.prog 32 #[.agg #[.int .u32 (wd h0), .int .u32 (wd h1), .int .u32 (wd h2), .int .u32 (wd h3), .int .u32 (wd h4), .int .u32 (wd h5), .int .u32 (wd h6), .int .u32 (wd h7)], .string s] w
      fun e w' => e = .returned (.agg (warr (blocks [h0, h1, h2, h3, h4, h5, h6, h7] s.data.toList))) ∧ Below w.heap.size w w' :=
  over_any [h0, h1, h2, h3, h4, h5, h6, h7] rfl s hm h64 w

set_option maxRecDepth 100000 in
set_option maxHeartbeats 1000000 in
theorem RefGood_yes (hs : List UInt32) (h8 : hs.length = 8) (r : ByteArray) (m : Int) (h : okS r m) (w : World) :
    Calls Tryd.prog 19 #[.agg (sarr hs r m)] w fun e w' => e = .returned (.bool true) ∧ Below w.heap.size w w' := by
  obtain ⟨h0, h1, h2⟩ := h
  obtain ⟨x0, x1, x2, x3, x4, x5, x6, x7, rfl⟩ := eight h8
  have c8 : (sarr [x0, x1, x2, x3, x4, x5, x6, x7] r m)[8]? = some (.string r) := rfl
  have c9 : (sarr [x0, x1, x2, x3, x4, x5, x6, x7] r m)[9]? = some (.int .i64 m) := rfl
  generalize sarr [x0, x1, x2, x3, x4, x5, x6, x7] r m = A at *
  have t1 : (m % 64 == (r.size : Int)) = true := by simp [h2]
  have h3 : r.size < 64 := by omega
  clear h2
  go_enter Tryd.func19, Tryd.ntmps19
  go_wp2
  go_ret
  exact ⟨rfl, (Below.refl _ _).alloc (Nat.le_refl _) _⟩

set_option maxRecDepth 100000 in
set_option maxHeartbeats 1000000 in
theorem RefGood_no (hs : List UInt32) (h8 : hs.length = 8) (r : ByteArray) (m : Int) (hm : -9223372036854775808 ≤ m) (hM : m ≤ 9223372036854775807) (h : ¬ okS r m) (w : World) :
    Calls Tryd.prog 19 #[.agg (sarr hs r m)] w fun e w' => e = .returned (.bool false) ∧ Below w.heap.size w w' := by
  obtain ⟨x0, x1, x2, x3, x4, x5, x6, x7, rfl⟩ := eight h8
  have c8 : (sarr [x0, x1, x2, x3, x4, x5, x6, x7] r m)[8]? = some (.string r) := rfl
  have c9 : (sarr [x0, x1, x2, x3, x4, x5, x6, x7] r m)[9]? = some (.int .i64 m) := rfl
  generalize sarr [x0, x1, x2, x3, x4, x5, x6, x7] r m = A at *
  by_cases h0 : 0 ≤ m
  · by_cases h1 : m < 1152921504606846976
    · by_cases h3 : r.size < 64
      · have t1 : (m % 64 == (r.size : Int)) = false := by
          rw [beq_eq_false_iff_ne]
          intro e
          exact h ⟨h0, h1, e.symm⟩
        clear h
        go_enter Tryd.func19, Tryd.ntmps19
        go_wp2
        go_ret
        exact ⟨rfl, (Below.refl _ _).alloc (Nat.le_refl _) _⟩
      · have t1 : decide ((r.size : Int) < 64) = false := by simp; omega
        clear h
        go_enter Tryd.func19, Tryd.ntmps19
        go_wp2
        go_ret
        exact ⟨rfl, (Below.refl _ _).alloc (Nat.le_refl _) _⟩
    · have t1 : decide (m < 1152921504606846976) = false := by simpa using h1
      clear h
      go_enter Tryd.func19, Tryd.ntmps19
      go_wp2
      go_ret
      exact ⟨rfl, (Below.refl _ _).alloc (Nat.le_refl _) _⟩
  · have t1 : decide (0 ≤ m) = false := by simpa using h0
    clear h
    go_enter Tryd.func19, Tryd.ntmps19
    go_wp2
    go_ret
    exact ⟨rfl, (Below.refl _ _).alloc (Nat.le_refl _) _⟩

set_option maxRecDepth 100000 in
set_option maxHeartbeats 1000000 in
theorem RefEnd_ok (hs : List UInt32) (h8 : hs.length = 8) (r : ByteArray) (m : Nat) (h : okS r m) (w : World) :
    Calls Tryd.prog 17 #[.agg (sarr hs r m)] w fun e w' => e = .returned (.tuple #[.string (bs (shaFrom hs r.data.toList m)), .int .i64 0]) ∧ Below w.heap.size w w' := by
  have hm : m < 1152921504606846976 := by have := h.2.1; omega
  have hr : r.size = m % 64 := by have := h.2.2; omega
  have hp : (r ++ bs (pad m)).size % 64 = 0 ∧ (r ++ bs (pad m)).size ≤ 200 := by
    rw [ByteArray.size_append, hr, bs_size, pad_length]; omega
  have HS : Hid (bs (shaFrom hs r.data.toList m) = bs (digest (blocks hs (r ++ bs (pad m)).data.toList))) := by
    show _ = _
    rw [shaFrom, append_list, bs_list]
  have HR := Lib.hid hr
  have HP := Lib.hid hp
  clear hr hp
  obtain ⟨h0, h1, h2, h3, h4, h5, h6, h7, rfl⟩ := eight h8
  clear h8
  go_enter Tryd.func17, Tryd.ntmps17
  go_upto_region 1 with fail
  refine wp_forget (fun W => Arr W w.heap.size 28 (sarr [h0, h1, h2, h3, h4, h5, h6, h7] r m) ∧ Below w.heap.size w W) ⟨Arr.new _ _ _, (Below.refl _ _).alloc (Nat.le_refl _) _⟩ ?_
  rintro W ⟨hA, hB⟩
  go_wp2_with (refine wpList_load_row rfl 28 _ rfl w.heap.size rfl 28 _ (0, 0) _ hA Tryd.underlying28 rfl (infoS _ rfl _ _) ?_)
  (with_reducible refine (RefGood_yes [h0, h1, h2, h3, h4, h5, h6, h7] rfl r m h _).mono ?_)
  rintro e w1 ⟨rfl, b1⟩
  have hA1 := hA.below b1 hA.lt
  have hB1 : Below w.heap.size w w1 := hB.trans (b1.mono hB.size)
  clear hA hB b1 W
  go_upto_region 3 with fail
  obtain ⟨c0, c1, c2, c3, c4, c5, c6, c7, c8, c9⟩ := cells10 hA1
  go_region_held3 (fun w' => w'.cell? ⟨w.heap.size, 0, none⟩ = some (.int .u32 (wd h0)) ∧ w'.cell? ⟨w.heap.size, 1, none⟩ = some (.int .u32 (wd h1)) ∧ w'.cell? ⟨w.heap.size, 2, none⟩ = some (.int .u32 (wd h2)) ∧ w'.cell? ⟨w.heap.size, 3, none⟩ = some (.int .u32 (wd h3)) ∧
      w'.cell? ⟨w.heap.size, 4, none⟩ = some (.int .u32 (wd h4)) ∧ w'.cell? ⟨w.heap.size, 5, none⟩ = some (.int .u32 (wd h5)) ∧ w'.cell? ⟨w.heap.size, 6, none⟩ = some (.int .u32 (wd h6)) ∧ w'.cell? ⟨w.heap.size, 7, none⟩ = some (.int .u32 (wd h7)) ∧
      w'.cell? ⟨w.heap.size, 8, none⟩ = some (.string r) ∧ w'.cell? ⟨w.heap.size, 9, none⟩ = some (.int .i64 (m : Int)))
    (first | exact cells10 hA1.drew | exact cells10 hA2 | exact cells10 hA3 | exact cells10 hA4)
    (first
      | (go_at_call 33
         (with_reducible refine (padded_any r m hm HR.out _).mono ?_)
         rintro e w2 ⟨rfl, b2⟩
         have hA2 := hA1.drew.below b2 hA1.lt
         have hB2 : Below w.heap.size w w2 := hB1.drew.trans (b2.mono (Nat.le_of_lt hA1.lt)))
      | (go_at_call 32
         (with_reducible refine (over_lit h0 h1 h2 h3 h4 h5 h6 h7 (r ++ bs (pad m)) (by have := HP.out.2; omega) HP.out.1 _).mono ?_)
         rintro e w3 ⟨rfl, b3⟩
         have hA3 := hA2.below b3 hA2.lt
         have hB3 : Below w.heap.size w w3 := hB2.trans (b3.mono (Nat.le_of_lt hA2.lt))
         have hk := blocks_len8 [h0, h1, h2, h3, h4, h5, h6, h7] (r ++ bs (pad m)).data.toList rfl
         generalize blocks [h0, h1, h2, h3, h4, h5, h6, h7] (r ++ bs (pad m)).data.toList = X at *
         have Hk := Lib.hid hk
         clear hk)
      | (go_at_call 31
         (with_reducible refine (text_any X Hk.out _).mono ?_)
         rintro e w4 ⟨rfl, b4⟩
         have hA4 := hA3.below b4 hA3.lt
         have hB4 : Below w.heap.size w w4 := hB3.trans (b4.mono (Nat.le_of_lt hA3.lt))))
  go_wp2_with fail
  go_ret2
  exact ⟨by rw [HS.out]; rfl, hB4⟩

set_option maxRecDepth 100000 in
set_option maxHeartbeats 1000000 in
theorem RefEnd_bad (hs : List UInt32) (h8 : hs.length = 8) (r : ByteArray) (m : Int) (hm : -9223372036854775808 ≤ m) (hM : m ≤ 9223372036854775807) (h : ¬ okS r m) (w : World) :
    Calls Tryd.prog 17 #[.agg (sarr hs r m)] w fun e w' => e = .returned (.tuple #[.string ⟨#[]⟩, .int .i64 3]) ∧ Below w.heap.size w w' := by
  go_enter Tryd.func17, Tryd.ntmps17
  go_upto_region 1 with fail
  refine wp_forget (fun W => Arr W w.heap.size 28 (sarr hs r m) ∧ Below w.heap.size w W) ⟨Arr.new _ _ _, (Below.refl _ _).alloc (Nat.le_refl _) _⟩ ?_
  rintro W ⟨hA, hB⟩
  go_wp2_with (refine wpList_load_row rfl 28 _ rfl w.heap.size rfl 28 _ (0, 0) _ hA Tryd.underlying28 rfl (infoS _ h8 _ _) ?_)
  (with_reducible refine (RefGood_no hs h8 r m hm hM h _).mono ?_)
  rintro e w1 ⟨rfl, b1⟩
  have hB1 : Below w.heap.size w w1 := hB.trans (b1.mono hB.size)
  go_wp2_with fail
  go_ret2
  exact ⟨rfl, hB1⟩
end Go.Proofs.YtngfgmcnpbjefaaDoor
