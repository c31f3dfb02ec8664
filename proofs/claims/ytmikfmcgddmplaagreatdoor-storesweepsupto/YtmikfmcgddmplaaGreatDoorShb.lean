/- Texts in one: Fin, Shb. -/
import Derived.Test.YtmikfmcgddmplaaGreatDoorPad
import Derived.Deep.RegionHeld3
import Derived.Test.YtmikfmcgddmplaaGreatDoorBytes
import Derived.Test.YtmikfmcgddmplaaGreatDoorSha
/- sum.finish: its contract. -/
namespace Go.Proofs.YtmikfmcgddmplaaGreatDoor
open Go.RowKit

/-- A state as cells. -/
def sarr (hs : List UInt32) (r : ByteArray) (m : Int) : Array Value := (hs.map wv ++ [Value.string r, Value.int .i64 m]).toArray
theorem sarr_size (hs : List UInt32) (h : hs.length = 8) (r : ByteArray) (m : Int) : (sarr hs r m).size = 10 := by simp [sarr, h]
theorem cells10 {w : World} {g : Nat} {t : TypeId} {h0 h1 h2 h3 h4 h5 h6 h7 : UInt32} {r : ByteArray} {m : Int} (h : Arr w g t (sarr [h0, h1, h2, h3, h4, h5, h6, h7] r m)) :
    w.cell? ⟨g, 0, none⟩ = some (.int .u32 (wd h0)) ∧ w.cell? ⟨g, 1, none⟩ = some (.int .u32 (wd h1)) ∧ w.cell? ⟨g, 2, none⟩ = some (.int .u32 (wd h2)) ∧ w.cell? ⟨g, 3, none⟩ = some (.int .u32 (wd h3)) ∧
    w.cell? ⟨g, 4, none⟩ = some (.int .u32 (wd h4)) ∧ w.cell? ⟨g, 5, none⟩ = some (.int .u32 (wd h5)) ∧ w.cell? ⟨g, 6, none⟩ = some (.int .u32 (wd h6)) ∧ w.cell? ⟨g, 7, none⟩ = some (.int .u32 (wd h7)) ∧
    w.cell? ⟨g, 8, none⟩ = some (.string r) ∧ w.cell? ⟨g, 9, none⟩ = some (.int .i64 m) :=
  ⟨h.cell 0, h.cell 1, h.cell 2, h.cell 3, h.cell 4, h.cell 5, h.cell 6, h.cell 7, h.cell 8, h.cell 9⟩

theorem blocks_length (n : Nat) : ∀ (hs : List UInt32) (l : List UInt8), l.length ≤ n → (blocks hs l).length = hs.length := by
  induction n with
  | zero => intro hs l h; rw [blocks_end _ _ (by omega)]
  | succ n ih =>
    intro hs l h
    by_cases h64 : 64 ≤ l.length
    · rw [blocks_step _ _ h64, ih _ _ (by simp; omega), block_length]
    · rw [blocks_end _ _ (by omega)]
theorem blocks_len8 (hs : List UInt32) (l : List UInt8) (h : hs.length = 8) : (blocks hs l).length = 8 := by rw [blocks_length l.length _ _ (Nat.le_refl _), h]
theorem processBlocks_lit (h0 h1 h2 h3 h4 h5 h6 h7 : UInt32) (s : ByteArray) (hm : s.size ≤ maxLen) (w : World) (ht : Tab w) :
    Calls Tryz.prog 148 #[.agg #[.int .u32 (wd h0), .int .u32 (wd h1), .int .u32 (wd h2), .int .u32 (wd h3), .int .u32 (wd h4), .int .u32 (wd h5), .int .u32 (wd h6), .int .u32 (wd h7)], .string s] w
      fun e w' => e = .returned (.agg (warr (blocks [h0, h1, h2, h3, h4, h5, h6, h7] s.data.toList))) ∧ Below w.heap.size w w' :=
  processBlocks_any [h0, h1, h2, h3, h4, h5, h6, h7] rfl s hm w ht

set_option maxRecDepth 100000 in
set_option maxHeartbeats 1000000 in
theorem finish_lit (h0 h1 h2 h3 h4 h5 h6 h7 : UInt32) (r : ByteArray) (m : Nat) (hm : m < 1152921504606846976) (hr : r.size < 64) (w : World) (ht : Tab w) :
    Calls Tryz.prog 129 #[.agg (sarr [h0, h1, h2, h3, h4, h5, h6, h7] r m)] w
      fun e w' => e = .returned (.string (bs (shaFrom [h0, h1, h2, h3, h4, h5, h6, h7] r.data.toList m))) ∧ Below w.heap.size w w' := by
  have hpl : (bs (pad m)).size ≤ 128 := by rw [bs_size, ← padTo_eight, padTo_length]; omega
  have hsum : ¬ (9223372036854775807 < r.size + (bs (pad m)).size) := by omega
  go_enter Tryz.func129, Tryz.ntmps129
  go_wp2
  refine wp_forget (fun W => Arr W w.heap.size 165 (sarr [h0, h1, h2, h3, h4, h5, h6, h7] r m) ∧ Tab W ∧ Below w.heap.size w W) ⟨Arr.new _ _ _, ht.alloc _, (Below.refl _ _).alloc (Nat.le_refl _) _⟩ ?_
  rintro W ⟨hA, hT, hB⟩
  obtain ⟨c0, c1, c2, c3, c4, c5, c6, c7, c8, c9⟩ := cells10 hA
  go_region_held3 (fun w' => w'.cell? ⟨w.heap.size, 0, none⟩ = some (.int .u32 (wd h0)) ∧ w'.cell? ⟨w.heap.size, 1, none⟩ = some (.int .u32 (wd h1)) ∧ w'.cell? ⟨w.heap.size, 2, none⟩ = some (.int .u32 (wd h2)) ∧ w'.cell? ⟨w.heap.size, 3, none⟩ = some (.int .u32 (wd h3)) ∧
      w'.cell? ⟨w.heap.size, 4, none⟩ = some (.int .u32 (wd h4)) ∧ w'.cell? ⟨w.heap.size, 5, none⟩ = some (.int .u32 (wd h5)) ∧ w'.cell? ⟨w.heap.size, 6, none⟩ = some (.int .u32 (wd h6)) ∧ w'.cell? ⟨w.heap.size, 7, none⟩ = some (.int .u32 (wd h7)) ∧
      w'.cell? ⟨w.heap.size, 8, none⟩ = some (.string r) ∧ w'.cell? ⟨w.heap.size, 9, none⟩ = some (.int .i64 (m : Int)))
    (first | exact cells10 hA.drew | exact cells10 hA1 | exact cells10 hA2 | exact cells10 hA3)
    (first
      | (go_at_call 149
         (with_reducible refine (padding_any m hm _).mono ?_)
         rintro e w1 ⟨rfl, hb1⟩
         have hA1 := hA.drew.below hb1 hA.lt
         have hT1 := hT.drew.below hb1 hT.1
         have hB1 : Below w.heap.size w w1 := hB.drew.trans (hb1.mono (Nat.le_of_lt hA.lt)))
      | (go_at_call 148
         (with_reducible refine (processBlocks_lit h0 h1 h2 h3 h4 h5 h6 h7 (r ++ bs (pad m)) (by rw [ByteArray.size_append]; unfold maxLen; omega) _ hT1).mono ?_)
         rintro e w2 ⟨rfl, hb2⟩
         have hA2 := hA1.below hb2 hA1.lt
         have hB2 : Below w.heap.size w w2 := hB1.trans (hb2.mono (Nat.le_of_lt hA1.lt))
         have hk := blocks_len8 [h0, h1, h2, h3, h4, h5, h6, h7] (r ++ bs (pad m)).data.toList rfl
         generalize hX : blocks [h0, h1, h2, h3, h4, h5, h6, h7] (r ++ bs (pad m)).data.toList = X at *
         have HX := Lib.hid hX
         have Hk := Lib.hid hk
         clear hX hk)
      | (go_at_call 147
         (with_reducible refine (headBytes_any X Hk.out _).mono ?_)
         rintro e w3 ⟨rfl, hb3⟩
         have hA3 := hA2.below hb3 hA2.lt
         have hB3 : Below w.heap.size w w3 := hB2.trans (hb3.mono (Nat.le_of_lt hA2.lt))))
  go_wp2
  go_ret
  refine ⟨?_, hB3⟩
  rw [shaFrom, ← bs_list (pad m), ← append_list, HX.out]
  rfl
end Go.Proofs.YtmikfmcgddmplaaGreatDoor

/- More plain mathematics of blocks: no program is named here. -/
namespace Go.Proofs.YtmikfmcgddmplaaGreatDoor

theorem blocks_append_n (n : Nat) : ∀ (hs : List UInt32) (l1 l2 : List UInt8), l1.length ≤ n → l1.length % 64 = 0 → blocks hs (l1 ++ l2) = blocks (blocks hs l1) l2 := by
  induction n with
  | zero =>
    intro hs l1 l2 h _
    have : l1 = [] := List.eq_nil_of_length_eq_zero (by omega)
    subst this
    rw [blocks_end hs [] (by simp)]; rfl
  | succ n ih =>
    intro hs l1 l2 h hm
    by_cases h0 : l1.length = 0
    · have : l1 = [] := List.eq_nil_of_length_eq_zero h0
      subst this
      rw [blocks_end hs [] (by simp)]; rfl
    · have h64 : 64 ≤ l1.length := by omega
      rw [blocks_step hs (l1 ++ l2) (by simp; omega), blocks_step hs l1 h64]
      have e1 : (l1 ++ l2).take 64 = l1.take 64 := List.take_append_of_le_length h64
      have e2 : (l1 ++ l2).drop 64 = l1.drop 64 ++ l2 := List.drop_append_of_le_length h64
      rw [e1, e2]
      exact ih _ _ _ (by simp; omega) (by simp; omega)
theorem blocks_append (hs : List UInt32) (l1 l2 : List UInt8) (h : l1.length % 64 = 0) : blocks hs (l1 ++ l2) = blocks (blocks hs l1) l2 := blocks_append_n l1.length hs l1 l2 (Nat.le_refl _) h

/-- how many bytes the whole blocks hold -/
def whole (n : Nat) : Nat := n - n % 64
theorem whole_mod (n : Nat) : whole n % 64 = 0 := by unfold whole; omega
theorem whole_le (n : Nat) : whole n ≤ n := by unfold whole; omega
/-- what is left behind the whole blocks changes nothing -/
theorem blocks_whole (hs : List UInt32) (l : List UInt8) : blocks hs l = blocks hs (l.take (whole l.length)) := by
  have hl := whole_le l.length
  conv => lhs; rw [← List.take_append_drop (whole l.length) l]
  rw [blocks_append _ _ _ (by rw [List.length_take, Nat.min_eq_left hl]; exact whole_mod _)]
  rw [blocks_end _ (l.drop _) (by simp [whole]; omega)]

/-- the state behind bytes: the whole blocks, what is left -/
def restOf (l : List UInt8) : List UInt8 := l.drop (whole l.length)
theorem restOf_length (l : List UInt8) : (restOf l).length = l.length % 64 := by unfold restOf; simp [whole]; omega
theorem restOf_short (l : List UInt8) (h : l.length < 64) : restOf l = l := by
  have : whole l.length = 0 := by unfold whole; omega
  rw [restOf, this]; rfl
theorem restOf_append (l1 l2 : List UInt8) (h : l1.length % 64 = 0) : restOf (l1 ++ l2) = restOf l2 := by
  have e : whole (l1 ++ l2).length = l1.length + whole l2.length := by simp [whole]; omega
  rw [restOf, e, List.drop_append, restOf]
  simp [List.drop_eq_nil_of_le]
/-- adding twice -/
theorem blocks_restOf (hs : List UInt32) (l1 l2 : List UInt8) : blocks hs (l1 ++ l2) = blocks (blocks hs l1) (restOf l1 ++ l2) ∧ restOf (l1 ++ l2) = restOf (restOf l1 ++ l2) := by
  have hl := whole_le l1.length
  have hm : (l1.take (whole l1.length)).length % 64 = 0 := by rw [List.length_take, Nat.min_eq_left hl]; exact whole_mod _
  have e : l1 ++ l2 = l1.take (whole l1.length) ++ (restOf l1 ++ l2) := by
    rw [restOf, ← List.append_assoc, List.take_append_drop]
  constructor
  · rw [e, blocks_append _ _ _ hm, ← blocks_whole]
  · rw [e, restOf_append _ _ hm]

end Go.Proofs.YtmikfmcgddmplaaGreatDoor
