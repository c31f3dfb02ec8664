/- Texts in one: Abs, Sum, MkMath, RefMath. -/
import Derived.Test.YtlokfeoihnlkkaaDoorShb
import Derived.Deep.Cut
/- sum.absorb: its contract. -/
namespace Go.Proofs.YtlokfeoihnlkkaaDoor
open Go.RowKit

theorem sarr_one (hs : List UInt32) (r : ByteArray) (m : Int) : (sarr hs r m).all (·.oneCell') = true := by
  rw [Array.all_eq_true_iff_forall_mem]
  intro v hv
  simp only [sarr, List.mem_toArray, List.mem_append, List.mem_map] at hv
  rcases hv with ⟨x, _, rfl⟩ | hv
  · rfl
  · simp at hv
    rcases hv with rfl | rfl <;> rfl
theorem infoS (hs : List UInt32) (h : hs.length = 8) (r : ByteArray) (m : Int) : (Tryd.prog.info? 44).map (·.size) = some (sarr hs r m).size := by
  rw [sarr_size hs h]; kernel_rfl

def zeroS : Array Value := sarr (List.replicate 8 0) ⟨#[]⟩ 0

theorem sarr_set9 {hs : List UInt32} (h : hs.length = 8) (r : ByteArray) (m n : Int) : (sarr hs r m).setIfInBounds 9 (.int .i64 n) = sarr hs r n := by
  match hs, h with
  | [_, _, _, _, _, _, _, _], _ => rfl
theorem sarr_set8 {hs : List UInt32} (h : hs.length = 8) (r q : ByteArray) (m : Int) : (sarr hs r m).setIfInBounds 8 (.string q) = sarr hs q m := by
  match hs, h with
  | [_, _, _, _, _, _, _, _], _ => rfl
/-- the state in the first of the call's own blocks, nought in the second -/
def SW (hs : List UInt32) (r : ByteArray) (m : Int) (w W : World) : Prop :=
  Arr W w.heap.size 44 (sarr hs r m) ∧ Arr W (w.heap.size + 1) 44 zeroS ∧ Below w.heap.size w W
section
variable {hs : List UInt32} {r : ByteArray} {m : Int} {w W : World}
theorem SW.drewN (h : SW hs r m w W) (n : Nat) : SW hs r m w (W.drewN n) := ⟨h.1.drewN n, h.2.1.drewN n, below_drewN h.2.2 n⟩
theorem SW.drew (h : SW hs r m w W) : SW hs r m w W.drew := ⟨h.1.drew, h.2.1.drew, h.2.2.drew⟩
theorem SW.put9 (h : SW hs r m w W) (h8 : hs.length = 8) (n : Int) : SW hs r n w (W.setCell ⟨w.heap.size, 9, none⟩ (.int .i64 n)) := by
  refine ⟨?_, h.2.1.far (by simp) _, h.2.2.setCell (by simp) _⟩
  have := h.1.put 9 (.int .i64 n)
  rw [sarr_set9 h8] at this
  exact this
theorem SW.put8 (h : SW hs r m w W) (h8 : hs.length = 8) (q : ByteArray) : SW hs q m w (W.setCell ⟨w.heap.size, 8, none⟩ (.string q)) := by
  refine ⟨?_, h.2.1.far (by simp) _, h.2.2.setCell (by simp) _⟩
  have := h.1.put 8 (.string q)
  rw [sarr_set8 h8] at this
  exact this
end

set_option maxRecDepth 100000 in
set_option maxHeartbeats 1000000 in
theorem absorb_short (h0 h1 h2 h3 h4 h5 h6 h7 : UInt32) (r b : ByteArray) (m : Nat) (hm : m + b.size < 1152921504606846976) (hr : r.size + b.size < 64) (w : World) :
    Calls Tryd.prog 28 #[.agg (sarr [h0, h1, h2, h3, h4, h5, h6, h7] r m), .string b] w
      fun e w' => e = .returned (.agg (sarr [h0, h1, h2, h3, h4, h5, h6, h7] (r ++ b) ((m + b.size : Nat) : Int))) ∧ Below w.heap.size w w' := by
  have hi1 : (0 : Int) ≤ (b.size : Int) := by omega
  go_enter Tryd.func28, Tryd.ntmps28
  go_upto_region 1 with fail
  refine wp_forget (SW [h0, h1, h2, h3, h4, h5, h6, h7] r m w) ⟨(Arr.new _ _ _).alloc _, Arr.new_at (w.alloc _) _ _ (by simp), ((Below.refl _ _).alloc (Nat.le_refl _) _).alloc (by simp) _⟩ ?_
  intro W hW
  have c8 : W.cell? ⟨w.heap.size, 8, none⟩ = some (.string r) := hW.1.cell 8
  have c9 : W.cell? ⟨w.heap.size, 9, none⟩ = some (.int .i64 m) := hW.1.cell 9
  have f8 : W.frozen? ⟨w.heap.size, 8, none⟩ = false := hW.1.free 8
  have f9 : W.frozen? ⟨w.heap.size, 9, none⟩ = false := hW.1.free 9
  go_upto_region 3 with fail
  refine wp_forget (SW [h0, h1, h2, h3, h4, h5, h6, h7] r ((m : Int) + b.size) w) (hW.put9 rfl _) ?_
  clear hW c8 c9 f8 f9 W
  intro W hW
  have c8 : W.cell? ⟨w.heap.size, 8, none⟩ = some (.string r) := hW.1.cell 8
  have f8 : W.frozen? ⟨w.heap.size, 8, none⟩ = false := hW.1.free 8
  have hx : b.extract 0 b.size = b := by simp
  have hsum : ¬ (9223372036854775807 < r.size + b.size) := by omega
  go_quiet (fail)
  go_upto_region 6 with fail
  refine wp_forget (SW [h0, h1, h2, h3, h4, h5, h6, h7] (r ++ b) ((m : Int) + b.size) w) ((hW.drewN _).put8 rfl _) ?_
  clear hW c8 f8 W
  intro W hW
  go_wp2_with (first
    | (refine wpList_load_row rfl 44 _ rfl w.heap.size rfl 44 _ (0, 0) _ hW.1 Tryd.underlying44 rfl (infoS _ rfl _ _) ?_)
    | (refine wpList_store_row rfl 44 _ _ rfl (w.heap.size + 1) _ rfl rfl 44 zeroS hW.2.1 (infoS _ rfl _ _) rfl (sarr_one _ _ _) ?_))
  refine bodyPost_ret (v := .agg (sarr [h0, h1, h2, h3, h4, h5, h6, h7] (r ++ b) ((m : Int) + b.size))) ?_ rfl ⟨by simp, below_setRow hW.2.2 (by omega) _⟩
  exact results_cell_row Tryd.results28 _ _ (w.heap.size + 1) 44 _ (0, 0) _ rfl (hW.2.1.row _) Tryd.underlying44 rfl (infoS _ rfl _ _)

theorem split_list (r b : ByteArray) (k : Nat) : r.data.toList ++ b.data.toList = (r ++ b.extract 0 k).data.toList ++ (b.extract k b.size).data.toList := by
  have h : b.data.toList.take b.size = b.data.toList := List.take_of_length_le (Nat.le_of_eq rfl)
  rw [append_list, extract_list, extract_list, List.append_assoc, h, List.drop_zero, List.take_append_drop]
theorem store_heads {P : Program} {W : World} {g : Nat} {t : TypeId} {hs ys : List UInt32} {r : ByteArray} {m : Int} (h : Arr W g t (sarr hs r m)) (h8 : hs.length = 8) (hy : ys.length = 8) :
    (storeCells ⟨g, 0, none⟩ (warr ys).toList).run P W = .ok () (W.setRow g (sarr ys r m)) := by
  have := run_storeCells_at P g 0 t (warr ys).toList 0 (sarr hs r m) W h (by simp [warr_size, sarr_size hs h8, hy]) (fun v hv => (Array.all_eq_true_iff_forall_mem.1 (warr_one ys)) v (by simpa using hv))
  rw [this]
  congr 2
  match hs, h8, ys, hy with
  | [_, _, _, _, _, _, _, _], _, [_, _, _, _, _, _, _, _], _ => rfl
theorem SW.row {hs ys : List UInt32} {r : ByteArray} {m : Int} {w W : World} (h : SW hs r m w W) : SW ys r m w (W.setRow w.heap.size (sarr ys r m)) :=
  ⟨h.1.row _, h.2.1.row_far (by omega) _, below_setRow h.2.2 (Nat.le_refl _) _⟩
theorem SW.below {hs : List UInt32} {r : ByteArray} {m : Int} {w W W' : World} (h : SW hs r m w W) (hb : Below W.heap.size W W') : SW hs r m w W' :=
  ⟨h.1.below hb h.1.lt, h.2.1.below hb h.2.1.lt, h.2.2.trans (hb.mono (Nat.le_of_lt h.1.lt))⟩

set_option maxRecDepth 100000 in
set_option maxHeartbeats 1000000 in
theorem absorb_long (h0 h1 h2 h3 h4 h5 h6 h7 : UInt32) (r b : ByteArray) (m : Nat) (hm : m + b.size < 1152921504606846976) (hr : r.size < 64) (hrb : 64 ≤ r.size + b.size) (w : World) (ht : Tab w) :
    Calls Tryd.prog 28 #[.agg (sarr [h0, h1, h2, h3, h4, h5, h6, h7] r m), .string b] w
      fun e w' => e = .returned (.agg (sarr (blocks [h0, h1, h2, h3, h4, h5, h6, h7] (r.data.toList ++ b.data.toList)) (bs (restOf (r.data.toList ++ b.data.toList))) ((m + b.size : Nat) : Int))) ∧ Below w.heap.size w w' := by
  have hi1 : (0 : Int) ≤ (b.size : Int) := by omega
  go_enter Tryd.func28, Tryd.ntmps28
  go_upto_region 1 with fail
  refine wp_forget (SW [h0, h1, h2, h3, h4, h5, h6, h7] r m w) ⟨(Arr.new _ _ _).alloc _, Arr.new_at (w.alloc _) _ _ (by simp), ((Below.refl _ _).alloc (Nat.le_refl _) _).alloc (by simp) _⟩ ?_
  intro W hW
  have c8 : W.cell? ⟨w.heap.size, 8, none⟩ = some (.string r) := hW.1.cell 8
  have c9 : W.cell? ⟨w.heap.size, 9, none⟩ = some (.int .i64 m) := hW.1.cell 9
  have f9 : W.frozen? ⟨w.heap.size, 9, none⟩ = false := hW.1.free 9
  go_upto_region 3 with fail
  refine wp_forget (SW [h0, h1, h2, h3, h4, h5, h6, h7] r ((m : Int) + b.size) w) (hW.put9 rfl _) ?_
  clear hW c8 c9 f9 W
  intro W hW
  have c8 : W.cell? ⟨w.heap.size, 8, none⟩ = some (.string r) := hW.1.cell 8
  have hx1 : (b.extract 0 (64 - r.size)).size = 64 - r.size := by simp; omega
  have hsum : ¬ (9223372036854775807 < r.size + (b.extract 0 (64 - r.size)).size) := by omega
  go_quiet (fail)
  go_upto_region 8 with fail
  refine wp_forget (SW [h0, h1, h2, h3, h4, h5, h6, h7] r ((m : Int) + b.size) w) (hW.drewN _) ?_
  clear hsum hx1 hW c8 W
  have hf : (r ++ b.extract 0 (64 - r.size)).size = 64 := by rw [ByteArray.size_append]; simp; omega
  have hb1 : (b.extract (64 - r.size) b.size).size ≤ b.size := by simp
  have HM : Hid (r.data.toList ++ b.data.toList = (r ++ b.extract 0 (64 - r.size)).data.toList ++ (b.extract (64 - r.size) b.size).data.toList) := by
    exact split_list r b _
  generalize r ++ b.extract 0 (64 - r.size) = f at *
  generalize b.extract (64 - r.size) b.size = c at *
  have Hf := Lib.hid hf
  clear hf
  intro W hW
  go_upto_region 9 with fail
  have hkl := whole_le c.size
  rw [show ((c.size : Int) - (c.size : Int) % 64) = ((whole c.size : Nat) : Int) from by unfold whole; omega]
  generalize hwk : whole c.size = k at *
  have Hk := Lib.hid hwk
  clear hwk
  obtain ⟨c0, c1, c2, c3, c4, c5, c6, c7, -, -⟩ := cells10 hW.1
  have hTW : Tab W.drew := (ht.below hW.2.2 ht.1).drew
  have hfm : f.size ≤ maxLen := by rw [Hf.out]; unfold maxLen; omega
  have hcm : (c.extract 0 k).size ≤ maxLen := by simp; unfold maxLen; omega
  go_region_with (first
    | (go_at_call 35
       (with_reducible refine (processBlocks_lit h0 h1 h2 h3 h4 h5 h6 h7 f hfm _ hTW).mono ?_)
       rintro e w1 ⟨rfl, hb1⟩
       have hW1 := hW.drew.below hb1
       have hT1 := hTW.below hb1 hTW.1
       have hl1 := blocks_len8 [h0, h1, h2, h3, h4, h5, h6, h7] f.data.toList rfl
       generalize hX : blocks [h0, h1, h2, h3, h4, h5, h6, h7] f.data.toList = X at *
       have HX := Lib.hid hX
       have Hl1 := Lib.hid hl1
       clear hX hl1)
    | (go_at_call 35
       (with_reducible refine (processBlocks_any X Hl1.out (c.extract 0 k) hcm _ hT1).mono ?_)
       rintro e w2 ⟨rfl, hb2⟩
       have hW2 := hW1.below hb2
       have hl2 := blocks_len8 X (c.extract 0 k).data.toList Hl1.out
       generalize hY : blocks X (c.extract 0 k).data.toList = Y at *
       have HY := Lib.hid hY
       have Hl2 := Lib.hid hl2
       have hst := store_heads (P := Tryd.prog) hW2.1 rfl hl2
       have hsz : (warr Y).size = 8 := by rw [warr_size, hl2]
       clear hY hl2))
  clear hst hsz hTW hT1 hfm hcm c0 c1 c2 c3 c4 c5 c6 c7
  go_upto_region 10 with fail
  refine wp_forget (SW Y r ((m : Int) + b.size) w) hW2.row ?_
  clear hW hW1 hW2
  intro W hW
  have c8 : W.cell? ⟨w.heap.size, 8, none⟩ = some (.string r) := by
    rw [hW.1.cell 8]
    obtain ⟨_, _, _, _, _, _, _, _, rfl⟩ := eight Hl2.out
    rfl
  have f8 : W.frozen? ⟨w.heap.size, 8, none⟩ = false := hW.1.free 8
  go_upto_region 11 with fail
  refine wp_forget (SW Y (c.extract k c.size) ((m : Int) + b.size) w) (hW.put8 Hl2.out _) ?_
  clear hW c8 f8 W
  intro W hW
  go_wp2_with (first
    | (refine wpList_load_row rfl 44 _ rfl w.heap.size rfl 44 _ (0, 0) _ hW.1 Tryd.underlying44 rfl (infoS _ Hl2.out _ _) ?_)
    | (refine wpList_store_row rfl 44 _ _ rfl (w.heap.size + 1) _ rfl rfl 44 zeroS hW.2.1 (infoS _ Hl2.out _ _) (by rw [sarr_size _ Hl2.out]; rfl) (sarr_one _ _ _) ?_))
  refine bodyPost_ret (v := .agg (sarr Y (c.extract k c.size) ((m : Int) + b.size))) ?_ rfl ⟨?_, below_setRow hW.2.2 (by omega) _⟩
  · exact results_cell_row Tryd.results28 _ _ (w.heap.size + 1) 44 _ (0, 0) _ rfl (hW.2.1.row _) Tryd.underlying44 rfl (infoS _ Hl2.out _ _)
  · have hfl : f.data.toList.length % 64 = 0 := by
      show f.size % 64 = 0
      rw [Hf.out]
    have e1 : (c.extract 0 k).data.toList = c.data.toList.take (whole c.data.toList.length) := by
      rw [extract_list, List.drop_zero, ← Hk.out]; rfl
    have e2 : c.extract k c.size = bs (restOf c.data.toList) := by
      rw [← bs_of (c.extract k c.size), extract_list, restOf, ← Hk.out, show c.data.toList.take c.size = c.data.toList from List.take_of_length_le (Nat.le_of_eq rfl)]; rfl
    rw [HM.out, blocks_append _ _ _ hfl, HX.out, restOf_append _ _ hfl, blocks_whole X, ← e1, HY.out, e2]
    simp

theorem absorb_any (hs : List UInt32) (h8 : hs.length = 8) (r b : ByteArray) (m : Nat) (hm : m + b.size < 1152921504606846976) (hr : r.size < 64) (w : World) (ht : Tab w) :
    Calls Tryd.prog 28 #[.agg (sarr hs r m), .string b] w
      fun e w' => e = .returned (.agg (sarr (blocks hs (r.data.toList ++ b.data.toList)) (bs (restOf (r.data.toList ++ b.data.toList))) ((m + b.size : Nat) : Int))) ∧ Below w.heap.size w w' := by
  obtain ⟨h0, h1, h2, h3, h4, h5, h6, h7, rfl⟩ := eight h8
  by_cases h : r.size + b.size < 64
  · have := absorb_short h0 h1 h2 h3 h4 h5 h6 h7 r b m hm h w
    have hl : (r.data.toList ++ b.data.toList).length < 64 := by simpa using h
    rw [blocks_end _ _ hl, restOf_short _ hl, ← append_list, bs_of]
    exact this
  · exact absorb_long h0 h1 h2 h3 h4 h5 h6 h7 r b m hm hr (by omega) w ht
theorem finish_any (hs : List UInt32) (h8 : hs.length = 8) (r : ByteArray) (m : Nat) (hm : m < 1152921504606846976) (hr : r.size < 64) (w : World) (ht : Tab w) :
    Calls Tryd.prog 27 #[.agg (sarr hs r m)] w
      fun e w' => e = .returned (.string (bs (shaFrom hs r.data.toList m))) ∧ Below w.heap.size w w' := by
  obtain ⟨h0, h1, h2, h3, h4, h5, h6, h7, rfl⟩ := eight h8
  exact finish_lit h0 h1 h2 h3 h4 h5 h6 h7 r m hm hr w ht
end Go.Proofs.YtlokfeoihnlkkaaDoor

/- sum.Begin and sum.Sum: their contracts. -/
namespace Go.Proofs.YtlokfeoihnlkkaaDoor
open Go.RowKit

set_option maxRecDepth 100000 in
set_option maxHeartbeats 1000000 in
theorem Begin_any (w : World) :
    Calls Tryd.prog 29 #[] w fun e w' => e = .returned (.agg (sarr startH ⟨#[]⟩ ((0 : Nat) : Int))) ∧ Below w.heap.size w w' := by
  go_enter Tryd.func29, Tryd.ntmps29
  go_wp2
  have e : (#[Value.int .u32 1779033703, Value.int .u32 3144134277, Value.int .u32 1013904242, Value.int .u32 2773480762, Value.int .u32 1359893119, Value.int .u32 2600822924, Value.int .u32 528734635, Value.int .u32 1541459225, Value.string { data := #[] }, Value.int .i64 0] : Array Value) = sarr startH ⟨#[]⟩ ((0 : Nat) : Int) := rfl
  rw [e]
  refine bodyPost_ret (v := .agg (sarr startH ⟨#[]⟩ ((0 : Nat) : Int))) ?_ rfl ⟨rfl, (Below.refl _ _).alloc (Nat.le_refl _) _⟩
  exact results_cell_row Tryd.results29 _ _ w.heap.size 44 _ (0, 0) _ rfl (Arr.new w _ _) Tryd.underlying44 rfl (infoS _ rfl _ _)

/-- A state as a value. -/
def stv (hs : List UInt32) (r : List UInt8) (m : Nat) : Value := .agg (sarr hs (bs r) (m : Int))
theorem Begin_stv (w : World) : Calls Tryd.prog 29 #[] w fun e w' => e = .returned (stv startH [] 0) ∧ Below w.heap.size w w' := Begin_any w
theorem absorb_stv (hs : List UInt32) (h8 : hs.length = 8) (r : List UInt8) (b : ByteArray) (m : Nat) (hm : m + b.size < 1152921504606846976) (hr : r.length < 64) (w : World) (ht : Tab w) :
    Calls Tryd.prog 28 #[stv hs r m, .string b] w
      fun e w' => e = .returned (stv (blocks hs (r ++ b.data.toList)) (restOf (r ++ b.data.toList)) (m + b.size)) ∧ Below w.heap.size w w' := by
  have h := absorb_any hs h8 (bs r) b m hm (by rw [bs_size]; exact hr) w ht
  rw [bs_list] at h
  exact h
theorem finish_stv (hs : List UInt32) (h8 : hs.length = 8) (r : List UInt8) (m : Nat) (hm : m < 1152921504606846976) (hr : r.length < 64) (w : World) (ht : Tab w) :
    Calls Tryd.prog 27 #[stv hs r m] w
      fun e w' => e = .returned (.string (bs (shaFrom hs r m))) ∧ Below w.heap.size w w' := by
  have h := finish_any hs h8 (bs r) m hm (by rw [bs_size]; exact hr) w ht
  rw [bs_list] at h
  exact h

set_option maxHeartbeats 1000000 in
theorem Sum_any (b : ByteArray) (hb : b.size < 1152921504606846976) (w : World) (ht : Tab w) :
    Calls Tryd.prog 14 #[.string b] w fun e w' => e = .returned (.string (bs (sha b.data.toList))) ∧ Below w.heap.size w w' := by
  have h8 := Lib.hid (blocks_len8 startH ([] ++ b.data.toList) rfl)
  have hr := Lib.hid (restOf_length ([] ++ b.data.toList))
  have hm : ([] ++ b.data.toList).length % 64 < 64 := Nat.mod_lt _ (by omega)
  go_enter Tryd.func14, Tryd.ntmps14
  go_wp2_with fail
  (with_reducible refine (Begin_stv _).mono ?_)
  rintro e w1 ⟨rfl, b1⟩
  have t1 := ht.below b1 ht.1
  go_wp2_with fail
  (with_reducible refine (absorb_stv startH rfl [] b 0 (by omega) (by decide) _ t1).mono ?_)
  rintro e w2 ⟨rfl, b2⟩
  have t2 := t1.below b2 t1.1
  generalize hX : blocks startH ([] ++ b.data.toList) = X at *
  generalize hY : restOf ([] ++ b.data.toList) = Y at *
  have HE : Hid (bs (sha b.data.toList) = bs (shaFrom X Y (0 + b.size))) := by
    show _ = _
    rw [← hX, ← hY, Nat.zero_add]
    rfl
  have hYl : Y.length < 64 := by rw [hr.out]; exact hm
  clear hX hY hm hr
  have hn : 0 + b.size < 1152921504606846976 := by omega
  generalize 0 + b.size = n at *
  go_wp2_with fail
  (with_reducible refine (finish_stv X h8.out Y n hn hYl _ t2).mono ?_)
  rintro e w3 ⟨rfl, b3⟩
  go_wp2_with fail
  go_ret
  refine ⟨?_, (b1.trans (b2.mono b1.size)).trans (b3.mono (Nat.le_trans b1.size b2.size))⟩
  rw [HE.out]
  rfl
end Go.Proofs.YtlokfeoihnlkkaaDoor

/- Merkle: plain definitions: the roots, paths and proofs of lists, as their tree is parted from above. -/
namespace Go.Proofs.YtlokfeoihnlkkaaDoor
open Go.RowKit

def dg (s : ByteArray) : ByteArray := bs (sha s.data.toList)
def leafT (s : ByteArray) : ByteArray := ⟨#[0]⟩ ++ s
def nodeT (a b : ByteArray) : ByteArray := ⟨#[1]⟩ ++ a ++ b
def leafD (s : ByteArray) : ByteArray := dg (leafT s)
def nodeD (a b : ByteArray) : ByteArray := dg (nodeT a b)
/-- the greatest power of two below n -/
def spl (n : Nat) : Nat := 2 ^ Nat.log2 (n - 1)
theorem spl_pos (n : Nat) : 0 < spl n := Nat.two_pow_pos _
theorem spl_lt {n : Nat} (h : 2 ≤ n) : spl n < n := by
  have := Nat.log2_self_le (n := n - 1) (by omega)
  unfold spl; omega
theorem spl_two {n : Nat} (h : 2 ≤ n) : n ≤ 2 * spl n := by
  have := Nat.lt_log2_self (n := n - 1)
  unfold spl
  rw [Nat.pow_succ] at this
  omega
theorem spl_of {n j : Nat} (h1 : 2 ^ j < n) (h2 : n ≤ 2 ^ (j + 1)) : spl n = 2 ^ j := by
  unfold spl
  congr 1
  have hp := Nat.two_pow_pos j
  have a := Nat.log2_self_le (n := n - 1) (by omega)
  have b := Nat.lt_log2_self (n := n - 1)
  have c1 : n - 1 < 2 ^ (j + 1) := by omega
  have c2 : 2 ^ j < 2 ^ ((n - 1).log2 + 1) := by omega
  have c3 : 2 ^ (n - 1).log2 < 2 ^ (j + 1) := by omega
  have d1 := (Nat.pow_lt_pow_iff_right (a := 2) (by decide)).1 c2
  have d2 := (Nat.pow_lt_pow_iff_right (a := 2) (by decide)).1 c3
  omega

def rootL (l : List ByteArray) : ByteArray :=
  if l.length < 2 then (match l with | [] => dg ⟨#[]⟩ | x :: _ => leafD x)
  else nodeD (rootL (l.take (spl l.length))) (rootL (l.drop (spl l.length)))
termination_by l.length
decreasing_by
  all_goals have := spl_lt (n := l.length) (by omega)
  all_goals have := spl_pos l.length
  · rw [List.length_take]; omega
  · rw [List.length_drop]; omega
theorem rootL_nil : rootL [] = dg ⟨#[]⟩ := by unfold rootL; rfl
theorem rootL_one (x : ByteArray) : rootL [x] = leafD x := by unfold rootL; rfl
theorem rootL_two {l : List ByteArray} (h : 2 ≤ l.length) : rootL l = nodeD (rootL (l.take (spl l.length))) (rootL (l.drop (spl l.length))) := by
  rw [rootL.eq_def, if_neg (by omega)]
/-- which sums stand on the left, from below -/
def sidesN (n i : Nat) : List Bool :=
  if _h : n < 2 then [] else if i < spl n then sidesN (spl n) i ++ [false] else sidesN (n - spl n) (i - spl n) ++ [true]
termination_by n
decreasing_by
  · exact spl_lt (by omega)
  · have := spl_pos n; omega
theorem sidesN_one {n : Nat} (h : n < 2) (i : Nat) : sidesN n i = [] := by rw [sidesN, dif_pos h]
theorem sidesN_lo {n i : Nat} (h : 2 ≤ n) (hi : i < spl n) : sidesN n i = sidesN (spl n) i ++ [false] := by rw [sidesN, dif_neg (by omega), if_pos hi]
theorem sidesN_hi {n i : Nat} (h : 2 ≤ n) (hi : spl n ≤ i) : sidesN n i = sidesN (n - spl n) (i - spl n) ++ [true] := by rw [sidesN, dif_neg (by omega), if_neg (by omega)]
def sidesM (m n : Nat) : List Bool :=
  if _h : n ≤ m ∨ n < 2 then [] else if m ≤ spl n then sidesM m (spl n) ++ [false] else sidesM (m - spl n) (n - spl n) ++ [true]
termination_by n
decreasing_by
  · exact spl_lt (by omega)
  · have := spl_pos n; omega
theorem sidesM_all {m n : Nat} (h : n ≤ m) : sidesM m n = [] := by rw [sidesM, dif_pos (.inl h)]
theorem sidesM_lo {m n : Nat} (h : m < n) (h0 : 0 < m) (hm : m ≤ spl n) : sidesM m n = sidesM m (spl n) ++ [false] := by rw [sidesM, dif_neg (by omega), if_pos hm]
theorem sidesM_hi {m n : Nat} (h : m < n) (h0 : 0 < m) (hm : spl n < m) : sidesM m n = sidesM (m - spl n) (n - spl n) ++ [true] := by rw [sidesM, dif_neg (by omega), if_neg (by omega)]

def stepD (c : Bool) (p r : ByteArray) : ByteArray := if c = true then nodeD p r else nodeD r p
def foldD : List Bool → List ByteArray → ByteArray → ByteArray
  | c :: cs, p :: ps, r => foldD cs ps (stepD c p r)
  | [], _, r => r
  | _ :: _, [], r => r
def stepG (c : Bool) (p : ByteArray) (r : ByteArray × ByteArray) : ByteArray × ByteArray := if c = true then (nodeD p r.1, nodeD p r.2) else (r.1, nodeD r.2 p)
def foldG : List Bool → List ByteArray → ByteArray × ByteArray → ByteArray × ByteArray
  | c :: cs, p :: ps, r => foldG cs ps (stepG c p r)
  | [], _, r => r
  | _ :: _, [], r => r
theorem foldD_end : ∀ (cs : List Bool) (ps : List ByteArray) (c : Bool) (p r : ByteArray), cs.length = ps.length → foldD (cs ++ [c]) (ps ++ [p]) r = stepD c p (foldD cs ps r)
  | [], [], c, p, r, _ => rfl
  | _ :: cs, _ :: ps, c, p, r, h => foldD_end cs ps c p _ (by simpa using h)
theorem foldG_end : ∀ (cs : List Bool) (ps : List ByteArray) (c : Bool) (p : ByteArray) (r : ByteArray × ByteArray), cs.length = ps.length → foldG (cs ++ [c]) (ps ++ [p]) r = stepG c p (foldG cs ps r)
  | [], [], c, p, r, _ => rfl
  | _ :: cs, _ :: ps, c, p, r, h => foldG_end cs ps c p _ (by simpa using h)

def pathL (l : List ByteArray) (i : Nat) : List ByteArray :=
  if _h : l.length < 2 ∨ l.length ≤ i then []
  else if i < spl l.length then pathL (l.take (spl l.length)) i ++ [rootL (l.drop (spl l.length))]
  else pathL (l.drop (spl l.length)) (i - spl l.length) ++ [rootL (l.take (spl l.length))]
termination_by l.length
decreasing_by
  all_goals have := spl_lt (n := l.length) (by omega)
  all_goals have := spl_pos l.length
  · rw [List.length_take]; omega
  · rw [List.length_drop]; omega
theorem pathL_no {l : List ByteArray} {i : Nat} (h : l.length < 2 ∨ l.length ≤ i) : pathL l i = [] := by rw [pathL, dif_pos h]
theorem pathL_lo {l : List ByteArray} {i : Nat} (h : 2 ≤ l.length) (hi : i < spl l.length) : pathL l i = pathL (l.take (spl l.length)) i ++ [rootL (l.drop (spl l.length))] := by
  have := spl_lt h
  rw [pathL, dif_neg (by omega), if_pos hi]
theorem pathL_hi {l : List ByteArray} {i : Nat} (h : 2 ≤ l.length) (h2 : i < l.length) (hi : spl l.length ≤ i) : pathL l i = pathL (l.drop (spl l.length)) (i - spl l.length) ++ [rootL (l.take (spl l.length))] := by
  rw [pathL, dif_neg (by omega), if_neg (by omega)]

def proofL (l : List ByteArray) (m : Nat) (first : Bool) : List ByteArray :=
  if _h : l.length ≤ m ∨ l.length < 2 then (if first = true then [] else [rootL l])
  else if m ≤ spl l.length then proofL (l.take (spl l.length)) m first ++ [rootL (l.drop (spl l.length))]
  else proofL (l.drop (spl l.length)) (m - spl l.length) false ++ [rootL (l.take (spl l.length))]
termination_by l.length
decreasing_by
  all_goals have := spl_lt (n := l.length) (by omega)
  all_goals have := spl_pos l.length
  · rw [List.length_take]; omega
  · rw [List.length_drop]; omega
theorem proofL_all {l : List ByteArray} {m : Nat} (h : l.length ≤ m) (first : Bool) : proofL l m first = if first = true then [] else [rootL l] := by rw [proofL, dif_pos (.inl h)]
theorem proofL_lo {l : List ByteArray} {m : Nat} (h : m < l.length) (h0 : 0 < m) (hm : m ≤ spl l.length) (first : Bool) : proofL l m first = proofL (l.take (spl l.length)) m first ++ [rootL (l.drop (spl l.length))] := by
  rw [proofL, dif_neg (by omega), if_pos hm]
theorem proofL_hi {l : List ByteArray} {m : Nat} (h : m < l.length) (h0 : 0 < m) (hm : spl l.length < m) (first : Bool) : proofL l m first = proofL (l.drop (spl l.length)) (m - spl l.length) false ++ [rootL (l.take (spl l.length))] := by
  rw [proofL, dif_neg (by omega), if_neg (by omega)]

/-- how many sums a proof has -/
def proofN (m n : Nat) : Nat := (sidesM m n).length + if (sidesM m n).contains true = true then 1 else 0
/-- the two roots that a proof leads to -/
def growD (old : ByteArray) (m n : Nat) (p : List ByteArray) : ByteArray × ByteArray :=
  if p.length ≤ (sidesM m n).length then foldG (sidesM m n) p (old, old) else foldG (sidesM m n) p.tail (p.headD ⟨#[]⟩, p.headD ⟨#[]⟩)
def checkD (root : ByteArray) (n i : Int) (s : ByteArray) (path : List ByteArray) : Bool :=
  decide (1 ≤ n ∧ n ≤ 1099511627776 ∧ 0 ≤ i ∧ i < n ∧ path.length = (sidesN n.toNat i.toNat).length ∧ foldD (sidesN n.toNat i.toNat) path (leafD s) = root)
def extendsD (old : ByteArray) (m : Int) (root : ByteArray) (n : Int) (p : List ByteArray) : Bool :=
  decide (0 ≤ m ∧ m ≤ n ∧ n ≤ 1099511627776 ∧ ((m = 0 ∧ p = [] ∧ old = dg ⟨#[]⟩ ∧ (n = 0 → root = old)) ∨ (0 < m ∧ p.length = proofN m.toNat n.toNat ∧ growD old m.toNat n.toNat p = (old, root))))

theorem sidesN_len : ∀ (j n i : Nat), n ≤ 2 ^ j → (sidesN n i).length ≤ j
  | 0, n, i, h => by rw [sidesN_one (by omega)]; simp
  | j + 1, n, i, h => by
    by_cases h2 : n < 2
    · rw [sidesN_one h2]; simp
    · have hp := Nat.two_pow_pos j
      have hs : spl n ≤ 2 ^ j := by
        have a := spl_lt (n := n) (by omega)
        unfold spl at a ⊢
        have : (n - 1).log2 < j + 1 := (Nat.pow_lt_pow_iff_right (a := 2) (by decide)).1 (by omega)
        exact Nat.pow_le_pow_right (by decide) (by omega)
      have ht := spl_two (n := n) (by omega)
      by_cases hi : i < spl n
      · rw [sidesN_lo (by omega) hi, List.length_append]
        have := sidesN_len j (spl n) i hs
        simp; omega
      · rw [sidesN_hi (by omega) (by omega), List.length_append]
        have := sidesN_len j (n - spl n) (i - spl n) (by omega)
        simp; omega
theorem sidesM_len : ∀ (j m n : Nat), 0 < m → n ≤ 2 ^ j → (sidesM m n).length ≤ j
  | 0, m, n, h0, h => by rw [sidesM_all (by omega)]; simp
  | j + 1, m, n, h0, h => by
    by_cases h2 : n ≤ m
    · rw [sidesM_all h2]; simp
    · have hp := Nat.two_pow_pos j
      have hs : spl n ≤ 2 ^ j := by
        have a := spl_lt (n := n) (by omega)
        unfold spl at a ⊢
        have : (n - 1).log2 < j + 1 := (Nat.pow_lt_pow_iff_right (a := 2) (by decide)).1 (by omega)
        exact Nat.pow_le_pow_right (by decide) (by omega)
      have ht := spl_two (n := n) (by omega)
      by_cases hm : m ≤ spl n
      · rw [sidesM_lo (by omega) h0 hm, List.length_append]
        have := sidesM_len j m (spl n) h0 hs
        simp; omega
      · rw [sidesM_hi (by omega) h0 (by omega), List.length_append]
        have := sidesM_len j (m - spl n) (n - spl n) (by omega) (by omega)
        simp; omega
theorem pathL_len : ∀ (N : Nat) (l : List ByteArray) (i : Nat), l.length ≤ N → i < l.length → (pathL l i).length = (sidesN l.length i).length
  | 0, l, i, h, hi => by omega
  | N + 1, l, i, h, hi => by
    by_cases h2 : l.length < 2
    · rw [pathL_no (.inl h2), sidesN_one h2]; rfl
    · have h3 : 2 ≤ l.length := by omega
      have a := spl_lt h3
      have a0 := spl_pos l.length
      by_cases hk : i < spl l.length
      · have e : (l.take (spl l.length)).length = spl l.length := by rw [List.length_take]; omega
        rw [pathL_lo h3 hk, sidesN_lo h3 hk, List.length_append, List.length_append, pathL_len N _ i (by omega) (by omega), e]; rfl
      · have e : (l.drop (spl l.length)).length = l.length - spl l.length := by rw [List.length_drop]
        rw [pathL_hi h3 hi (by omega), sidesN_hi h3 (by omega), List.length_append, List.length_append, pathL_len N _ (i - spl l.length) (by omega) (by omega), e]; rfl
theorem path_fold : ∀ (N : Nat) (l : List ByteArray) (i : Nat) (x : ByteArray), l.length ≤ N → l[i]? = some x → foldD (sidesN l.length i) (pathL l i) (leafD x) = rootL l
  | 0, l, i, x, h, hx => by
    obtain ⟨hi, _⟩ := List.getElem?_eq_some_iff.1 hx
    omega
  | N + 1, l, i, x, h, hx => by
    obtain ⟨hi, he⟩ := List.getElem?_eq_some_iff.1 hx
    by_cases h2 : l.length < 2
    · rw [pathL_no (.inl h2), sidesN_one h2]
      match l, h2, hi, hx with
      | [y], _, hi, hx =>
        have : i = 0 := by simpa using hi
        subst this
        rw [rootL_one]
        simp at hx
        rw [hx]; rfl
    · have h3 : 2 ≤ l.length := by omega
      have a := spl_lt h3
      have a0 := spl_pos l.length
      have e1 : (l.take (spl l.length)).length = spl l.length := by rw [List.length_take]; omega
      have e2 : (l.drop (spl l.length)).length = l.length - spl l.length := by rw [List.length_drop]
      rw [rootL_two h3]
      by_cases hk : i < spl l.length
      · have g : (l.take (spl l.length))[i]? = some x := by rw [List.getElem?_take_of_lt hk]; exact hx
        have ih := path_fold N _ i x (by omega) g
        have il := pathL_len N (l.take (spl l.length)) i (by omega) (by omega)
        rw [e1] at ih il
        rw [pathL_lo h3 hk, sidesN_lo h3 hk, foldD_end _ _ _ _ _ il.symm, ih]; rfl
      · have g : (l.drop (spl l.length))[i - spl l.length]? = some x := by
          rw [List.getElem?_drop, show spl l.length + (i - spl l.length) = i from by omega]; exact hx
        have ih := path_fold N _ (i - spl l.length) x (by omega) g
        have il := pathL_len N (l.drop (spl l.length)) (i - spl l.length) (by omega) (by omega)
        rw [e2] at ih il
        rw [pathL_hi h3 hi (by omega), sidesN_hi h3 (by omega), foldD_end _ _ _ _ _ il.symm, ih]; rfl
/-- a proof has as many sums as the divisions ask, and one more where it doesn't start with nothing -/
theorem proofL_len : ∀ (N : Nat) (l : List ByteArray) (m : Nat) (first : Bool), l.length ≤ N → 0 < m → m ≤ l.length →
    (proofL l m first).length = (sidesM m l.length).length + if first = true ∧ (sidesM m l.length).contains true = false then 0 else 1
  | 0, l, m, first, h, h0, hm => by omega
  | N + 1, l, m, first, h, h0, hm => by
    by_cases h2 : l.length ≤ m
    · rw [proofL_all h2, sidesM_all h2]
      cases first <;> rfl
    · have h3 : 2 ≤ l.length := by omega
      have a := spl_lt h3
      have a0 := spl_pos l.length
      have e1 : (l.take (spl l.length)).length = spl l.length := by rw [List.length_take]; omega
      have e2 : (l.drop (spl l.length)).length = l.length - spl l.length := by rw [List.length_drop]
      by_cases hk : m ≤ spl l.length
      · rw [proofL_lo (by omega) h0 hk, sidesM_lo (by omega) h0 hk, List.length_append, List.length_append, proofL_len N _ m first (by omega) h0 (by omega), e1, List.contains_append]
        simp
        omega
      · rw [proofL_hi (by omega) h0 (by omega), sidesM_hi (by omega) h0 (by omega), List.length_append, List.length_append, proofL_len N _ (m - spl l.length) false (by omega) (by omega) (by omega), e2, List.contains_append]
        simp
theorem proofL_proofN {l : List ByteArray} {m : Nat} (h0 : 0 < m) (hm : m ≤ l.length) : (proofL l m true).length = proofN m l.length := by
  rw [proofL_len _ l m true (Nat.le_refl _) h0 hm]
  unfold proofN
  cases (sidesM m l.length).contains true <;> simp
/-- what a proof leads to: the roots of the beginning and of the whole -/
theorem proof_fold : ∀ (N : Nat) (l : List ByteArray) (m : Nat) (first : Bool) (old : ByteArray), l.length ≤ N → 0 < m → m ≤ l.length → (first = true → (sidesM m l.length).contains true = false → old = rootL (l.take m)) →
    growD old m l.length (proofL l m first) = (rootL (l.take m), rootL l)
  | 0, l, m, first, old, h, h0, hm, _ => by omega
  | N + 1, l, m, first, old, h, h0, hm, ho => by
    have hlen := proofL_len _ l m first (Nat.le_refl _) h0 hm
    by_cases h2 : l.length ≤ m
    · rw [sidesM_all h2] at ho
      unfold growD
      rw [proofL_all h2, sidesM_all h2, List.take_of_length_le h2]
      cases first
      · rfl
      · rw [ho rfl rfl, List.take_of_length_le h2]; rfl
    · have h3 : 2 ≤ l.length := by omega
      have a := spl_lt h3
      have a0 := spl_pos l.length
      have a2 := spl_two h3
      have e1 : (l.take (spl l.length)).length = spl l.length := by rw [List.length_take]; omega
      have e2 : (l.drop (spl l.length)).length = l.length - spl l.length := by rw [List.length_drop]
      by_cases hk : m ≤ spl l.length
      · have tt : (l.take (spl l.length)).take m = l.take m := by rw [List.take_take, Nat.min_eq_left hk]
        have ih := proof_fold N (l.take (spl l.length)) m first old (by omega) h0 (by omega) (fun hf hc => by
          rw [tt]
          refine ho hf ?_
          rw [sidesM_lo (by omega) h0 hk, List.contains_append]
          rw [e1] at hc
          rw [hc]; rfl)
        have hl2 := proofL_len _ (l.take (spl l.length)) m first (Nat.le_refl _) h0 (by omega)
        rw [e1] at ih hl2
        rw [tt] at ih
        rw [proofL_lo (by omega) h0 hk, rootL_two h3]
        rw [growD, sidesM_lo (by omega) h0 hk]
        rw [growD] at ih
        generalize proofL (l.take (spl l.length)) m first = p at *
        generalize sidesM m (spl l.length) = cs at *
        by_cases hp : p.length ≤ cs.length
        · have hp2 : p.length = cs.length := by
            rw [hl2] at hp ⊢
            split at hp <;> rename_i hq
            · rw [if_pos hq]; omega
            · omega
          rw [if_pos hp] at ih
          rw [if_pos (by simp; omega), foldG_end _ _ _ _ _ hp2.symm, ih]; rfl
        · rw [if_neg hp] at ih
          rw [if_neg (by simp; omega)]
          match p, hp, ih, hl2 with
          | [], hp, _, _ => exact absurd (Nat.zero_le _) hp
          | y :: p, hp, ih, hl2 =>
            have hp2 : p.length = cs.length := by
              simp at hp hl2
              split at hl2 <;> omega
            show foldG (cs ++ [false]) (p ++ [_]) (y, y) = _
            rw [foldG_end _ _ _ _ _ hp2.symm]
            have ih2 : foldG cs p (y, y) = _ := ih
            rw [ih2]; rfl
      · have tt : rootL (l.take m) = nodeD (rootL (l.take (spl l.length))) (rootL ((l.drop (spl l.length)).take (m - spl l.length))) := by
          have em : (l.take m).length = m := by rw [List.length_take]; omega
          have es : spl m = spl l.length := by
            refine spl_of (by unfold spl at *; omega) ?_
            rw [Nat.pow_succ]
            unfold spl at *; omega
          have e3 : (l.take m).take (spl l.length) = l.take (spl l.length) := by rw [List.take_take, Nat.min_eq_left (by omega)]
          have e4 : (l.take m).drop (spl l.length) = (l.drop (spl l.length)).take (m - spl l.length) := by rw [List.drop_take]
          rw [rootL_two (l := l.take m) (by omega), em, es, e3, e4]
        have ih := proof_fold N (l.drop (spl l.length)) (m - spl l.length) false old (by omega) (by omega) (by omega) (fun hf => by cases hf)
        have hl2 := proofL_len _ (l.drop (spl l.length)) (m - spl l.length) false (Nat.le_refl _) (by omega) (by omega)
        rw [e2] at ih hl2
        rw [proofL_hi (by omega) h0 (by omega), rootL_two h3, tt]
        rw [growD, sidesM_hi (by omega) h0 (by omega)]
        rw [growD] at ih
        generalize proofL (l.drop (spl l.length)) (m - spl l.length) false = p at *
        generalize sidesM (m - spl l.length) (l.length - spl l.length) = cs at *
        have hp2 : p.length = cs.length + 1 := by
          rw [hl2]; simp
        rw [if_neg (by omega)] at ih
        rw [if_neg (by simp; omega)]
        match p, ih, hp2 with
        | y :: p, ih, hp2 =>
          have hp3 : p.length = cs.length := by simpa using hp2
          show foldG (cs ++ [true]) (p ++ [_]) (y, y) = _
          rw [foldG_end _ _ _ _ _ hp3.symm]
          have ih2 : foldG cs p (y, y) = _ := ih
          rw [ih2]; rfl
end Go.Proofs.YtlokfeoihnlkkaaDoor

/- Plain mathematics of the document's own reckoning: a ring of sixteen words; the choice and the majority in other words. No program is named here. -/
namespace Go.Proofs.YtlokfeoihnlkkaaDoor

theorem sched_keep (l : List UInt8) (n : Nat) : ∀ d i, i < n + 16 → (schedTo l (n + d)).getD i 0 = (schedTo l n).getD i 0 := by
  intro d
  induction d with
  | zero => intro i _; rfl
  | succ d ih =>
    intro i hi
    rw [← Nat.add_assoc, schedTo, List.getD_eq_getElem?_getD, List.getElem?_set_ne (by omega), ← List.getD_eq_getElem?_getD]
    exact ih i hi
theorem sched_rec (l : List UInt8) (n : Nat) (h : n < 48) : (schedTo l 48).getD (n + 16) 0 =
    (schedTo l 48).getD n 0 + sig0 ((schedTo l 48).getD (n + 1) 0) + (schedTo l 48).getD (n + 9) 0 + sig1 ((schedTo l 48).getD (n + 14) 0) := by
  have k := fun i hi => sched_keep l n (48 - n) i hi
  have k1 := sched_keep l (n + 1) (48 - (n + 1)) (n + 16) (by omega)
  rw [show n + (48 - n) = 48 from by omega] at k
  rw [show n + 1 + (48 - (n + 1)) = 48 from by omega] at k1
  rw [k n (by omega), k (n + 1) (by omega), k (n + 9) (by omega), k (n + 14) (by omega), k1, schedTo, List.getD_eq_getElem?_getD, List.getElem?_set_self (by rw [schedTo_length]; omega)]
  rfl

/-- which word lies at place j of the ring, m words having been taken in -/
def idx (m j : Nat) : Nat := m - 1 - (m - 1 - j) % 16
def ring (S : List UInt32) (m : Nat) : List UInt32 := (List.range 16).map fun j => S.getD (idx m j) 0
theorem ring_length (S : List UInt32) (m : Nat) : (ring S m).length = 16 := by simp [ring]
theorem ring_at (S : List UInt32) (m j : Nat) (h : j < 16) : (ring S m).getD j 0 = S.getD (idx m j) 0 := by
  simp [ring, h]
theorem ring_first (S : List UInt32) (h : S.length = 64) : ring S 16 = S.take 16 := by
  apply List.ext_getElem?
  intro j
  by_cases hj : j < 16
  · have e : idx 16 j = j := by unfold idx; omega
    simp [ring, hj, e]
    rw [List.getElem?_eq_getElem (by omega)]
    rfl
  · rw [List.getElem?_eq_none (by rw [ring_length]; omega), List.getElem?_eq_none (by simp; omega)]
theorem ring_own (S : List UInt32) (i : Nat) (h : 16 ≤ i) : (ring S i).getD (i % 16) 0 = S.getD (i - 16) 0 := by
  rw [ring_at _ _ _ (by omega)]; congr 1; unfold idx; omega
theorem ring_1 (S : List UInt32) (i : Nat) (h : 16 ≤ i) : (ring S i).getD ((i + 1) % 16) 0 = S.getD (i - 15) 0 := by
  rw [ring_at _ _ _ (by omega)]; congr 1; unfold idx; omega
theorem ring_9 (S : List UInt32) (i : Nat) (h : 16 ≤ i) : (ring S i).getD ((i + 9) % 16) 0 = S.getD (i - 7) 0 := by
  rw [ring_at _ _ _ (by omega)]; congr 1; unfold idx; omega
theorem ring_14 (S : List UInt32) (i : Nat) (h : 16 ≤ i) : (ring S i).getD ((i + 14) % 16) 0 = S.getD (i - 2) 0 := by
  rw [ring_at _ _ _ (by omega)]; congr 1; unfold idx; omega
theorem ring_next (S : List UInt32) (i : Nat) (h : 16 ≤ i) : (ring S i).set (i % 16) (S.getD i 0) = ring S (i + 1) := by
  apply List.ext_getElem?
  intro j
  rw [List.getElem?_set, ring_length]
  by_cases hj : j < 16
  · by_cases e : i % 16 = j
    · subst e
      have e2 : idx (i + 1) (i % 16) = i := by unfold idx; omega
      simp [ring, hj, e2]
    · have e2 : idx (i + 1) j = idx i j := by unfold idx; omega
      simp [ring, hj, e, e2]
  · rw [if_neg (by omega), List.getElem?_eq_none (by rw [ring_length]; omega), List.getElem?_eq_none (by rw [ring_length]; omega)]
theorem ring_new (S : List UInt32) (i : Nat) : (ring S (i + 1)).getD (i % 16) 0 = S.getD i 0 ∨ i < 16 := by
  by_cases h : i < 16
  · exact .inr h
  · rw [ring_at _ _ _ (by omega)]; left; congr 1; unfold idx; omega

theorem choice_eq (e f g : UInt32) : g ^^^ (e &&& (f ^^^ g)) = (e &&& f) ^^^ (~~~e &&& g) := by
  apply UInt32.toBitVec_inj.1
  apply BitVec.eq_of_getLsbD_eq
  intro i hi
  simp only [UInt32.toBitVec_xor, UInt32.toBitVec_and, UInt32.toBitVec_not, BitVec.getLsbD_xor, BitVec.getLsbD_and, BitVec.getLsbD_not, hi, decide_true, Bool.true_and]
  generalize e.toBitVec.getLsbD i = a
  generalize f.toBitVec.getLsbD i = b
  generalize g.toBitVec.getLsbD i = c
  cases a <;> cases b <;> cases c <;> rfl
theorem major_eq (a b c : UInt32) : (a &&& b) ||| (c &&& (a ||| b)) = (a &&& b) ^^^ (a &&& c) ^^^ (b &&& c) := by
  apply UInt32.toBitVec_inj.1
  apply BitVec.eq_of_getLsbD_eq
  intro i hi
  simp only [UInt32.toBitVec_xor, UInt32.toBitVec_and, UInt32.toBitVec_or, BitVec.getLsbD_xor, BitVec.getLsbD_and, BitVec.getLsbD_or]
  generalize a.toBitVec.getLsbD i = x
  generalize b.toBitVec.getLsbD i = y
  generalize c.toBitVec.getLsbD i = z
  cases x <;> cases y <;> cases z <;> rfl
/-- the round in the document's own words -/
theorem round_ref (k w : UInt32) (s : H8) :
    s.h + (rotr s.e 6 ^^^ rotr s.e 11 ^^^ rotr s.e 25) + (s.g ^^^ (s.e &&& (s.f ^^^ s.g))) + k + w = rx k w s ∧
    rx k w s + (rotr s.a 2 ^^^ rotr s.a 13 ^^^ rotr s.a 22) + ((s.a &&& s.b) ||| (s.c &&& (s.a ||| s.b))) = (round k w s).a := by
  constructor
  · rw [choice_eq]; rfl
  · rw [major_eq, UInt32.add_assoc]; rfl
end Go.Proofs.YtlokfeoihnlkkaaDoor
