/- Texts in one: Abs, Sum. -/
import Derived.Test.YtmikfmcgddmplaaGreatDoorShb
import Derived.Deep.Cut
/- sum.absorb: its contract. -/
namespace Go.Proofs.YtmikfmcgddmplaaGreatDoor
open Go.RowKit

theorem sarr_one (hs : List UInt32) (r : ByteArray) (m : Int) : (sarr hs r m).all (·.oneCell') = true := by
  rw [Array.all_eq_true_iff_forall_mem]
  intro v hv
  simp only [sarr, List.mem_toArray, List.mem_append, List.mem_map] at hv
  rcases hv with ⟨x, _, rfl⟩ | hv
  · rfl
  · simp at hv
    rcases hv with rfl | rfl <;> rfl
theorem infoS (hs : List UInt32) (h : hs.length = 8) (r : ByteArray) (m : Int) : (Tryz.prog.info? 165).map (·.size) = some (sarr hs r m).size := by
  rw [sarr_size hs h]; kernel_rfl

def zeroS : Array Value := sarr (List.replicate 8 0) ⟨#[]⟩ 0

theorem sarr_set9 {hs : List UInt32} (h : hs.length = 8) (r : ByteArray) (m n : Int) : (sarr hs r m).setIfInBounds 9 (.int .i64 n) = sarr hs r n := by
  match hs, h with
  | [_, _, _, _, _, _, _, _], _ => rfl
theorem sarr_set8 {hs : List UInt32} (h : hs.length = 8) (r q : ByteArray) (m : Int) : (sarr hs r m).setIfInBounds 8 (.string q) = sarr hs q m := by
  match hs, h with
  | [_, _, _, _, _, _, _, _], _ => rfl
/-- the state in the first of the call's own blocks, nought in the second -/
def SW (hs : List UInt32) (r : ByteArray) (m : Int) (w W : World) : Prop :=
  Arr W w.heap.size 165 (sarr hs r m) ∧ Arr W (w.heap.size + 1) 165 zeroS ∧ Below w.heap.size w W
section
variable {hs : List UInt32} {r : ByteArray} {m : Int} {w W : World}
theorem SW.drewN (h : SW hs r m w W) (n : Nat) : SW hs r m w (W.drewN n) := ⟨h.1.drewN n, h.2.1.drewN n, below_drewN h.2.2 n⟩
theorem SW.drew (h : SW hs r m w W) : SW hs r m w W.drew := ⟨h.1.drew, h.2.1.drew, h.2.2.drew⟩
theorem SW.put9 (h : SW hs r m w W) (h8 : hs.length = 8) (n : Int) : SW hs r n w (W.setCell ⟨w.heap.size, 9, none⟩ (.int .i64 n)) := by
  refine ⟨?_, h.2.1.far (by simp) _, h.2.2.setCell (by simp) _⟩
  have := h.1.put 9 (.int .i64 n)
  rw [sarr_set9 h8] at this
  exact this
theorem SW.put8 (h : SW hs r m w W) (h8 : hs.length = 8) (q : ByteArray) : SW hs q m w (W.setCell ⟨w.heap.size, 8, none⟩ (.string q)) := by
  refine ⟨?_, h.2.1.far (by simp) _, h.2.2.setCell (by simp) _⟩
  have := h.1.put 8 (.string q)
  rw [sarr_set8 h8] at this
  exact this
end

set_option maxRecDepth 100000 in
set_option maxHeartbeats 1000000 in
theorem absorb_short (h0 h1 h2 h3 h4 h5 h6 h7 : UInt32) (r b : ByteArray) (m : Nat) (hm : m + b.size < 1152921504606846976) (hr : r.size + b.size < 64) (w : World) :
    Calls Tryz.prog 130 #[.agg (sarr [h0, h1, h2, h3, h4, h5, h6, h7] r m), .string b] w
      fun e w' => e = .returned (.agg (sarr [h0, h1, h2, h3, h4, h5, h6, h7] (r ++ b) ((m + b.size : Nat) : Int))) ∧ Below w.heap.size w w' := by
  have hi1 : (0 : Int) ≤ (b.size : Int) := by omega
  go_enter Tryz.func130, Tryz.ntmps130
  go_upto_region 1 with fail
  refine wp_forget (SW [h0, h1, h2, h3, h4, h5, h6, h7] r m w) ⟨(Arr.new _ _ _).alloc _, Arr.new_at (w.alloc _) _ _ (by simp), ((Below.refl _ _).alloc (Nat.le_refl _) _).alloc (by simp) _⟩ ?_
  intro W hW
  have c8 : W.cell? ⟨w.heap.size, 8, none⟩ = some (.string r) := hW.1.cell 8
  have c9 : W.cell? ⟨w.heap.size, 9, none⟩ = some (.int .i64 m) := hW.1.cell 9
  have f8 : W.frozen? ⟨w.heap.size, 8, none⟩ = false := hW.1.free 8
  have f9 : W.frozen? ⟨w.heap.size, 9, none⟩ = false := hW.1.free 9
  go_upto_region 3 with fail
  refine wp_forget (SW [h0, h1, h2, h3, h4, h5, h6, h7] r ((m : Int) + b.size) w) (hW.put9 rfl _) ?_
  clear hW c8 c9 f8 f9 W
  intro W hW
  have c8 : W.cell? ⟨w.heap.size, 8, none⟩ = some (.string r) := hW.1.cell 8
  have f8 : W.frozen? ⟨w.heap.size, 8, none⟩ = false := hW.1.free 8
  have hx : b.extract 0 b.size = b := by simp
  have hsum : ¬ (9223372036854775807 < r.size + b.size) := by omega
  go_quiet (fail)
  go_upto_region 6 with fail
  refine wp_forget (SW [h0, h1, h2, h3, h4, h5, h6, h7] (r ++ b) ((m : Int) + b.size) w) ((hW.drewN _).put8 rfl _) ?_
  clear hW c8 f8 W
  intro W hW
  go_wp2_with (first
    | (refine wpList_load_row rfl 165 _ rfl w.heap.size rfl 165 _ (0, 0) _ hW.1 Tryz.underlying165 rfl (infoS _ rfl _ _) ?_)
    | (refine wpList_store_row rfl 165 _ _ rfl (w.heap.size + 1) _ rfl rfl 165 zeroS hW.2.1 (infoS _ rfl _ _) rfl (sarr_one _ _ _) ?_))
  refine bodyPost_ret (v := .agg (sarr [h0, h1, h2, h3, h4, h5, h6, h7] (r ++ b) ((m : Int) + b.size))) ?_ rfl ⟨by simp, below_setRow hW.2.2 (by omega) _⟩
  exact results_cell_row Tryz.results130 _ _ (w.heap.size + 1) 165 _ (0, 0) _ rfl (hW.2.1.row _) Tryz.underlying165 rfl (infoS _ rfl _ _)

theorem split_list (r b : ByteArray) (k : Nat) : r.data.toList ++ b.data.toList = (r ++ b.extract 0 k).data.toList ++ (b.extract k b.size).data.toList := by
  have h : b.data.toList.take b.size = b.data.toList := List.take_of_length_le (Nat.le_of_eq rfl)
  rw [append_list, extract_list, extract_list, List.append_assoc, h, List.drop_zero, List.take_append_drop]
theorem store_heads {P : Program} {W : World} {g : Nat} {t : TypeId} {hs ys : List UInt32} {r : ByteArray} {m : Int} (h : Arr W g t (sarr hs r m)) (h8 : hs.length = 8) (hy : ys.length = 8) :
    (storeCells ⟨g, 0, none⟩ (warr ys).toList).run P W = .ok () (W.setRow g (sarr ys r m)) := by
  have := run_storeCells_at P g 0 t (warr ys).toList 0 (sarr hs r m) W h (by simp [warr_size, sarr_size hs h8, hy]) (fun v hv => (Array.all_eq_true_iff_forall_mem.1 (warr_one ys)) v (by simpa using hv))
  rw [this]
  congr 2
  match hs, h8, ys, hy with
  | [_, _, _, _, _, _, _, _], _, [_, _, _, _, _, _, _, _], _ => rfl
theorem SW.row {hs ys : List UInt32} {r : ByteArray} {m : Int} {w W : World} (h : SW hs r m w W) : SW ys r m w (W.setRow w.heap.size (sarr ys r m)) :=
  ⟨h.1.row _, h.2.1.row_far (by omega) _, below_setRow h.2.2 (Nat.le_refl _) _⟩
theorem SW.below {hs : List UInt32} {r : ByteArray} {m : Int} {w W W' : World} (h : SW hs r m w W) (hb : Below W.heap.size W W') : SW hs r m w W' :=
  ⟨h.1.below hb h.1.lt, h.2.1.below hb h.2.1.lt, h.2.2.trans (hb.mono (Nat.le_of_lt h.1.lt))⟩

set_option maxRecDepth 100000 in
set_option maxHeartbeats 1000000 in
theorem absorb_long (h0 h1 h2 h3 h4 h5 h6 h7 : UInt32) (r b : ByteArray) (m : Nat) (hm : m + b.size < 1152921504606846976) (hr : r.size < 64) (hrb : 64 ≤ r.size + b.size) (w : World) (ht : Tab w) :
    Calls Tryz.prog 130 #[.agg (sarr [h0, h1, h2, h3, h4, h5, h6, h7] r m), .string b] w
      fun e w' => e = .returned (.agg (sarr (blocks [h0, h1, h2, h3, h4, h5, h6, h7] (r.data.toList ++ b.data.toList)) (bs (restOf (r.data.toList ++ b.data.toList))) ((m + b.size : Nat) : Int))) ∧ Below w.heap.size w w' := by
  have hi1 : (0 : Int) ≤ (b.size : Int) := by omega
  go_enter Tryz.func130, Tryz.ntmps130
  go_upto_region 1 with fail
  refine wp_forget (SW [h0, h1, h2, h3, h4, h5, h6, h7] r m w) ⟨(Arr.new _ _ _).alloc _, Arr.new_at (w.alloc _) _ _ (by simp), ((Below.refl _ _).alloc (Nat.le_refl _) _).alloc (by simp) _⟩ ?_
  intro W hW
  have c8 : W.cell? ⟨w.heap.size, 8, none⟩ = some (.string r) := hW.1.cell 8
  have c9 : W.cell? ⟨w.heap.size, 9, none⟩ = some (.int .i64 m) := hW.1.cell 9
  have f9 : W.frozen? ⟨w.heap.size, 9, none⟩ = false := hW.1.free 9
  go_upto_region 3 with fail
  refine wp_forget (SW [h0, h1, h2, h3, h4, h5, h6, h7] r ((m : Int) + b.size) w) (hW.put9 rfl _) ?_
  clear hW c8 c9 f9 W
  intro W hW
  have c8 : W.cell? ⟨w.heap.size, 8, none⟩ = some (.string r) := hW.1.cell 8
  have hx1 : (b.extract 0 (64 - r.size)).size = 64 - r.size := by simp; omega
  have hsum : ¬ (9223372036854775807 < r.size + (b.extract 0 (64 - r.size)).size) := by omega
  go_quiet (fail)
  go_upto_region 8 with fail
  refine wp_forget (SW [h0, h1, h2, h3, h4, h5, h6, h7] r ((m : Int) + b.size) w) (hW.drewN _) ?_
  clear hsum hx1 hW c8 W
  have hf : (r ++ b.extract 0 (64 - r.size)).size = 64 := by rw [ByteArray.size_append]; simp; omega
  have hb1 : (b.extract (64 - r.size) b.size).size ≤ b.size := by simp
  have HM : Hid (r.data.toList ++ b.data.toList = (r ++ b.extract 0 (64 - r.size)).data.toList ++ (b.extract (64 - r.size) b.size).data.toList) := by
    exact split_list r b _
  generalize r ++ b.extract 0 (64 - r.size) = f at *
  generalize b.extract (64 - r.size) b.size = c at *
  have Hf := Lib.hid hf
  clear hf
  intro W hW
  go_upto_region 9 with fail
  have hkl := whole_le c.size
  rw [show ((c.size : Int) - (c.size : Int) % 64) = ((whole c.size : Nat) : Int) from by unfold whole; omega]
  generalize hwk : whole c.size = k at *
  have Hk := Lib.hid hwk
  clear hwk
  obtain ⟨c0, c1, c2, c3, c4, c5, c6, c7, -, -⟩ := cells10 hW.1
  have hTW : Tab W.drew := (ht.below hW.2.2 ht.1).drew
  have hfm : f.size ≤ maxLen := by rw [Hf.out]; unfold maxLen; omega
  have hcm : (c.extract 0 k).size ≤ maxLen := by simp; unfold maxLen; omega
  go_region_with (first
    | (go_at_call 148
       (with_reducible refine (processBlocks_lit h0 h1 h2 h3 h4 h5 h6 h7 f hfm _ hTW).mono ?_)
       rintro e w1 ⟨rfl, hb1⟩
       have hW1 := hW.drew.below hb1
       have hT1 := hTW.below hb1 hTW.1
       have hl1 := blocks_len8 [h0, h1, h2, h3, h4, h5, h6, h7] f.data.toList rfl
       generalize hX : blocks [h0, h1, h2, h3, h4, h5, h6, h7] f.data.toList = X at *
       have HX := Lib.hid hX
       have Hl1 := Lib.hid hl1
       clear hX hl1)
    | (go_at_call 148
       (with_reducible refine (processBlocks_any X Hl1.out (c.extract 0 k) hcm _ hT1).mono ?_)
       rintro e w2 ⟨rfl, hb2⟩
       have hW2 := hW1.below hb2
       have hl2 := blocks_len8 X (c.extract 0 k).data.toList Hl1.out
       generalize hY : blocks X (c.extract 0 k).data.toList = Y at *
       have HY := Lib.hid hY
       have Hl2 := Lib.hid hl2
       have hst := store_heads (P := Tryz.prog) hW2.1 rfl hl2
       have hsz : (warr Y).size = 8 := by rw [warr_size, hl2]
       clear hY hl2))
  clear hst hsz hTW hT1 hfm hcm c0 c1 c2 c3 c4 c5 c6 c7
  go_upto_region 10 with fail
  refine wp_forget (SW Y r ((m : Int) + b.size) w) hW2.row ?_
  clear hW hW1 hW2
  intro W hW
  have c8 : W.cell? ⟨w.heap.size, 8, none⟩ = some (.string r) := by
    rw [hW.1.cell 8]
    obtain ⟨_, _, _, _, _, _, _, _, rfl⟩ := eight Hl2.out
    rfl
  have f8 : W.frozen? ⟨w.heap.size, 8, none⟩ = false := hW.1.free 8
  go_upto_region 11 with fail
  refine wp_forget (SW Y (c.extract k c.size) ((m : Int) + b.size) w) (hW.put8 Hl2.out _) ?_
  clear hW c8 f8 W
  intro W hW
  go_wp2_with (first
    | (refine wpList_load_row rfl 165 _ rfl w.heap.size rfl 165 _ (0, 0) _ hW.1 Tryz.underlying165 rfl (infoS _ Hl2.out _ _) ?_)
    | (refine wpList_store_row rfl 165 _ _ rfl (w.heap.size + 1) _ rfl rfl 165 zeroS hW.2.1 (infoS _ Hl2.out _ _) (by rw [sarr_size _ Hl2.out]; rfl) (sarr_one _ _ _) ?_))
  refine bodyPost_ret (v := .agg (sarr Y (c.extract k c.size) ((m : Int) + b.size))) ?_ rfl ⟨?_, below_setRow hW.2.2 (by omega) _⟩
  · exact results_cell_row Tryz.results130 _ _ (w.heap.size + 1) 165 _ (0, 0) _ rfl (hW.2.1.row _) Tryz.underlying165 rfl (infoS _ Hl2.out _ _)
  · have hfl : f.data.toList.length % 64 = 0 := by
      show f.size % 64 = 0
      rw [Hf.out]
    have e1 : (c.extract 0 k).data.toList = c.data.toList.take (whole c.data.toList.length) := by
      rw [extract_list, List.drop_zero, ← Hk.out]; rfl
    have e2 : c.extract k c.size = bs (restOf c.data.toList) := by
      rw [← bs_of (c.extract k c.size), extract_list, restOf, ← Hk.out, show c.data.toList.take c.size = c.data.toList from List.take_of_length_le (Nat.le_of_eq rfl)]; rfl
    rw [HM.out, blocks_append _ _ _ hfl, HX.out, restOf_append _ _ hfl, blocks_whole X, ← e1, HY.out, e2]
    simp

theorem absorb_any (hs : List UInt32) (h8 : hs.length = 8) (r b : ByteArray) (m : Nat) (hm : m + b.size < 1152921504606846976) (hr : r.size < 64) (w : World) (ht : Tab w) :
    Calls Tryz.prog 130 #[.agg (sarr hs r m), .string b] w
      fun e w' => e = .returned (.agg (sarr (blocks hs (r.data.toList ++ b.data.toList)) (bs (restOf (r.data.toList ++ b.data.toList))) ((m + b.size : Nat) : Int))) ∧ Below w.heap.size w w' := by
  obtain ⟨h0, h1, h2, h3, h4, h5, h6, h7, rfl⟩ := eight h8
  by_cases h : r.size + b.size < 64
  · have := absorb_short h0 h1 h2 h3 h4 h5 h6 h7 r b m hm h w
    have hl : (r.data.toList ++ b.data.toList).length < 64 := by simpa using h
    rw [blocks_end _ _ hl, restOf_short _ hl, ← append_list, bs_of]
    exact this
  · exact absorb_long h0 h1 h2 h3 h4 h5 h6 h7 r b m hm hr (by omega) w ht
theorem finish_any (hs : List UInt32) (h8 : hs.length = 8) (r : ByteArray) (m : Nat) (hm : m < 1152921504606846976) (hr : r.size < 64) (w : World) (ht : Tab w) :
    Calls Tryz.prog 129 #[.agg (sarr hs r m)] w
      fun e w' => e = .returned (.string (bs (shaFrom hs r.data.toList m))) ∧ Below w.heap.size w w' := by
  obtain ⟨h0, h1, h2, h3, h4, h5, h6, h7, rfl⟩ := eight h8
  exact finish_lit h0 h1 h2 h3 h4 h5 h6 h7 r m hm hr w ht
end Go.Proofs.YtmikfmcgddmplaaGreatDoor

/- sum.Begin and sum.Sum: their contracts. -/
namespace Go.Proofs.YtmikfmcgddmplaaGreatDoor
open Go.RowKit

set_option maxRecDepth 100000 in
set_option maxHeartbeats 1000000 in
theorem Begin_any (w : World) :
    Calls Tryz.prog 131 #[] w fun e w' => e = .returned (.agg (sarr startH ⟨#[]⟩ ((0 : Nat) : Int))) ∧ Below w.heap.size w w' := by
  go_enter Tryz.func131, Tryz.ntmps131
  go_wp2
  have e : (#[Value.int .u32 1779033703, Value.int .u32 3144134277, Value.int .u32 1013904242, Value.int .u32 2773480762, Value.int .u32 1359893119, Value.int .u32 2600822924, Value.int .u32 528734635, Value.int .u32 1541459225, Value.string { data := #[] }, Value.int .i64 0] : Array Value) = sarr startH ⟨#[]⟩ ((0 : Nat) : Int) := rfl
  rw [e]
  refine bodyPost_ret (v := .agg (sarr startH ⟨#[]⟩ ((0 : Nat) : Int))) ?_ rfl ⟨rfl, (Below.refl _ _).alloc (Nat.le_refl _) _⟩
  exact results_cell_row Tryz.results131 _ _ w.heap.size 165 _ (0, 0) _ rfl (Arr.new w _ _) Tryz.underlying165 rfl (infoS _ rfl _ _)

/-- A state as a value. -/
def stv (hs : List UInt32) (r : List UInt8) (m : Nat) : Value := .agg (sarr hs (bs r) (m : Int))
theorem Begin_stv (w : World) : Calls Tryz.prog 131 #[] w fun e w' => e = .returned (stv startH [] 0) ∧ Below w.heap.size w w' := Begin_any w
theorem absorb_stv (hs : List UInt32) (h8 : hs.length = 8) (r : List UInt8) (b : ByteArray) (m : Nat) (hm : m + b.size < 1152921504606846976) (hr : r.length < 64) (w : World) (ht : Tab w) :
    Calls Tryz.prog 130 #[stv hs r m, .string b] w
      fun e w' => e = .returned (stv (blocks hs (r ++ b.data.toList)) (restOf (r ++ b.data.toList)) (m + b.size)) ∧ Below w.heap.size w w' := by
  have h := absorb_any hs h8 (bs r) b m hm (by rw [bs_size]; exact hr) w ht
  rw [bs_list] at h
  exact h
theorem finish_stv (hs : List UInt32) (h8 : hs.length = 8) (r : List UInt8) (m : Nat) (hm : m < 1152921504606846976) (hr : r.length < 64) (w : World) (ht : Tab w) :
    Calls Tryz.prog 129 #[stv hs r m] w
      fun e w' => e = .returned (.string (bs (shaFrom hs r m))) ∧ Below w.heap.size w w' := by
  have h := finish_any hs h8 (bs r) m hm (by rw [bs_size]; exact hr) w ht
  rw [bs_list] at h
  exact h

set_option maxHeartbeats 1000000 in
theorem Sum_any (b : ByteArray) (hb : b.size < 1152921504606846976) (w : World) (ht : Tab w) :
    Calls Tryz.prog 92 #[.string b] w fun e w' => e = .returned (.string (bs (sha b.data.toList))) ∧ Below w.heap.size w w' := by
  have h8 := Lib.hid (blocks_len8 startH ([] ++ b.data.toList) rfl)
  have hr := Lib.hid (restOf_length ([] ++ b.data.toList))
  have hm : ([] ++ b.data.toList).length % 64 < 64 := Nat.mod_lt _ (by omega)
  go_enter Tryz.func92, Tryz.ntmps92
  go_wp2_with fail
  (with_reducible refine (Begin_stv _).mono ?_)
  rintro e w1 ⟨rfl, b1⟩
  have t1 := ht.below b1 ht.1
  go_wp2_with fail
  (with_reducible refine (absorb_stv startH rfl [] b 0 (by omega) (by decide) _ t1).mono ?_)
  rintro e w2 ⟨rfl, b2⟩
  have t2 := t1.below b2 t1.1
  generalize hX : blocks startH ([] ++ b.data.toList) = X at *
  generalize hY : restOf ([] ++ b.data.toList) = Y at *
  have HE : Hid (bs (sha b.data.toList) = bs (shaFrom X Y (0 + b.size))) := by
    show _ = _
    rw [← hX, ← hY, Nat.zero_add]
    rfl
  have hYl : Y.length < 64 := by rw [hr.out]; exact hm
  clear hX hY hm hr
  have hn : 0 + b.size < 1152921504606846976 := by omega
  generalize 0 + b.size = n at *
  go_wp2_with fail
  (with_reducible refine (finish_stv X h8.out Y n hn hYl _ t2).mono ?_)
  rintro e w3 ⟨rfl, b3⟩
  go_wp2_with fail
  go_ret
  refine ⟨?_, (b1.trans (b2.mono b1.size)).trans (b3.mono (Nat.le_trans b1.size b2.size))⟩
  rw [HE.out]
  rfl
end Go.Proofs.YtmikfmcgddmplaaGreatDoor
