/- Texts in one: Comp, Bytes. -/
import Derived.Test.YtmikfmcgddmplaaGreatDoorSha
import Derived.Test.YtmikfmcgddmplaaGreatDoorMem
import Derived.BigQuiet
/- sum.processBlock: its contract. -/
namespace Go.Proofs.YtmikfmcgddmplaaGreatDoor
open Go.RowKit

attribute [local go_sem] wd_xor wd_and wd_or wd_not' wd_add

/-- The table of constants lies in its block. -/
def Tab (w : World) : Prop := 1 < w.heap.size ∧ ∀ i, i < 64 → w.cell? ⟨1, i, none⟩ = some (.int .u32 (wd (kTab.getD i 0)))


theorem Tab.alloc {w : World} (h : Tab w) (o : Obj) : Tab (w.alloc o) := ⟨Nat.lt_of_lt_of_le h.1 (by simp), fun i hi => by rw [World.cell?_alloc_lt w o _ h.1]; exact h.2 i hi⟩
theorem Tab.drewN {w : World} (h : Tab w) (n : Nat) : Tab (w.drewN n) := h
theorem Tab.below {w w' : World} {B : Nat} (h : Tab w) (hb : Below B w w') (hB : 1 < B) : Tab w' := ⟨Nat.lt_of_lt_of_le h.1 hb.size, fun i hi => by rw [hb.cell (p := ⟨1, i, none⟩) hB]; exact h.2 i hi⟩

def S8 (s : H8) (a b c d e f g h : Value) : Prop :=
  a = .int .u32 (wd s.a) ∧ b = .int .u32 (wd s.b) ∧ c = .int .u32 (wd s.c) ∧ d = .int .u32 (wd s.d) ∧ e = .int .u32 (wd s.e) ∧ f = .int .u32 (wd s.f) ∧ g = .int .u32 (wd s.g) ∧ h = .int .u32 (wd s.h)
def PRel (ws : List UInt32) (S : H8) (R : World → Prop) (a b c d e f g h i : Value) (wr : World) : Prop :=
  ∃ k : Nat, k ≤ 64 ∧ i = .int .i64 k ∧ S8 (roundsTo ws S k) a b c d e f g h ∧ R wr
def PWorld (hs ws : List UInt32) (w : World) (W : World) : Prop :=
  Arr W w.heap.size 85 (warr hs) ∧ Arr W (w.heap.size + 1) 159 (warr ws) ∧ Arr W (w.heap.size + 1 + 1) 85 (warr (List.replicate 8 0)) ∧ W.heap.size = w.heap.size + 3 ∧ Tab W ∧ Below w.heap.size w W

theorem PWorld.drewN {hs ws : List UInt32} {w W : World} (h : PWorld hs ws w W) (n : Nat) : PWorld hs ws w (W.drewN n) :=
  ⟨h.1.drewN n, h.2.1.drewN n, h.2.2.1.drewN n, h.2.2.2.1, h.2.2.2.2.1.drewN n, below_drewN h.2.2.2.2.2 n⟩

theorem info8 (l : List UInt32) (h : l.length = 8) : (Tryz.prog.info? 85).map (·.size) = some (warr l).size := by
  rw [warr_size, h]; kernel_rfl
theorem info64 (l : List UInt32) (h : l.length = 64) : (Tryz.prog.info? 159).map (·.size) = some (warr l).size := by
  rw [warr_size, h]; kernel_rfl

theorem run_index8 (l : List UInt32) (h : l.length = 8) (k : Nat) (hk : k < 8) (w : World) :
    (Instr.index 85 (.agg (warr l)) (.int .i64 (k : Int))).run Tryz.prog w = .ok (.int .u32 (wd (l.getD k 0))) w := by
  have hs : ∀ w, (sizeOf 84).run Tryz.prog w = .ok 1 w := fun w => by kernel_rfl
  have ha : ∀ w, (isAgg 84).run Tryz.prog w = .ok false w := fun w => by kernel_rfl
  have hv := warr_at l k (by omega)
  simp [Instr.index, asIntOf, run_underlying Tryz.underlying85, hs, part, ha, hv]
  intro h8
  omega

def PWorld2 (l : List UInt32) (w : World) (W : World) : Prop :=
  Arr W w.heap.size 85 (warr l) ∧ Arr W (w.heap.size + 1 + 1) 85 (warr (List.replicate 8 0)) ∧ W.heap.size = w.heap.size + 3 ∧ Below w.heap.size w W
def PRel2 (hs vs : List UInt32) (w : World) (i : Value) (wr : World) : Prop :=
  ∃ k : Nat, k ≤ 8 ∧ i = .int .i64 k ∧ PWorld2 (addTo hs vs k) w wr
theorem PWorld2.put {hs vs : List UInt32} {w wr : World} {k : Nat} (h : PWorld2 (addTo hs vs k) w wr) :
    PWorld2 (addTo hs vs (k + 1)) w (wr.setCell ⟨w.heap.size, k, none⟩ (.int .u32 (wd (hs.getD k 0 + vs.getD k 0)))) := by
  refine ⟨?_, h.2.1.far (by simp; omega) _, by simp [World.setCell, h.2.2.1], h.2.2.2.setCell (by simp) _⟩
  have := h.1.put k (.int .u32 (wd (hs.getD k 0 + vs.getD k 0)))
  rw [warr_set] at this
  exact this

set_option maxRecDepth 100000 in
set_option maxHeartbeats 1000000 in
theorem processBlock_any (h0 h1 h2 h3 h4 h5 h6 h7 : UInt32) (ws : List UInt32) (hl : ws.length = 64) (w : World) (ht : Tab w) :
    Calls Tryz.prog 157 #[.agg #[.int .u32 (wd h0), .int .u32 (wd h1), .int .u32 (wd h2), .int .u32 (wd h3), .int .u32 (wd h4), .int .u32 (wd h5), .int .u32 (wd h6), .int .u32 (wd h7)], .agg (warr ws)] w
      fun e w' => e = .returned (.agg (warr (compress [h0, h1, h2, h3, h4, h5, h6, h7] ws))) ∧ Below w.heap.size w w' := by
  have Hl := Lib.hid hl
  clear hl
  go_enter Tryz.func157, Tryz.ntmps157
  go_wp2
  go_quiet (fail)
  go_wp2
  go_quiet (fail)
  go_wp2
  refine wp_forget (PWorld [h0, h1, h2, h3, h4, h5, h6, h7] ws w) ?_ ?_
  · refine ⟨?_, ?_, ?_, ?_, ?_, ?_⟩
    · exact ((((Arr.new w _ _).alloc _).alloc _).drewN _).drewN _
    · exact (((Arr.new_at (w.alloc _) _ _ (by simp)).alloc _).drewN _).drewN _
    · exact ((Arr.new_at ((w.alloc _).alloc _) _ _ (by simp)).drewN _).drewN _
    · simp
    · exact ((((ht.alloc _).alloc _).alloc _).drewN _).drewN _
    · exact below_drewN (below_drewN ((((Below.refl _ _).alloc (Nat.le_refl _) _).alloc (by simp) _).alloc (by simp; omega) _) _) _
  intro W hW0
  go_loopw [5, 6, 7, 8, 9, 10, 11, 12, 34] (fun a b c d e f g h i wr => PRel ws ⟨h0, h1, h2, h3, h4, h5, h6, h7⟩ (PWorld [h0, h1, h2, h3, h4, h5, h6, h7] ws w) a b c d e f g h i wr) (fun _ _ _ _ _ _ _ _ i _ => 64 - (intOf i).toNat)
  case atStart => exact ⟨0, by omega, rfl, ⟨rfl, rfl, rfl, rfl, rfl, rfl, rfl, rfl⟩, hW0⟩
  case round =>
    obtain ⟨k, hk, rfl, ⟨rfl, rfl, rfl, rfl, rfl, rfl, rfl, rfl⟩, hW⟩ := hrel
    clear hW0 W
    by_cases hlt : k < 64
    · have hc0 := hW.2.2.2.2.1.2 k hlt
      have hc1 : wr.cell? ⟨w.heap.size + 1, k, none⟩ = some (.int .u32 (wd (ws.getD k 0))) := (hW.2.1.cell k).trans (warr_at ws k (by rw [Hl.out]; exact hlt))
      have hi : (k : Int) < 64 := by omega
      generalize hS : roundsTo ws ⟨h0, h1, h2, h3, h4, h5, h6, h7⟩ k = S
      generalize hKk : kTab.getD k 0 = Kk at *
      generalize hWk : ws.getD k 0 = Wk at *
      have HE : Hid (roundsTo ws ⟨h0, h1, h2, h3, h4, h5, h6, h7⟩ (k + 1) = round Kk Wk S) := by
        show round (kTab.getD k 0) (ws.getD k 0) (roundsTo ws ⟨h0, h1, h2, h3, h4, h5, h6, h7⟩ k) = _
        rw [hS, hKk, hWk]
      clear hS hKk hWk
      go_wp2
      go_quiet ((go_at_call 160; exact Calls.quiet_of_same (rotated_int _ _ (by omega) (by omega) _)))
      go_wp2_with (go_at_call 160; refine (rotated_int _ _ (by omega) (by omega) _).mono ?_; rintro e w' ⟨rfl, rfl⟩)
      refine ⟨⟨k + 1, by omega, by go_num, ?_, hW.drewN _⟩, by simp [intOf]; omega⟩
      rw [HE.out]
      exact ⟨rfl, rfl, rfl, rfl, rfl, rfl, rfl, rfl⟩
    · obtain rfl : k = 64 := by omega
      clear hlt hk
      generalize hS : roundsTo ws ⟨h0, h1, h2, h3, h4, h5, h6, h7⟩ 64 = S
      have HS := Lib.hid hS
      clear hS
      go_wp2
      rw [show (#[Value.int .u32 (wd S.a), Value.int .u32 (wd S.b), Value.int .u32 (wd S.c), Value.int .u32 (wd S.d), Value.int .u32 (wd S.e), Value.int .u32 (wd S.f), Value.int .u32 (wd S.g), Value.int .u32 (wd S.h)] : Array Value) = warr S.list from rfl]
      go_loopw [106] (fun i wr => PRel2 [h0, h1, h2, h3, h4, h5, h6, h7] S.list w i wr) (fun i _ => 8 - (intOf i).toNat)
      case atStart => exact ⟨0, by omega, rfl, hW.1, hW.2.2.1, hW.2.2.2.1, hW.2.2.2.2.2⟩
      case round =>
        clear hW
        obtain ⟨k, hk, rfl, hW⟩ := hrel
        by_cases hlt : k < 8
        · have hv := run_index8 S.list rfl k hlt wr
          have hc : wr.cell? ⟨w.heap.size, k, none⟩ = some (.int .u32 (wd ([h0, h1, h2, h3, h4, h5, h6, h7].getD k 0))) := by
            rw [hW.1.cell k, warr_at _ _ (by rw [addTo_length]; exact hlt), addTo_ge _ _ _ _ (Nat.le_refl _)]
          have hf : wr.frozen? ⟨w.heap.size, k, none⟩ = false := hW.1.free k
          have hi : (k : Int) < 8 := by omega
          have hput := hW.put
          generalize S.list.getD k 0 = vk at *
          generalize [h0, h1, h2, h3, h4, h5, h6, h7].getD k 0 = hk at *
          go_wp2
          exact ⟨⟨k + 1, by omega, by go_num, hput⟩, by simp [intOf]; omega⟩
        · obtain rfl : k = 8 := by omega
          have hC : addTo [h0, h1, h2, h3, h4, h5, h6, h7] S.list 8 = compress [h0, h1, h2, h3, h4, h5, h6, h7] ws := by
            unfold compress; rw [← HS.out]; rfl
          rw [hC] at hW
          have hlen : (compress [h0, h1, h2, h3, h4, h5, h6, h7] ws).length = 8 := compress_length _ _
          clear hC hlt hk
          generalize hCC : compress [h0, h1, h2, h3, h4, h5, h6, h7] ws = C at *
          have HCC := Lib.hid hCC
          clear hCC
          have HC := Lib.hid hlen
          clear hlen
          go_wp2_with (first
            | (refine wpList_load_row rfl 85 _ rfl w.heap.size rfl 85 (warr C) (0, 0) _ hW.1 Tryz.underlying85 rfl (info8 C HC.out) ?_)
            | (refine wpList_store_row rfl 85 _ _ rfl (w.heap.size + 1 + 1) (warr C) rfl rfl 85 (warr (List.replicate 8 0)) hW.2.1 (info8 C HC.out) (by rw [warr_size, warr_size, HC.out]; rfl) (warr_one C) ?_))
          refine bodyPost_ret (v := .agg (warr C)) ?_ rfl ⟨by rw [HCC.out], below_setRow hW.2.2.2 (by omega) _⟩
          exact results_cell_row Tryz.results157 _ _ (w.heap.size + 1 + 1) 85 (warr C) (0, 0) _ rfl (hW.2.1.row _) Tryz.underlying85 rfl (info8 C HC.out)
end Go.Proofs.YtmikfmcgddmplaaGreatDoor

/- Bytes as cells and as strings: plain facts; no program is named here. -/
namespace Go.Proofs.YtmikfmcgddmplaaGreatDoor
open Go.RowKit

def bv (b : UInt8) : Value := .int .u8 (b.toNat : Int)
def barr (l : List UInt8) : Array Value := (l.map bv).toArray
theorem barr_size (l : List UInt8) : (barr l).size = l.length := by simp [barr]
theorem barr_at (l : List UInt8) (i : Nat) (h : i < l.length) : (barr l)[i]? = some (.int .u8 ((l.getD i 0).toNat : Int)) := by
  simp [barr, bv, h]
theorem barr_set (l : List UInt8) (i : Nat) (x : UInt8) : (barr l).setIfInBounds i (.int .u8 (x.toNat : Int)) = barr (l.set i x) := by
  unfold barr
  apply Array.ext'
  simp [List.map_set, bv]
theorem barr_one (l : List UInt8) : (barr l).all (·.oneCell') = true := by
  rw [Array.all_eq_true_iff_forall_mem]
  intro v hv
  simp only [barr, List.mem_toArray, List.mem_map] at hv
  obtain ⟨x, _, rfl⟩ := hv
  rfl
theorem barr_zero (n : Nat) : barr (List.replicate n 0) = Array.replicate n (.int .u8 0) := by
  unfold barr
  apply Array.ext'
  simp [bv]

/-- A list of bytes as a string. -/
def bs (l : List UInt8) : ByteArray := ⟨l.toArray⟩
theorem bs_list (l : List UInt8) : (bs l).data.toList = l := by simp [bs]
theorem bs_size (l : List UInt8) : (bs l).size = l.length := by simp [bs, ByteArray.size]
theorem bs_of (s : ByteArray) : bs s.data.toList = s := by simp [bs]

theorem append_list (a b : ByteArray) : (a ++ b).data.toList = a.data.toList ++ b.data.toList := by
  rw [ByteArray.data_append, Array.toList_append]
theorem foldl_push : ∀ (l : List UInt8) (s : ByteArray), (l.map fun b => (b.toNat : Int)).foldl (fun r n => r.push (UInt8.ofNat n.toNat)) s = ⟨(s.data.toList ++ l).toArray⟩
  | [], s => by simp
  | b :: l, s => by
    rw [List.map_cons, List.foldl_cons, foldl_push l]
    simp [ByteArray.push]

/-- The first n bytes of a block, as a string. -/
theorem run_bytes {P : Program} {w : World} {g : Nat} {t : TypeId} {cs : Array Value} (h : Arr w g t cs) (l : List UInt8) (hl : cs.toList.take l.length = l.map bv) (c : Nat) :
    (Conv.bytesToString (.slice (some ⟨g, 0, none⟩) l.length c)).run P w = .ok (.string (bs l)) w := by
  have hload : (loadCells ⟨g, 0, none⟩ l.length).run P w = .ok ((l.map fun b => (b.toNat : Int)).map (Value.int .u8)).toArray w := by
    have := run_loadCells_list (P := P) w ⟨g, 0, none⟩ (l.map bv) (fun j v hv => by
      have hadd : (⟨g, 0, none⟩ : Addr).add j = ⟨g, j, none⟩ := by unfold Addr.add; split <;> simp_all
      rw [hadd, h.cell j]
      have hj : j < l.length := by
        have := (List.getElem?_eq_some_iff.1 hv).1
        simpa using this
      rw [← hl, List.getElem?_take_of_lt hj] at hv
      simpa using hv)
    have e : (l.map fun b => (b.toNat : Int)).map (Value.int .u8) = l.map bv := by rw [List.map_map]; rfl
    rw [e]
    simpa using this
  rw [run_bytesToString w _ _ _ _ hload, foldl_push]
  simp [bs]

/-- The cells of a block that has just been made, one by one. -/
theorem new_cells (w : World) (l : List Value) (t : TypeId) : ∀ (j : Nat) (u : Value), l[j]? = some u → (w.alloc (.cells l.toArray t)).cell? ((⟨w.heap.size, 0, none⟩ : Addr).add j) = some u := by
  intro j u h
  have hadd : (⟨w.heap.size, 0, none⟩ : Addr).add j = ⟨w.heap.size, j, none⟩ := by unfold Addr.add; split <;> simp_all
  rw [hadd, (Arr.new w t l.toArray).cell j]
  simpa using h
theorem bytes_one (l : List UInt8) : ∀ u ∈ l.map bv, u.oneCell' = true := by
  intro u hu
  obtain ⟨x, _, rfl⟩ := List.mem_map.1 hu
  rfl

/-- a slice of the call's own, at the row's head, as a string -/
theorem run_bytes_own {P : Program} {w : World} {base g cap : Nat} {e : TypeId} {l : List UInt8} (h : w.ownsRow base e 1 (.slice (some ⟨g, 0, none⟩) l.length cap) l.length (l.map bv)) :
    (Conv.bytesToString (.slice (some ⟨g, 0, none⟩) l.length cap)).run P w = .ok (.string (bs l)) w := by
  rcases h.2 with ⟨h', _⟩ | ⟨g', cap', cur, h', hb, hg, hnc, hcm, hcs, htake⟩
  · simp at h'
  · simp only [Value.slice.injEq, Option.some.injEq, Addr.mk.injEq, and_true, true_and] at h'
    obtain ⟨rfl, rfl⟩ := h'
    exact run_bytes hg l (by rw [← htake]; simp) cap

end Go.Proofs.YtmikfmcgddmplaaGreatDoor
