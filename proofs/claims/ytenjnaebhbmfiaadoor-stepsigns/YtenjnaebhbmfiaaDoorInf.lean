/- Texts in one: Comp, Inf. -/
import Derived.Test.YtenjnaebhbmfiaaDoorSha
import Derived.Test.YtenjnaebhbmfiaaDoorMem
import Derived.BigQuiet
import Derived.Test.YtenjnaebhbmfiaaDoorProg
/- sum.processBlock: its contract. -/
namespace Go.Proofs.YtenjnaebhbmfiaaDoor
open Go.RowKit

attribute [local go_sem] wd_xor wd_and wd_or wd_not' wd_add

/-- The table of constants lies in its block. -/
def Tab (w : World) : Prop := 0 < w.heap.size ∧ ∀ i, i < 64 → w.cell? ⟨0, i, none⟩ = some (.int .u32 (wd (kTab.getD i 0)))


theorem Tab.alloc {w : World} (h : Tab w) (o : Obj) : Tab (w.alloc o) := ⟨Nat.lt_of_lt_of_le h.1 (by simp), fun i hi => by rw [World.cell?_alloc_lt w o _ h.1]; exact h.2 i hi⟩
theorem Tab.drewN {w : World} (h : Tab w) (n : Nat) : Tab (w.drewN n) := h
theorem Tab.below {w w' : World} {B : Nat} (h : Tab w) (hb : Below B w w') (hB : 0 < B) : Tab w' := ⟨Nat.lt_of_lt_of_le h.1 hb.size, fun i hi => by rw [hb.cell (p := ⟨0, i, none⟩) hB]; exact h.2 i hi⟩

def S8 (s : H8) (a b c d e f g h : Value) : Prop :=
  a = .int .u32 (wd s.a) ∧ b = .int .u32 (wd s.b) ∧ c = .int .u32 (wd s.c) ∧ d = .int .u32 (wd s.d) ∧ e = .int .u32 (wd s.e) ∧ f = .int .u32 (wd s.f) ∧ g = .int .u32 (wd s.g) ∧ h = .int .u32 (wd s.h)
def PRel (ws : List UInt32) (S : H8) (R : World → Prop) (a b c d e f g h i : Value) (wr : World) : Prop :=
  ∃ k : Nat, k ≤ 64 ∧ i = .int .i64 k ∧ S8 (roundsTo ws S k) a b c d e f g h ∧ R wr
def PWorld (hs ws : List UInt32) (w : World) (W : World) : Prop :=
  Arr W w.heap.size 67 (warr hs) ∧ Arr W (w.heap.size + 1) 91 (warr ws) ∧ Arr W (w.heap.size + 1 + 1) 67 (warr (List.replicate 8 0)) ∧ W.heap.size = w.heap.size + 3 ∧ Tab W ∧ Below w.heap.size w W

theorem PWorld.drewN {hs ws : List UInt32} {w W : World} (h : PWorld hs ws w W) (n : Nat) : PWorld hs ws w (W.drewN n) :=
  ⟨h.1.drewN n, h.2.1.drewN n, h.2.2.1.drewN n, h.2.2.2.1, h.2.2.2.2.1.drewN n, below_drewN h.2.2.2.2.2 n⟩

theorem info8 (l : List UInt32) (h : l.length = 8) : (Tryd.prog.info? 67).map (·.size) = some (warr l).size := by
  rw [warr_size, h]; kernel_rfl
theorem info64 (l : List UInt32) (h : l.length = 64) : (Tryd.prog.info? 91).map (·.size) = some (warr l).size := by
  rw [warr_size, h]; kernel_rfl

theorem run_index8 (l : List UInt32) (h : l.length = 8) (k : Nat) (hk : k < 8) (w : World) :
    (Instr.index 67 (.agg (warr l)) (.int .i64 (k : Int))).run Tryd.prog w = .ok (.int .u32 (wd (l.getD k 0))) w := by
  have hs : ∀ w, (sizeOf 66).run Tryd.prog w = .ok 1 w := fun w => by kernel_rfl
  have ha : ∀ w, (isAgg 66).run Tryd.prog w = .ok false w := fun w => by kernel_rfl
  have hv := warr_at l k (by omega)
  simp [Instr.index, asIntOf, run_underlying Tryd.underlying67, hs, part, ha, hv]
  intro h8
  omega

def PWorld2 (l : List UInt32) (w : World) (W : World) : Prop :=
  Arr W w.heap.size 67 (warr l) ∧ Arr W (w.heap.size + 1 + 1) 67 (warr (List.replicate 8 0)) ∧ W.heap.size = w.heap.size + 3 ∧ Below w.heap.size w W
def PRel2 (hs vs : List UInt32) (w : World) (i : Value) (wr : World) : Prop :=
  ∃ k : Nat, k ≤ 8 ∧ i = .int .i64 k ∧ PWorld2 (addTo hs vs k) w wr
theorem PWorld2.put {hs vs : List UInt32} {w wr : World} {k : Nat} (h : PWorld2 (addTo hs vs k) w wr) :
    PWorld2 (addTo hs vs (k + 1)) w (wr.setCell ⟨w.heap.size, k, none⟩ (.int .u32 (wd (hs.getD k 0 + vs.getD k 0)))) := by
  refine ⟨?_, h.2.1.far (by simp; omega) _, by simp [World.setCell, h.2.2.1], h.2.2.2.setCell (by simp) _⟩
  have := h.1.put k (.int .u32 (wd (hs.getD k 0 + vs.getD k 0)))
  rw [warr_set] at this
  exact this

set_option maxRecDepth 100000 in
set_option maxHeartbeats 1000000 in
theorem processBlock_any (h0 h1 h2 h3 h4 h5 h6 h7 : UInt32) (ws : List UInt32) (hl : ws.length = 64) (w : World) (ht : Tab w) :
    Calls Tryd.prog 61 #[.agg #[.int .u32 (wd h0), .int .u32 (wd h1), .int .u32 (wd h2), .int .u32 (wd h3), .int .u32 (wd h4), .int .u32 (wd h5), .int .u32 (wd h6), .int .u32 (wd h7)], .agg (warr ws)] w
      fun e w' => e = .returned (.agg (warr (compress [h0, h1, h2, h3, h4, h5, h6, h7] ws))) ∧ Below w.heap.size w w' := by
  have Hl := Lib.hid hl
  clear hl
  go_enter Tryd.func61, Tryd.ntmps61
  go_wp2
  go_quiet (fail)
  go_wp2
  go_quiet (fail)
  go_wp2
  refine wp_forget (PWorld [h0, h1, h2, h3, h4, h5, h6, h7] ws w) ?_ ?_
  · refine ⟨?_, ?_, ?_, ?_, ?_, ?_⟩
    · exact ((((Arr.new w _ _).alloc _).alloc _).drewN _).drewN _
    · exact (((Arr.new_at (w.alloc _) _ _ (by simp)).alloc _).drewN _).drewN _
    · exact ((Arr.new_at ((w.alloc _).alloc _) _ _ (by simp)).drewN _).drewN _
    · simp
    · exact ((((ht.alloc _).alloc _).alloc _).drewN _).drewN _
    · exact below_drewN (below_drewN ((((Below.refl _ _).alloc (Nat.le_refl _) _).alloc (by simp) _).alloc (by simp; omega) _) _) _
  intro W hW0
  go_loopw [5, 6, 7, 8, 9, 10, 11, 12, 34] (fun a b c d e f g h i wr => PRel ws ⟨h0, h1, h2, h3, h4, h5, h6, h7⟩ (PWorld [h0, h1, h2, h3, h4, h5, h6, h7] ws w) a b c d e f g h i wr) (fun _ _ _ _ _ _ _ _ i _ => 64 - (intOf i).toNat)
  case atStart => exact ⟨0, by omega, rfl, ⟨rfl, rfl, rfl, rfl, rfl, rfl, rfl, rfl⟩, hW0⟩
  case round =>
    obtain ⟨k, hk, rfl, ⟨rfl, rfl, rfl, rfl, rfl, rfl, rfl, rfl⟩, hW⟩ := hrel
    clear hW0 W
    by_cases hlt : k < 64
    · have hc0 := hW.2.2.2.2.1.2 k hlt
      have hc1 : wr.cell? ⟨w.heap.size + 1, k, none⟩ = some (.int .u32 (wd (ws.getD k 0))) := (hW.2.1.cell k).trans (warr_at ws k (by rw [Hl.out]; exact hlt))
      have hi : (k : Int) < 64 := by omega
      generalize hS : roundsTo ws ⟨h0, h1, h2, h3, h4, h5, h6, h7⟩ k = S
      generalize hKk : kTab.getD k 0 = Kk at *
      generalize hWk : ws.getD k 0 = Wk at *
      have HE : Hid (roundsTo ws ⟨h0, h1, h2, h3, h4, h5, h6, h7⟩ (k + 1) = round Kk Wk S) := by
        show round (kTab.getD k 0) (ws.getD k 0) (roundsTo ws ⟨h0, h1, h2, h3, h4, h5, h6, h7⟩ k) = _
        rw [hS, hKk, hWk]
      clear hS hKk hWk
      go_wp2
      go_quiet ((go_at_call 66; exact Calls.quiet_of_same (rotated_int _ _ (by omega) (by omega) _)))
      go_wp2_with (go_at_call 66; refine (rotated_int _ _ (by omega) (by omega) _).mono ?_; rintro e w' ⟨rfl, rfl⟩)
      refine ⟨⟨k + 1, by omega, by go_num, ?_, hW.drewN _⟩, by simp [intOf]; omega⟩
      rw [HE.out]
      exact ⟨rfl, rfl, rfl, rfl, rfl, rfl, rfl, rfl⟩
    · obtain rfl : k = 64 := by omega
      clear hlt hk
      generalize hS : roundsTo ws ⟨h0, h1, h2, h3, h4, h5, h6, h7⟩ 64 = S
      have HS := Lib.hid hS
      clear hS
      go_wp2
      rw [show (#[Value.int .u32 (wd S.a), Value.int .u32 (wd S.b), Value.int .u32 (wd S.c), Value.int .u32 (wd S.d), Value.int .u32 (wd S.e), Value.int .u32 (wd S.f), Value.int .u32 (wd S.g), Value.int .u32 (wd S.h)] : Array Value) = warr S.list from rfl]
      go_loopw [106] (fun i wr => PRel2 [h0, h1, h2, h3, h4, h5, h6, h7] S.list w i wr) (fun i _ => 8 - (intOf i).toNat)
      case atStart => exact ⟨0, by omega, rfl, hW.1, hW.2.2.1, hW.2.2.2.1, hW.2.2.2.2.2⟩
      case round =>
        clear hW
        obtain ⟨k, hk, rfl, hW⟩ := hrel
        by_cases hlt : k < 8
        · have hv := run_index8 S.list rfl k hlt wr
          have hc : wr.cell? ⟨w.heap.size, k, none⟩ = some (.int .u32 (wd ([h0, h1, h2, h3, h4, h5, h6, h7].getD k 0))) := by
            rw [hW.1.cell k, warr_at _ _ (by rw [addTo_length]; exact hlt), addTo_ge _ _ _ _ (Nat.le_refl _)]
          have hf : wr.frozen? ⟨w.heap.size, k, none⟩ = false := hW.1.free k
          have hi : (k : Int) < 8 := by omega
          have hput := hW.put
          generalize S.list.getD k 0 = vk at *
          generalize [h0, h1, h2, h3, h4, h5, h6, h7].getD k 0 = hk at *
          go_wp2
          exact ⟨⟨k + 1, by omega, by go_num, hput⟩, by simp [intOf]; omega⟩
        · obtain rfl : k = 8 := by omega
          have hC : addTo [h0, h1, h2, h3, h4, h5, h6, h7] S.list 8 = compress [h0, h1, h2, h3, h4, h5, h6, h7] ws := by
            unfold compress; rw [← HS.out]; rfl
          rw [hC] at hW
          have hlen : (compress [h0, h1, h2, h3, h4, h5, h6, h7] ws).length = 8 := compress_length _ _
          clear hC hlt hk
          generalize hCC : compress [h0, h1, h2, h3, h4, h5, h6, h7] ws = C at *
          have HCC := Lib.hid hCC
          clear hCC
          have HC := Lib.hid hlen
          clear hlen
          go_wp2_with (first
            | (refine wpList_load_row rfl 67 _ rfl w.heap.size rfl 67 (warr C) (0, 0) _ hW.1 Tryd.underlying67 rfl (info8 C HC.out) ?_)
            | (refine wpList_store_row rfl 67 _ _ rfl (w.heap.size + 1 + 1) (warr C) rfl rfl 67 (warr (List.replicate 8 0)) hW.2.1 (info8 C HC.out) (by rw [warr_size, warr_size, HC.out]; rfl) (warr_one C) ?_))
          refine bodyPost_ret (v := .agg (warr C)) ?_ rfl ⟨by rw [HCC.out], below_setRow hW.2.2.2 (by omega) _⟩
          exact results_cell_row Tryd.results61 _ _ (w.heap.size + 1 + 1) 67 (warr C) (0, 0) _ rfl (hW.2.1.row _) Tryd.underlying67 rfl (info8 C HC.out)
end Go.Proofs.YtenjnaebhbmfiaaDoor

/- What the program's text lays down of a byte: its zero, its cells, its bytes. -/
namespace Go.Proofs.YtenjnaebhbmfiaaDoor
open Go.RowKit

theorem info_u8 : (Tryd.prog.info? 5).map (fun i => (i.zero, i.size, i.bytes)) = some (some (.int .u8 0), 1, 1) := by kernel_rfl
end Go.Proofs.YtenjnaebhbmfiaaDoor
