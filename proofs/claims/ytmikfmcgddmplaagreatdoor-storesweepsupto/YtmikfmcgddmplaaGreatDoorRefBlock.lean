/- ref.Block: its contract. -/
import Derived.Test.YtmikfmcgddmplaaGreatDoorRefLeaf
import Derived.Deep.Cut
import Derived.StillTailTactics
namespace Go.Proofs.YtmikfmcgddmplaaGreatDoor
open Go.RowKit

theorem wd_quo8 (x : UInt32) : IntKind.u32.wrap ((wd x).tdiv 8) = wd (shr x 3) := by
  rw [IntWalk.u32_quo _ _ ⟨wd_nonneg x, by have := wd_lt x; omega, by omega⟩]; exact wd_shr3 x
theorem wd_quo1024 (x : UInt32) : IntKind.u32.wrap ((wd x).tdiv 1024) = wd (shr x 10) := by
  rw [IntWalk.u32_quo _ _ ⟨wd_nonneg x, by have := wd_lt x; omega, by omega⟩]; exact wd_shr10 x
attribute [local go_sem] wd_xor wd_and wd_or wd_add wd_shr3 wd_shr10 wd_quo8 wd_quo1024

theorem info16 (l : List UInt32) (h : l.length = 16) : (Tryz.prog.info? 161).map (·.size) = some (warr l).size := by
  rw [warr_size, h]; kernel_rfl

/-- the call's own blocks: the heads, the answer, the constants, the ring -/
def RW (hs L : List UInt32) (gk gw : Nat) (w W : World) : Prop :=
  Arr W w.heap.size 85 (warr hs) ∧ Arr W (w.heap.size + 1) 85 (warr (List.replicate 8 0)) ∧ Arr W gk 159 (warr kTab) ∧ Arr W gw 161 (warr L) ∧
    w.heap.size + 1 < gk ∧ gk < gw ∧ Below w.heap.size w W
section
variable {hs L : List UInt32} {gk gw : Nat} {w W W' : World}
theorem RW.drewN (h : RW hs L gk gw w W) (n : Nat) : RW hs L gk gw w (W.drewN n) := ⟨h.1.drewN n, h.2.1.drewN n, h.2.2.1.drewN n, h.2.2.2.1.drewN n, h.2.2.2.2.1, h.2.2.2.2.2.1, below_drewN h.2.2.2.2.2.2 n⟩
theorem RW.drew (h : RW hs L gk gw w W) : RW hs L gk gw w W.drew := ⟨h.1.drew, h.2.1.drew, h.2.2.1.drew, h.2.2.2.1.drew, h.2.2.2.2.1, h.2.2.2.2.2.1, h.2.2.2.2.2.2.drew⟩
theorem RW.below (h : RW hs L gk gw w W) (hb : Below W.heap.size W W') : RW hs L gk gw w W' :=
  ⟨h.1.below hb h.1.lt, h.2.1.below hb h.2.1.lt, h.2.2.1.below hb h.2.2.1.lt, h.2.2.2.1.below hb h.2.2.2.1.lt, h.2.2.2.2.1, h.2.2.2.2.2.1, h.2.2.2.2.2.2.trans (hb.mono h.2.2.2.2.2.2.size)⟩
theorem RW.put (h : RW hs L gk gw w W) (j : Nat) (x : UInt32) : RW hs (L.set j x) gk gw w (W.setCell ⟨gw, j, none⟩ (.int .u32 (wd x))) := by
  have h5 := h.2.2.2.2.1
  have h6 := h.2.2.2.2.2.1
  refine ⟨h.1.far (by simp; omega) _, h.2.1.far (by simp; omega) _, h.2.2.1.far (by simp; omega) _, ?_, h5, h6, h.2.2.2.2.2.2.setCell (by simp; omega) _⟩
  have := h.2.2.2.1.put j (.int .u32 (wd x))
  rw [warr_set] at this
  exact this
theorem RW.at_ (h : RW hs L gk gw w W) (j : Nat) (hj : j < L.length) : W.cell? ⟨gw, j, none⟩ = some (.int .u32 (wd (L.getD j 0))) := (h.2.2.2.1.cell j).trans (warr_at _ _ hj)
theorem RW.free (h : RW hs L gk gw w W) (j : Nat) : W.frozen? ⟨gw, j, none⟩ = false := h.2.2.2.1.free j
theorem RW.k_at (h : RW hs L gk gw w W) (i : Nat) (hi : i < 64) : W.cell? ⟨gk, i, none⟩ = some (.int .u32 (wd (kTab.getD i 0))) := (h.2.2.1.cell i).trans (warr_at _ _ hi)
end

def RRel1 (l : List UInt8) (R : List UInt32 → World → Prop) (i : Value) (wr : World) : Prop :=
  ∃ k : Nat, k ≤ 16 ∧ i = .int .i64 k ∧ R ((firstTo l k).take 16) wr
def RRel2 (S : List UInt32) (H : H8) (R : List UInt32 → World → Prop) (a b c d e f g h i : Value) (wr : World) : Prop :=
  ∃ k : Nat, k ≤ 64 ∧ i = .int .i64 k ∧ S8 (roundsTo S H k) a b c d e f g h ∧ R (ring S (max k 16)) wr

theorem first_ring (l : List UInt8) : (firstTo l 16).take 16 = ring (schedTo l 48) 16 := by
  rw [ring_first _ (schedTo_length l 48)]
  apply List.ext_getElem?
  intro j
  by_cases hj : j < 16
  · rw [List.getElem?_take_of_lt hj, List.getElem?_take_of_lt hj]
    have k := sched_keep l 0 48 j (by omega)
    rw [Nat.zero_add] at k
    have e1 : (firstTo l 16)[j]? = some ((schedTo l 0).getD j 0) := by
      show (schedTo l 0)[j]? = _
      rw [List.getD_eq_getElem?_getD, List.getElem?_eq_getElem (by rw [schedTo_length]; omega)]; rfl
    have e2 : (schedTo l 48)[j]? = some ((schedTo l 48).getD j 0) := by
      rw [List.getD_eq_getElem?_getD, List.getElem?_eq_getElem (by rw [schedTo_length]; omega)]; rfl
    rw [e1, e2, k]
  · rw [List.getElem?_eq_none (by simp; omega), List.getElem?_eq_none (by simp; omega)]

theorem ring_fresh (S : List UInt32) (i : Nat) (h : 16 ≤ i) : (ring S (i + 1)).getD (i % 16) 0 = S.getD i 0 := (ring_new S i).resolve_right (by omega)
theorem compress_of (h0 h1 h2 h3 h4 h5 h6 h7 : UInt32) (ws : List UInt32) (H : H8) (e : roundsTo ws ⟨h0, h1, h2, h3, h4, h5, h6, h7⟩ 64 = H) :
    compress [h0, h1, h2, h3, h4, h5, h6, h7] ws = [h0 + H.a, h1 + H.b, h2 + H.c, h3 + H.d, h4 + H.e, h5 + H.f, h6 + H.g, h7 + H.h] := by
  unfold compress
  rw [show H8.of [h0, h1, h2, h3, h4, h5, h6, h7] = ⟨h0, h1, h2, h3, h4, h5, h6, h7⟩ from rfl, e]
  rfl
theorem size8 (a b c d e f g h : UInt32) : (warr (List.replicate 8 0)).size = (warr [a, b, c, d, e, f, g, h]).size := rfl
theorem getD_set_self (l : List UInt32) (j : Nat) (x : UInt32) (h : j < l.length) : (l.set j x).getD j 0 = x := by
  rw [List.getD_eq_getElem?_getD, List.getElem?_set_self h]; rfl
theorem getD_set_ne (l : List UInt32) (i j : Nat) (x : UInt32) (h : i ≠ j) : (l.set j x).getD i 0 = l.getD i 0 := by
  rw [List.getD_eq_getElem?_getD, List.getElem?_set_ne (Ne.symm h), ← List.getD_eq_getElem?_getD]
set_option maxRecDepth 100000 in
set_option maxHeartbeats 4000000 in
theorem Block_lit (h0 h1 h2 h3 h4 h5 h6 h7 : UInt32) (s : ByteArray) (hs1 : s.size ≤ 64) (hs2 : 64 ≤ s.size) (w : World) :
    Calls Tryz.prog 87 #[.agg #[.int .u32 (wd h0), .int .u32 (wd h1), .int .u32 (wd h2), .int .u32 (wd h3), .int .u32 (wd h4), .int .u32 (wd h5), .int .u32 (wd h6), .int .u32 (wd h7)], .string s] w
      fun e w' => e = .returned (.agg (warr (block [h0, h1, h2, h3, h4, h5, h6, h7] s.data.toList))) ∧ Below w.heap.size w w' := by
  go_enter Tryz.func87, Tryz.ntmps87
  go_upto_region 2 with fail
  refine wp_forget (fun W => Arr W w.heap.size 85 (warr [h0, h1, h2, h3, h4, h5, h6, h7]) ∧ Arr W (w.heap.size + 1) 85 (warr (List.replicate 8 0)) ∧ Below w.heap.size w W) ⟨(Arr.new _ _ _).alloc _, Arr.new_at (w.alloc _) _ _ (by simp), ((Below.refl _ _).alloc (Nat.le_refl _) _).alloc (by simp) _⟩ ?_
  rintro W ⟨A1, A2, B⟩
  go_wp2_with fail
  (with_reducible refine (rounds_any _).mono ?_)
  rintro e w1 ⟨rfl, b1⟩
  have A1' := A1.below b1 A1.lt
  have A2' := A2.below b1 A2.lt
  have B' : Below w.heap.size w w1 := B.trans (b1.mono B.size)
  go_upto_region 3 with (refine wpList_store_row rfl 159 _ _ rfl w1.heap.size (warr kTab) rfl rfl 159 (warr (List.replicate 64 0)) (Arr.new w1 _ _) info59 rfl (warr_one _) ?_)
  refine wp_forget (fun W => Arr W w.heap.size 85 (warr [h0, h1, h2, h3, h4, h5, h6, h7]) ∧ Arr W (w.heap.size + 1) 85 (warr (List.replicate 8 0)) ∧ Arr W w1.heap.size 159 (warr kTab) ∧ w.heap.size + 1 < w1.heap.size ∧ Below w.heap.size w W)
    ⟨(A1'.alloc _).row_far (Nat.ne_of_gt A1'.lt) _, (A2'.alloc _).row_far (Nat.ne_of_gt A2'.lt) _, (Arr.new w1 _ _).row _, A2'.lt, below_setRow (B'.alloc B'.size _) B'.size _⟩ ?_
  generalize w1.heap.size = gk
  clear A1 A2 B A1' A2' B' b1 W w1
  rintro W ⟨A1, A2, A3, hk, B⟩
  go_upto_region 4 with fail
  refine wp_forget (RW [h0, h1, h2, h3, h4, h5, h6, h7] (List.replicate 16 0) gk W.heap.size w) ⟨A1.alloc _, A2.alloc _, A3.alloc _, Arr.new _ _ _, hk, A3.lt, B.alloc B.size _⟩ ?_
  generalize W.heap.size = gw
  clear A1 A2 A3 hk B W
  intro W hW0
  go_wp2_with fail
  go_loopw [25] (fun i wr => RRel1 s.data.toList (fun L W => RW [h0, h1, h2, h3, h4, h5, h6, h7] L gk gw w W) i wr) (fun i _ => 16 - (intOf i).toNat)
  case atStart => exact ⟨0, by omega, rfl, hW0⟩
  case round =>
    obtain ⟨k, hk, rfl, hW⟩ := hrel
    clear hW0 W
    by_cases hlt : k < 16
    · have hi : (k : Int) < 16 := by omega
      have hl : ((firstTo s.data.toList k).take 16).length = 16 := by rw [List.length_take, firstTo_length]; rfl
      have HN : Hid ((firstTo s.data.toList (k + 1)).take 16 = ((firstTo s.data.toList k).take 16).set k (beWord s.data.toList k)) := by show ((firstTo s.data.toList k).set k (beWord s.data.toList k)).take 16 = _; rw [List.take_set]
      have Hl := Lib.hid hl
      clear hl
      generalize (firstTo s.data.toList k).take 16 = L at *
      go_wp2_with fail
      (with_reducible refine (word_any s k hlt hs1 hs2 _).mono ?_)
      rintro e w1 ⟨rfl, b1⟩
      have hW1 := hW.below b1
      have hc := hW1.at_ k (by rw [Hl.out]; exact hlt)
      have hf := hW1.free k
      generalize beWord s.data.toList k = bw at *
      generalize L.getD k 0 = x0 at *
      go_wp2_with fail
      refine ⟨⟨k + 1, by omega, by go_num, ?_⟩, by simp [intOf]; omega⟩
      rw [HN.out]
      exact hW1.put k bw
    · obtain rfl : k = 16 := by omega
      rw [first_ring] at hW
      have hS := schedTo_length s.data.toList 48
      have HB : Hid (block [h0, h1, h2, h3, h4, h5, h6, h7] s.data.toList = compress [h0, h1, h2, h3, h4, h5, h6, h7] (schedTo s.data.toList 48)) := rfl
      have HR : Hid (∀ n, n < 48 → (schedTo s.data.toList 48).getD (n + 16) 0 = (schedTo s.data.toList 48).getD n 0 + sig0 ((schedTo s.data.toList 48).getD (n + 1) 0) + (schedTo s.data.toList 48).getD (n + 9) 0 + sig1 ((schedTo s.data.toList 48).getD (n + 14) 0)) := fun n hn => sched_rec _ n hn
      generalize schedTo s.data.toList 48 = S at *
      have HS := Lib.hid hS
      clear hS hlt hk
      obtain ⟨c0, c1, c2, c3, c4, c5, c6, c7⟩ := cells8 hW.1
      go_upto_region 9 with fail
      go_quiet (fail)
      clear c0 c1 c2 c3 c4 c5 c6 c7
      go_wp2_with fail
      refine wp_forget (RW [h0, h1, h2, h3, h4, h5, h6, h7] (ring S 16) gk gw w) (hW.drewN _) ?_
      clear hW wr
      intro wr hW
      rw [show ((16 : Nat) : Int) = 16 from rfl]
      go_loopw [9, 10, 11, 12, 13, 14, 15, 16, 51] (fun a b c d e f g h i wr => RRel2 S ⟨h0, h1, h2, h3, h4, h5, h6, h7⟩ (fun L W => RW [h0, h1, h2, h3, h4, h5, h6, h7] L gk gw w W) a b c d e f g h i wr) (fun _ _ _ _ _ _ _ _ i _ => 64 - (intOf i).toNat)
      case atStart => exact ⟨0, by omega, rfl, ⟨rfl, rfl, rfl, rfl, rfl, rfl, rfl, rfl⟩, hW⟩
      case round =>
        clear hW
        obtain ⟨k, hk, rfl, ⟨rfl, rfl, rfl, rfl, rfl, rfl, rfl, rfl⟩, hW⟩ := hrel
        by_cases hlt : k < 64
        · have hi : (k : Int) < 64 := by omega
          generalize hH : roundsTo S ⟨h0, h1, h2, h3, h4, h5, h6, h7⟩ k = H
          have HE : Hid (roundsTo S ⟨h0, h1, h2, h3, h4, h5, h6, h7⟩ (k + 1) = round (kTab.getD k 0) (S.getD k 0) H) := by
            show round (kTab.getD k 0) (S.getD k 0) (roundsTo S ⟨h0, h1, h2, h3, h4, h5, h6, h7⟩ k) = _
            rw [hH]
          clear hH
          by_cases h16 : k < 16
          · have hge : ¬(16 ≤ (k : Int)) := by omega
            rw [show max k 16 = 16 from by omega] at hW
            have c0 := hW.at_ k (by rw [ring_length]; omega)
            rw [ring_at S 16 k h16, show idx 16 k = k from by unfold idx; omega] at c0
            have HL : Hid (ring S (max (k + 1) 16) = ring S 16) := by show _ = _; rw [show max (k + 1) 16 = 16 from by omega]
            generalize ring S 16 = L at *
            have ej : (k : Int) % 16 = (k : Int) := by omega
            go_upto_region 19 with fail
            try rw [ej]
            have hj2 : (k : Int) < 16 := by omega
            clear ej
            have ck := hW.k_at k hlt
            generalize S.getD k 0 = Wk at *
            generalize kTab.getD k 0 = Kk at *
            go_wp2_with fail
            go_quiet ((go_at_call 125; exact Calls.quiet_of_same (right_int _ _ (by omega) (by omega) _)))
            go_wp2_with (go_at_call 125; refine (right_int _ _ (by omega) (by omega) _).mono ?_; rintro e w' ⟨rfl, rfl⟩)
            refine ⟨⟨k + 1, by omega, by go_num, ?_, by rw [HL.out]; exact hW.drewN _⟩, by simp [intOf]; omega⟩
            rw [HE.out]
            obtain ⟨q1, q2⟩ := round_ref Kk Wk H
            refine ⟨?_, rfl, rfl, rfl, ?_, rfl, rfl, rfl⟩
            · rw [← q2, ← q1]
            · show _ = Value.int .u32 (wd (H.d + rx Kk Wk H)); rw [← q1]
          · have hge : 16 ≤ (k : Int) := by omega
            rw [show max k 16 = k from by omega] at hW
            have c1 := hW.at_ ((k + 1) % 16) (by rw [ring_length]; omega)
            have c14 := hW.at_ ((k + 14) % 16) (by rw [ring_length]; omega)
            rw [ring_1 S k (by omega)] at c1
            rw [ring_14 S k (by omega)] at c14
            generalize hx1 : S.getD (k - 15) 0 = x1 at *
            generalize hx14 : S.getD (k - 2) 0 = x14 at *
            have Hx1 := Lib.hid hx1
            have Hx14 := Lib.hid hx14
            clear hx1 hx14
            go_upto_region 15 with fail
            go_quiet (fail)
            go_wp2_with fail
            refine wp_forget (RW [h0, h1, h2, h3, h4, h5, h6, h7] (ring S k) gk gw w) (hW.drewN _) ?_
            clear hW c1 c14 wr
            intro wr hW
            have ej : (k : Int) % 16 = ((k % 16 : Nat) : Int) := by omega
            rw [ej]
            have hj : k % 16 < 16 := Nat.mod_lt _ (by omega)
            have c0 := hW.at_ (k % 16) (by rw [ring_length]; omega)
            have f0 := hW.free (k % 16)
            rw [ring_own S k (by omega)] at c0
            have r9 := ring_9 S k (by omega)
            have n9 : (k + 9) % 16 ≠ k % 16 := by omega
            have l9 : (k + 9) % 16 < 16 := by omega
            have HN : Hid (ring S (k + 1) = (ring S k).set (k % 16) (S.getD (k - 16) 0 + sig0 x1 + S.getD (k - 7) 0 + sig1 x14)) := by
              show _ = _
              rw [← ring_next S k (by omega)]
              have e := HR.out (k - 16) (by omega)
              rw [show k - 16 + 16 = k from by omega, show k - 16 + 1 = k - 15 from by omega, show k - 16 + 9 = k - 7 from by omega, show k - 16 + 14 = k - 2 from by omega, Hx1.out, Hx14.out] at e
              rw [e]
            generalize S.getD (k - 16) 0 = x0 at *
            generalize S.getD (k - 7) 0 = x9 at *
            clear ej
            generalize hJ : k % 16 = j at *
            have HJ := Lib.hid hJ
            clear hJ
            have hj2 : (j : Int) < 16 := by omega
            go_still_tail 15, (by kernel_rfl)
            still_call (right_int _ _ (by omega) (by omega) _)
            repeat still_step
            still_call (right_int _ _ (by omega) (by omega) _)
            repeat still_step
            refine wpStill_nil ?_
            change wpList _ _ _ _ _ wr.drew
            go_wp2_with fail
            have hW1 := (hW.put j (x0 + sig0 x1)).drew
            refine wp_forget (RW [h0, h1, h2, h3, h4, h5, h6, h7] ((ring S k).set j (x0 + sig0 x1)) gk gw w) hW1 ?_
            clear hW1 hW c0 f0 wr
            intro wr hW
            have c0 := hW.at_ j (by rw [List.length_set, ring_length]; exact hj)
            have f0 := hW.free j
            have c9 := hW.at_ ((k + 9) % 16) (by rw [List.length_set, ring_length]; exact l9)
            rw [getD_set_self _ _ _ (by rw [ring_length]; exact hj)] at c0
            rw [getD_set_ne _ _ _ _ n9, r9] at c9
            generalize x0 + sig0 x1 = y1 at *
            have e9 : IntKind.i64.wrap ((k : Int) + 9) = (k : Int) + 9 := IntWalk.i64_in _ (by omega)
            have t9 : ((k : Int) + 9).tmod 16 = (((k + 9) % 16 : Nat) : Int) := by
              rw [Int.tmod_eq_emod_of_nonneg (by omega)]; omega
            have l9' : (((k + 9) % 16 : Nat) : Int) < 16 := by omega
            clear r9 n9
            generalize (k + 9) % 16 = j9 at *
            have w9 : IntKind.i64.wrap (j9 : Int) = j9 := IntWalk.i64_in _ (by omega)
            go_still_tail 10, (by kernel_rfl)
            change wpList _ _ _ _ _ wr.drew
            go_wp2_with fail
            clear e9 t9 l9' w9 c9
            have hW1 := (hW.put j (y1 + x9)).drew
            rw [List.set_set] at hW1
            refine wp_forget (RW [h0, h1, h2, h3, h4, h5, h6, h7] ((ring S k).set j (y1 + x9)) gk gw w) hW1 ?_
            clear hW1 hW c0 f0 wr
            intro wr hW
            have c0 := hW.at_ j (by rw [List.length_set, ring_length]; exact hj)
            have f0 := hW.free j
            rw [getD_set_self _ _ _ (by rw [ring_length]; exact hj)] at c0
            generalize y1 + x9 = y2 at *
            go_still_tail 15, (by kernel_rfl)
            still_call (right_int _ _ (by omega) (by omega) _)
            repeat still_step
            still_call (right_int _ _ (by omega) (by omega) _)
            repeat still_step
            refine wpStill_nil ?_
            change wpList _ _ _ _ _ wr.drew
            go_upto_region 19 with fail
            have hW1 := (hW.put j (y2 + sig1 x14)).drew
            rw [List.set_set] at hW1
            refine wp_forget (RW [h0, h1, h2, h3, h4, h5, h6, h7] ((ring S k).set j (y2 + sig1 x14)) gk gw w) hW1 ?_
            clear hW1 hW c0 f0 wr
            intro wr hW
            rw [← HN.out] at hW
            have c0 := hW.at_ j (by rw [ring_length]; exact hj)
            rw [← HJ.out, ring_fresh S k (by omega), HJ.out] at c0
            have HL : Hid (ring S (max (k + 1) 16) = ring S (k + 1)) := by show _ = _; rw [show max (k + 1) 16 = k + 1 from by omega]
            generalize ring S (k + 1) = L at *
            clear HN Hx1 Hx14 HR
            have ck := hW.k_at k hlt
            generalize S.getD k 0 = Wk at *
            generalize kTab.getD k 0 = Kk at *
            go_wp2_with fail
            go_quiet ((go_at_call 125; exact Calls.quiet_of_same (right_int _ _ (by omega) (by omega) _)))
            go_wp2_with (go_at_call 125; refine (right_int _ _ (by omega) (by omega) _).mono ?_; rintro e w' ⟨rfl, rfl⟩)
            refine ⟨⟨k + 1, by omega, by go_num, ?_, by rw [HL.out]; exact hW.drewN _⟩, by simp [intOf]; omega⟩
            rw [HE.out]
            obtain ⟨q1, q2⟩ := round_ref Kk Wk H
            refine ⟨?_, rfl, rfl, rfl, ?_, rfl, rfl, rfl⟩
            · rw [← q2, ← q1]
            · show _ = Value.int .u32 (wd (H.d + rx Kk Wk H)); rw [← q1]
        · obtain rfl : k = 64 := by omega
          generalize hH : roundsTo S ⟨h0, h1, h2, h3, h4, h5, h6, h7⟩ 64 = H at *
          have HC : Hid (block [h0, h1, h2, h3, h4, h5, h6, h7] s.data.toList = [h0 + H.a, h1 + H.b, h2 + H.c, h3 + H.d, h4 + H.e, h5 + H.f, h6 + H.g, h7 + H.h]) := by show _ = _; rw [HB.out]; exact compress_of _ _ _ _ _ _ _ _ _ _ hH
          clear hH
          generalize ring S (max 64 16) = L at *
          clear HB HR HS hlt hk
          obtain ⟨c0, c1, c2, c3, c4, c5, c6, c7⟩ := cells8 hW.1
          go_wp2_with (refine wpList_store_row rfl 85 _ _ rfl (w.heap.size + 1) (warr [h0 + H.a, h1 + H.b, h2 + H.c, h3 + H.d, h4 + H.e, h5 + H.f, h6 + H.g, h7 + H.h]) rfl rfl 85 (warr (List.replicate 8 0)) hW.2.1 (info8 _ rfl) (size8 _ _ _ _ _ _ _ _) (warr_one _) ?_)
          refine bodyPost_ret (v := .agg (warr [h0 + H.a, h1 + H.b, h2 + H.c, h3 + H.d, h4 + H.e, h5 + H.f, h6 + H.g, h7 + H.h])) ?_ rfl ⟨by rw [HC.out], below_setRow hW.2.2.2.2.2.2 (by omega) _⟩
          exact results_cell_row Tryz.results87 _ _ (w.heap.size + 1) 85 _ (0, 0) _ rfl (hW.2.1.row _) Tryz.underlying85 rfl (info8 _ rfl)
end Go.Proofs.YtmikfmcgddmplaaGreatDoor
