/- ref.SameStep of one step at two places: true (wip/tools/gensps.py). -/
import Derived.Test.YtenjnaebhbmfiaaDoorSpSearch
import Derived.Test.YtenjnaebhbmfiaaDoorORefSame
namespace Go.Proofs.YtenjnaebhbmfiaaDoor
open Go.RowKit

/-- two boxes, of one step at two places -/
def TwR (w : World) (s : Sp) (p q : SpAt) (W : World) : Prop :=
  Arr W w.heap.size 25 (spArr s p) ∧ Arr W (w.heap.size + 1) 25 (spArr s q) ∧ SpIn W w.heap.size s p ∧ SpIn W w.heap.size s q ∧ Below w.heap.size w W
set_option maxRecDepth 100000 in
set_option maxHeartbeats 1000000 in
theorem RefSameStep (s : Sp) (p q : SpAt) (w : World) (hP : SpIn w w.heap.size s p) (hQ : SpIn w w.heap.size s q) (hb : s.who.length ≤ 140737488355328) (hb2 : s.seals.length ≤ 140737488355328) :
    Calls Tryd.prog 7 #[.agg (spArr s p), .agg (spArr s q)] w fun e w' => e = .returned (.bool true) ∧ Below w.heap.size w w' := by
  obtain ⟨wa, wc, sa, sc⟩ := p
  obtain ⟨wb, wd, sb, sd⟩ := q
  have h1 : Hid (TwR w s ⟨wa, wc, sa, sc⟩ ⟨wb, wd, sb, sd⟩ ((w.alloc (.cells (spArr s ⟨wa, wc, sa, sc⟩) 25)).alloc (.cells (spArr s ⟨wb, wd, sb, sd⟩) 25))) := by
    have A0 : Arr (w.alloc (.cells (spArr s ⟨wa, wc, sa, sc⟩) 25)) w.heap.size 25 (spArr s ⟨wa, wc, sa, sc⟩) := Arr.new _ _ _
    have b0 : Below w.heap.size w (w.alloc (.cells (spArr s ⟨wa, wc, sa, sc⟩) 25)) := (Below.refl _ _).alloc (Nat.le_refl _) _
    have hz : (w.alloc (.cells (spArr s ⟨wa, wc, sa, sc⟩) 25)).heap.size = w.heap.size + 1 := World.size_alloc _ _
    generalize w.alloc (.cells (spArr s ⟨wa, wc, sa, sc⟩) 25) = V at *
    have A1 : Arr (V.alloc (.cells (spArr s ⟨wb, wd, sb, sd⟩) 25)) V.heap.size 25 (spArr s ⟨wb, wd, sb, sd⟩) := Arr.new _ _ _
    have b1 : Below V.heap.size V (V.alloc (.cells (spArr s ⟨wb, wd, sb, sd⟩) 25)) := (Below.refl _ _).alloc (Nat.le_refl _) _
    have bb := b0.trans (b1.mono b0.size)
    rw [hz] at A1
    exact ⟨A0.below b1 A0.lt, A1, hP.below bb, hQ.below bb, bb⟩
  have CS : Hid (∀ V, Txs V V.heap.size sa s.seals → Txs V V.heap.size sb s.seals → Calls Tryd.prog 18 #[.slice sa s.seals.length sc, .slice sb s.seals.length sd] V fun e w' => e = .returned (.bool true) ∧ Below V.heap.size V w') := fun V h h' => by
    have q := RefStrings_any s.seals s.seals (by omega) (by omega) sa sb sc sd V h h'
    rw [decide_eq_true rfl] at q
    exact q
  have l1 : (s.ref.toList == s.ref.toList) = true := by simp
  have l2 : (s.old.toList == s.old.toList) = true := by simp
  have l3 : (s.new.toList == s.new.toList) = true := by simp
  clear hP hQ
  generalize hA : spArr s ⟨wa, wc, sa, sc⟩ = arr at *
  generalize hA2 : spArr s ⟨wb, wd, sb, sd⟩ = arr2 at *
  have HA := Lib.hid hA
  have HA2 := Lib.hid hA2
  clear hA hA2
  go_enter Tryd.func7, Tryd.ntmps7
  go_upto_region 1 with fail
  refine wp_forget (TwR w s ⟨wa, wc, sa, sc⟩ ⟨wb, wd, sb, sd⟩) h1.out ?_
  clear h1
  intro W hW
  have hA := HA.out
  have hA2 := HA2.out
  clear HA HA2
  subst hA hA2
  have c3 : W.cell? ⟨w.heap.size, 3, none⟩ = some (.slice wa s.who.length wc) := hW.1.cell 3
  have d3 : W.cell? ⟨w.heap.size + 1, 3, none⟩ = some (.slice wb s.who.length wd) := hW.2.1.cell 3
  have hne : ((s.who.length : Int) != s.who.length) = false := by simp
  have hst : Hid (∃ k : Nat, k ≤ s.who.length ∧ Value.int .i64 0 = .int .i64 (k : Int) ∧ ∃ n, W.drewN n = W.drewN n ∧ TwR w s ⟨wa, wc, sa, sc⟩ ⟨wb, wd, sb, sd⟩ W) := ⟨0, Nat.zero_le _, rfl, 0, rfl, hW⟩
  clear hW
  go_wp2_with fail
  clear c3 d3
  go_loopw [16] (fun i wr => ∃ k : Nat, k ≤ s.who.length ∧ i = .int .i64 (k : Int) ∧ TwR w s ⟨wa, wc, sa, sc⟩ ⟨wb, wd, sb, sd⟩ wr) (fun i _ => s.who.length - (intOf i).toNat)
  case atStart =>
    obtain ⟨k, h1, h2, _, _, h3⟩ := hst.out
    exact ⟨k, h1, h2, h3⟩
  case round =>
    clear hst
    obtain ⟨k, hk, rfl, hX⟩ := hrel
    by_cases hlt : k < s.who.length
    · have hj : (k : Int) < s.who.length := by omega
      obtain ⟨ad, rfl, hbl, g0⟩ := hX.2.2.1.nums k s.who[k] (List.getElem?_eq_getElem hlt)
      obtain ⟨ad2, rfl, hbl2, g1⟩ := hX.2.2.2.1.nums k s.who[k] (List.getElem?_eq_getElem hlt)
      generalize s.who[k] = x at *
      have c3 : wr.cell? ⟨w.heap.size, 3, none⟩ = some (.slice (some ad) s.who.length wc) := hX.1.cell 3
      have d3 : wr.cell? ⟨w.heap.size + 1, 3, none⟩ = some (.slice (some ad2) s.who.length wd) := hX.2.1.cell 3
      have hxx : (x != x) = false := by simp
      go_wp2_with fail
      go_quiet (fail)
      go_wp2_with fail
      go_roundw
      case rel => exact ⟨k + 1, hlt, by rw [Int.natCast_add]; rfl, hX.1.drewN _, hX.2.1.drewN _, hX.2.2.1.below (below_drewN (Below.refl _ _) _), hX.2.2.2.1.below (below_drewN (Below.refl _ _) _), below_drewN hX.2.2.2.2 _⟩
      case measure => simp [intOf]; omega
    · obtain rfl : k = s.who.length := by omega
      have hj : ¬ (s.who.length : Int) < s.who.length := by omega
      have c3 : wr.cell? ⟨w.heap.size, 3, none⟩ = some (.slice wa s.who.length wc) := hX.1.cell 3
      have d3 : wr.cell? ⟨w.heap.size + 1, 3, none⟩ = some (.slice wb s.who.length wd) := hX.2.1.cell 3
      have c0 : wr.cell? ⟨w.heap.size, 0, none⟩ = some (.string s.ref) := hX.1.cell 0
      have d0 : wr.cell? ⟨w.heap.size + 1, 0, none⟩ = some (.string s.ref) := hX.2.1.cell 0
      have c1 : wr.cell? ⟨w.heap.size, 1, none⟩ = some (.string s.old) := hX.1.cell 1
      have d1 : wr.cell? ⟨w.heap.size + 1, 1, none⟩ = some (.string s.old) := hX.2.1.cell 1
      have c2 : wr.cell? ⟨w.heap.size, 2, none⟩ = some (.string s.new) := hX.1.cell 2
      have d2 : wr.cell? ⟨w.heap.size + 1, 2, none⟩ = some (.string s.new) := hX.2.1.cell 2
      have c4 : wr.cell? ⟨w.heap.size, 4, none⟩ = some (.slice sa s.seals.length sc) := hX.1.cell 4
      have d4 : wr.cell? ⟨w.heap.size + 1, 4, none⟩ = some (.slice sb s.seals.length sd) := hX.2.1.cell 4
      have C := Lib.hid (CS.out wr (hX.2.2.1.txs.mono hX.2.2.2.2.size) (hX.2.2.2.1.txs.mono hX.2.2.2.2.size))
      go_wp2_with fail
      (with_reducible refine C.out.mono ?_)
      rintro _ W2 ⟨rfl, b2⟩
      go_wp2_with fail
      go_ret
      exact ⟨rfl, hX.2.2.2.2.trans (b2.mono hX.2.2.2.2.size)⟩
end Go.Proofs.YtenjnaebhbmfiaaDoor
