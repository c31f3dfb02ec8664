/- disk.put; the change of Rename. -/
import Derived.Test.YtnijnphalhfabaaDkCh2
namespace Go.Proofs.Ytnijnphalhfabaa
open Go.RowKit

/-- a file's cells, set -/
theorem take_set3 {C : List Value} {L : List Fl} {i cap : Nat} {f' : Fl} (hC : C.take (L.length * 3) = flCells L) (hcs : C.length = cap * 3) (hnc : L.length ≤ cap) (hlt : i < L.length) :
    (((C.set (i * 3) (.string f'.name)).set (i * 3 + 1) (.string f'.safe)).set (i * 3 + 2) (.string f'.tail)).take (L.length * 3) = flCells (L.set i f') := by
  have h0 : (C.set (i * 3) (.string f'.name)).take (L.length * 3) = flCells (L.set i ⟨f'.name, L[i].safe, L[i].tail⟩) := by
    apply List.ext_getElem?
    intro j
    rw [List.take_set, hC]
    have hl : (flCells L).length = L.length * 3 := flCells_len L
    by_cases hj : j < L.length * 3
    · have hk : j / 3 < L.length := by omega
      have h1 := flCells_at L (j / 3) (j % 3) L[j / 3] (List.getElem?_eq_getElem hk) (by omega)
      rw [show j / 3 * 3 + j % 3 = j from by omega] at h1
      by_cases e : j / 3 = i
      · have h2 := flCells_at (L.set i ⟨f'.name, L[i].safe, L[i].tail⟩) (j / 3) (j % 3) ⟨f'.name, L[i].safe, L[i].tail⟩ (by rw [e, List.getElem?_set_self hlt]) (by omega)
        rw [show j / 3 * 3 + j % 3 = j from by omega] at h2
        rw [h2]
        have he : L[j / 3] = L[i] := by congr
        have hm : j % 3 = 0 ∨ j % 3 = 1 ∨ j % 3 = 2 := by omega
        rcases hm with m | m | m
        · rw [show j = i * 3 from by omega, List.getElem?_set_self (by rw [hl]; omega), show i * 3 % 3 = 0 from by omega]
          rfl
        · rw [List.getElem?_set_ne (by omega), h1, m, he]
          rfl
        · rw [List.getElem?_set_ne (by omega), h1, m, he]
          rfl
      · have h2 := flCells_at (L.set i ⟨f'.name, L[i].safe, L[i].tail⟩) (j / 3) (j % 3) L[j / 3] (by rw [List.getElem?_set_ne (fun q => e q.symm), List.getElem?_eq_getElem hk]) (by omega)
        rw [show j / 3 * 3 + j % 3 = j from by omega] at h2
        rw [h2, List.getElem?_set_ne (by omega), h1]
    · rw [List.getElem?_eq_none (by rw [List.length_set, flCells_len]; omega), List.getElem?_eq_none (by rw [flCells_len, List.length_set]; omega)]
  have h1 := take_set2 (C := C.set (i * 3) (.string f'.name)) (L := L.set i ⟨f'.name, L[i].safe, L[i].tail⟩) (i := i) (cap := cap) (f' := f') (u := .string f'.safe) (v := .string f'.tail) (by rw [List.length_set]; exact h0) (by rw [List.length_set]; exact hcs) (by rw [List.length_set]; exact hnc) (List.getElem?_set_self hlt) rfl rfl rfl
  rw [List.length_set, List.set_set] at h1
  exact h1
/-- behind put -/
def PtEnd (base : Nat) (L' : List Fl) (V : World) (e : Ending) (w' : World) : Prop :=
  ∃ v', e = .returned v' ∧ w'.ownsRow base 50 3 v' L'.length (flCells L') ∧ Below base V w'
set_option maxRecDepth 100000 in
set_option maxHeartbeats 1000000 in
theorem put_any (L : List Fl) (f : Fl) (hr : ris ⟨#[]⟩ L) (hl : L.length ≤ 500) (v : Value) (base : Nat) (V : World) (h : V.ownsRow base 50 3 v L.length (flCells L)) (hb : base ≤ V.heap.size) :
    Calls Try.prog 40 #[v, .agg #[.string f.name, .string f.safe, .string f.tail]] V (PtEnd base (putL f L) V) := by
  have A0 : Arr (V.alloc (.cells (flArr f) 50)) V.heap.size 50 (flArr f) := Arr.new _ _ _
  have b0 : Below V.heap.size V (V.alloc (.cells (flArr f) 50)) := (Below.refl _ _).alloc (Nat.le_refl _) _
  have h0 := own_below h b0
  have hne0 : ∀ k, v.ownBlock = some k → k < V.heap.size := fun k hk => by
    rcases h.2 with ⟨e0, _⟩ | ⟨g, cap, cur, e0, _, hg, _⟩
    · rw [e0] at hk; cases hk
    · rw [e0] at hk; cases hk; exact (Array.getElem?_eq_some_iff.1 hg).1
  have HNe := Lib.hid hne0
  clear h hne0
  go_enter Try.func40, Try.ntmps40
  go_upto_region 1 with fail
  refine wp_forget (fun W => Arr W V.heap.size 50 (flArr f) ∧ Below V.heap.size V W ∧ W.ownsRow base 50 3 v L.length (flCells L)) (by exact ⟨A0, b0, h0⟩) ?_
  clear A0 b0 h0
  generalize hq : V.heap.size = q at *
  rintro W ⟨A0, b0, h0⟩
  obtain ⟨A, c, rfl, hc, hF⟩ := own_files h0
  have C1 := Lib.hid (find_any L f.name A c W hF (by omega) hr)
  have hlo := low_le f.name L
  have c0 : W.cell? ⟨q, 0, none⟩ = some (.string f.name) := A0.cell 0
  cases hbn : hasN f.name L with
  | false =>
    rw [hbn] at C1
    have HP := Lib.hid (put_ins hr hbn (f' := f) rfl)
    have CI := fun V1 vb h1 h2 h3 h4 => Lib.hid (Insert_any L (low f.name L) hlo f (by omega) (.slice A L.length c) base V1 h1 vb h2 h3 h4)
    generalize low f.name L = i at *
    clear hbn hF
    go_wp2_with fail
    (with_reducible refine C1.out.mono ?_)
    clear C1 c0
    rintro _ W2 ⟨rfl, b2⟩
    have A2 := A0.below b2 A0.lt
    have h2 := own_below h0 b2
    have bel2 := b0.trans (b2.mono (Nat.le_trans (by rw [hq]; exact Nat.le_refl _) b0.size))
    have hb2 : base ≤ W2.heap.size := by have := bel2.size; omega
    clear A0 b0 h0 b2
    have c0 : W2.cell? ⟨q, 0, none⟩ = some (.string f.name) := A2.cell 0
    have c1 : W2.cell? ⟨q, 1, none⟩ = some (.string f.safe) := A2.cell 1
    have c2 : W2.cell? ⟨q, 2, none⟩ = some (.string f.tail) := A2.cell 2
    have b3 : Below W2.heap.size W2 (W2.alloc (.cells (flArr f) 50)) := (Below.refl _ _).alloc (Nat.le_refl _) _
    have C2 := CI (W2.alloc (.cells (flArr f) 50)) W2.heap.size (own_below h2 b3) (Arr.new _ _ _) (fun e => by have := HNe.out _ e; have := bel2.size; omega) (Nat.le_trans hb2 b3.size)
    have hgb := fun w' k => grown_base (w' := w') (own_below h2 b3) (Nat.le_trans hb2 b3.size) k
    have HG := Lib.hid hgb
    have belb : Below base V (W2.alloc (.cells (flArr f) 50)) := (bel2.mono hb).trans (b3.mono hb2)
    clear CI hgb
    unfold flArr at C2
    go_wp2_with fail
    (with_reducible refine C2.out.mono ?_)
    clear C2
    rintro _ W3 ⟨v', rfl, h3, k3⟩
    go_wp2_with fail
    go_ret
    refine ⟨v', rfl, by rw [HP.out]; exact h3, belb.trans (HG.out _ k3)⟩
  | true =>
    rw [hbn] at C1
    have HP := Lib.hid (put_set hr hbn (f' := f) rfl)
    obtain ⟨f0, _, hx, _, hlt⟩ := has_some hr hbn
    have hli : (low f.name L : Int) < L.length := by omega
    generalize low f.name L = i at *
    clear hbn hF hr
    rcases h0.2 with ⟨e0, hn0⟩ | ⟨g, cap, cur, e0, hbg, hg0, hnc, hcm, hcs0, htake⟩
    · omega
    simp only [Value.slice.injEq] at e0
    obtain ⟨rfl, _, rfl⟩ := e0
    have hgA : Arr W g 50 cur.toList.toArray := Arr.toL hg0
    have hcs : cur.toList.length = c * 3 := by rw [Array.length_toList, hcs0]
    clear hg0 hcs0 h0
    generalize cur.toList = C at *
    have hgq : g ≠ q := fun e => by have := HNe.out g rfl; omega
    go_wp2_with fail
    (with_reducible refine C1.out.mono ?_)
    clear C1 c0
    rintro _ W2 ⟨rfl, b2⟩
    have A2 := A0.below b2 A0.lt
    have G2 := hgA.below b2 hgA.lt
    have bel2 := (b0.trans (b2.mono (Nat.le_trans (by rw [hq]; exact Nat.le_refl _) b0.size))).mono hb
    have hb2 : base ≤ W2.heap.size := by have := bel2.size; omega
    clear A0 b0 hgA b2
    have c0 : W2.cell? ⟨q, 0, none⟩ = some (.string f.name) := A2.cell 0
    have c1 : W2.cell? ⟨q, 1, none⟩ = some (.string f.safe) := A2.cell 1
    have c2 : W2.cell? ⟨q, 2, none⟩ = some (.string f.tail) := A2.cell 2
    have hat : ∀ j, j < c * 3 → ∃ u, W2.cell? ⟨g, j, none⟩ = some u := fun j hj => ⟨_, by rw [G2.cell, List.getElem?_toArray]; exact List.getElem?_eq_getElem (by omega)⟩
    obtain ⟨u0, d0⟩ := hat (i * 3) (by omega)
    have e0 := G2.free (i * 3)
    have G3 := G2.put (i * 3) (.string f.name)
    rw [List.setIfInBounds_toArray] at G3
    have hat1 : ∃ u, (W2.setCell ⟨g, i * 3, none⟩ (.string f.name)).cell? ⟨g, i * 3 + 1, none⟩ = some u := ⟨_, by rw [G3.cell, List.getElem?_toArray]; exact List.getElem?_eq_getElem (by rw [List.length_set]; omega)⟩
    obtain ⟨u1, d1⟩ := hat1
    have e1 := G3.free (i * 3 + 1)
    have G4 := G3.put (i * 3 + 1) (.string f.safe)
    rw [List.setIfInBounds_toArray] at G4
    have hat2 : ∃ u, ((W2.setCell ⟨g, i * 3, none⟩ (.string f.name)).setCell ⟨g, i * 3 + 1, none⟩ (.string f.safe)).cell? ⟨g, i * 3 + 2, none⟩ = some u := ⟨_, by rw [G4.cell, List.getElem?_toArray]; exact List.getElem?_eq_getElem (by rw [List.length_set, List.length_set]; omega)⟩
    obtain ⟨u2, d2⟩ := hat2
    have e2 := G4.free (i * 3 + 2)
    have G5 := G4.put (i * 3 + 2) (.string f.tail)
    rw [List.setIfInBounds_toArray] at G5
    have k1 : W2.grownBy (((W2.setCell ⟨g, i * 3, none⟩ (.string f.name)).setCell ⟨g, i * 3 + 1, none⟩ (.string f.safe)).setCell ⟨g, i * 3 + 2, none⟩ (.string f.tail)) (some g) := gb_trans (gb_trans (gb_set _ _ _) (gb_set _ _ _)) (gb_set _ _ _)
    have bel3 := below_gb bel2 k1 hbg hb2
    have HO := Lib.hid (own_set (f' := f) hbg G5 hnc hcm (by rw [List.length_set, List.length_set, List.length_set]; exact hcs) (take_set3 htake hcs hnc hlt) hx)
    clear G2 G3 G4 G5 k1 bel2 htake hx hat
    go_wp2_with fail
    go_ret
    exact ⟨_, rfl, by rw [HP.out]; exact HO.out, bel3⟩
end Go.Proofs.Ytnijnphalhfabaa
