/- ref.CopyStep: its contract. -/
import Derived.Test.YtbpmgpbmeganoaaDoorRfSets
import Derived.Test.YtbpmgpbmeganoaaDoorSpCat
import Derived.Test.YtbpmgpbmeganoaaDoorDkMem
namespace Go.Proofs.YtbpmgpbmeganoaaDoor
open Go.RowKit

/-- where CopyStep stands: the step's box, the result's block -/
def Cy (w : World) (s : Sp) (p : SpAt) (W : World) : Prop := Arr W w.heap.size 25 (spArr s p) ∧ Arr W (w.heap.size + 1) 25 spZero ∧ SpIn W w.heap.size s p ∧ Below w.heap.size w W
/-- both lists are copied into the box -/
structure Cy2 (w : World) (s : Sp) (v v2 : Value) (W : World) : Prop where
  box : Arr W w.heap.size 25 #[.string s.ref, .string s.old, .string s.new, v, v2]
  res : Arr W (w.heap.size + 1) 25 spZero
  own : W.ownsRow (w.heap.size + 2) 3 1 v s.who.length (s.who.map iv)
  own2 : W.ownsRow (w.heap.size + 2) 9 1 v2 s.seals.length (s.seals.map sv)
  bel : Below w.heap.size w W
def CpEnd (w : World) (s : Sp) (x : Ending) (w' : World) : Prop := ∃ p, x = .returned (.agg (spArr s p)) ∧ SpIn w' w'.heap.size s p ∧ Below w.heap.size w w'
theorem own_top {w : World} {base : Nat} {e : TypeId} {size n : Nat} {v : Value} {xs : List Value} (h : w.ownsRow base e size v n xs) (k : Nat) (hk : v.ownBlock = some k) : k < w.heap.size := by
  rcases h.2 with ⟨rfl, _⟩ | ⟨g, cap, cur, rfl, _, hg, _⟩
  · cases hk
  · cases hk; exact (Array.getElem?_eq_some_iff.1 hg).1
/-- the copy's slices are newer than the call -/
def CpEndF (w : World) (s : Sp) (x : Ending) (w' : World) : Prop := ∃ p, x = .returned (.agg (spArr s p)) ∧ SpIn w' w'.heap.size s p ∧ Below w.heap.size w w' ∧ (∀ ad, p.wa = some ad → w.heap.size ≤ ad.block ∧ ad.block < w'.heap.size) ∧ ∀ ad, p.sa = some ad → w.heap.size ≤ ad.block ∧ ad.block < w'.heap.size
theorem Cy2.done {w W : World} {s : Sp} {v v2 : Value} (h : Cy2 w s v v2 W) : ∃ p : SpAt, #[.string s.ref, .string s.old, .string s.new, v, v2] = spArr s p ∧
    ∀ W', W' = W.setRow (w.heap.size + 1) (spArr s p) → SpIn W' W'.heap.size s p ∧ Below w.heap.size w W' ∧ (∀ ad, p.wa = some ad → w.heap.size ≤ ad.block ∧ ad.block < W'.heap.size) ∧ ∀ ad, p.sa = some ad → w.heap.size ≤ ad.block ∧ ad.block < W'.heap.size := by
  obtain ⟨A, c, rfl, hc, _⟩ := own_nums h.own
  obtain ⟨A2, c2, rfl, hc2, _, _⟩ := own_texts h.own2
  refine ⟨⟨A, c, A2, c2⟩, rfl, fun W' e => ?_⟩
  have k := gb_row (w := W) (w.heap.size + 1) (spArr s ⟨A, c, A2, c2⟩)
  rw [← e] at k
  have o1 := own_kp h.own (Kp.gb k) (fun g hg => fun e => by have := own_row_ge h.own g hg; cases e; omega)
  have o2 := own_kp h.own2 (Kp.gb k) (fun g hg => fun e => by have := own_row_ge h.own2 g hg; cases e; omega)
  obtain ⟨A', c', e1, hc', hN⟩ := own_nums o1
  obtain ⟨A2', c2', e2, hc2', hT, _⟩ := own_texts o2
  cases e1
  cases e2
  refine ⟨⟨hN, hT, hc, hc2⟩, below_gb h.bel k (by omega) h.bel.size, fun ad e3 => ?_, fun ad e3 => ?_⟩
  · obtain rfl : A = some ad := e3
    have := own_row_ge h.own ad.block rfl
    have := own_top h.own ad.block rfl
    have := k.size
    exact ⟨by omega, by omega⟩
  · obtain rfl : A2 = some ad := e3
    have := own_row_ge h.own2 ad.block rfl
    have := own_top h.own2 ad.block rfl
    have := k.size
    exact ⟨by omega, by omega⟩
theorem wp_four {P : Program} {c : Code} {K : Act → World → Prop} {Q : Exit → Act → World → Prop} {a : Act} {w : World} {act : Option Addr → Nat → Option Addr → Nat → Act} (R : Option Addr → Nat → Option Addr → Nat → World → Prop)
    (h : ∀ K' : Act → World → Prop, (∀ A c A2 c2 V, R A c A2 c2 V → K' (act A c A2 c2) V) → c.wp P (Exit.then K' Q) a w) (k : ∀ A c A2 c2 V, R A c A2 c2 V → Exit.then K Q .normal (act A c A2 c2) V) : c.wp P (Exit.then K Q) a w := h K k
theorem Cy.two {w W V : World} {s : Sp} {p : SpAt} (h : Cy w s p W) (b : Below W.heap.size W V) {v v2 : Value} (o : V.ownsRow (w.heap.size + 2) 3 1 v s.who.length (s.who.map iv)) (o2 : V.ownsRow (w.heap.size + 2) 9 1 v2 s.seals.length (s.seals.map sv)) :
    Cy2 w s v v2 ((V.setCell ⟨w.heap.size, 3, none⟩ v).setCell ⟨w.heap.size, 4, none⟩ v2) := by
  have hlt := h.2.1.lt
  have A0 := h.1.below b h.1.lt
  have A1 := h.2.1.below b h.2.1.lt
  have bel := h.2.2.2.trans (b.mono h.2.2.2.size)
  have k1 := gb_set (w := V) w.heap.size 3 v
  have k2 := gb_set (w := V.setCell ⟨w.heap.size, 3, none⟩ v) w.heap.size 4 v2
  refine ⟨(A0.put 3 v).put 4 v2, (A1.kept k1 (fun e => by have := Option.some.inj e; omega)).kept k2 (fun e => by have := Option.some.inj e; omega), ?_, ?_, below_gb bel (gb_trans k1 k2) (Nat.le_refl _) bel.size⟩
  · exact ownsRow_setCell_below (ownsRow_setCell_below o (a := ⟨w.heap.size, 3, none⟩) (by simp) v) (a := ⟨w.heap.size, 4, none⟩) (by simp) v2
  · exact ownsRow_setCell_below (ownsRow_setCell_below o2 (a := ⟨w.heap.size, 3, none⟩) (by simp) v) (a := ⟨w.heap.size, 4, none⟩) (by simp) v2
set_option maxRecDepth 100000 in
set_option maxHeartbeats 8000000 in
theorem CopyStep_far (s : Sp) (p : SpAt) (w : World) (hP : SpIn w w.heap.size s p) (hz : SpSz s) : Calls Tryd.prog 14 #[.agg (spArr s p)] w (CpEndF w s) := by
  obtain ⟨wa, wc, sa, sc⟩ := p
  obtain ⟨si, hsi, sz0, sz1, sz2⟩ := info_parts info_str
  have Hsi := Lib.hid hsi
  have Sz0 := Lib.hid sz0
  have Sz1 := Lib.hid sz1
  have Sz2 := Lib.hid sz2
  obtain ⟨ii, hii, iz0, iz1, iz2⟩ := info_parts info_int
  have Hii := Lib.hid hii
  have Iz0 := Lib.hid iz0
  have Iz1 := Lib.hid iz1
  have Iz2 := Lib.hid iz2
  have hz1 := hz.who
  have hz2 := hz.seals
  have h1 : Hid (Cy w s ⟨wa, wc, sa, sc⟩ ((w.alloc (.cells (spArr s ⟨wa, wc, sa, sc⟩) 25)).alloc (.cells spZero 25))) := by
    have A0 : Arr (w.alloc (.cells (spArr s ⟨wa, wc, sa, sc⟩) 25)) w.heap.size 25 (spArr s ⟨wa, wc, sa, sc⟩) := Arr.new _ _ _
    have b0 : Below w.heap.size w (w.alloc (.cells (spArr s ⟨wa, wc, sa, sc⟩) 25)) := (Below.refl _ _).alloc (Nat.le_refl _) _
    have hz : (w.alloc (.cells (spArr s ⟨wa, wc, sa, sc⟩) 25)).heap.size = w.heap.size + 1 := World.size_alloc _ _
    generalize w.alloc (.cells (spArr s ⟨wa, wc, sa, sc⟩) 25) = V at *
    have A1 : Arr (V.alloc (.cells spZero 25)) V.heap.size 25 spZero := Arr.new _ _ _
    have b1 : Below V.heap.size V (V.alloc (.cells spZero 25)) := (Below.refl _ _).alloc (Nat.le_refl _) _
    have bb := b0.trans (b1.mono b0.size)
    rw [hz] at A1
    exact ⟨A0.below b1 A0.lt, A1, hP.below bb, bb⟩
  clear hsi sz0 sz1 sz2 hii iz0 iz1 iz2 hP hz
  generalize hA : spArr s ⟨wa, wc, sa, sc⟩ = arr at *
  have HA := Lib.hid hA
  clear hA
  go_enter Tryd.func14, Tryd.ntmps14
  go_upto_region 1 with fail
  refine wp_forget (Cy w s ⟨wa, wc, sa, sc⟩) h1.out ?_
  clear h1
  intro W hW
  have hA := HA.out
  clear HA
  subst hA
  have d3 : W.drew.cell? ⟨w.heap.size, 3, none⟩ = some (.slice wa s.who.length wc) := hW.1.cell 3
  have d4 : W.drew.cell? ⟨w.heap.size, 4, none⟩ = some (.slice sa s.seals.length sc) := hW.1.cell 4
  have HW := Lib.hid hW
  have hs2 : w.heap.size + 2 ≤ W.drew.heap.size := hW.2.1.lt
  have NI0 : News W.drew wa s.who.length (s.who.map iv) := hW.2.2.1.nums.news
  have NT0 : News W.drew sa s.seals.length (s.seals.map sv) := hW.2.2.1.txs.news
  have HTx := Lib.hid hW.2.2.1.txs
  have HNu := Lib.hid hW.2.2.1.nums
  have hbe := hW.2.2.2.size
  clear hW
  apply wp_four (R := fun A c A2 c2 V => Cy2 w s (.slice A s.who.length c) (.slice A2 s.seals.length c2) V)
  case h =>
    intro K' hK'
    go_region_law (first
      | (refine step_app _ rfl _ _ 22 rfl (w.heap.size + 2) 3 ii _ 1 8 Tryd.underlying22 Hii.out Iz0.out Iz1.out Iz2.out rfl (by decide) (.slice none 0 0) 0 [] rfl (own_nil _ _ _ _) wa s.who.length wc (s.who.map iv) rfl (by rw [List.length_map, Nat.mul_one]) NI0 (iv_one _) (by unfold maxLen; omega) (by omega) hs2 ?_
         intro vI wI oI gI
         have bI : Below W.heap.size W wI := ((Below.refl _ W).drew).trans (Below.grown (Below.refl _ _) gI (Nat.le_refl _) (fun q hq => by cases hq))
         simp only [Nat.zero_add, List.nil_append] at oI
         obtain ⟨A9, c9, rfl, _, _⟩ := own_nums oI
         have NT1 : News wI sa s.seals.length (s.seals.map sv) := (HTx.out.below (bI.mono hbe)).news
         have hs3 : w.heap.size + 2 ≤ wI.heap.size := Nat.le_trans hs2 bI.size
         have x3 : wI.cell? ⟨w.heap.size, 3, none⟩ = some (.slice wa s.who.length wc) := (HW.out.1.below bI HW.out.1.lt).cell 3
         have x4 : wI.cell? ⟨w.heap.size, 4, none⟩ = some (.slice sa s.seals.length sc) := (HW.out.1.below bI HW.out.1.lt).cell 4)
      | (refine step_app _ rfl _ _ 23 rfl (w.heap.size + 2) 9 si _ 1 16 Tryd.underlying23 Hsi.out Sz0.out Sz1.out Sz2.out rfl (by decide) (.slice none 0 0) 0 [] rfl (own_nil _ _ _ _) sa s.seals.length sc (s.seals.map sv) rfl (by rw [List.length_map, Nat.mul_one]) NT1 (sv_one _) (by unfold maxLen; omega) (by omega) hs3 ?_
         intro vT wT oT gT
         have bT : Below W.heap.size W wT := bI.trans ((Below.grown (Below.refl _ _) gT (Nat.le_refl _) (fun q hq => by cases hq)).mono bI.size)
         simp only [Nat.zero_add, List.nil_append] at oT
         have oI2 := own_kp oI (Kp.gb gT) (fun q hq e => by cases e)
         obtain ⟨A10, c10, rfl, _, _, _⟩ := own_texts oT
         have hfin := Lib.hid (HW.out.two bT oI2 oT)
         have hbx := HW.out.1.below bT HW.out.1.lt
         have x5 : wT.cell? ⟨w.heap.size, 3, none⟩ = some (.slice wa s.who.length wc) := hbx.cell 3
         have x6 := hbx.free 3
         have hbx2 := hbx.put 3 (.slice A9 s.who.length c9)
         have x7 : (wT.setCell ⟨w.heap.size, 3, none⟩ (.slice A9 s.who.length c9)).cell? ⟨w.heap.size, 4, none⟩ = some (.slice sa s.seals.length sc) := hbx2.cell 4
         have x8 := hbx2.free 4)
      | (refine step_app _ rfl _ _ 23 rfl (w.heap.size + 2) 9 si _ 1 16 Tryd.underlying23 Hsi.out Sz0.out Sz1.out Sz2.out rfl (by decide) (.slice none 0 0) 0 [] rfl (own_nil _ _ _ _) sa s.seals.length sc (s.seals.map sv) rfl (by rw [List.length_map, Nat.mul_one]) NT0 (sv_one _) (by unfold maxLen; omega) (by omega) hs2 ?_
         intro vT wT oT gT
         have bT : Below W.heap.size W wT := ((Below.refl _ W).drew).trans (Below.grown (Below.refl _ _) gT (Nat.le_refl _) (fun q hq => by cases hq))
         simp only [Nat.zero_add, List.nil_append] at oT
         obtain ⟨A10, c10, rfl, _, _, _⟩ := own_texts oT
         have NI1 : News wT wa s.who.length (s.who.map iv) := (HNu.out.below (bT.mono hbe)).news
         have hs3 : w.heap.size + 2 ≤ wT.heap.size := Nat.le_trans hs2 bT.size
         have x3 : wT.cell? ⟨w.heap.size, 3, none⟩ = some (.slice wa s.who.length wc) := (HW.out.1.below bT HW.out.1.lt).cell 3
         have x4 : wT.cell? ⟨w.heap.size, 4, none⟩ = some (.slice sa s.seals.length sc) := (HW.out.1.below bT HW.out.1.lt).cell 4)
      | (refine step_app _ rfl _ _ 22 rfl (w.heap.size + 2) 3 ii _ 1 8 Tryd.underlying22 Hii.out Iz0.out Iz1.out Iz2.out rfl (by decide) (.slice none 0 0) 0 [] rfl (own_nil _ _ _ _) wa s.who.length wc (s.who.map iv) rfl (by rw [List.length_map, Nat.mul_one]) NI1 (iv_one _) (by unfold maxLen; omega) (by omega) hs3 ?_
         intro vI wI oI gI
         have bI : Below W.heap.size W wI := bT.trans ((Below.grown (Below.refl _ _) gI (Nat.le_refl _) (fun q hq => by cases hq)).mono bT.size)
         simp only [Nat.zero_add, List.nil_append] at oI
         have oT2 := own_kp oT (Kp.gb gI) (fun q hq e => by cases e)
         obtain ⟨A9, c9, rfl, _, _⟩ := own_nums oI
         have hfin := Lib.hid (HW.out.two bI oI oT2)
         have hbx := HW.out.1.below bI HW.out.1.lt
         have x5 : wI.cell? ⟨w.heap.size, 3, none⟩ = some (.slice wa s.who.length wc) := hbx.cell 3
         have x6 := hbx.free 3
         have hbx2 := hbx.put 3 (.slice A9 s.who.length c9)
         have x7 : (wI.setCell ⟨w.heap.size, 3, none⟩ (.slice A9 s.who.length c9)).cell? ⟨w.heap.size, 4, none⟩ = some (.slice sa s.seals.length sc) := hbx2.cell 4
         have x8 := hbx2.free 4))
    all_goals (go_simp; exact hK' A9 c9 A10 c10 _ hfin.out)
  case k =>
    intro A9 c9 A10 c10 V hV
    obtain ⟨p, he, hd⟩ := hV.done
    have hbx := hV.box
    rw [he] at hbx
    go_wp2_with (first
      | refine wpList_load_row rfl 25 _ rfl w.heap.size rfl 25 _ (0, 0) _ hbx Tryd.underlying25 rfl (spInfo s p) ?_
      | refine wpList_store_row rfl 25 _ _ rfl (w.heap.size + 1) (spArr s p) rfl rfl 25 spZero hV.res (spInfo s p) rfl (spArr_one s p) ?_)
    refine bodyPost_ret (v := .agg (spArr s p)) ?_ rfl ⟨p, rfl, hd _ rfl⟩
    exact results_cell_row Tryd.results14 _ _ (w.heap.size + 1) 25 _ (0, 0) _ rfl (hV.res.row _) Tryd.underlying25 rfl (spInfo s p)
theorem CopyStep_any (s : Sp) (p : SpAt) (w : World) (hP : SpIn w w.heap.size s p) (hz : SpSz s) : Calls Tryd.prog 14 #[.agg (spArr s p)] w (CpEnd w s) :=
  (CopyStep_far s p w hP hz).mono fun _ _ ⟨p', e, hI, b, _⟩ => ⟨p', e, hI, b⟩
end Go.Proofs.YtbpmgpbmeganoaaDoor
