/- Texts in one: SpCopy, SpSgM, Take, SpHeld. -/
import Derived.Test.YtenjnaebhbmfiaaDoorSpSearch
import Derived.Test.YtenjnaebhbmfiaaDoorDkCh4
import Derived.Test.YtenjnaebhbmfiaaDoorDkMem
import Derived.Test.YtenjnaebhbmfiaaDoorSpSign
import Derived.Test.YtenjnaebhbmfiaaDoorMem
import Derived.Deep.RegionHeld3
import Derived.Deep.RegionWith
/- ref.CopyStep: its contract. -/
namespace Go.Proofs.YtenjnaebhbmfiaaDoor
open Go.RowKit

/-- where CopyStep stands: the step's box, the result's block -/
def Cy (w : World) (s : Sp) (p : SpAt) (W : World) : Prop := Arr W w.heap.size 25 (spArr s p) ∧ Arr W (w.heap.size + 1) 25 spZero ∧ SpIn W w.heap.size s p ∧ Below w.heap.size w W
/-- both lists are copied into the box -/
structure Cy2 (w : World) (s : Sp) (v v2 : Value) (W : World) : Prop where
  box : Arr W w.heap.size 25 #[.string s.ref, .string s.old, .string s.new, v, v2]
  res : Arr W (w.heap.size + 1) 25 spZero
  own : W.ownsRow (w.heap.size + 2) 3 1 v s.who.length (s.who.map iv)
  own2 : W.ownsRow (w.heap.size + 2) 9 1 v2 s.seals.length (s.seals.map sv)
  bel : Below w.heap.size w W
def CpEnd (w : World) (s : Sp) (x : Ending) (w' : World) : Prop := ∃ p, x = .returned (.agg (spArr s p)) ∧ SpIn w' w'.heap.size s p ∧ Below w.heap.size w w'
theorem own_top {w : World} {base : Nat} {e : TypeId} {size n : Nat} {v : Value} {xs : List Value} (h : w.ownsRow base e size v n xs) (k : Nat) (hk : v.ownBlock = some k) : k < w.heap.size := by
  rcases h.2 with ⟨rfl, _⟩ | ⟨g, cap, cur, rfl, _, hg, _⟩
  · cases hk
  · cases hk; exact (Array.getElem?_eq_some_iff.1 hg).1
/-- the copy's slices are newer than the call -/
def CpEndF (w : World) (s : Sp) (x : Ending) (w' : World) : Prop := ∃ p, x = .returned (.agg (spArr s p)) ∧ SpIn w' w'.heap.size s p ∧ Below w.heap.size w w' ∧ (∀ ad, p.wa = some ad → w.heap.size ≤ ad.block ∧ ad.block < w'.heap.size) ∧ ∀ ad, p.sa = some ad → w.heap.size ≤ ad.block ∧ ad.block < w'.heap.size
theorem Cy2.done {w W : World} {s : Sp} {v v2 : Value} (h : Cy2 w s v v2 W) : ∃ p : SpAt, #[.string s.ref, .string s.old, .string s.new, v, v2] = spArr s p ∧
    ∀ W', W' = W.setRow (w.heap.size + 1) (spArr s p) → SpIn W' W'.heap.size s p ∧ Below w.heap.size w W' ∧ (∀ ad, p.wa = some ad → w.heap.size ≤ ad.block ∧ ad.block < W'.heap.size) ∧ ∀ ad, p.sa = some ad → w.heap.size ≤ ad.block ∧ ad.block < W'.heap.size := by
  obtain ⟨A, c, rfl, hc, _⟩ := own_nums h.own
  obtain ⟨A2, c2, rfl, hc2, _, _⟩ := own_texts h.own2
  refine ⟨⟨A, c, A2, c2⟩, rfl, fun W' e => ?_⟩
  have k := gb_row (w := W) (w.heap.size + 1) (spArr s ⟨A, c, A2, c2⟩)
  rw [← e] at k
  have o1 := own_kp h.own (Kp.gb k) (fun g hg => fun e => by have := own_row_ge h.own g hg; cases e; omega)
  have o2 := own_kp h.own2 (Kp.gb k) (fun g hg => fun e => by have := own_row_ge h.own2 g hg; cases e; omega)
  obtain ⟨A', c', e1, hc', hN⟩ := own_nums o1
  obtain ⟨A2', c2', e2, hc2', hT, _⟩ := own_texts o2
  cases e1
  cases e2
  refine ⟨⟨hN, hT, hc, hc2⟩, below_gb h.bel k (by omega) h.bel.size, fun ad e3 => ?_, fun ad e3 => ?_⟩
  · obtain rfl : A = some ad := e3
    have := own_row_ge h.own ad.block rfl
    have := own_top h.own ad.block rfl
    have := k.size
    exact ⟨by omega, by omega⟩
  · obtain rfl : A2 = some ad := e3
    have := own_row_ge h.own2 ad.block rfl
    have := own_top h.own2 ad.block rfl
    have := k.size
    exact ⟨by omega, by omega⟩
theorem wp_four {P : Program} {c : Code} {K : Act → World → Prop} {Q : Exit → Act → World → Prop} {a : Act} {w : World} {act : Option Addr → Nat → Option Addr → Nat → Act} (R : Option Addr → Nat → Option Addr → Nat → World → Prop)
    (h : ∀ K' : Act → World → Prop, (∀ A c A2 c2 V, R A c A2 c2 V → K' (act A c A2 c2) V) → c.wp P (Exit.then K' Q) a w) (k : ∀ A c A2 c2 V, R A c A2 c2 V → Exit.then K Q .normal (act A c A2 c2) V) : c.wp P (Exit.then K Q) a w := h K k
theorem Cy.two {w W V : World} {s : Sp} {p : SpAt} (h : Cy w s p W) (b : Below W.heap.size W V) {v v2 : Value} (o : V.ownsRow (w.heap.size + 2) 3 1 v s.who.length (s.who.map iv)) (o2 : V.ownsRow (w.heap.size + 2) 9 1 v2 s.seals.length (s.seals.map sv)) :
    Cy2 w s v v2 ((V.setCell ⟨w.heap.size, 3, none⟩ v).setCell ⟨w.heap.size, 4, none⟩ v2) := by
  have hlt := h.2.1.lt
  have A0 := h.1.below b h.1.lt
  have A1 := h.2.1.below b h.2.1.lt
  have bel := h.2.2.2.trans (b.mono h.2.2.2.size)
  have k1 := gb_set (w := V) w.heap.size 3 v
  have k2 := gb_set (w := V.setCell ⟨w.heap.size, 3, none⟩ v) w.heap.size 4 v2
  refine ⟨(A0.put 3 v).put 4 v2, (A1.kept k1 (fun e => by have := Option.some.inj e; omega)).kept k2 (fun e => by have := Option.some.inj e; omega), ?_, ?_, below_gb bel (gb_trans k1 k2) (Nat.le_refl _) bel.size⟩
  · exact ownsRow_setCell_below (ownsRow_setCell_below o (a := ⟨w.heap.size, 3, none⟩) (by simp) v) (a := ⟨w.heap.size, 4, none⟩) (by simp) v2
  · exact ownsRow_setCell_below (ownsRow_setCell_below o2 (a := ⟨w.heap.size, 3, none⟩) (by simp) v) (a := ⟨w.heap.size, 4, none⟩) (by simp) v2
set_option maxRecDepth 100000 in
set_option maxHeartbeats 8000000 in
theorem CopyStep_far (s : Sp) (p : SpAt) (w : World) (hP : SpIn w w.heap.size s p) (hz : SpSz s) : Calls Tryd.prog 4 #[.agg (spArr s p)] w (CpEndF w s) := by
  obtain ⟨wa, wc, sa, sc⟩ := p
  obtain ⟨si, hsi, sz0, sz1, sz2⟩ := info_parts info_str
  have Hsi := Lib.hid hsi
  have Sz0 := Lib.hid sz0
  have Sz1 := Lib.hid sz1
  have Sz2 := Lib.hid sz2
  obtain ⟨ii, hii, iz0, iz1, iz2⟩ := info_parts info_int
  have Hii := Lib.hid hii
  have Iz0 := Lib.hid iz0
  have Iz1 := Lib.hid iz1
  have Iz2 := Lib.hid iz2
  have hz1 := hz.who
  have hz2 := hz.seals
  have h1 : Hid (Cy w s ⟨wa, wc, sa, sc⟩ ((w.alloc (.cells (spArr s ⟨wa, wc, sa, sc⟩) 25)).alloc (.cells spZero 25))) := by
    have A0 : Arr (w.alloc (.cells (spArr s ⟨wa, wc, sa, sc⟩) 25)) w.heap.size 25 (spArr s ⟨wa, wc, sa, sc⟩) := Arr.new _ _ _
    have b0 : Below w.heap.size w (w.alloc (.cells (spArr s ⟨wa, wc, sa, sc⟩) 25)) := (Below.refl _ _).alloc (Nat.le_refl _) _
    have hz : (w.alloc (.cells (spArr s ⟨wa, wc, sa, sc⟩) 25)).heap.size = w.heap.size + 1 := World.size_alloc _ _
    generalize w.alloc (.cells (spArr s ⟨wa, wc, sa, sc⟩) 25) = V at *
    have A1 : Arr (V.alloc (.cells spZero 25)) V.heap.size 25 spZero := Arr.new _ _ _
    have b1 : Below V.heap.size V (V.alloc (.cells spZero 25)) := (Below.refl _ _).alloc (Nat.le_refl _) _
    have bb := b0.trans (b1.mono b0.size)
    rw [hz] at A1
    exact ⟨A0.below b1 A0.lt, A1, hP.below bb, bb⟩
  clear hsi sz0 sz1 sz2 hii iz0 iz1 iz2 hP hz
  generalize hA : spArr s ⟨wa, wc, sa, sc⟩ = arr at *
  have HA := Lib.hid hA
  clear hA
  go_enter Tryd.func4, Tryd.ntmps4
  go_upto_region 1 with fail
  refine wp_forget (Cy w s ⟨wa, wc, sa, sc⟩) h1.out ?_
  clear h1
  intro W hW
  have hA := HA.out
  clear HA
  subst hA
  have d3 : W.drew.cell? ⟨w.heap.size, 3, none⟩ = some (.slice wa s.who.length wc) := hW.1.cell 3
  have d4 : W.drew.cell? ⟨w.heap.size, 4, none⟩ = some (.slice sa s.seals.length sc) := hW.1.cell 4
  have HW := Lib.hid hW
  have hs2 : w.heap.size + 2 ≤ W.drew.heap.size := hW.2.1.lt
  have NI0 : News W.drew wa s.who.length (s.who.map iv) := hW.2.2.1.nums.news
  have NT0 : News W.drew sa s.seals.length (s.seals.map sv) := hW.2.2.1.txs.news
  have HTx := Lib.hid hW.2.2.1.txs
  have HNu := Lib.hid hW.2.2.1.nums
  have hbe := hW.2.2.2.size
  clear hW
  apply wp_four (R := fun A c A2 c2 V => Cy2 w s (.slice A s.who.length c) (.slice A2 s.seals.length c2) V)
  case h =>
    intro K' hK'
    go_region_law (first
      | (refine step_app _ rfl _ _ 22 rfl (w.heap.size + 2) 3 ii _ 1 8 Tryd.underlying22 Hii.out Iz0.out Iz1.out Iz2.out rfl (by decide) (.slice none 0 0) 0 [] rfl (own_nil _ _ _ _) wa s.who.length wc (s.who.map iv) rfl (by rw [List.length_map, Nat.mul_one]) NI0 (iv_one _) (by unfold maxLen; omega) (by omega) hs2 ?_
         intro vI wI oI gI
         have bI : Below W.heap.size W wI := ((Below.refl _ W).drew).trans (Below.grown (Below.refl _ _) gI (Nat.le_refl _) (fun q hq => by cases hq))
         simp only [Nat.zero_add, List.nil_append] at oI
         obtain ⟨A9, c9, rfl, _, _⟩ := own_nums oI
         have NT1 : News wI sa s.seals.length (s.seals.map sv) := (HTx.out.below (bI.mono hbe)).news
         have hs3 : w.heap.size + 2 ≤ wI.heap.size := Nat.le_trans hs2 bI.size
         have x3 : wI.cell? ⟨w.heap.size, 3, none⟩ = some (.slice wa s.who.length wc) := (HW.out.1.below bI HW.out.1.lt).cell 3
         have x4 : wI.cell? ⟨w.heap.size, 4, none⟩ = some (.slice sa s.seals.length sc) := (HW.out.1.below bI HW.out.1.lt).cell 4)
      | (refine step_app _ rfl _ _ 23 rfl (w.heap.size + 2) 9 si _ 1 16 Tryd.underlying23 Hsi.out Sz0.out Sz1.out Sz2.out rfl (by decide) (.slice none 0 0) 0 [] rfl (own_nil _ _ _ _) sa s.seals.length sc (s.seals.map sv) rfl (by rw [List.length_map, Nat.mul_one]) NT1 (sv_one _) (by unfold maxLen; omega) (by omega) hs3 ?_
         intro vT wT oT gT
         have bT : Below W.heap.size W wT := bI.trans ((Below.grown (Below.refl _ _) gT (Nat.le_refl _) (fun q hq => by cases hq)).mono bI.size)
         simp only [Nat.zero_add, List.nil_append] at oT
         have oI2 := own_kp oI (Kp.gb gT) (fun q hq e => by cases e)
         obtain ⟨A10, c10, rfl, _, _, _⟩ := own_texts oT
         have hfin := Lib.hid (HW.out.two bT oI2 oT)
         have hbx := HW.out.1.below bT HW.out.1.lt
         have x5 : wT.cell? ⟨w.heap.size, 3, none⟩ = some (.slice wa s.who.length wc) := hbx.cell 3
         have x6 := hbx.free 3
         have hbx2 := hbx.put 3 (.slice A9 s.who.length c9)
         have x7 : (wT.setCell ⟨w.heap.size, 3, none⟩ (.slice A9 s.who.length c9)).cell? ⟨w.heap.size, 4, none⟩ = some (.slice sa s.seals.length sc) := hbx2.cell 4
         have x8 := hbx2.free 4)
      | (refine step_app _ rfl _ _ 23 rfl (w.heap.size + 2) 9 si _ 1 16 Tryd.underlying23 Hsi.out Sz0.out Sz1.out Sz2.out rfl (by decide) (.slice none 0 0) 0 [] rfl (own_nil _ _ _ _) sa s.seals.length sc (s.seals.map sv) rfl (by rw [List.length_map, Nat.mul_one]) NT0 (sv_one _) (by unfold maxLen; omega) (by omega) hs2 ?_
         intro vT wT oT gT
         have bT : Below W.heap.size W wT := ((Below.refl _ W).drew).trans (Below.grown (Below.refl _ _) gT (Nat.le_refl _) (fun q hq => by cases hq))
         simp only [Nat.zero_add, List.nil_append] at oT
         obtain ⟨A10, c10, rfl, _, _, _⟩ := own_texts oT
         have NI1 : News wT wa s.who.length (s.who.map iv) := (HNu.out.below (bT.mono hbe)).news
         have hs3 : w.heap.size + 2 ≤ wT.heap.size := Nat.le_trans hs2 bT.size
         have x3 : wT.cell? ⟨w.heap.size, 3, none⟩ = some (.slice wa s.who.length wc) := (HW.out.1.below bT HW.out.1.lt).cell 3
         have x4 : wT.cell? ⟨w.heap.size, 4, none⟩ = some (.slice sa s.seals.length sc) := (HW.out.1.below bT HW.out.1.lt).cell 4)
      | (refine step_app _ rfl _ _ 22 rfl (w.heap.size + 2) 3 ii _ 1 8 Tryd.underlying22 Hii.out Iz0.out Iz1.out Iz2.out rfl (by decide) (.slice none 0 0) 0 [] rfl (own_nil _ _ _ _) wa s.who.length wc (s.who.map iv) rfl (by rw [List.length_map, Nat.mul_one]) NI1 (iv_one _) (by unfold maxLen; omega) (by omega) hs3 ?_
         intro vI wI oI gI
         have bI : Below W.heap.size W wI := bT.trans ((Below.grown (Below.refl _ _) gI (Nat.le_refl _) (fun q hq => by cases hq)).mono bT.size)
         simp only [Nat.zero_add, List.nil_append] at oI
         have oT2 := own_kp oT (Kp.gb gI) (fun q hq e => by cases e)
         obtain ⟨A9, c9, rfl, _, _⟩ := own_nums oI
         have hfin := Lib.hid (HW.out.two bI oI oT2)
         have hbx := HW.out.1.below bI HW.out.1.lt
         have x5 : wI.cell? ⟨w.heap.size, 3, none⟩ = some (.slice wa s.who.length wc) := hbx.cell 3
         have x6 := hbx.free 3
         have hbx2 := hbx.put 3 (.slice A9 s.who.length c9)
         have x7 : (wI.setCell ⟨w.heap.size, 3, none⟩ (.slice A9 s.who.length c9)).cell? ⟨w.heap.size, 4, none⟩ = some (.slice sa s.seals.length sc) := hbx2.cell 4
         have x8 := hbx2.free 4))
    all_goals (go_simp; exact hK' A9 c9 A10 c10 _ hfin.out)
  case k =>
    intro A9 c9 A10 c10 V hV
    obtain ⟨p, he, hd⟩ := hV.done
    have hbx := hV.box
    rw [he] at hbx
    go_wp2_with (first
      | refine wpList_load_row rfl 25 _ rfl w.heap.size rfl 25 _ (0, 0) _ hbx Tryd.underlying25 rfl (spInfo s p) ?_
      | refine wpList_store_row rfl 25 _ _ rfl (w.heap.size + 1) (spArr s p) rfl rfl 25 spZero hV.res (spInfo s p) rfl (spArr_one s p) ?_)
    refine bodyPost_ret (v := .agg (spArr s p)) ?_ rfl ⟨p, rfl, hd _ rfl⟩
    exact results_cell_row Tryd.results4 _ _ (w.heap.size + 1) 25 _ (0, 0) _ rfl (hV.res.row _) Tryd.underlying25 rfl (spInfo s p)
theorem CopyStep_any (s : Sp) (p : SpAt) (w : World) (hP : SpIn w w.heap.size s p) (hz : SpSz s) : Calls Tryd.prog 4 #[.agg (spArr s p)] w (CpEnd w s) :=
  (CopyStep_far s p w hP hz).mono fun _ _ ⟨p', e, hI, b, _⟩ => ⟨p', e, hI, b⟩
end Go.Proofs.YtenjnaebhbmfiaaDoor

/- The document's Sign: what it keeps in memory. -/
namespace Go.Proofs.YtenjnaebhbmfiaaDoor
open Go.RowKit

theorem own_bl {w w' : World} {base : Nat} {e : TypeId} {size n : Nat} {v : Value} {xs : List Value} (h : w.ownsRow base e size v n xs) (b : Below w.heap.size w w') : w'.ownsRow base e size v n xs := by
  refine ⟨h.1, ?_⟩
  rcases h.2 with hn | ⟨g, cap, cur, hv, hbs, hg, rest⟩
  · exact .inl hn
  · exact .inr ⟨g, cap, cur, hv, hbs, (b.block g (Array.getElem?_eq_some_iff.1 hg).1).trans hg, rest⟩
theorem own_slice {w : World} {base : Nat} {e : TypeId} {size n : Nat} {v : Value} {xs : List Value} (h : w.ownsRow base e size v n xs) : ∃ A c, v = .slice A n c := by
  rcases h.2 with ⟨rfl, rfl⟩ | ⟨g, cap, cur, rfl, _⟩
  · exact ⟨none, 0, rfl⟩
  · exact ⟨_, _, rfl⟩
theorem news_one {w : World} {n : Nat} {u : Value} (h : w.cell? ⟨n, 0, none⟩ = some u) : News w (some ⟨n, 0, none⟩) 1 [u] := by
  refine ⟨fun e => (by cases e), fun ad e j x hx => ?_⟩
  cases e
  match j, hx with
  | 0, hx => simp at hx; subst hx; simpa [Addr.add] using h
  | j + 1, hx => simp at hx
/-- where the document's Sign stands: the step's box, the result's block, the new step's block with what its fields hold, and both lists -/
structure Sg9 (w : World) (s : Sp) (p : SpAt) (q : Nat) (o1 o2 v1 : Value) (N : List Int) (v2 : Value) (T : List ByteArray) (W : World) : Prop where
  box : Arr W w.heap.size 25 (spArr s p)
  res : Arr W (w.heap.size + 1) 25 spZero
  out : Arr W q 25 #[.string s.ref, .string s.old, .string s.new, o1, o2]
  own1 : W.ownsRow (q + 1) 3 1 v1 N.length (N.map iv)
  own2 : W.ownsRow (q + 1) 9 1 v2 T.length (T.map sv)
  inn : SpIn W w.heap.size s p
  bel : Below w.heap.size w W
  hq : w.heap.size + 1 < q
section
variable {w : World} {s : Sp} {p : SpAt} {q : Nat} {o1 o2 v1 : Value} {N : List Int} {v2 : Value} {T : List ByteArray} {W W' : World}
theorem Sg9.below (h : Sg9 w s p q o1 o2 v1 N v2 T W) (b : Below W.heap.size W W') : Sg9 w s p q o1 o2 v1 N v2 T W' :=
  ⟨h.box.below b h.box.lt, h.res.below b h.res.lt, h.out.below b h.out.lt, own_bl h.own1 b, own_bl h.own2 b, h.inn.below (b.mono h.bel.size), h.bel.trans (b.mono h.bel.size), h.hq⟩
theorem Sg9.appI (h : Sg9 w s p q o1 o2 v1 N v2 T W) {k : Int} {v : Value} (o : W'.ownsRow (q + 1) 3 1 v (N.length + 1) (N.map iv ++ [.int .i64 k])) (g : W.grownBy W' v1.ownBlock) : Sg9 w s p q o1 o2 v (N ++ [k]) v2 T W' := by
  have hb : Below w.heap.size W W' := Below.grown (Below.refl _ _) g h.bel.size (fun i hi => by have := own_row_ge h.own1 i hi; have := h.hq; omega)
  refine ⟨h.box.kept g ((own_ne h.own1 h.box (by decide)).symm), h.res.kept g ((own_ne h.own1 h.res (by decide)).symm), h.out.kept g ((own_ne h.own1 h.out (by decide)).symm), ?_, own_kp h.own2 (Kp.gb g) (fun i hi e => own_row h.own2 h.own1 (by decide) i hi e), h.inn.below hb, h.bel.trans hb, h.hq⟩
  rw [List.length_append, List.map_append]
  exact o
theorem Sg9.appT (h : Sg9 w s p q o1 o2 v1 N v2 T W) {t : ByteArray} {v : Value} (o : W'.ownsRow (q + 1) 9 1 v (T.length + 1) (T.map sv ++ [.string t])) (g : W.grownBy W' v2.ownBlock) : Sg9 w s p q o1 o2 v1 N v (T ++ [t]) W' := by
  have hb : Below w.heap.size W W' := Below.grown (Below.refl _ _) g h.bel.size (fun i hi => by have := own_row_ge h.own2 i hi; have := h.hq; omega)
  refine ⟨h.box.kept g ((own_ne h.own2 h.box (by decide)).symm), h.res.kept g ((own_ne h.own2 h.res (by decide)).symm), h.out.kept g ((own_ne h.own2 h.out (by decide)).symm), own_kp h.own1 (Kp.gb g) (fun i hi e => own_row h.own1 h.own2 (by decide) i hi e), ?_, h.inn.below hb, h.bel.trans hb, h.hq⟩
  rw [List.length_append, List.map_append]
  exact o
theorem Sg9.put (h : Sg9 w s p q o1 o2 v1 N v2 T W) : Sg9 w s p q v1 v2 v1 N v2 T ((W.setCell ⟨q, 3, none⟩ v1).setCell ⟨q, 4, none⟩ v2) := by
  have hq := h.hq
  have k1 := gb_set (w := W) q 3 v1
  have k2 := gb_set (w := W.setCell ⟨q, 3, none⟩ v1) q 4 v2
  have hb : Below w.heap.size W ((W.setCell ⟨q, 3, none⟩ v1).setCell ⟨q, 4, none⟩ v2) := below_gb (Below.refl _ _) (gb_trans k1 k2) (by omega) h.bel.size
  refine ⟨(h.box.kept k1 (fun e => by have := Option.some.inj e; omega)).kept k2 (fun e => by have := Option.some.inj e; omega), (h.res.kept k1 (fun e => by have := Option.some.inj e; omega)).kept k2 (fun e => by have := Option.some.inj e; omega),
    (h.out.put 3 v1).put 4 v2, ?_, ?_, h.inn.below hb, h.bel.trans hb, hq⟩
  · exact ownsRow_setCell_below (ownsRow_setCell_below h.own1 (a := ⟨q, 3, none⟩) (by simp) v1) (a := ⟨q, 4, none⟩) (by simp) v2
  · exact ownsRow_setCell_below (ownsRow_setCell_below h.own2 (a := ⟨q, 3, none⟩) (by simp) v1) (a := ⟨q, 4, none⟩) (by simp) v2
/-- the step that is built, behind its store into the result -/
theorem Sg9.done (h : Sg9 w s p q v1 v2 v1 N v2 T W) : ∃ p2 : SpAt, #[.string s.ref, .string s.old, .string s.new, v1, v2] = spArr { s with who := N, seals := T } p2 ∧
    ∀ W', W' = W.setRow (w.heap.size + 1) (spArr { s with who := N, seals := T } p2) → SpIn W' W'.heap.size { s with who := N, seals := T } p2 ∧ Below w.heap.size w W' := by
  have hq := h.hq
  obtain ⟨A, c, rfl, hc, _⟩ := own_nums h.own1
  obtain ⟨A2, c2, rfl, hc2, _, _⟩ := own_texts h.own2
  refine ⟨⟨A, c, A2, c2⟩, rfl, fun W' e => ?_⟩
  have k := gb_row (w := W) (w.heap.size + 1) (spArr { s with who := N, seals := T } ⟨A, c, A2, c2⟩)
  rw [← e] at k
  have o1 := own_kp h.own1 (Kp.gb k) (fun g hg => fun e => by have := own_row_ge h.own1 g hg; cases e; omega)
  have o2 := own_kp h.own2 (Kp.gb k) (fun g hg => fun e => by have := own_row_ge h.own2 g hg; cases e; omega)
  obtain ⟨A', c', e1, hc', hN⟩ := own_nums o1
  obtain ⟨A2', c2', e2, hc2', hT, _⟩ := own_texts o2
  cases e1
  cases e2
  exact ⟨⟨hN, hT, hc, hc2⟩, below_gb h.bel k (by omega) h.bel.size⟩
theorem wp_more {P : Program} {c : Code} {K : Act → World → Prop} {Q : Exit → Act → World → Prop} {a : Act} {w : World} {act : Option Addr → Nat → Option Addr → Nat → Nat → Nat → Act} (R : Option Addr → Nat → Option Addr → Nat → World → Prop)
    (h : ∀ K' : Act → World → Prop, (∀ A c A2 c2 n1 n2 V, R A c A2 c2 V → K' (act A c A2 c2 n1 n2) V) → c.wp P (Exit.then K' Q) a w) (k : ∀ A c A2 c2 n1 n2 V, R A c A2 c2 V → Exit.then K Q .normal (act A c A2 c2 n1 n2) V) : c.wp P (Exit.then K Q) a w := h K k
theorem wp_more1 {P : Program} {c : Code} {b : Nat} {K : Act → World → Prop} {Q : Exit → Act → World → Prop} {a : Act} {w : World} {act : Option Addr → Nat → Option Addr → Nat → Nat → Nat → Act} (R : Option Addr → Nat → Option Addr → Nat → World → Prop)
    (h : ∀ K' : Act → World → Prop, (∀ A c A2 c2 n1 n2 V, R A c A2 c2 V → K' (act A c A2 c2 n1 n2) V) → c.wp P (Exit.inBlock b (Exit.then K' Q)) a w) (k : ∀ A c A2 c2 n1 n2 V, R A c A2 c2 V → Exit.inBlock b (Exit.then K Q) .normal (act A c A2 c2 n1 n2) V) :
    c.wp P (Exit.inBlock b (Exit.then K Q)) a w := h K k
end
end Go.Proofs.YtenjnaebhbmfiaaDoor

/- Taking an operation of a region by hand. -/
namespace Go.Proofs.YtenjnaebhbmfiaaDoor
open Go.RowKit

section
variable {P : Program} {ops : Array Oper} {Q : Exit → Act → World → Prop} {md : Region.Mode} {S : World → Prop}
/-- an operation that yields is taken first -/
theorem takeY (i d : Nat) (v : Value) {oi : Oper} {fuel : Nat} {listed : Array Bool} {ts : Array Value} {df : List Deferred} {w : World} (hi : ops[i]? = some oi) (hd : oi.dst = some d)
    (hs : Region.noSelect ops = true) (hf : Region.free md ops listed i = true) (hr : (Region.ready md ops listed).contains i = true)
    (hQ : ∀ c a w, Q (.panic c) (a.put oi.dst v) w → Q (.panic c) a w) (hw : Region.wanted oi (yielded ops ts) = true)
    (hv : ∀ w, S w → (execOp (Act.eval ⟨ts, df⟩) oi).run P w = .ok (.value v) w) (hS : S w)
    (h : wpAnyH P md ops Q S fuel (listed.setIfInBounds i true) ⟨ts.setIfInBounds d v, df⟩ w) : wpAnyH P md ops Q S (fuel + 1) listed ⟨ts, df⟩ w :=
  wpAnyH_take hi hs hf hr hQ (Or.inl ⟨hw, hv⟩) hS (by rw [hd]; exact h)
/-- an operation that is not wanted is taken first -/
theorem takeN (i d : Nat) {oi : Oper} {fuel : Nat} {listed : Array Bool} {ts : Array Value} {df : List Deferred} {w : World} (hi : ops[i]? = some oi) (hd : oi.dst = some d)
    (hs : Region.noSelect ops = true) (hf : Region.free md ops listed i = true) (hr : (Region.ready md ops listed).contains i = true)
    (hQ : ∀ c a w, Q (.panic c) (a.put oi.dst undef) w → Q (.panic c) a w) (hw : Region.wanted oi (yielded ops ts) = false) (hS : S w)
    (h : wpAnyH P md ops Q S fuel (listed.setIfInBounds i true) ⟨ts.setIfInBounds d undef, df⟩ w) : wpAnyH P md ops Q S (fuel + 1) listed ⟨ts, df⟩ w :=
  wpAnyH_take hi hs hf hr hQ (Or.inr ⟨hw, rfl⟩) hS (by rw [hd]; exact h)
end
end Go.Proofs.YtenjnaebhbmfiaaDoor

/- A region that draws its order, with stores at its end: its loads are taken first, by cells that need hold only until the first store comes up. -/
namespace Go.Proofs.YtenjnaebhbmfiaaDoor
open Go.RowKit

section
variable {P : Program} {ops : Array Oper} {Q : Exit → Act → World → Prop} {md : Region.Mode} {F : World → Prop} {stop : Nat}
/-- whatever has come up, what it waits for has come up too -/
def ClosedL (md : Region.Mode) (ops : Array Oper) (listed : Array Bool) : Prop :=
  ∀ k o, ops[k]? = some o → listed.getD k false = true → ∀ e ∈ o.after, Region.binds md e = true → listed.getD e.on false = true
theorem ClosedL.start (md : Region.Mode) (ops : Array Oper) (n : Nat) : ClosedL md ops (Array.replicate n false) := fun k o _ h => by
  by_cases hk : k < n
  · simp [hk] at h
  · simp [hk] at h
theorem ClosedL.set {i : Nat} {listed : Array Bool} (h : ClosedL md ops listed) (hi : i ∈ Region.ready md ops listed) : ClosedL md ops (listed.setIfInBounds i true) := fun k o ho hk e he hb => by
  by_cases hki : i = k
  · subst hki
    obtain ⟨_, o', ho', hall⟩ := mem_ready.1 hi
    rw [ho] at ho'
    cases ho'
    exact getD_set_true (hall e he hb)
  · rw [getD_set_ne false hki] at hk
    exact getD_set_true (h k o ho hk e he hb)
/-- each operation of the list waits for the next -/
def pathB (md : Region.Mode) (ops : Array Oper) : List Nat → Bool
  | k :: l :: r => ((ops[k]?).map fun o => o.after.any fun e => Region.binds md e && e.on == l).getD false && pathB md ops (l :: r)
  | _ => true
theorem path_spec : ∀ (r : List Nat) (k i : Nat) (listed : Array Bool), pathB md ops (k :: r) = true → (k :: r).getLast? = some i → ClosedL md ops listed → listed.getD k false = true → listed.getD i false = true
  | [], k, i, listed, _, hl, _, h => by
    simp at hl
    subst hl
    exact h
  | l :: r, k, i, listed, hp, hl, hC, h => by
    rw [pathB, Bool.and_eq_true] at hp
    obtain ⟨h1, h2⟩ := hp
    cases ho : ops[k]? with
    | none => rw [ho] at h1; cases h1
    | some o =>
      rw [ho] at h1
      obtain ⟨e, he, hb⟩ := Array.any_eq_true'.1 h1
      rw [Bool.and_eq_true, beq_iff_eq] at hb
      have h3 := hC k o ho h e he hb.1
      rw [hb.2] at h3
      exact path_spec r l i listed h2 (by rw [List.getLast?_cons_cons] at hl; exact hl) hC h3
/-- whatever order is picked from here on, and the cells hold until the store comes up -/
def wpAnyL (P : Program) (md : Region.Mode) (ops : Array Oper) (Q : Exit → Act → World → Prop) (F : World → Prop) (stop : Nat) : Nat → Array Bool → Act → World → Prop
  | 0, listed, a, w => Region.ready md ops listed = [] ∧ Q .normal a w
  | fuel + 1, listed, a, w =>
    (Region.ready md ops listed = [] → Q .normal a w) ∧
    ∀ i ∈ Region.ready md ops listed, wpOp P ops Q i (fun a' w' => ((listed.setIfInBounds i true).getD stop false = true ∨ F w') ∧ wpAnyL P md ops Q F stop fuel (listed.setIfInBounds i true) a' w') a w
theorem wpAny_of_L : ∀ (fuel : Nat) (listed : Array Bool) (a : Act) (w : World), wpAnyL P md ops Q F stop fuel listed a w → wpAny P md ops Q fuel listed a w
  | 0, _, _, _, h => h
  | fuel + 1, _, _, _, h => ⟨h.1, fun i hi => wpOp_mono (fun a' w' h' => wpAny_of_L fuel _ a' w' h'.2) (h.2 i hi)⟩
theorem wpAnyL_first {i : Nat} {oi : Oper} {v : Value} (hi : ops[i]? = some oi) (hsel : ∀ (j : Nat) (o : Oper) cs b, ops[j]? = some o → o.op ≠ .select cs b)
    (hQ : ∀ c a w, Q (.panic c) (a.put oi.dst v) w → Q (.panic c) a w) (his : i ≠ stop) (hch : ∀ listed, ClosedL md ops listed → listed.getD stop false = true → listed.getD i false = true) :
    ∀ (fuel : Nat) (listed : Array Bool) (a : Act) (w : World),
      (∀ j oj, ops[j]? = some oj → j ≠ i → listed.getD j true = false → (∀ e ∈ oj.after, Region.binds md e = true → e.on ≠ i) → oi.apart ops oj = true) →
      i ∈ Region.ready md ops listed → YieldsIf P ops F oi v a → ClosedL md ops listed → (listed.getD stop false = true ∨ F w) →
      wpAnyL P md ops Q F stop fuel (listed.setIfInBounds i true) (a.put oi.dst v) w → wpAnyL P md ops Q F stop (fuel + 1) listed a w := by
  have hF : ∀ (listed : Array Bool) (w : World), i ∈ Region.ready md ops listed → ClosedL md ops listed → (listed.getD stop false = true ∨ F w) → F w := fun listed w hr hC hS => by
    rcases hS with hS | hS
    · have h1 := hch listed hC hS
      have h2 := (mem_ready.1 hr).1
      rcases Nat.lt_or_ge i listed.size with h' | h'
      · simp [h'] at h1 h2
        rw [h1] at h2
        cases h2
      · simp [Array.getElem?_eq_none h'] at h2
    · exact hS
  intro fuel
  induction fuel with
  | zero =>
    intro listed a w _ hr hy hC hS H
    have hf := hF listed w hr hC hS
    refine ⟨fun h => (by rw [h] at hr; cases hr), fun j hj => ?_⟩
    by_cases hji : j = i
    · subst hji
      exact hy.wpOp hi hf ⟨.inr hf, H⟩
    · have := ready_mono hj hji
      rw [H.1] at this
      cases this
  | succ fuel ih =>
    intro listed a w hfree hr hy hC hS H
    have hf := hF listed w hr hC hS
    refine ⟨fun h => (by rw [h] at hr; cases hr), fun j hj => ?_⟩
    by_cases hji : j = i
    · subst hji
      exact hy.wpOp hi hf ⟨.inr hf, H⟩
    · have h1 := H.2 j (ready_mono hj hji)
      obtain ⟨hjun, oj, hoj, hall⟩ := mem_ready.1 hj
      have hnot : ∀ e ∈ oj.after, Region.binds md e = true → e.on ≠ i := fun e he hb heq => by
        have h1 := hall e he hb
        have h0 := (mem_ready.1 hr).1
        rw [heq] at h1
        rcases Nat.lt_or_ge i listed.size with h' | h'
        · simp [h'] at h0 h1; rw [h0] at h1; cases h1
        · simp [Array.getElem?_eq_none h'] at h1
      have h2 := wpOp_putIf hoj (hfree j oj hoj hji hjun hnot) (fun cs b => hsel i oi cs b hi) (fun cs b => hsel j oj cs b hoj) hQ hy h1
      have hfree' : ∀ k ok, ops[k]? = some ok → k ≠ i → (listed.setIfInBounds j true).getD k true = false →
          (∀ e ∈ ok.after, Region.binds md e = true → e.on ≠ i) → oi.apart ops ok = true := fun k ok hk hki hun hno => by
        refine hfree k ok hk hki ?_ hno
        by_cases hjk : j = k
        · subst hjk; exact hjun
        · rw [getD_set_ne true hjk] at hun; exact hun
      refine wpOp_mono (fun a' w' h3 => ?_) h2
      have hs' : (listed.setIfInBounds j true).getD stop false = true ∨ F w' := by
        have h4 := h3.2.1
        rwa [← Array.setIfInBounds_comm _ _ hji, getD_set_ne false his] at h4
      refine ⟨hs', ih (listed.setIfInBounds j true) a' w' hfree' (ready_mono hr (Ne.symm hji)) h3.1 (hC.set hj) hs' ?_⟩
      rw [Array.setIfInBounds_comm _ _ hji]
      exact h3.2.2
/-- from here on -/
def GoL (P : Program) (md : Region.Mode) (ops : Array Oper) (Q : Exit → Act → World → Prop) (F : World → Prop) (stop : Nat) (fuel : Nat) (listed : Array Bool) (a : Act) (w : World) : Prop :=
  ClosedL md ops listed → (listed.getD stop false = true ∨ F w) → wpAnyL P md ops Q F stop fuel listed a w
theorem takeL (i d : Nat) (v : Value) (r : List Nat) {oi : Oper} {fuel : Nat} {listed : Array Bool} {ts : Array Value} {df : List Deferred} {w : World} (hi : ops[i]? = some oi) (hd : oi.dst = some d)
    (hs : Region.noSelect ops = true) (hf : Region.free md ops listed i = true) (hr : (Region.ready md ops listed).contains i = true)
    (hQ : ∀ c a w, Q (.panic c) (a.put oi.dst v) w → Q (.panic c) a w) (hw : Region.wanted oi (yielded ops ts) = true) (his : i ≠ stop) (hp : pathB md ops (stop :: r) = true) (hl : (stop :: r).getLast? = some i)
    (hv : ∀ w, F w → (execOp (Act.eval ⟨ts, df⟩) oi).run P w = .ok (.value v) w)
    (h : GoL P md ops Q F stop fuel (listed.setIfInBounds i true) ⟨ts.setIfInBounds d v, df⟩ w) : GoL P md ops Q F stop (fuel + 1) listed ⟨ts, df⟩ w := fun hC hS => by
  have hri : i ∈ Region.ready md ops listed := by simpa using hr
  refine wpAnyL_first hi (Region.noSelect_spec hs) hQ his (fun l c g => path_spec r stop i l hp hl c g) fuel listed _ w (Region.free_spec hi hf) hri (Or.inl ⟨hw, hv⟩) hC hS ?_
  rw [hd]
  exact h (hC.set hri) (by rw [getD_set_ne false his]; exact hS)
/-- an operation that reads nothing, wherever it stands -/
theorem readyL1 {i : Nat} {o : Oper} {fuel : Nat} {listed : Array Bool} {a : Act} {w : World} (hr : Region.ready md ops listed = [i]) (ho : ops[i]? = some o)
    (h : ∀ K' : Act → World → Prop, Shut (∀ a w, ((listed.setIfInBounds i true).getD stop false = true ∨ F w) → GoL P md ops Q F stop fuel (listed.setIfInBounds i true) a w → K' a w) →
      if Region.wanted o (yielded ops a.tmps) = true then Oper.wp P o a w K' Q else K' (a.put o.dst undef) w) : GoL P md ops Q F stop (fuel + 1) listed a w := fun hC _ => by
  have hi : i ∈ Region.ready md ops listed := by rw [hr]; exact List.mem_singleton_self i
  refine ⟨fun h0 => (by rw [hr] at h0; cases h0), fun j hj => ?_⟩
  rw [hr] at hj
  obtain rfl := List.mem_singleton.1 hj
  exact wpOp_step ho (fun K' hK => h K' (fun a w hS hG => hK a w ⟨hS, hG (hC.set hi) hS⟩))
theorem readyL2 {i j : Nat} {oi oj : Oper} {fuel : Nat} {listed : Array Bool} {a : Act} {w : World} (hr : Region.ready md ops listed = [i, j]) (hoi : ops[i]? = some oi) (hoj : ops[j]? = some oj)
    (h1 : ∀ K' : Act → World → Prop, Shut (∀ a w, ((listed.setIfInBounds i true).getD stop false = true ∨ F w) → GoL P md ops Q F stop fuel (listed.setIfInBounds i true) a w → K' a w) →
      if Region.wanted oi (yielded ops a.tmps) = true then Oper.wp P oi a w K' Q else K' (a.put oi.dst undef) w)
    (h2 : ∀ K' : Act → World → Prop, Shut (∀ a w, ((listed.setIfInBounds j true).getD stop false = true ∨ F w) → GoL P md ops Q F stop fuel (listed.setIfInBounds j true) a w → K' a w) →
      if Region.wanted oj (yielded ops a.tmps) = true then Oper.wp P oj a w K' Q else K' (a.put oj.dst undef) w) : GoL P md ops Q F stop (fuel + 1) listed a w := fun hC _ => by
  have hi : i ∈ Region.ready md ops listed := by rw [hr]; exact List.mem_cons_self
  have hj : j ∈ Region.ready md ops listed := by rw [hr]; exact List.mem_cons_of_mem _ (List.mem_singleton_self j)
  refine ⟨fun h0 => (by rw [hr] at h0; cases h0), fun k hk => ?_⟩
  rw [hr] at hk
  rcases List.mem_cons.1 hk with rfl | hk
  · exact wpOp_step hoi (fun K' hK => h1 K' (fun a w hS hG => hK a w ⟨hS, hG (hC.set hi) hS⟩))
  · obtain rfl := List.mem_singleton.1 hk
    exact wpOp_step hoj (fun K' hK => h2 K' (fun a w hS hG => hK a w ⟨hS, hG (hC.set hj) hS⟩))
theorem doneL {fuel : Nat} {listed : Array Bool} {a : Act} {w : World} (hr : Region.ready md ops listed = []) (h : Q .normal a w) : GoL P md ops Q F stop fuel listed a w := fun _ _ => by
  cases fuel with
  | zero => exact ⟨hr, h⟩
  | succ n => exact ⟨fun _ => h, by rw [hr]; simp⟩
theorem beginL {id : Nat} {a : Act} {w : World} (F : World → Prop) (stop : Nat) (hm : P.follows .mixedOrders = true) (hF : F w.drew) (h : GoL P .any ops Q F stop ops.size (Array.replicate ops.size false) a w.drew) : (Code.region id ops true).wp P Q a w :=
  wp_region_any hm (wpAny_of_L _ _ _ _ (h (ClosedL.start _ _ _) (.inr hF)))
end
end Go.Proofs.YtenjnaebhbmfiaaDoor
