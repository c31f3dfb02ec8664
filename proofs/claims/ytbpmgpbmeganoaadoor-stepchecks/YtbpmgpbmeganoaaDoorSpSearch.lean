/- Texts in one: SpGB, SpCopy, SpPlain, SpSearch. -/
import Derived.Test.YtbpmgpbmeganoaaDoorSpCat
import Derived.Test.YtbpmgpbmeganoaaDoorDkCh2
import Derived.Test.YtbpmgpbmeganoaaDoorDkMem
import Derived.Test.YtbpmgpbmeganoaaDoorSpMath
import Derived.Test.YtbpmgpbmeganoaaDoorSpMem
/- A valid step's body; a region that draws its order. -/
namespace Go.Proofs.YtbpmgpbmeganoaaDoor
open Go.RowKit

theorem spGB_small (i : Int) (s : Sp) (_ : (spGB i s).2 = 0) : (spGB i s).1.size ≤ 20000 := by
  unfold spGB
  split
  · exact Nat.zero_le _
  · unfold spBody
    split
    · exact Nat.zero_le _
    · split
      · exact Nat.zero_le _
      · rename_i h2
        unfold spLong at h2
        have := num_len9 i.toNat (by omega)
        have := txt_len s.ref (by omega)
        have := txt_len s.old (by omega)
        have := txt_len s.new (by omega)
        simp only [bs_size, spBodyL, List.length_append]
        omega
theorem spGB_good {i : Int} {s : Sp} (h : (spGB i s).2 = 0) : spGood s = 0 := by
  unfold spGB at h
  by_cases hg : spGood s = 0
  · exact hg
  · rw [if_pos hg] at h
    exact h
/-- a region that draws its order: whatever the order, the same act and a world of this kind -/
theorem wp_met {P : Program} {c : Code} {K : Act → World → Prop} {Q : Exit → Act → World → Prop} {a : Act} {w : World} {act : Option Addr → Nat → World → Act} (R : Option Addr → Nat → World → Prop)
    (h : ∀ K' : Act → World → Prop, (∀ A c U V, R A c V → K' (act A c U) V) → c.wp P (Exit.then K' Q) a w) (k : ∀ A c U V, R A c V → Exit.then K Q .normal (act A c U) V) : c.wp P (Exit.then K Q) a w := h K k
theorem wp_meet {P : Program} {c : Code} {K : Act → World → Prop} {Q : Exit → Act → World → Prop} {a : Act} {w : World} {act : World → Act} (R : World → Prop)
    (h : ∀ K' : Act → World → Prop, (∀ U V, R V → K' (act U) V) → c.wp P (Exit.then K' Q) a w) (k : ∀ U V, R V → Exit.then K Q .normal (act U) V) : c.wp P (Exit.then K Q) a w := h K k
theorem below_cell {V : World} {p : Addr} {u : Value} (h : V.cell? p = some u) (hl : p.block < V.heap.size) {o : Obj} : (V.alloc o).drew.cell? p = some u := (((Below.refl V.heap.size V).alloc (Nat.le_refl _) o).cell hl).trans h
end Go.Proofs.YtbpmgpbmeganoaaDoor

/- ref.CopyStep: its contract. -/
namespace Go.Proofs.YtbpmgpbmeganoaaDoor
open Go.RowKit

/-- where CopyStep stands: the step's box, the result's block -/
def Cy (w : World) (s : Sp) (p : SpAt) (W : World) : Prop := Arr W w.heap.size 25 (spArr s p) ∧ Arr W (w.heap.size + 1) 25 spZero ∧ SpIn W w.heap.size s p ∧ Below w.heap.size w W
/-- both lists are copied into the box -/
structure Cy2 (w : World) (s : Sp) (v v2 : Value) (W : World) : Prop where
  box : Arr W w.heap.size 25 #[.string s.ref, .string s.old, .string s.new, v, v2]
  res : Arr W (w.heap.size + 1) 25 spZero
  own : W.ownsRow (w.heap.size + 2) 3 1 v s.who.length (s.who.map iv)
  own2 : W.ownsRow (w.heap.size + 2) 9 1 v2 s.seals.length (s.seals.map sv)
  bel : Below w.heap.size w W
def CpEnd (w : World) (s : Sp) (x : Ending) (w' : World) : Prop := ∃ p, x = .returned (.agg (spArr s p)) ∧ SpIn w' w'.heap.size s p ∧ Below w.heap.size w w'
theorem Cy2.done {w W : World} {s : Sp} {v v2 : Value} (h : Cy2 w s v v2 W) : ∃ p : SpAt, #[.string s.ref, .string s.old, .string s.new, v, v2] = spArr s p ∧
    ∀ W', W' = W.setRow (w.heap.size + 1) (spArr s p) → SpIn W' W'.heap.size s p ∧ Below w.heap.size w W' := by
  obtain ⟨A, c, rfl, hc, _⟩ := own_nums h.own
  obtain ⟨A2, c2, rfl, hc2, _, _⟩ := own_texts h.own2
  refine ⟨⟨A, c, A2, c2⟩, rfl, fun W' e => ?_⟩
  have k := gb_row (w := W) (w.heap.size + 1) (spArr s ⟨A, c, A2, c2⟩)
  rw [← e] at k
  have o1 := own_kp h.own (Kp.gb k) (fun g hg => fun e => by have := own_row_ge h.own g hg; cases e; omega)
  have o2 := own_kp h.own2 (Kp.gb k) (fun g hg => fun e => by have := own_row_ge h.own2 g hg; cases e; omega)
  obtain ⟨A', c', e1, hc', hN⟩ := own_nums o1
  obtain ⟨A2', c2', e2, hc2', hT, _⟩ := own_texts o2
  cases e1
  cases e2
  exact ⟨⟨hN, hT, hc, hc2⟩, below_gb h.bel k (by omega) h.bel.size⟩
theorem wp_four {P : Program} {c : Code} {K : Act → World → Prop} {Q : Exit → Act → World → Prop} {a : Act} {w : World} {act : Option Addr → Nat → Option Addr → Nat → Act} (R : Option Addr → Nat → Option Addr → Nat → World → Prop)
    (h : ∀ K' : Act → World → Prop, (∀ A c A2 c2 V, R A c A2 c2 V → K' (act A c A2 c2) V) → c.wp P (Exit.then K' Q) a w) (k : ∀ A c A2 c2 V, R A c A2 c2 V → Exit.then K Q .normal (act A c A2 c2) V) : c.wp P (Exit.then K Q) a w := h K k
theorem Cy.two {w W V : World} {s : Sp} {p : SpAt} (h : Cy w s p W) (b : Below W.heap.size W V) {v v2 : Value} (o : V.ownsRow (w.heap.size + 2) 3 1 v s.who.length (s.who.map iv)) (o2 : V.ownsRow (w.heap.size + 2) 9 1 v2 s.seals.length (s.seals.map sv)) :
    Cy2 w s v v2 ((V.setCell ⟨w.heap.size, 3, none⟩ v).setCell ⟨w.heap.size, 4, none⟩ v2) := by
  have hlt := h.2.1.lt
  have A0 := h.1.below b h.1.lt
  have A1 := h.2.1.below b h.2.1.lt
  have bel := h.2.2.2.trans (b.mono h.2.2.2.size)
  have k1 := gb_set (w := V) w.heap.size 3 v
  have k2 := gb_set (w := V.setCell ⟨w.heap.size, 3, none⟩ v) w.heap.size 4 v2
  refine ⟨(A0.put 3 v).put 4 v2, (A1.kept k1 (fun e => by have := Option.some.inj e; omega)).kept k2 (fun e => by have := Option.some.inj e; omega), ?_, ?_, below_gb bel (gb_trans k1 k2) (Nat.le_refl _) bel.size⟩
  · exact ownsRow_setCell_below (ownsRow_setCell_below o (a := ⟨w.heap.size, 3, none⟩) (by simp) v) (a := ⟨w.heap.size, 4, none⟩) (by simp) v2
  · exact ownsRow_setCell_below (ownsRow_setCell_below o2 (a := ⟨w.heap.size, 3, none⟩) (by simp) v) (a := ⟨w.heap.size, 4, none⟩) (by simp) v2
set_option maxRecDepth 100000 in
set_option maxHeartbeats 8000000 in
theorem CopyStep_any (s : Sp) (p : SpAt) (w : World) (hP : SpIn w w.heap.size s p) (hz : SpSz s) : Calls Tryd.prog 14 #[.agg (spArr s p)] w (CpEnd w s) := by
  obtain ⟨wa, wc, sa, sc⟩ := p
  obtain ⟨si, hsi, sz0, sz1, sz2⟩ := info_parts info_str
  have Hsi := Lib.hid hsi
  have Sz0 := Lib.hid sz0
  have Sz1 := Lib.hid sz1
  have Sz2 := Lib.hid sz2
  obtain ⟨ii, hii, iz0, iz1, iz2⟩ := info_parts info_int
  have Hii := Lib.hid hii
  have Iz0 := Lib.hid iz0
  have Iz1 := Lib.hid iz1
  have Iz2 := Lib.hid iz2
  have hz1 := hz.who
  have hz2 := hz.seals
  have h1 : Hid (Cy w s ⟨wa, wc, sa, sc⟩ ((w.alloc (.cells (spArr s ⟨wa, wc, sa, sc⟩) 25)).alloc (.cells spZero 25))) := by
    have A0 : Arr (w.alloc (.cells (spArr s ⟨wa, wc, sa, sc⟩) 25)) w.heap.size 25 (spArr s ⟨wa, wc, sa, sc⟩) := Arr.new _ _ _
    have b0 : Below w.heap.size w (w.alloc (.cells (spArr s ⟨wa, wc, sa, sc⟩) 25)) := (Below.refl _ _).alloc (Nat.le_refl _) _
    have hz : (w.alloc (.cells (spArr s ⟨wa, wc, sa, sc⟩) 25)).heap.size = w.heap.size + 1 := World.size_alloc _ _
    generalize w.alloc (.cells (spArr s ⟨wa, wc, sa, sc⟩) 25) = V at *
    have A1 : Arr (V.alloc (.cells spZero 25)) V.heap.size 25 spZero := Arr.new _ _ _
    have b1 : Below V.heap.size V (V.alloc (.cells spZero 25)) := (Below.refl _ _).alloc (Nat.le_refl _) _
    have bb := b0.trans (b1.mono b0.size)
    rw [hz] at A1
    exact ⟨A0.below b1 A0.lt, A1, hP.below bb, bb⟩
  clear hsi sz0 sz1 sz2 hii iz0 iz1 iz2 hP hz
  generalize hA : spArr s ⟨wa, wc, sa, sc⟩ = arr at *
  have HA := Lib.hid hA
  clear hA
  go_enter Tryd.func14, Tryd.ntmps14
  go_upto_region 1 with fail
  refine wp_forget (Cy w s ⟨wa, wc, sa, sc⟩) h1.out ?_
  clear h1
  intro W hW
  have hA := HA.out
  clear HA
  subst hA
  have d3 : W.drew.cell? ⟨w.heap.size, 3, none⟩ = some (.slice wa s.who.length wc) := hW.1.cell 3
  have d4 : W.drew.cell? ⟨w.heap.size, 4, none⟩ = some (.slice sa s.seals.length sc) := hW.1.cell 4
  have HW := Lib.hid hW
  have hs2 : w.heap.size + 2 ≤ W.drew.heap.size := hW.2.1.lt
  have NI0 : News W.drew wa s.who.length (s.who.map iv) := hW.2.2.1.nums.news
  have NT0 : News W.drew sa s.seals.length (s.seals.map sv) := hW.2.2.1.txs.news
  have HTx := Lib.hid hW.2.2.1.txs
  have HNu := Lib.hid hW.2.2.1.nums
  have hbe := hW.2.2.2.size
  clear hW
  apply wp_four (R := fun A c A2 c2 V => Cy2 w s (.slice A s.who.length c) (.slice A2 s.seals.length c2) V)
  case h =>
    intro K' hK'
    go_region_law (first
      | (refine step_app _ rfl _ _ 22 rfl (w.heap.size + 2) 3 ii _ 1 8 Tryd.underlying22 Hii.out Iz0.out Iz1.out Iz2.out rfl (by decide) (.slice none 0 0) 0 [] rfl (own_nil _ _ _ _) wa s.who.length wc (s.who.map iv) rfl (by rw [List.length_map, Nat.mul_one]) NI0 (iv_one _) (by unfold maxLen; omega) (by omega) hs2 ?_
         intro vI wI oI gI
         have bI : Below W.heap.size W wI := ((Below.refl _ W).drew).trans (Below.grown (Below.refl _ _) gI (Nat.le_refl _) (fun q hq => by cases hq))
         simp only [Nat.zero_add, List.nil_append] at oI
         obtain ⟨A9, c9, rfl, _, _⟩ := own_nums oI
         have NT1 : News wI sa s.seals.length (s.seals.map sv) := (HTx.out.below (bI.mono hbe)).news
         have hs3 : w.heap.size + 2 ≤ wI.heap.size := Nat.le_trans hs2 bI.size
         have x3 : wI.cell? ⟨w.heap.size, 3, none⟩ = some (.slice wa s.who.length wc) := (HW.out.1.below bI HW.out.1.lt).cell 3
         have x4 : wI.cell? ⟨w.heap.size, 4, none⟩ = some (.slice sa s.seals.length sc) := (HW.out.1.below bI HW.out.1.lt).cell 4)
      | (refine step_app _ rfl _ _ 23 rfl (w.heap.size + 2) 9 si _ 1 16 Tryd.underlying23 Hsi.out Sz0.out Sz1.out Sz2.out rfl (by decide) (.slice none 0 0) 0 [] rfl (own_nil _ _ _ _) sa s.seals.length sc (s.seals.map sv) rfl (by rw [List.length_map, Nat.mul_one]) NT1 (sv_one _) (by unfold maxLen; omega) (by omega) hs3 ?_
         intro vT wT oT gT
         have bT : Below W.heap.size W wT := bI.trans ((Below.grown (Below.refl _ _) gT (Nat.le_refl _) (fun q hq => by cases hq)).mono bI.size)
         simp only [Nat.zero_add, List.nil_append] at oT
         have oI2 := own_kp oI (Kp.gb gT) (fun q hq e => by cases e)
         obtain ⟨A10, c10, rfl, _, _, _⟩ := own_texts oT
         have hfin := Lib.hid (HW.out.two bT oI2 oT)
         have hbx := HW.out.1.below bT HW.out.1.lt
         have x5 : wT.cell? ⟨w.heap.size, 3, none⟩ = some (.slice wa s.who.length wc) := hbx.cell 3
         have x6 := hbx.free 3
         have hbx2 := hbx.put 3 (.slice A9 s.who.length c9)
         have x7 : (wT.setCell ⟨w.heap.size, 3, none⟩ (.slice A9 s.who.length c9)).cell? ⟨w.heap.size, 4, none⟩ = some (.slice sa s.seals.length sc) := hbx2.cell 4
         have x8 := hbx2.free 4)
      | (refine step_app _ rfl _ _ 23 rfl (w.heap.size + 2) 9 si _ 1 16 Tryd.underlying23 Hsi.out Sz0.out Sz1.out Sz2.out rfl (by decide) (.slice none 0 0) 0 [] rfl (own_nil _ _ _ _) sa s.seals.length sc (s.seals.map sv) rfl (by rw [List.length_map, Nat.mul_one]) NT0 (sv_one _) (by unfold maxLen; omega) (by omega) hs2 ?_
         intro vT wT oT gT
         have bT : Below W.heap.size W wT := ((Below.refl _ W).drew).trans (Below.grown (Below.refl _ _) gT (Nat.le_refl _) (fun q hq => by cases hq))
         simp only [Nat.zero_add, List.nil_append] at oT
         obtain ⟨A10, c10, rfl, _, _, _⟩ := own_texts oT
         have NI1 : News wT wa s.who.length (s.who.map iv) := (HNu.out.below (bT.mono hbe)).news
         have hs3 : w.heap.size + 2 ≤ wT.heap.size := Nat.le_trans hs2 bT.size
         have x3 : wT.cell? ⟨w.heap.size, 3, none⟩ = some (.slice wa s.who.length wc) := (HW.out.1.below bT HW.out.1.lt).cell 3
         have x4 : wT.cell? ⟨w.heap.size, 4, none⟩ = some (.slice sa s.seals.length sc) := (HW.out.1.below bT HW.out.1.lt).cell 4)
      | (refine step_app _ rfl _ _ 22 rfl (w.heap.size + 2) 3 ii _ 1 8 Tryd.underlying22 Hii.out Iz0.out Iz1.out Iz2.out rfl (by decide) (.slice none 0 0) 0 [] rfl (own_nil _ _ _ _) wa s.who.length wc (s.who.map iv) rfl (by rw [List.length_map, Nat.mul_one]) NI1 (iv_one _) (by unfold maxLen; omega) (by omega) hs3 ?_
         intro vI wI oI gI
         have bI : Below W.heap.size W wI := bT.trans ((Below.grown (Below.refl _ _) gI (Nat.le_refl _) (fun q hq => by cases hq)).mono bT.size)
         simp only [Nat.zero_add, List.nil_append] at oI
         have oT2 := own_kp oT (Kp.gb gI) (fun q hq e => by cases e)
         obtain ⟨A9, c9, rfl, _, _⟩ := own_nums oI
         have hfin := Lib.hid (HW.out.two bI oI oT2)
         have hbx := HW.out.1.below bI HW.out.1.lt
         have x5 : wI.cell? ⟨w.heap.size, 3, none⟩ = some (.slice wa s.who.length wc) := hbx.cell 3
         have x6 := hbx.free 3
         have hbx2 := hbx.put 3 (.slice A9 s.who.length c9)
         have x7 : (wI.setCell ⟨w.heap.size, 3, none⟩ (.slice A9 s.who.length c9)).cell? ⟨w.heap.size, 4, none⟩ = some (.slice sa s.seals.length sc) := hbx2.cell 4
         have x8 := hbx2.free 4))
    all_goals (go_simp; exact hK' A9 c9 A10 c10 _ hfin.out)
  case k =>
    intro A9 c9 A10 c10 V hV
    obtain ⟨p, he, hd⟩ := hV.done
    have hbx := hV.box
    rw [he] at hbx
    go_wp2_with (first
      | refine wpList_load_row rfl 25 _ rfl w.heap.size rfl 25 _ (0, 0) _ hbx Tryd.underlying25 rfl (spInfo s p) ?_
      | refine wpList_store_row rfl 25 _ _ rfl (w.heap.size + 1) (spArr s p) rfl rfl 25 spZero hV.res (spInfo s p) rfl (spArr_one s p) ?_)
    refine bodyPost_ret (v := .agg (spArr s p)) ?_ rfl ⟨p, rfl, hd _ rfl⟩
    exact results_cell_row Tryd.results14 _ _ (w.heap.size + 1) 25 _ (0, 0) _ rfl (hV.res.row _) Tryd.underlying25 rfl (spInfo s p)
end Go.Proofs.YtbpmgpbmeganoaaDoor

/- What Sign and Check answer of valid steps: plain. -/
namespace Go.Proofs.YtbpmgpbmeganoaaDoor
open Go.RowKit

section
variable {s : Sp} {i x : Int} {key t : ByteArray} {K : List ByteArray} {need : Int}
theorem gb_ok (h : spGood s = 0) (h0 : 0 ≤ i) (h1 : i ≤ 199) : spGB i s = (bs (spBodyL i.toNat s), 0) := by
  unfold spGB spBody
  rw [if_neg (by simp [h]), if_neg (by omega), if_neg (spGood_long h)]
theorem gb_no (h : spGood s = 0) (h0 : i < 0 ∨ 199 < i) : spGB i s = (⟨#[]⟩, 3) := by
  unfold spGB spBody
  rw [if_neg (by simp [h]), if_pos h0]
theorem sign_ok (h : spGood s = 0) (h0 : 0 ≤ i) (h1 : i ≤ 199) (hx : 0 ≤ x) (hx7 : x ≤ 7) (hn : x ∉ s.who) : spSign s i x key = (spPut s x (sealB key (bs (spBodyL i.toNat s))), 0) := by
  unfold spSign
  rw [gb_ok h h0 h1, if_neg (by simp), if_neg (by omega), if_neg hn]
theorem sign_ok_iff : (spSign s i x key).2 = 0 → spGood s = 0 ∧ 0 ≤ i ∧ i ≤ 199 ∧ 0 ≤ x ∧ x ≤ 7 ∧ x ∉ s.who := by
  intro h
  unfold spSign at h
  by_cases hg : (spGB i s).2 = 0
  · rw [if_neg (by simp [hg])] at h
    by_cases hx : x < 0 ∨ 7 < x
    · rw [if_pos hx] at h; cases h
    · rw [if_neg hx] at h
      by_cases hm : x ∈ s.who
      · rw [if_pos hm] at h; cases h
      · have hgd := spGB_good hg
        by_cases hi : i < 0 ∨ 199 < i
        · rw [gb_no hgd hi] at hg; cases hg
        · exact ⟨hgd, by omega, by omega, by omega, by omega, hm⟩
  · rw [if_pos hg] at h
    exact absurd h hg
theorem check_eq (h : spGood s = 0) (h0 : 0 ≤ i) (h1 : i ≤ 199) : spCheck K need i s = if s.prs.all (okSg K (bs (spBodyL i.toNat s))) && decide (need ≤ s.seals.length) then 0 else 13 := by
  unfold spCheck
  rw [gb_ok h h0 h1, if_neg (by simp)]
theorem sealB_size (key b : ByteArray) : (sealB key b).size = 32 := by
  unfold sealB
  rw [bs_size]
  exact sha_length _
theorem put_body (j : Nat) : spBodyL j (spPut s x t) = spBodyL j s := rfl
/-- Sign keeps a step valid -/
theorem sign_good (h : spGood s = 0) (hx : 0 ≤ x) (hx7 : x ≤ 7) (hn : x ∉ s.who) (b : ByteArray) : spGood (spPut s x (sealB key b)) = 0 ∧ (spPut s x (sealB key b)).prs = putP x (sealB key b) s.prs ∧ (spPut s x (sealB key b)).who.length = s.who.length + 1 ∧ (spPut s x (sealB key b)).seals.length = s.who.length + 1 :=
  put_good h hx hx7 (sealB_size _ _) hn
end
/-- the step, the keys that steps() asks -/
def sp0 : Sp := ⟨⟨#[97]⟩, ⟨#[]⟩, ⟨#[48, 49, 50, 51, 52, 53, 54, 55, 56, 57, 97, 98, 99, 100, 101, 102, 48, 49, 50, 51, 52, 53, 54, 55, 56, 57, 97, 98, 99, 100, 101, 102]⟩, [], []⟩
theorem sp0_good : spGood sp0 = 0 := by decide +kernel
theorem steps_sign : spSign sp0 0 1 ⟨#[107]⟩ = (spPut sp0 1 (sealB ⟨#[107]⟩ (bs (spBodyL 0 sp0))), 0) := sign_ok sp0_good (by decide) (by decide) (by decide) (by decide) (by decide)
theorem steps_check : spCheck [⟨#[]⟩, ⟨#[107]⟩] 1 0 (spPut sp0 1 (sealB ⟨#[107]⟩ (bs (spBodyL 0 sp0)))) = 0 := by
  obtain ⟨h1, h2, _, h4⟩ := sign_good (key := ⟨#[107]⟩) sp0_good (x := 1) (by decide) (by decide) (by decide) (bs (spBodyL 0 sp0))
  rw [check_eq h1 (by decide) (by decide), h2, h4]
  rw [put_body]
  have e : sp0.prs = [] := rfl
  rw [e]
  show (if ([((1 : Int), sealB ⟨#[107]⟩ (bs (spBodyL 0 sp0)))].all (okSg [⟨#[]⟩, ⟨#[107]⟩] (bs (spBodyL (0 : Int).toNat sp0))) && decide ((1 : Int) ≤ ((0 + 1 : Nat) : Int))) = true then (0 : Int) else 13) = 0
  simp [okSg]
end Go.Proofs.YtbpmgpbmeganoaaDoor

/- slices.BinarySearch at rising numbers: its contract. -/
namespace Go.Proofs.YtbpmgpbmeganoaaDoor
open Go.RowKit

theorem cNaN_any (x : Int) (w : World) : Calls Tryd.prog 97 #[.int .i64 x] w fun e w' => e = .returned (.bool false) ∧ w' = w := by
  go_enter Tryd.func97, Tryd.ntmps97
  go_wp2_with fail
  go_ret
  exact ⟨by simp, rfl⟩
theorem sNaN_any (x : Int) (w : World) : Calls Tryd.prog 81 #[.int .i64 x] w fun e w' => e = .returned (.bool false) ∧ w' = w := by
  go_enter Tryd.func81, Tryd.ntmps81
  go_wp2_with fail
  go_ret
  exact ⟨by simp, rfl⟩
theorem lessI_any (x y : Int) (w : World) : Calls Tryd.prog 80 #[.int .i64 x, .int .i64 y] w fun e w' => e = .returned (.bool (decide (x < y))) ∧ w' = w := by
  go_enter Tryd.func80, Tryd.ntmps80
  go_wp2_with fail
  (with_reducible refine (cNaN_any x w).mono ?_)
  rintro _ _ ⟨rfl, rfl⟩
  go_wp2_with fail
  go_ret
  exact ⟨rfl, rfl⟩
def IbRel (N : List Int) (x : Int) (w : World) (i j : Value) (wr : World) : Prop :=
  ∃ a b : Nat, i = .int .i64 (a : Int) ∧ j = .int .i64 (b : Int) ∧ a ≤ lowI x N ∧ lowI x N ≤ b ∧ b ≤ N.length ∧ w = wr
set_option maxRecDepth 100000 in
set_option maxHeartbeats 1000000 in
theorem intSearch_any (N : List Int) (x : Int) (A : Option Addr) (c : Nat) (w : World) (hP : NumsA w w.heap.size A N) (hl : N.length ≤ 100000) (hr : risI (-1) N) :
    Calls Tryd.prog 58 #[.slice A N.length c, .int .i64 x] w fun e w' => e = .returned (.tuple #[.int .i64 (lowI x N : Int), .bool (decide (x ∈ N))]) ∧ w' = w := by
  have hle := lowI_le x N
  have HG := Lib.hid (lowI_mem x N _ hr)
  have HS := Lib.hid (lowI_split x N _ hr)
  have h1 : Hid (IbRel N x w (.int .i64 0) (.int .i64 (N.length : Int)) w) := ⟨0, N.length, rfl, rfl, Nat.zero_le _, hle, Nat.le_refl _, rfl⟩
  have hlw : lowI x N ≤ 100000 := by omega
  go_enter Tryd.func58, Tryd.ntmps58
  go_wp2_with fail
  go_loopw [7, 8] (fun i j wr => IbRel N x w i j wr) (fun i j _ => (intOf j - intOf i).toNat)
  case atStart => exact h1.out
  case round =>
    clear h1
    obtain ⟨a, b, rfl, rfl, ha, hb, hbl, rfl⟩ := hrel
    by_cases hlt : a < b
    · have hj : (a : Int) < b := by omega
      have hml : (a + b) / 2 < N.length := by omega
      have hmi : ((a : Int) + b) / 2 < N.length := by omega
      have hx : N[(a + b) / 2]? = some N[(a + b) / 2] := List.getElem?_eq_getElem hml
      obtain ⟨ad, rfl, hbk, h0⟩ := hP _ _ hx
      have hsx := HS.out _ _ hx
      clear hx
      generalize N[(a + b) / 2] = y at *
      have C := Lib.hid (lessI_any y x w)
      go_wp2_with fail
      (with_reducible refine C.out.mono ?_)
      clear C h0
      rintro _ w2 ⟨rfl, rfl⟩
      by_cases hz : y < x
      · have hlo := hsx.1 hz
        clear hsx
        go_wp2_with fail
        go_roundw
        case rel => exact ⟨(a + b) / 2 + 1, b, by congr 1, rfl, by omega, hb, hbl, rfl⟩
        case measure => simp [intOf]; omega
      · have hlo : ¬ (a + b) / 2 < lowI x N := fun h => hz (hsx.2 h)
        clear hsx
        go_wp2_with fail
        go_roundw
        case rel => exact ⟨a, (a + b) / 2, rfl, by congr 1, ha, by omega, by omega, rfl⟩
        case measure => simp [intOf]; omega
    · have ea : a = lowI x N := by omega
      have eb : b = lowI x N := by omega
      subst eb
      rw [ea]
      have hj : ¬ (lowI x N : Int) < lowI x N := by omega
      clear hlt ea ha hb hbl
      have CN := Lib.hid (fun z => sNaN_any z w)
      cases hx : N[lowI x N]? with
      | none =>
        have hge := List.getElem?_eq_none_iff.1 hx
        have hj2 : ¬ (lowI x N : Int) < N.length := by omega
        have HN : Hid (decide (x ∈ N) = false) := by show _ = _; rw [decide_eq_false_iff_not, HG.out, hx]; simp
        clear HG HS hx
        go_wp2_with fail
        go_ret2
        exact ⟨by rw [HN.out]; rfl, rfl⟩
      | some y =>
        obtain ⟨hlt, _⟩ := List.getElem?_eq_some_iff.1 hx
        have hj2 : (lowI x N : Int) < N.length := by omega
        obtain ⟨ad, rfl, hbk, h0⟩ := hP _ _ hx
        have HN : Hid (decide (x ∈ N) = (y == x)) := by
          show _ = _
          by_cases e : y = x
          · rw [decide_eq_true (HG.out.2 (by rw [hx, e])), e]; simp
          · rw [decide_eq_false (fun h => e (by have := HG.out.1 h; rw [hx] at this; exact Option.some.inj this))]
            symm
            rw [beq_eq_false_iff_ne]; exact e
        clear HG HS hx
        by_cases hz : y = x
        · subst hz
          go_wp2_with fail
          go_ret2
          exact ⟨by rw [HN.out, beq_self_eq_true]; rfl, rfl⟩
        · have hz' : (y == x) = false := by rw [beq_eq_false_iff_ne]; exact hz
          go_wp2_with fail
          (with_reducible refine (CN.out y).mono ?_)
          rintro _ _ ⟨rfl, rfl⟩
          go_wp2_with fail
          go_ret2
          exact ⟨by rw [HN.out, hz']; rfl, rfl⟩
end Go.Proofs.YtbpmgpbmeganoaaDoor
