/- Texts in one: StNew, OLinks. -/
import Derived.Test.YtmikfmcgddmplaaGreatDoorODecC
import Derived.Test.YtmikfmcgddmplaaGreatDoorOApp
import Derived.Test.YtmikfmcgddmplaaGreatDoorOEncB
import Derived.Deep.Cut
/- store.newVisits: its contract; what Descends answers. -/
namespace Go.Proofs.YtmikfmcgddmplaaGreatDoor
open Go.RowKit

def NvEnd (w : World) (T : List ByteArray) (x : Ending) (w' : World) : Prop :=
  ∃ g gm v, x = .returned (.pointer (some ⟨g, 0, none⟩)) ∧ Vi w.heap.size g gm T v w' ∧ Below w.heap.size w w'
set_option maxRecDepth 100000 in
set_option maxHeartbeats 1000000 in
theorem newVisits_any (U : List ByteArray) (A : Option Addr) (c : Nat) (w : World) (hU : Txs w w.heap.size A U) (hl : U.length * 16 ≤ 140737488355328) :
    Calls Tryz.prog 20 #[.slice A U.length c] w (NvEnd w (addAll [] U)) := by
  have hmm : ∀ W : World, (Instr.makeMap 48 none).run Tryz.prog W = .ok (.map (some W.heap.size)) (W.alloc (.map #[] 0)) := fun _ => rfl
  have HF : Hid (Vi w.heap.size (w.heap.size + 1) w.heap.size [] (.slice none 0 0) ((w.alloc (.map #[] 0)).alloc (.cells (viArr (.slice none 0 0) w.heap.size) 50)) ∧ Below w.heap.size w ((w.alloc (.map #[] 0)).alloc (.cells (viArr (.slice none 0 0) w.heap.size) 50))) := by
    have b1 : Below w.heap.size w (w.alloc (.map #[] 0)) := (Below.refl _ _).alloc (Nat.le_refl _) _
    have b2 : Below w.heap.size w ((w.alloc (.map #[] 0)).alloc (.cells (viArr (.slice none 0 0) w.heap.size) 50)) := b1.alloc (by simp) _
    have hM : MapX (w.alloc (.map #[] 0)) w.heap.size [] := MapX.new w
    exact ⟨⟨Arr.new_at _ _ _ (by simp), own_nil _ _ _ _, ⟨[], (Below.heap_alloc _ _ _ hM.lt).trans hM, keyX_nil, fun x hx => by cases hx⟩, by omega, Nat.le_refl _, b2.size⟩, b2⟩
  go_enter Tryz.func20, Tryz.ntmps20
  go_upto_region 2 with fail
  refine wp_forget (fun W => Vi w.heap.size (w.heap.size + 1) w.heap.size [] (.slice none 0 0) W ∧ Below w.heap.size w W) (by exact HF.out) ?_
  clear HF hmm
  rintro W ⟨hV, hB⟩
  have C := Lib.hid (vadd_any hV U A c ((hU.below hB).mono hB.size) (fun ad _ e => by cases e) (by simpa using hl))
  clear hV
  go_wp2_with fail
  (with_reducible refine C.out.mono ?_)
  rintro _ W2 ⟨rfl, ⟨v', hV2⟩, b2⟩
  go_wp2_with fail
  go_ret
  exact ⟨_, _, v', rfl, hV2, hB.trans b2⟩
/-- what Descends answers: the ids that have come up, how many of them are seen -/
def descGo (G : ByteArray → ByteArray × Int) (to : ByteArray) : Nat → List ByteArray → Nat → Bool
  | 0, _, _ => false
  | n + 1, V, i => if i < min V.length 400 then (if V.getD i ⟨#[]⟩ = to then true else descGo G to n (addAll V (loadR (G (V.getD i ⟨#[]⟩))).1.pars) (i + 1)) else false
def desc (G : ByteArray → ByteArray × Int) (id to : ByteArray) : Bool := descGo G to 401 [id] 0
theorem loadR_pars (r : ByteArray × Int) : (loadR r).1.pars.length ≤ 4 := by
  unfold loadR
  split
  · simp [Ob.none]
  · split
    · simp [Ob.none]
    · rename_i h
      have h2 : (decO r.1.data.toList).2 = 0 := by
        by_cases e : (decO r.1.data.toList).2 = 0
        · exact e
        · exact absurd e h
      exact (good_facts (dec_only h2).2.1).pars
end Go.Proofs.YtmikfmcgddmplaaGreatDoor

/- object.Links, ref.Links: their contracts. -/
namespace Go.Proofs.YtmikfmcgddmplaaGreatDoor
open Go.RowKit

def linksL (o : Ob) : List ByteArray := if o.kind = 2 then o.ents.map (·.id) else if o.kind = 3 then o.tree :: o.pars else if o.kind = 4 then [o.target] else []
/-- behind Links -/
def LEndA (w : World) (T : List ByteArray) (x : Ending) (w' : World) : Prop := ∃ A c, x = .returned (.slice A T.length c) ∧ Txs w' w'.heap.size A T ∧ Below w.heap.size w w' ∧ ∀ ad, A = some ad → w.heap.size < ad.block
def LEnd (w : World) (T : List ByteArray) (x : Ending) (w' : World) : Prop := ∃ A c, x = .returned (.slice A T.length c) ∧ Txs w' w'.heap.size A T ∧ Below w.heap.size w w'
theorem lend_own {w W : World} {v : Value} {T : List ByteArray} {base : Nat} (h : W.ownsRow base 9 1 v T.length (T.map sv)) (b : Below w.heap.size w W) (hb : w.heap.size < base) : LEndA w T (.returned v) W := by
  obtain ⟨A, c, rfl, _, hT, hA⟩ := own_texts h
  exact ⟨A, c, rfl, hT, b, fun ad e => Nat.lt_of_lt_of_le hb (hA ad e)⟩
def idsL (L : List Ent) : List ByteArray := L.map (·.id)
theorem idsL_step (L : List Ent) (k : Nat) (h : k < L.length) : idsL (L.take (k + 1)) = idsL (L.take k) ++ [L[k].id] := by
  unfold idsL
  rw [List.take_succ_eq_append_getElem h, List.map_append]
  rfl
theorem idsL_len (L : List Ent) (k : Nat) (h : k ≤ L.length) : (idsL (L.take k)).length = k := by
  unfold idsL
  rw [List.length_map, List.length_take]
  omega
/-- a round: the box, the ids so far -/
def LinkRel (w : World) (o : Ob) (p : At) (v i : Value) (wr : World) : Prop :=
  ∃ k : Nat, k ≤ o.ents.length ∧ i = .int .i64 (k : Int) ∧ Bx w o p wr ∧ wr.ownsRow (w.heap.size + 1) 9 1 v (idsL (o.ents.take k)).length ((idsL (o.ents.take k)).map sv)
theorem Bx.grow {w W W' : World} {o : Ob} {p : At} {r : Option Nat} (h : Bx w o p W) (k : W.grownBy W' r) (hr : ∀ q, r = some q → w.heap.size < q) : Bx w o p W' :=
  have hb : Below w.heap.size w W' := h.2.2.grown k h.2.2.size (fun q e => Nat.le_of_lt (hr q e))
  have hc : Below w.heap.size W W' := (Below.refl _ _).grown k h.2.2.size (fun q e => Nat.le_of_lt (hr q e))
  ⟨h.1.kept k (fun e => by have := hr _ e.symm; omega), h.2.1.below hc, hb⟩
theorem one_str (x : ByteArray) : ∀ u ∈ [Value.string x], u.oneCell' = true := by
  intro u hu
  simp at hu
  subst hu
  rfl

set_option maxRecDepth 100000 in
set_option maxHeartbeats 4000000 in
theorem Links_far (o : Ob) (p : At) (w : World) (hO : ObIn w w.heap.size o p) (hel : o.ents.length * 40 ≤ 140737488351232) (hpl : o.pars.length * 16 ≤ 140737488351232) :
    Calls Tryz.prog 23 #[.agg (obArr o p)] w (LEndA w (linksL o)) := by
  obtain ⟨si, hsi, sz0, sz1, sz2⟩ := info_parts info_str
  have Hsi := Lib.hid hsi
  have Sz0 := Lib.hid sz0
  have Sz1 := Lib.hid sz1
  have Sz2 := Lib.hid sz2
  clear hsi sz0 sz1 sz2
  have h1 := Lib.hid (Bx.start hO)
  obtain ⟨R, HR⟩ : ∃ R, Hid (R = linksL o) := ⟨_, rfl⟩
  rw [← HR.out]
  clear hO
  generalize hA : obArr o p = arr at *
  clear hA
  go_enter Tryz.func23, Tryz.ntmps23
  go_upto_region 1 with fail
  refine wp_forget (Bx w o p) h1.out ?_
  clear h1
  intro W hW
  obtain ⟨c0, c1, c2, c3, c4, c5, c6, c7, c8⟩ := hW.c
  by_cases hk2 : o.kind = 2
  · rw [hk2] at c0
    have HR2 : Hid (R = idsL o.ents) := by show _ = _; rw [HR.out]; unfold linksL; rw [if_pos hk2]; rfl
    go_wp2_with fail
    clear HR c0 c1 c2 c3 c4 c5 c6 c7 c8
    go_loopw [3, 13] (fun v i wr => LinkRel w o p v i wr) (fun _ i _ => o.ents.length - (intOf i).toNat)
    case atStart => exact ⟨0, Nat.zero_le _, rfl, hW, own_nil _ _ _ _⟩
    case round =>
      clear hW W
      obtain ⟨k, hk, rfl, hX, hW3⟩ := hrel
      have hlen := idsL_len o.ents k hk
      by_cases hlt : k < o.ents.length
      · obtain ⟨ad, hea, hbl, g0, g1, g2⟩ := hX.2.1.ents k o.ents[k] (List.getElem?_eq_getElem hlt)
        have HS := Lib.hid (idsL_step o.ents k hlt)
        have hi : (k : Int) < o.ents.length := by omega
        rw [hea]
        clear hea hbl
        generalize o.ents[k] = x at *
        obtain ⟨xn, xd, xi⟩ := x
        simp only at g0 g1 g2 HS
        generalize idsL (o.ents.take k) = T at *
        have hzl := hX.1.lt
        go_upto_region 7 with fail
        refine wp_forget (fun W => Bx w o p W ∧ W.ownsRow (w.heap.size + 1) 9 1 u3 T.length (T.map sv) ∧ Arr W wr.heap.size 79 #[.string xn, .bool xd, .string xi] ∧ w.heap.size + 1 ≤ W.heap.size) (by exact ⟨hX.below ((Below.refl _ _).alloc (Nat.le_refl _) _), hW3.alloc _, Arr.new _ _ _, by simp; omega⟩) ?_
        clear hX hW3 g0 g1 g2
        rintro W ⟨hX, hO, hY, hz⟩
        have e2 : W.cell? ⟨wr.heap.size, 2, none⟩ = some (.string xi) := hY.cell 2
        go_wp2_with (at_builtin; refine wpList_append_lies _ rfl _ _ 22 rfl (w.heap.size + 1) 9 si _ 1 16 Tryz.underlying22 Hsi.out Sz0.out Sz1.out Sz2.out rfl (by decide) _ _ _ rfl (hO.alloc _) ⟨W.heap.size, 0, none⟩ 1 1 [.string xi] rfl rfl (new_cells W [.string xi] 9) (one_str xi) (by decide) (by unfold maxLen; omega) (by omega) (by simp; omega) _ rfl ?_)
        intro g3 cap3 w3 hown hgrow hat hg3
        go_wp2_with fail
        have hge : ∀ q, u3.ownBlock = some q → w.heap.size < q := fun q e1 => own_row_ge hO q e1
        refine ⟨⟨k + 1, hlt, by go_num, ?_, ?_⟩, by simp [intOf]; omega⟩
        · exact Bx.grow (hX.below ((Below.refl _ _).alloc (Nat.le_refl _) _)) hgrow hge
        · rw [HS.out, List.length_append, List.map_append, hlen]; exact hown
      · obtain rfl : k = o.ents.length := by omega
        have hi : ¬ (o.ents.length : Int) < o.ents.length := by omega
        rw [List.take_length] at hW3
        clear hlen
        rw [← HR2.out] at hW3
        have hB := hX.2.2
        clear HR2 hX
        go_wp2_with fail
        go_ret
        exact lend_own hW3 hB (Nat.lt_succ_self _)
  have hn2 : (o.kind == 2) = false := by rw [beq_eq_false_iff_ne]; exact hk2
  by_cases hk3 : o.kind = 3
  · rw [hk3] at c0
    have HR2 : Hid (R = [o.tree] ++ o.pars) := by show _ = _; rw [HR.out]; unfold linksL; rw [if_neg hk2, if_pos hk3]; rfl
    clear HR hn2
    go_upto_region 11 with (at_builtin; refine wpList_append_lies _ rfl _ _ 22 rfl (w.heap.size + 1) 9 si _ 1 16 Tryz.underlying22 Hsi.out Sz0.out Sz1.out Sz2.out rfl (by decide) _ _ _ rfl (own_nil _ _ _ _) ⟨W.heap.size, 0, none⟩ 1 1 [.string o.tree] rfl rfl (new_cells W [.string o.tree] 9) (one_str _) (by decide) (by unfold maxLen; omega) (by omega) (by simp; have := hW.1.lt; omega) _ rfl ?_)
    intro g3 cap3 w3 hown hgrow hat hg3
    go_upto_region 11 with fail
    have hX3 := Bx.grow (hW.below ((Below.refl _ _).alloc (Nat.le_refl _) (.cells #[.string o.tree] 9))) hgrow (fun q e => by cases e)
    have hz3 : w.heap.size + 1 ≤ w3.heap.size := hX3.1.lt
    clear hW hgrow hat c0 c1 c2 c3 c4 c5 c6 c7 c8
    obtain ⟨c0, c1, c2, c3, c4, c5, c6, c7, c8⟩ := hX3.c
    rw [hk3] at c0
    have hN : Hid (News w3 p.pa o.pars.length (o.pars.map sv)) := hX3.2.1.pars.news
    go_wp2_with (at_builtin; refine wpList_app _ rfl _ _ 22 rfl (w.heap.size + 1) 9 si _ 1 16 Tryz.underlying22 Hsi.out Sz0.out Sz1.out Sz2.out rfl (by decide) _ _ _ rfl hown p.pa o.pars.length p.pc (o.pars.map sv) rfl (by rw [List.length_map]; omega) hN.out (sv_one _) (by unfold maxLen; omega) (by omega) hz3 ?_)
    intro v4 w4 hown4 hgrow4
    have hX4 := Bx.grow hX3 hgrow4 (fun q e => own_row_ge hown q e)
    have hB := hX4.2.2
    have hE : LEndA w R (.returned v4) w4 := by
      rw [HR2.out]
      refine lend_own (base := w.heap.size + 1) ?_ hB (Nat.lt_succ_self _)
      rw [List.length_append, List.map_append]
      exact hown4
    have HE := Lib.hid hE
    clear hE hown hown4 hgrow4 hX3 hN HR2
    go_wp2_with fail
    go_ret
    exact HE.out
  have hn3 : (o.kind == 3) = false := by rw [beq_eq_false_iff_ne]; exact hk3
  by_cases hk4 : o.kind = 4
  · rw [hk4] at c0
    have HR2 : Hid (R = [o.target]) := by show _ = _; rw [HR.out]; unfold linksL; rw [if_neg hk2, if_neg hk3, if_pos hk4]
    clear HR hn2 hn3
    go_wp2_with (at_builtin; refine wpList_append_lies _ rfl _ _ 22 rfl (w.heap.size + 1) 9 si _ 1 16 Tryz.underlying22 Hsi.out Sz0.out Sz1.out Sz2.out rfl (by decide) _ _ _ rfl (own_nil _ _ _ _) ⟨W.heap.size, 0, none⟩ 1 1 [.string o.target] rfl rfl (new_cells W [.string o.target] 9) (one_str _) (by decide) (by unfold maxLen; omega) (by omega) (by simp; have := hW.1.lt; omega) _ rfl ?_)
    intro g3 cap3 w3 hown hgrow hat hg3
    have hX3 := Bx.grow (hW.below ((Below.refl _ _).alloc (Nat.le_refl _) (.cells #[.string o.target] 9))) hgrow (fun q e => by cases e)
    have hB := hX3.2.2
    have hE : LEndA w R (.returned (.slice (some ⟨g3, 0, none⟩) (0 + 1) cap3)) w3 := by
      rw [HR2.out]
      refine lend_own (base := w.heap.size + 1) ?_ hB (Nat.lt_succ_self _)
      exact hown
    have HE := Lib.hid hE
    clear hE hown hgrow hat hX3 hW c0 c1 c2 c3 c4 c5 c6 c7 c8 HR2
    go_wp2_with fail
    go_ret
    exact HE.out
  have hn4 : (o.kind == 4) = false := by rw [beq_eq_false_iff_ne]; exact hk4
  have HR2 : Hid (R = []) := by show _ = _; rw [HR.out]; unfold linksL; rw [if_neg hk2, if_neg hk3, if_neg hk4]
  have hB := hW.2.2
  clear HR
  go_wp2_with fail
  go_ret
  rw [HR2.out]
  exact lend_own (base := w.heap.size + 1) (own_nil _ _ _ _) hB (Nat.lt_succ_self _)

set_option maxRecDepth 100000 in
set_option maxHeartbeats 4000000 in
theorem RefLinks_far (o : Ob) (p : At) (w : World) (hO : ObIn w w.heap.size o p) (hel : o.ents.length * 40 ≤ 140737488351232) (hpl : o.pars.length * 16 ≤ 140737488351232) :
    Calls Tryz.prog 28 #[.agg (obArr o p)] w (LEndA w (linksL o)) := by
  obtain ⟨si, hsi, sz0, sz1, sz2⟩ := info_parts info_str
  have Hsi := Lib.hid hsi
  have Sz0 := Lib.hid sz0
  have Sz1 := Lib.hid sz1
  have Sz2 := Lib.hid sz2
  clear hsi sz0 sz1 sz2
  have h1 := Lib.hid (Bx.start hO)
  obtain ⟨R, HR⟩ : ∃ R, Hid (R = linksL o) := ⟨_, rfl⟩
  rw [← HR.out]
  clear hO
  generalize hA : obArr o p = arr at *
  clear hA
  go_enter Tryz.func28, Tryz.ntmps28
  go_upto_region 1 with fail
  refine wp_forget (Bx w o p) h1.out ?_
  clear h1
  intro W hW
  obtain ⟨c0, c1, c2, c3, c4, c5, c6, c7, c8⟩ := hW.c
  by_cases hk2 : o.kind = 2
  · rw [hk2] at c0
    have HR2 : Hid (R = idsL o.ents) := by show _ = _; rw [HR.out]; unfold linksL; rw [if_pos hk2]; rfl
    go_wp2_with fail
    clear HR c0 c1 c2 c3 c4 c5 c6 c7 c8
    go_loopw [3, 12] (fun v i wr => LinkRel w o p v i wr) (fun _ i _ => o.ents.length - (intOf i).toNat)
    case atStart => exact ⟨0, Nat.zero_le _, rfl, hW, own_nil _ _ _ _⟩
    case round =>
      clear hW W
      obtain ⟨k, hk, rfl, hX, hW3⟩ := hrel
      have hlen := idsL_len o.ents k hk
      by_cases hlt : k < o.ents.length
      · obtain ⟨ad, hea, hbl, g0, g1, g2⟩ := hX.2.1.ents k o.ents[k] (List.getElem?_eq_getElem hlt)
        have HS := Lib.hid (idsL_step o.ents k hlt)
        have hi : (k : Int) < o.ents.length := by omega
        rw [hea]
        clear hea hbl
        generalize o.ents[k] = x at *
        obtain ⟨xn, xd, xi⟩ := x
        simp only at g0 g1 g2 HS
        generalize idsL (o.ents.take k) = T at *
        have hzl := hX.1.lt
        go_upto_region 6 with fail
        refine wp_forget (fun W => Bx w o p W ∧ W.ownsRow (w.heap.size + 1) 9 1 u3 T.length (T.map sv) ∧ Arr W wr.heap.size 79 #[.string xn, .bool xd, .string xi] ∧ w.heap.size + 1 ≤ W.heap.size) (by exact ⟨hX.below ((Below.refl _ _).alloc (Nat.le_refl _) _), hW3.alloc _, Arr.new _ _ _, by simp; omega⟩) ?_
        clear hX hW3 g0 g1 g2
        rintro W ⟨hX, hO, hY, hz⟩
        have e2 : W.cell? ⟨wr.heap.size, 2, none⟩ = some (.string xi) := hY.cell 2
        go_wp2_with (at_builtin; refine wpList_append_lies _ rfl _ _ 22 rfl (w.heap.size + 1) 9 si _ 1 16 Tryz.underlying22 Hsi.out Sz0.out Sz1.out Sz2.out rfl (by decide) _ _ _ rfl (hO.alloc _) ⟨W.heap.size, 0, none⟩ 1 1 [.string xi] rfl rfl (new_cells W [.string xi] 9) (one_str xi) (by decide) (by unfold maxLen; omega) (by omega) (by simp; omega) _ rfl ?_)
        intro g3 cap3 w3 hown hgrow hat hg3
        go_wp2_with fail
        have hge : ∀ q, u3.ownBlock = some q → w.heap.size < q := fun q e1 => own_row_ge hO q e1
        refine ⟨⟨k + 1, hlt, by go_num, ?_, ?_⟩, by simp [intOf]; omega⟩
        · exact Bx.grow (hX.below ((Below.refl _ _).alloc (Nat.le_refl _) _)) hgrow hge
        · rw [HS.out, List.length_append, List.map_append, hlen]; exact hown
      · obtain rfl : k = o.ents.length := by omega
        have hi : ¬ (o.ents.length : Int) < o.ents.length := by omega
        rw [List.take_length] at hW3
        clear hlen
        obtain ⟨c0, c1, c2, c3, c4, c5, c6, c7, c8⟩ := hX.c
        rw [hk2] at c0
        rw [← HR2.out] at hW3
        have hB := hX.2.2
        clear HR2 hX
        go_wp2_with fail
        go_ret
        exact lend_own hW3 hB (Nat.lt_succ_self _)
  have hn2 : (o.kind == 2) = false := by rw [beq_eq_false_iff_ne]; exact hk2
  by_cases hk3 : o.kind = 3
  · rw [hk3] at c0
    have HR2 : Hid (R = [o.tree] ++ o.pars) := by show _ = _; rw [HR.out]; unfold linksL; rw [if_neg hk2, if_pos hk3]; rfl
    clear HR hn2
    go_upto_region 10 with (at_builtin; refine wpList_append_lies _ rfl _ _ 22 rfl (w.heap.size + 1) 9 si _ 1 16 Tryz.underlying22 Hsi.out Sz0.out Sz1.out Sz2.out rfl (by decide) _ _ _ rfl (own_nil _ _ _ _) ⟨W.heap.size, 0, none⟩ 1 1 [.string o.tree] rfl rfl (new_cells W [.string o.tree] 9) (one_str _) (by decide) (by unfold maxLen; omega) (by omega) (by simp; have := hW.1.lt; omega) _ rfl ?_)
    intro g3 cap3 w3 hown hgrow hat hg3
    go_upto_region 10 with fail
    have hX3 := Bx.grow (hW.below ((Below.refl _ _).alloc (Nat.le_refl _) (.cells #[.string o.tree] 9))) hgrow (fun q e => by cases e)
    have hz3 : w.heap.size + 1 ≤ w3.heap.size := hX3.1.lt
    clear hW hgrow hat c0 c1 c2 c3 c4 c5 c6 c7 c8
    obtain ⟨c0, c1, c2, c3, c4, c5, c6, c7, c8⟩ := hX3.c
    rw [hk3] at c0
    have hN : Hid (News w3 p.pa o.pars.length (o.pars.map sv)) := hX3.2.1.pars.news
    go_wp2_with (at_builtin; refine wpList_app _ rfl _ _ 22 rfl (w.heap.size + 1) 9 si _ 1 16 Tryz.underlying22 Hsi.out Sz0.out Sz1.out Sz2.out rfl (by decide) _ _ _ rfl hown p.pa o.pars.length p.pc (o.pars.map sv) rfl (by rw [List.length_map]; omega) hN.out (sv_one _) (by unfold maxLen; omega) (by omega) hz3 ?_)
    intro v4 w4 hown4 hgrow4
    have hX4 := Bx.grow hX3 hgrow4 (fun q e => own_row_ge hown q e)
    have hB := hX4.2.2
    have hE : LEndA w R (.returned v4) w4 := by
      rw [HR2.out]
      refine lend_own (base := w.heap.size + 1) ?_ hB (Nat.lt_succ_self _)
      rw [List.length_append, List.map_append]
      exact hown4
    have HE := Lib.hid hE
    clear c0 c1 c2 c3 c4 c5 c6 c7 c8
    obtain ⟨c0, c1, c2, c3, c4, c5, c6, c7, c8⟩ := hX4.c
    rw [hk3] at c0
    clear hE hown hown4 hgrow4 hX3 hN HR2
    go_wp2_with fail
    go_ret
    exact HE.out
  have hn3 : (o.kind == 3) = false := by rw [beq_eq_false_iff_ne]; exact hk3
  by_cases hk4 : o.kind = 4
  · rw [hk4] at c0
    have HR2 : Hid (R = [o.target]) := by show _ = _; rw [HR.out]; unfold linksL; rw [if_neg hk2, if_neg hk3, if_pos hk4]
    clear HR hn2 hn3
    go_wp2_with (at_builtin; refine wpList_append_lies _ rfl _ _ 22 rfl (w.heap.size + 1) 9 si _ 1 16 Tryz.underlying22 Hsi.out Sz0.out Sz1.out Sz2.out rfl (by decide) _ _ _ rfl (own_nil _ _ _ _) ⟨W.heap.size, 0, none⟩ 1 1 [.string o.target] rfl rfl (new_cells W [.string o.target] 9) (one_str _) (by decide) (by unfold maxLen; omega) (by omega) (by simp; have := hW.1.lt; omega) _ rfl ?_)
    intro g3 cap3 w3 hown hgrow hat hg3
    have hX3 := Bx.grow (hW.below ((Below.refl _ _).alloc (Nat.le_refl _) (.cells #[.string o.target] 9))) hgrow (fun q e => by cases e)
    have hB := hX3.2.2
    have hE : LEndA w R (.returned (.slice (some ⟨g3, 0, none⟩) (0 + 1) cap3)) w3 := by
      rw [HR2.out]
      refine lend_own (base := w.heap.size + 1) ?_ hB (Nat.lt_succ_self _)
      exact hown
    have HE := Lib.hid hE
    clear hE hown hgrow hat hX3 hW c0 c1 c2 c3 c4 c5 c6 c7 c8 HR2
    go_wp2_with fail
    go_ret
    exact HE.out
  have hn4 : (o.kind == 4) = false := by rw [beq_eq_false_iff_ne]; exact hk4
  have HR2 : Hid (R = []) := by show _ = _; rw [HR.out]; unfold linksL; rw [if_neg hk2, if_neg hk3, if_neg hk4]
  have hB := hW.2.2
  clear HR
  go_wp2_with fail
  go_ret
  rw [HR2.out]
  exact lend_own (base := w.heap.size + 1) (own_nil _ _ _ _) hB (Nat.lt_succ_self _)
theorem lend_of {w : World} {T : List ByteArray} {x : Ending} {w' : World} (h : LEndA w T x w') : LEnd w T x w' := by
  obtain ⟨A, c, h1, h2, h3, _⟩ := h
  exact ⟨A, c, h1, h2, h3⟩
theorem Links_any (o : Ob) (p : At) (w : World) (hO : ObIn w w.heap.size o p) (hel : o.ents.length * 40 ≤ 140737488351232) (hpl : o.pars.length * 16 ≤ 140737488351232) :
    Calls Tryz.prog 23 #[.agg (obArr o p)] w (LEnd w (linksL o)) := (Links_far o p w hO hel hpl).mono fun _ _ h => lend_of h
theorem RefLinks_any (o : Ob) (p : At) (w : World) (hO : ObIn w w.heap.size o p) (hel : o.ents.length * 40 ≤ 140737488351232) (hpl : o.pars.length * 16 ≤ 140737488351232) :
    Calls Tryz.prog 28 #[.agg (obArr o p)] w (LEnd w (linksL o)) := (RefLinks_far o p w hO hel hpl).mono fun _ _ h => lend_of h
end Go.Proofs.YtmikfmcgddmplaaGreatDoor
