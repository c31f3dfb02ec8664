/- law.owned: its contract. -/
import Derived.Test.YtgffbdkngnpfpaaOApp
import Derived.Test.YtgffbdkngnpfpaaODecD
namespace Go.Proofs.Ytgffbdkngnpfpaa
open Go.RowKit

/-- where owned stands: the object's block, the result's block -/
structure Ow (w : World) (o : Ob) (p : At) (W : World) : Prop where
  box : Arr W w.heap.size 25 (obArr o p)
  res : Arr W (w.heap.size + 1) 25 zeroO
  bel : Below w.heap.size w W
theorem ow_start (w : World) (o : Ob) (p : At) : Ow w o p ((w.alloc (.cells (obArr o p) 25)).alloc (.cells zeroO 25)) :=
  ⟨(Arr.new _ _ _).alloc _, Arr.new_at _ _ _ (by simp), ((Below.refl _ _).alloc (Nat.le_refl _) _).alloc (by simp) _⟩
theorem Ow.grow {w W W' : World} {o : Ob} {p : At} (h : Ow w o p W) (k : W.grownBy W' none) : Ow w o p W' :=
  ⟨h.box.kept k (by simp), h.res.kept k (by simp), h.bel.grown k h.bel.size (fun _ e => by cases e)⟩
theorem Ow.drew {w W : World} {o : Ob} {p : At} (h : Ow w o p W) : Ow w o p W.drew := ⟨h.box, h.res, h.bel.drew⟩
/-- behind the two stores -/
structure Ow2 (w : World) (o : Ob) (p : At) (W : World) : Prop where
  ow : Ow w o p W
  ins : ObIn W W.heap.size o p
  far : Above (w.heap.size + 1) p
theorem Ow.put {w W : World} {o o' : Ob} {p p' : At} (h : Ow w o p W) (i : Nat) (v : Value) (e : (obArr o p).setIfInBounds i v = obArr o' p') : Ow w o' p' (W.setCell ⟨w.heap.size, i, none⟩ v) := by
  have k : W.grownBy (W.setCell ⟨w.heap.size, i, none⟩ v) (some w.heap.size) := gb_set w.heap.size i v
  exact ⟨by rw [← e]; exact h.box.put i v, h.res.kept k (fun e => by simp at e), h.bel.grown k h.bel.size (fun _ e => by cases e; exact Nat.le_refl _)⟩
/-- behind owned: the same object, in slices of its own -/
def OwEnd (w : World) (o : Ob) (x : Ending) (w' : World) : Prop := ∃ p', x = .returned (.agg (obArr o p')) ∧ ObIn w' w'.heap.size o p' ∧ Below w.heap.size w w'
theorem Ens.grow {w w' : World} {A : Option Addr} {L : List Ent} (h : Ens w w.heap.size A L) (k : w.grownBy w' none) : Ens w' w'.heap.size A L := fun j x hx => by
  obtain ⟨ad, e, hb, h0, h1, h2⟩ := h j x hx
  exact ⟨ad, e, Nat.lt_of_lt_of_le hb k.size, (gb_cell k hb (by simp)).trans h0, (gb_cell (p := ⟨(ad.add (j * 3)).block, (ad.add (j * 3)).off + 1, none⟩) k hb (by simp)).trans h1, (gb_cell (p := ⟨(ad.add (j * 3)).block, (ad.add (j * 3)).off + 2, none⟩) k hb (by simp)).trans h2⟩
theorem Txs.grow {w w' : World} {A : Option Addr} {T : List ByteArray} (h : Txs w w.heap.size A T) (k : w.grownBy w' none) : Txs w' w'.heap.size A T := fun j x hx => by
  obtain ⟨ad, e, hb, h0⟩ := h j x hx
  exact ⟨ad, e, Nat.lt_of_lt_of_le hb k.size, (gb_cell k hb (by simp)).trans h0⟩

set_option maxRecDepth 100000 in
set_option maxHeartbeats 4000000 in
theorem owned_any (o : Ob) (p : At) (w : World) (hO : ObIn w w.heap.size o p) (hel : o.ents.length * 40 ≤ 140737488351232) (hpl : o.pars.length * 16 ≤ 140737488351232) :
    Calls Try.prog 8 #[.agg (obArr o p)] w (OwEnd w o) := by
  obtain ⟨si, hsi, sz0, sz1, sz2⟩ := info_parts info_str
  obtain ⟨ei, hei, ez0, ez1, ez2⟩ := info_parts info_ent
  have Hsi := Lib.hid hsi
  have Sz0 := Lib.hid sz0
  have Sz1 := Lib.hid sz1
  have Sz2 := Lib.hid sz2
  have Hei := Lib.hid hei
  have Ez0 := Lib.hid ez0
  have Ez1 := Lib.hid ez1
  have Ez2 := Lib.hid ez2
  clear hsi sz0 sz1 sz2 hei ez0 ez1 ez2
  have h1 := Lib.hid (ow_start w o p)
  generalize hA : obArr o p = arr at *
  have HA := Lib.hid hA
  clear hA
  go_enter Try.func8, Try.ntmps8
  go_upto_region 1 with fail
  refine wp_forget (Ow w o p) (by have := h1.out; rw [← HA.out]; rw [← HA.out] at this; exact this) ?_
  clear h1 HA
  intro W hW
  have HO := Lib.hid (fun W (h : Below w.heap.size w W) => (hO.below h).mono h.size)
  clear hO
  have hOW := Lib.hid (HO.out W hW.bel)
  have c2 : W.cell? ⟨w.heap.size, 2, none⟩ = some (.slice p.ea o.ents.length p.ec) := hW.box.cell 2
  have c4 : W.cell? ⟨w.heap.size, 4, none⟩ = some (.slice p.pa o.pars.length p.pc) := hW.box.cell 4
  have hlt := hW.res.lt
  go_region_law (first
    | (refine step_app _ rfl _ _ 22 rfl W.heap.size 51 ei _ 3 40 Try.underlying22 Hei.out Ez0.out Ez1.out Ez2.out rfl (by decide) _ _ _ rfl (own_nil _ _ _ _) p.ea o.ents.length p.ec (entCells o.ents) rfl (entCells_len _) (show News W.drew _ _ _ from hOW.out.ents.news) (ent_one _) (by unfold maxLen; omega) (by omega) (Nat.le_refl _) ?_
       intro v1 w1 hown1 hg1
       rw [Nat.zero_add, List.nil_append] at hown1
       obtain ⟨A1, k1, rfl, hE1, hf1⟩ := own_ents hown1
       have hW1 := hW.drew.grow hg1
       have d4 : w1.cell? ⟨w.heap.size, 4, none⟩ = some (.slice p.pa o.pars.length p.pc) := hW1.box.cell 4
       have hOW1 := Lib.hid (HO.out w1 hW1.bel)
       have hz1 : W.heap.size ≤ w1.heap.size := hg1.size)
    | (refine step_app _ rfl _ _ 23 rfl W.heap.size 9 si _ 1 16 Try.underlying23 Hsi.out Sz0.out Sz1.out Sz2.out rfl (by decide) _ _ _ rfl (own_nil _ _ _ _) p.pa o.pars.length p.pc (o.pars.map sv) rfl (by rw [List.length_map]; omega) (show News w1 _ _ _ from hOW1.out.pars.news) (sv_one _) (by unfold maxLen; omega) (by omega) hz1 ?_
       intro v2 w2 hown2 hg2
       rw [Nat.zero_add, List.nil_append] at hown2
       obtain ⟨A2, k2, rfl, hr2, hT2, hf2⟩ := own_texts hown2
       have hW2 := hW1.grow hg2
       have e2 : w2.cell? ⟨w.heap.size, 2, none⟩ = some (.slice p.ea o.ents.length p.ec) := hW2.box.cell 2
       have e4 : w2.cell? ⟨w.heap.size, 4, none⟩ = some (.slice p.pa o.pars.length p.pc) := hW2.box.cell 4
       have f2 := hW2.box.free 2
       have f4 := hW2.box.free 4))
  all_goals
    have hE2 := hE1.grow hg2
    have hfar : Above (w.heap.size + 1) ⟨A1, k1, A2, k2⟩ := ⟨fun ad e => by have := hf1 ad e; omega, fun ad e => by have := hf2 ad e; omega⟩
    have p1 := hW2.put (o' := o) (p' := ⟨A1, k1, p.pa, p.pc⟩) 2 (.slice A1 o.ents.length k1) rfl
    have p2 := p1.put (o' := o) (p' := ⟨A1, k1, A2, k2⟩) 4 (.slice A2 o.pars.length k2) rfl
    have g1 : w2.grownBy (w2.setCell ⟨w.heap.size, 2, none⟩ (.slice A1 o.ents.length k1)) (some w.heap.size) := gb_set _ _ _
    have i2 : ObIn w2 w2.heap.size o ⟨A1, k1, A2, k2⟩ := ⟨hE2, hT2, hr2⟩
    have i3 := (i2.far g1 (hfar.mono (by omega))).far (gb_set w.heap.size 4 (.slice A2 o.pars.length k2)) (hfar.mono (by omega))
    go_upto_region 2 with fail
    refine wp_forget (Ow2 w o ⟨A1, k1, A2, k2⟩) (by exact ⟨p2, i3, hfar⟩) ?_
    clear hE1 hE2 hfar p1 p2 g1 i2 i3 e2 e4 f2 f4 hT2 hr2 hf1 hf2 hown1 hown2 hg1 hg2 hW hW1 hW2 d4 c2 c4 hOW1 hz1 hOW HO hlt
    intro W5 hW5
    go_wp2_with (first | (refine wpList_load_row rfl 25 _ rfl w.heap.size rfl 25 _ (0, 0) _ hW5.ow.box Try.underlying25 rfl (obInfo _ _) ?_) | (refine wpList_store_row rfl 25 _ _ rfl (w.heap.size + 1) (obArr o ⟨A1, k1, A2, k2⟩) rfl rfl 25 zeroO hW5.ow.res (obInfo _ _) rfl (obArr_one _ _) ?_))
    refine bodyPost_ret (v := .agg (obArr o ⟨A1, k1, A2, k2⟩)) ?_ rfl ⟨_, rfl, ?_, below_setRow hW5.ow.bel (by omega) _⟩
    · exact results_cell_row Try.results8 _ _ (w.heap.size + 1) 25 _ (0, 0) _ rfl (hW5.ow.res.row _) Try.underlying25 rfl (obInfo _ _)
    · exact hW5.ins.far (gb_row (w.heap.size + 1) _) hW5.far
end Go.Proofs.Ytgffbdkngnpfpaa
