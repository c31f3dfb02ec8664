/- law.strings, law.keys: contracts. -/
import Derived.Test.YtbpmgpbmeganoaaDoorSpMath
import Derived.Test.YtbpmgpbmeganoaaDoorSpSearch
namespace Go.Proofs.YtbpmgpbmeganoaaDoor
open Go.RowKit

def SrEndS (w : World) (T : List ByteArray) (x : Ending) (w' : World) : Prop := ∃ A c, x = .returned (.slice A T.length c) ∧ Txs w' w'.heap.size A T ∧ T.length ≤ c ∧ Below w.heap.size w w' ∧ ∀ ad, A = some ad → w.heap.size ≤ ad.block
theorem strings_sp (T : List ByteArray) (A : Option Addr) (c : Nat) (w : World) (hT : Txs w w.heap.size A T) (hl : T.length * 16 ≤ 140737488355328) :
    Calls Tryd.prog 62 #[.slice A T.length c] w (SrEndS w T) := by
  obtain ⟨si, hsi, sz0, sz1, sz2⟩ := info_parts info_str
  have Hsi := Lib.hid hsi
  have Sz0 := Lib.hid sz0
  have Sz1 := Lib.hid sz1
  have Sz2 := Lib.hid sz2
  clear hsi sz0 sz1 sz2
  go_enter Tryd.func62, Tryd.ntmps62
  go_wp2_with (at_builtin; refine wpList_app _ rfl _ _ 23 rfl w.heap.size 9 si _ 1 16 Tryd.underlying23 Hsi.out Sz0.out Sz1.out Sz2.out rfl (by decide) _ _ _ rfl (own_nil _ _ _ _) A T.length c (T.map sv) rfl (by rw [List.length_map]; omega) hT.news (sv_one _) (by unfold maxLen; omega) (by omega) (Nat.le_refl _) ?_)
  intro v1 w1 hown hgrow
  obtain ⟨A1, c1, rfl, hc1, hx, hf⟩ := own_texts hown
  go_wp2_with fail
  go_ret
  exact ⟨A1, c1, rfl, hx, hc1, (Below.refl _ _).grown hgrow (Nat.le_refl _) (by intro k hk; cases hk), hf⟩
def kyZero : Array Value := #[.slice none 0 0, .slice none 0 0, .int .i64 0]
theorem kyInfo2 (k : Ky) (q : KyAt) : (Tryd.prog.info? 41).map (·.size) = some (kyArr k q).size := by
  rw [show (kyArr k q).size = 3 from rfl]
  kernel_rfl
/-- where keys() stands -/
structure Kx (w : World) (k : Ky) (q : KyAt) (W : World) : Prop where
  box : Arr W w.heap.size 41 (kyArr k q)
  res : Arr W (w.heap.size + 1) 41 kyZero
  ky : KyIn W w.heap.size k q
  bel : Below w.heap.size w W
theorem Kx.below {w W W' : World} {k : Ky} {q : KyAt} (h : Kx w k q W) (b : Below W.heap.size W W') : Kx w k q W' :=
  ⟨h.box.below b h.box.lt, h.res.below b h.res.lt, h.ky.below (b.mono h.bel.size), h.bel.trans (b.mono h.bel.size)⟩
def KpEnd (w : World) (k : Ky) (x : Ending) (w' : World) : Prop := ∃ q, x = .returned (.agg (kyArr k q)) ∧ KyIn w' w'.heap.size k q ∧ Below w.heap.size w w'
/-- the result is laid -/
structure Kr (w : World) (k : Ky) (q : KyAt) (W : World) : Prop where
  res : Arr W (w.heap.size + 1) 41 (kyArr k q)
  ky : KyIn W W.heap.size k q
  bel : Below w.heap.size w W
theorem Kx.laid {w W : World} {k : Ky} {q : KyAt} (h : Kx w k q W) {A1 A2 : Option Addr} {c1 c2 : Nat} (t1 : Txs W W.heap.size A1 k.sig) (t2 : Txs W W.heap.size A2 k.wit) (r1 : k.sig.length ≤ c1) (r2 : k.wit.length ≤ c2)
    (f1 : ∀ ad, A1 = some ad → w.heap.size + 1 < ad.block) (f2 : ∀ ad, A2 = some ad → w.heap.size + 1 < ad.block) :
    Kr w k ⟨A1, c1, A2, c2⟩ (((W.setCell ⟨w.heap.size + 1, 0, none⟩ (.slice A1 k.sig.length c1)).setCell ⟨w.heap.size + 1, 1, none⟩ (.slice A2 k.wit.length c2)).setCell ⟨w.heap.size + 1, 2, none⟩ (.int .i64 k.need)) := by
  have s := gb_trans (gb_trans (gb_set (w := W) (w.heap.size + 1) 0 (.slice A1 k.sig.length c1)) (gb_set _ 1 (.slice A2 k.wit.length c2))) (gb_set _ 2 (.int .i64 k.need))
  have hk : ∀ {A : Option Addr} {T : List ByteArray}, Txs W W.heap.size A T → (∀ ad, A = some ad → w.heap.size + 1 < ad.block) → ∀ V, W.grownBy V (some (w.heap.size + 1)) → Txs V V.heap.size A T := fun ht hf V g j x hx => by
    obtain ⟨ad, e, hb, hc⟩ := ht j x hx
    have e3 : (ad.add j).block = ad.block := by unfold Addr.add; split <;> rfl
    have := hf ad e
    exact ⟨ad, e, Nat.lt_of_lt_of_le hb g.size, (World.cell?_of_block (g.block _ hb (fun e2 => by have := Option.some.inj e2; omega))).trans hc⟩
  exact ⟨((h.res.put 0 _).put 1 _).put 2 _, ⟨hk t1 f1 _ s, hk t2 f2 _ s, r1, r2⟩, below_gb h.bel s (by omega) h.bel.size⟩
set_option maxRecDepth 100000 in
set_option maxHeartbeats 8000000 in
theorem keys_law (k : Ky) (q : KyAt) (w : World) (hK : KyIn w w.heap.size k q) (hz : KySz k) : Calls Tryd.prog 27 #[.agg (kyArr k q)] w (KpEnd w k) := by
  obtain ⟨ka, kc, ka2, kc2⟩ := q
  have hz1 := hz.sig
  have hz2 := hz.wit
  have h1 : Hid (Kx w k ⟨ka, kc, ka2, kc2⟩ ((w.alloc (.cells (kyArr k ⟨ka, kc, ka2, kc2⟩) 41)).alloc (.cells kyZero 41))) := by
    have A0 : Arr (w.alloc (.cells (kyArr k ⟨ka, kc, ka2, kc2⟩) 41)) w.heap.size 41 (kyArr k ⟨ka, kc, ka2, kc2⟩) := Arr.new _ _ _
    have b0 : Below w.heap.size w (w.alloc (.cells (kyArr k ⟨ka, kc, ka2, kc2⟩) 41)) := (Below.refl _ _).alloc (Nat.le_refl _) _
    have hz : (w.alloc (.cells (kyArr k ⟨ka, kc, ka2, kc2⟩) 41)).heap.size = w.heap.size + 1 := World.size_alloc _ _
    generalize w.alloc (.cells (kyArr k ⟨ka, kc, ka2, kc2⟩) 41) = V at *
    have A1 : Arr (V.alloc (.cells kyZero 41)) V.heap.size 41 kyZero := Arr.new _ _ _
    have b1 : Below V.heap.size V (V.alloc (.cells kyZero 41)) := (Below.refl _ _).alloc (Nat.le_refl _) _
    have bb := b0.trans (b1.mono b0.size)
    rw [hz] at A1
    exact ⟨A0.below b1 A0.lt, A1, hK.below bb, bb⟩
  have C1 : Hid (∀ {V}, Kx w k ⟨ka, kc, ka2, kc2⟩ V → Calls Tryd.prog 62 #[.slice ka k.sig.length kc] V (SrEndS V k.sig)) := fun h => strings_sp k.sig ka kc _ (h.ky.sig.mono h.bel.size) (by omega)
  have C2 : Hid (∀ {V}, Kx w k ⟨ka, kc, ka2, kc2⟩ V → Calls Tryd.prog 62 #[.slice ka2 k.wit.length kc2] V (SrEndS V k.wit)) := fun h => strings_sp k.wit ka2 kc2 _ (h.ky.wit.mono h.bel.size) (by omega)
  clear hK hz
  generalize hA : kyArr k ⟨ka, kc, ka2, kc2⟩ = arr at *
  have HA := Lib.hid hA
  clear hA
  go_enter Tryd.func27, Tryd.ntmps27
  go_upto_region 1 with fail
  refine wp_forget (Kx w k ⟨ka, kc, ka2, kc2⟩) h1.out ?_
  clear h1
  intro W hW0
  clear HA
  have hW : Kx w k ⟨ka, kc, ka2, kc2⟩ W.drew := hW0.below (Below.refl _ W).drew
  have HW := Lib.hid hW
  have HW0 := Lib.hid hW0
  have d0 : W.drew.cell? ⟨w.heap.size, 0, none⟩ = some (.slice ka k.sig.length kc) := hW.box.cell 0
  have d1 : W.drew.cell? ⟨w.heap.size, 1, none⟩ = some (.slice ka2 k.wit.length kc2) := hW.box.cell 1
  have d2 : W.drew.cell? ⟨w.heap.size, 2, none⟩ = some (.int .i64 k.need) := hW.box.cell 2
  have hs0 : w.heap.size + 1 < W.heap.size := hW0.res.lt
  have hs1 : w.heap.size + 1 < W.drew.heap.size := hs0
  clear hW hW0
  apply wp_four (R := fun A c A2 c2 V => Kr w k ⟨A, c, A2, c2⟩ V)
  case h =>
    intro K' hK'
    go_region_law (first
      | (go_simp; go_at_call 62; (with_reducible refine (C1.out HW.out).mono ?_); rintro _ W4 ⟨A9, c9, rfl, t9, r9, b4, f9⟩
         have b5 : Below W.heap.size W W4 := (Below.refl _ W).drew.trans b4
         have h5 := HW0.out.below b5
         have y0 : W4.cell? ⟨w.heap.size, 0, none⟩ = some (.slice ka k.sig.length kc) := h5.box.cell 0
         have y1 : W4.cell? ⟨w.heap.size, 1, none⟩ = some (.slice ka2 k.wit.length kc2) := h5.box.cell 1
         have y2 : W4.cell? ⟨w.heap.size, 2, none⟩ = some (.int .i64 k.need) := h5.box.cell 2
         have s5 : W.heap.size ≤ W4.heap.size := b5.size)
      | (go_simp; go_at_call 62; (with_reducible refine (C2.out h5).mono ?_); rintro _ W6 ⟨A8, c8, rfl, t8, r8, b6, f8⟩
         have h6 := h5.below b6
         have z0 : W6.cell? ⟨w.heap.size, 0, none⟩ = some (.slice ka k.sig.length kc) := h6.box.cell 0
         have z1 : W6.cell? ⟨w.heap.size, 1, none⟩ = some (.slice ka2 k.wit.length kc2) := h6.box.cell 1
         have z2 : W6.cell? ⟨w.heap.size, 2, none⟩ = some (.int .i64 k.need) := h6.box.cell 2
         have hfin := Lib.hid (h6.laid (A1 := A9) (c1 := c9) (A2 := A8) (c2 := c8) ((t9.below b6).mono b6.size) t8 r9 r8 (fun ad e => by have := f9 ad e; omega) (fun ad e => by have := f8 ad e; omega))
         have q0 : W6.cell? ⟨w.heap.size + 1, 0, none⟩ = some (.slice none 0 0) := h6.res.cell 0
         have e0 := h6.res.free 0
         have R1 := h6.res.put 0 (.slice A9 k.sig.length c9)
         have q1 : (W6.setCell ⟨w.heap.size + 1, 0, none⟩ (.slice A9 k.sig.length c9)).cell? ⟨w.heap.size + 1, 1, none⟩ = some (.slice none 0 0) := R1.cell 1
         have e1 := R1.free 1
         have R2 := R1.put 1 (.slice A8 k.wit.length c8)
         have q2 : ((W6.setCell ⟨w.heap.size + 1, 0, none⟩ (.slice A9 k.sig.length c9)).setCell ⟨w.heap.size + 1, 1, none⟩ (.slice A8 k.wit.length c8)).cell? ⟨w.heap.size + 1, 2, none⟩ = some (.int .i64 0) := R2.cell 2
         have e2 := R2.free 2)
      | (go_simp; go_at_call 62; (with_reducible refine (C2.out HW.out).mono ?_); rintro _ W4 ⟨A8, c8, rfl, t8, r8, b4, f8⟩
         have b5 : Below W.heap.size W W4 := (Below.refl _ W).drew.trans b4
         have h5 := HW0.out.below b5
         have y0 : W4.cell? ⟨w.heap.size, 0, none⟩ = some (.slice ka k.sig.length kc) := h5.box.cell 0
         have y1 : W4.cell? ⟨w.heap.size, 1, none⟩ = some (.slice ka2 k.wit.length kc2) := h5.box.cell 1
         have y2 : W4.cell? ⟨w.heap.size, 2, none⟩ = some (.int .i64 k.need) := h5.box.cell 2
         have s5 : W.heap.size ≤ W4.heap.size := b5.size)
      | (go_simp; go_at_call 62; (with_reducible refine (C1.out h5).mono ?_); rintro _ W6 ⟨A9, c9, rfl, t9, r9, b6, f9⟩
         have h6 := h5.below b6
         have z0 : W6.cell? ⟨w.heap.size, 0, none⟩ = some (.slice ka k.sig.length kc) := h6.box.cell 0
         have z1 : W6.cell? ⟨w.heap.size, 1, none⟩ = some (.slice ka2 k.wit.length kc2) := h6.box.cell 1
         have z2 : W6.cell? ⟨w.heap.size, 2, none⟩ = some (.int .i64 k.need) := h6.box.cell 2
         have hfin := Lib.hid (h6.laid (A1 := A9) (c1 := c9) (A2 := A8) (c2 := c8) t9 ((t8.below b6).mono b6.size) r9 r8 (fun ad e => by have := f9 ad e; omega) (fun ad e => by have := f8 ad e; omega))
         have q0 : W6.cell? ⟨w.heap.size + 1, 0, none⟩ = some (.slice none 0 0) := h6.res.cell 0
         have e0 := h6.res.free 0
         have R1 := h6.res.put 0 (.slice A9 k.sig.length c9)
         have q1 : (W6.setCell ⟨w.heap.size + 1, 0, none⟩ (.slice A9 k.sig.length c9)).cell? ⟨w.heap.size + 1, 1, none⟩ = some (.slice none 0 0) := R1.cell 1
         have e1 := R1.free 1
         have R2 := R1.put 1 (.slice A8 k.wit.length c8)
         have q2 : ((W6.setCell ⟨w.heap.size + 1, 0, none⟩ (.slice A9 k.sig.length c9)).setCell ⟨w.heap.size + 1, 1, none⟩ (.slice A8 k.wit.length c8)).cell? ⟨w.heap.size + 1, 2, none⟩ = some (.int .i64 0) := R2.cell 2
         have e2 := R2.free 2))
    all_goals (go_simp; exact hK' A9 c9 A8 c8 _ hfin.out)
  case k =>
    intro A9 c9 A8 c8 V hV
    go_wp2_with fail
    refine bodyPost_ret (v := .agg (kyArr k ⟨A9, c9, A8, c8⟩)) ?_ rfl ⟨⟨A9, c9, A8, c8⟩, rfl, hV.ky, hV.bel⟩
    exact results_cell_row Tryd.results27 _ _ (w.heap.size + 1) 41 _ (0, 0) _ rfl hV.res Tryd.underlying41 rfl (kyInfo2 k _)
end Go.Proofs.YtbpmgpbmeganoaaDoor
