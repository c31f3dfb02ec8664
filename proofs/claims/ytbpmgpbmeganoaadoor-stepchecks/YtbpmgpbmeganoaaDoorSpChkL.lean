/- law.StepChecks: its walk. -/
import Derived.Test.YtbpmgpbmeganoaaDoorSpCat
import Derived.Test.YtbpmgpbmeganoaaDoorSpSearch
import Derived.Test.YtbpmgpbmeganoaaDoorSpStepsL
namespace Go.Proofs.YtbpmgpbmeganoaaDoor
open Go.RowKit

theorem Ck.cs {w W : World} {k : Ky} {q : KyAt} {s : Sp} {p : SpAt} (h : Ck w k q s p W) :
    W.cell? ⟨w.heap.size, 0, none⟩ = some (.slice q.a k.sig.length q.c) ∧ W.cell? ⟨w.heap.size, 1, none⟩ = some (.slice q.a2 k.wit.length q.c2) ∧ W.cell? ⟨w.heap.size, 2, none⟩ = some (.int .i64 k.need) ∧
    W.cell? ⟨w.heap.size + 1, 0, none⟩ = some (.string s.ref) ∧ W.cell? ⟨w.heap.size + 1, 1, none⟩ = some (.string s.old) ∧ W.cell? ⟨w.heap.size + 1, 2, none⟩ = some (.string s.new) ∧
    W.cell? ⟨w.heap.size + 1, 3, none⟩ = some (.slice p.wa s.who.length p.wc) ∧ W.cell? ⟨w.heap.size + 1, 4, none⟩ = some (.slice p.sa s.seals.length p.sc) :=
  ⟨h.1.cell 0, h.1.cell 1, h.1.cell 2, h.2.1.cell 0, h.2.1.cell 1, h.2.1.cell 2, h.2.1.cell 3, h.2.1.cell 4⟩
theorem Ck.k {w W : World} {k : Ky} {q : KyAt} {s : Sp} {p : SpAt} (h : Ck w k q s p W) : KyIn W W.heap.size k q := ⟨h.2.2.1.sig.mono h.2.2.2.2.1.size, h.2.2.1.wit.mono h.2.2.2.2.1.size, h.2.2.1.room, h.2.2.1.room2⟩
theorem Ck.s {w W : World} {k : Ky} {q : KyAt} {s : Sp} {p : SpAt} (h : Ck w k q s p W) : SpIn W W.heap.size s p := h.2.2.2.1.mono h.2.2.2.2.1.size
theorem Ck.tab {w W : World} {k : Ky} {q : KyAt} {s : Sp} {p : SpAt} (h : Ck w k q s p W) : Tab W := h.2.2.2.2.2
theorem Ck.bel {w W : World} {k : Ky} {q : KyAt} {s : Sp} {p : SpAt} (h : Ck w k q s p W) : Below w.heap.size w W := h.2.2.2.2.1
set_option maxRecDepth 100000 in
set_option maxHeartbeats 8000000 in
theorem StepChecks_any (k : Ky) (q : KyAt) (i : Int) (s : Sp) (p : SpAt) (w : World) (hK : KyIn w w.heap.size k q) (hkz : KySz k) (hP : SpIn w w.heap.size s p) (hz : SpSz s) (ht : Tab w) :
    Calls Tryd.prog 6 #[.agg (kyArr k q), .int .i64 i, .agg (spArr s p)] w fun e w' => e = .returned (.bool true) ∧ Below w.heap.size w w' := by
  obtain ⟨wa, wc, sa, sc⟩ := p
  obtain ⟨ka, kc, ka2, kc2⟩ := q
  have hl1 : s.who.length ≤ 140737488355328 := by have := hz.who; omega
  have hl2 : s.seals.length ≤ 140737488355328 := by have := hz.seals; omega
  have hl3 : s.ref.size ≤ 140737488355328 := by have := hz.ref; omega
  have h1 : Hid (Ck w k ⟨ka, kc, ka2, kc2⟩ s ⟨wa, wc, sa, sc⟩ ((w.alloc (.cells (kyArr k ⟨ka, kc, ka2, kc2⟩) 41)).alloc (.cells (spArr s ⟨wa, wc, sa, sc⟩) 25))) := by
    have A0 : Arr (w.alloc (.cells (kyArr k ⟨ka, kc, ka2, kc2⟩) 41)) w.heap.size 41 (kyArr k ⟨ka, kc, ka2, kc2⟩) := Arr.new _ _ _
    have b0 : Below w.heap.size w (w.alloc (.cells (kyArr k ⟨ka, kc, ka2, kc2⟩) 41)) := (Below.refl _ _).alloc (Nat.le_refl _) _
    have hz : (w.alloc (.cells (kyArr k ⟨ka, kc, ka2, kc2⟩) 41)).heap.size = w.heap.size + 1 := World.size_alloc _ _
    generalize w.alloc (.cells (kyArr k ⟨ka, kc, ka2, kc2⟩) 41) = V at *
    have A1 : Arr (V.alloc (.cells (spArr s ⟨wa, wc, sa, sc⟩) 25)) V.heap.size 25 (spArr s ⟨wa, wc, sa, sc⟩) := Arr.new _ _ _
    have b1 : Below V.heap.size V (V.alloc (.cells (spArr s ⟨wa, wc, sa, sc⟩) 25)) := (Below.refl _ _).alloc (Nat.le_refl _) _
    have bb := b0.trans (b1.mono b0.size)
    rw [hz] at A1
    exact ⟨A0.below b1 A0.lt, A1, hK.below bb, hP.below bb, bb, ht.below bb ht.1⟩
  have CK : Hid (∀ V, KyIn V V.heap.size k ⟨ka, kc, ka2, kc2⟩ → Calls Tryd.prog 27 #[.agg #[.slice ka k.sig.length kc, .slice ka2 k.wit.length kc2, .int .i64 k.need]] V (KpEnd V k)) := fun V h => keys_law k ⟨ka, kc, ka2, kc2⟩ V h hkz
  have CC : Hid (∀ V, SpIn V V.heap.size s ⟨wa, wc, sa, sc⟩ → Calls Tryd.prog 14 #[.agg #[.string s.ref, .string s.old, .string s.new, .slice wa s.who.length wc, .slice sa s.seals.length sc]] V (CpEnd V s)) := fun V h => CopyStep_any s ⟨wa, wc, sa, sc⟩ V h hz
  have CP := Lib.hid (fun V q p h1 h2 h3 => SpCheck_any k q s p i V h1 h2 hkz hl1 hl2 h3)
  have CR : Hid (∀ V, KyIn V V.heap.size k ⟨ka, kc, ka2, kc2⟩ → SpIn V V.heap.size s ⟨wa, wc, sa, sc⟩ → Tab V → Calls Tryd.prog 28 #[.agg #[.slice ka k.sig.length kc, .slice ka2 k.wit.length kc2, .int .i64 k.need], .int .i64 i, .agg #[.string s.ref, .string s.old, .string s.new, .slice wa s.who.length wc, .slice sa s.seals.length sc]] V fun e w' => e = .returned (.int .i64 (spCheck k.sig k.need i s)) ∧ Below V.heap.size V w') := fun V h h2 h3 => RefCheckStep_any k ⟨ka, kc, ka2, kc2⟩ s ⟨wa, wc, sa, sc⟩ i V h h2 hkz hl1 hl2 hl3 h3
  clear hK hP hz hkz ht hl1 hl2 hl3
  generalize spCheck k.sig k.need i s = R at *
  have hrr : (R == R) = true := by simp
  generalize hA : spArr s ⟨wa, wc, sa, sc⟩ = arr at *
  generalize hA2 : kyArr k ⟨ka, kc, ka2, kc2⟩ = arr2 at *
  go_enter Tryd.func6, Tryd.ntmps6
  go_upto_region 1 with fail
  refine wp_forget (Ck w k ⟨ka, kc, ka2, kc2⟩ s ⟨wa, wc, sa, sc⟩) h1.out ?_
  clear h1
  intro W hW0
  clear hA hA2
  have hX : Ck w k ⟨ka, kc, ka2, kc2⟩ s ⟨wa, wc, sa, sc⟩ W.drew := hW0.below (Below.refl _ W).drew
  have hc := hW0.cs
  clear hW0
  simp only at hc
  go_wp2_with fail
  go_region_held3 (fun w' => w'.cell? ⟨w.heap.size, 0, none⟩ = some (.slice ka k.sig.length kc) ∧ w'.cell? ⟨w.heap.size, 1, none⟩ = some (.slice ka2 k.wit.length kc2) ∧ w'.cell? ⟨w.heap.size, 2, none⟩ = some (.int .i64 k.need) ∧
      w'.cell? ⟨w.heap.size + 1, 0, none⟩ = some (.string s.ref) ∧ w'.cell? ⟨w.heap.size + 1, 1, none⟩ = some (.string s.old) ∧ w'.cell? ⟨w.heap.size + 1, 2, none⟩ = some (.string s.new) ∧
      w'.cell? ⟨w.heap.size + 1, 3, none⟩ = some (.slice wa s.who.length wc) ∧ w'.cell? ⟨w.heap.size + 1, 4, none⟩ = some (.slice sa s.seals.length sc))
    (first | exact hc | exact hc5 | exact hc6 | exact hc7 | exact hc8 | exact hc9)
    (first
      | (go_at_call 27
         (with_reducible refine (CK.out _ hX.k).mono ?_)
         rintro _ W5 ⟨q5, rfl, hI5, b5⟩
         have hX5 := hX.below b5
         have hc5 := hX5.cs)
      | (go_at_call 14
         (with_reducible refine (CC.out _ hX5.s).mono ?_)
         rintro _ W6 ⟨p6, rfl, hI6, b6⟩
         have hX6 := hX5.below b6
         have hI7 := hI5.up b6
         have hc6 := hX6.cs)
      | (go_at_call 26
         (with_reducible refine (CP.out _ q5 p6 hI7 hI6 hX6.tab).mono ?_)
         rintro _ W7 ⟨rfl, b7⟩
         have hX7 := hX6.below b7
         have hc7 := hX7.cs)
      | (go_at_call 28
         (with_reducible refine (CR.out _ hX7.k hX7.s hX7.tab).mono ?_)
         rintro _ W8 ⟨rfl, b8⟩
         have hX8 := hX7.below b8
         have hc8 := hX8.cs)
      | (go_at_call 20
         (with_reducible refine (lawSteps_any _ hX8.tab).mono ?_)
         rintro _ W9 ⟨rfl, b9⟩
         have hX9 := hX8.below b9
         have hc9 := hX9.cs))
  all_goals
    go_wp2_with fail
    go_ret
    exact ⟨rfl, hX9.bel⟩
end Go.Proofs.YtbpmgpbmeganoaaDoor
