/- Texts in one: SpOrderL, Take. -/
import Derived.Test.YtchpgngphgjmnaaDoorSpSearch
import Derived.Test.YtchpgngphgjmnaaDoorOSame
import Derived.Test.YtchpgngphgjmnaaDoorSpSameK
import Derived.Test.YtchpgngphgjmnaaDoorMem
import Derived.Deep.RegionHeld3
import Derived.Deep.RegionWith
/- keep.StepOrder: its walk. -/
namespace Go.Proofs.YtchpgngphgjmnaaDoor
open Go.RowKit

theorem SpIn.apart {W W' : World} {B q : Nat} {s : Sp} {p : SpAt} (h : SpIn W B s p) (k : W.grownBy W' (some q)) (hB : B ≤ W.heap.size) (f1 : ∀ ad, p.wa = some ad → q < ad.block) (f2 : ∀ ad, p.sa = some ad → q < ad.block) : SpIn W' B s p := by
  refine ⟨fun j x hx => ?_, fun j x hx => ?_, h.wroom, h.sroom⟩
  · obtain ⟨ad, e, hb, hc⟩ := h.nums j x hx
    have hne : some (ad.add j).block ≠ some q := fun e2 => by
      have := f1 ad e
      have e3 : (ad.add j).block = ad.block := by unfold Addr.add; split <;> rfl
      have := Option.some.inj e2
      omega
    exact ⟨ad, e, hb, (World.cell?_of_block (k.block _ (by omega) hne)).trans hc⟩
  · obtain ⟨ad, e, hb, hc⟩ := h.txs j x hx
    have hne : some (ad.add j).block ≠ some q := fun e2 => by
      have := f2 ad e
      have e3 : (ad.add j).block = ad.block := by unfold Addr.add; split <;> rfl
      have := Option.some.inj e2
      omega
    exact ⟨ad, e, hb, (World.cell?_of_block (k.block _ (by omega) hne)).trans hc⟩
def FarP (p : SpAt) (q : Nat) : Prop := (∀ ad, p.wa = some ad → q < ad.block) ∧ ∀ ad, p.sa = some ad → q < ad.block
/-- a store of a step over another one -/
theorem row_kept {W : World} {q g : Nat} {t : TypeId} {cs a : Array Value} (h : Arr W g t cs) (hn : g ≠ q) : Arr (W.setRow q a) g t cs := h.kept (gb_row (w := W) q a) (fun e => hn (Option.some.inj e))
structure Or2 (w : World) (q1 q2 : Nat) (s x y : Sp) (p p1 p2 : SpAt) (W : World) : Prop where
  box : Arr W w.heap.size 25 (spArr s p)
  b1 : Arr W q1 25 (spArr x p1)
  b2 : Arr W q2 25 (spArr y p2)
  i1 : SpIn W q1 x p1
  i2 : SpIn W q2 y p2
  f2 : FarP p2 q1
  bel : Below w.heap.size w W
  tab : Tab W
  l0 : w.heap.size < q1
  l1 : q1 < q2
theorem Or2.below {w W W' : World} {q1 q2 : Nat} {s x y : Sp} {p p1 p2 : SpAt} (h : Or2 w q1 q2 s x y p p1 p2 W) (b : Below W.heap.size W W') : Or2 w q1 q2 s x y p p1 p2 W' :=
  ⟨h.box.below b h.box.lt, h.b1.below b h.b1.lt, h.b2.below b h.b2.lt, h.i1.below (b.mono (Nat.le_of_lt h.b1.lt)), h.i2.below (b.mono (Nat.le_of_lt h.b2.lt)), h.f2, h.bel.trans (b.mono h.bel.size), h.tab.below b h.tab.1, h.l0, h.l1⟩
/-- behind the first's second signature -/
structure Or3 (w : World) (q1 q2 : Nat) (s x y : Sp) (p p1 p2 : SpAt) (W : World) : Prop where
  box : Arr W w.heap.size 25 (spArr s p)
  b1 : Arr W q1 25 (spArr x p1)
  b2 : Arr W q2 25 (spArr y p2)
  i1 : SpIn W W.heap.size x p1
  i2 : SpIn W W.heap.size y p2
  f1 : FarP p1 q2
  bel : Below w.heap.size w W
  tab : Tab W
  l0 : w.heap.size < q1
  l1 : q1 < q2
theorem Or3.below {w W W' : World} {q1 q2 : Nat} {s x y : Sp} {p p1 p2 : SpAt} (h : Or3 w q1 q2 s x y p p1 p2 W) (b : Below W.heap.size W W') : Or3 w q1 q2 s x y p p1 p2 W' :=
  ⟨h.box.below b h.box.lt, h.b1.below b h.b1.lt, h.b2.below b h.b2.lt, (h.i1.below b).mono b.size, (h.i2.below b).mono b.size, h.f1, h.bel.trans (b.mono h.bel.size), h.tab.below b h.tab.1, h.l0, h.l1⟩
theorem Or2.next {w W V : World} {q1 q2 : Nat} {s x y z : Sp} {p p1 p2 p3 : SpAt} (h : Or2 w q1 q2 s x y p p1 p2 W) (b : Below W.heap.size W V) (hI : SpIn V V.heap.size z p3) (f : FarP p3 (W.heap.size - 1)) (ht : Tab w) :
    Or3 w q1 q2 s z y p p3 p2 (V.setRow q1 (spArr z p3)) := by
  have h2 := h.below b
  have l0 := h.l0
  have l1 := h.l1
  have l2 := h.b2.lt
  have k := gb_row (w := V) q1 (spArr z p3)
  have bel : Below w.heap.size w (V.setRow q1 (spArr z p3)) := below_gb h2.bel k (by omega) h2.bel.size
  have hsz : V.heap.size ≤ (V.setRow q1 (spArr z p3)).heap.size := k.size
  refine ⟨row_kept h2.box (by omega), h2.b1.row _, row_kept h2.b2 (by omega), ?_, ?_, ⟨fun ad e => by have := f.1 ad e; omega, fun ad e => by have := f.2 ad e; omega⟩, bel, ht.below bel ht.1, l0, l1⟩
  · exact (hI.apart k (Nat.le_refl _) (fun ad e => by have := f.1 ad e; omega) (fun ad e => by have := f.2 ad e; omega)).mono hsz
  · exact (h2.i2.apart k (Nat.le_of_lt h2.b2.lt) h.f2.1 h.f2.2).mono (by have := h2.b2.lt; omega)
theorem Or3.next {w W V : World} {q1 q2 : Nat} {s x y z : Sp} {p p1 p2 p3 : SpAt} (h : Or3 w q1 q2 s x y p p1 p2 W) (b : Below W.heap.size W V) (hI : SpIn V V.heap.size z p3) (f : FarP p3 (W.heap.size - 1)) (ht : Tab w) :
    Or3 w q1 q2 s x z p p1 p3 (V.setRow q2 (spArr z p3)) := by
  have h2 := h.below b
  have l0 := h.l0
  have l1 := h.l1
  have l2 := h.b2.lt
  have k := gb_row (w := V) q2 (spArr z p3)
  have bel : Below w.heap.size w (V.setRow q2 (spArr z p3)) := below_gb h2.bel k (by omega) h2.bel.size
  have hsz : V.heap.size ≤ (V.setRow q2 (spArr z p3)).heap.size := k.size
  refine ⟨row_kept h2.box (by omega), row_kept h2.b1 (by omega), h2.b2.row _, ?_, ?_, h.f1, bel, ht.below bel ht.1, l0, l1⟩
  · exact (h2.i1.apart k (Nat.le_refl _) h.f1.1 h.f1.2).mono hsz
  · exact (hI.apart k (Nat.le_refl _) (fun ad e => by have := f.1 ad e; omega) (fun ad e => by have := f.2 ad e; omega)).mono hsz
/-- behind the first signature -/
structure Or1 (w : World) (q1 : Nat) (s x : Sp) (p p1 : SpAt) (W : World) : Prop where
  box : Arr W w.heap.size 25 (spArr s p)
  b1 : Arr W q1 25 (spArr x p1)
  i1 : SpIn W q1 x p1
  bel : Below w.heap.size w W
  tab : Tab W
  l0 : w.heap.size < q1
theorem Or1.next {w W V : World} {q1 : Nat} {s x y : Sp} {p p1 p2 : SpAt} (h : Or1 w q1 s x p p1 W) (b : Below W.heap.size W V) (hI : SpIn V V.heap.size y p2) (f : FarP p2 (W.heap.size - 1)) (ht : Tab w) :
    Or2 w q1 V.heap.size s x y p p1 p2 ((V.alloc (.cells spZero 25)).setRow V.heap.size (spArr y p2)) := by
  have A0 : Arr (V.alloc (.cells spZero 25)) V.heap.size 25 spZero := Arr.new _ _ _
  have bz : Below V.heap.size V ((V.alloc (.cells spZero 25)).setRow V.heap.size (spArr y p2)) := below_setRow ((Below.refl _ _).alloc (Nat.le_refl _) _) (Nat.le_refl _) _
  have bb := b.trans (bz.mono b.size)
  have l1 := h.b1.lt
  have bel := h.bel.trans (bb.mono h.bel.size)
  exact ⟨h.box.below bb h.box.lt, h.b1.below bb l1, A0.row _, h.i1.below (bb.mono (Nat.le_of_lt l1)), hI.below bz, ⟨fun ad e => by have := f.1 ad e; omega, fun ad e => by have := f.2 ad e; omega⟩, bel, ht.below bel ht.1, h.l0, by have := b.size; omega⟩
theorem far_of {w : World} {p : SpAt} (f1 : ∀ ad, p.wa = some ad → w.heap.size ≤ ad.block) (f2 : ∀ ad, p.sa = some ad → w.heap.size ≤ ad.block) (h : 0 < w.heap.size) : FarP p (w.heap.size - 1) :=
  ⟨fun ad e => by have := f1 ad e; omega, fun ad e => by have := f2 ad e; omega⟩
set_option maxRecDepth 100000 in
set_option maxHeartbeats 8000000 in
theorem StepOrder_any (s : Sp) (p : SpAt) (i a b : Int) (k l : ByteArray) (w : World) (hP : SpIn w w.heap.size s p) (hz : SpSz s) (hk : k.size ≤ 140737488355328) (hl : l.size ≤ 140737488355328) (ht : Tab w) :
    Calls Tryd.prog 5 #[.agg (spArr s p), .int .i64 i, .int .i64 a, .int .i64 b, .string k, .string l] w fun e w' => e = .returned (.bool true) ∧ Below w.heap.size w w' := by
  have hl1 : s.who.length ≤ 140737488355328 := by have := hz.who; omega
  have hl2 : s.seals.length ≤ 140737488355328 := by have := hz.seals; omega
  have h1 : Hid (Arr (w.alloc (.cells (spArr s p) 25)) w.heap.size 25 (spArr s p) ∧ Below w.heap.size w (w.alloc (.cells (spArr s p) 25))) := ⟨Arr.new _ _ _, (Below.refl _ _).alloc (Nat.le_refl _) _⟩
  have HT := Lib.hid ht
  have HP := Lib.hid hP
  have C1 : Hid (∀ V, Below w.heap.size w V → Calls Tryd.prog 12 #[.agg (spArr s p), .int .i64 i, .int .i64 a, .string k] V (SpFar V (spSign s i a k))) := fun V h => SpSign_far s p i a k V ((hP.below h).mono h.size) hl1 hl2 hk (ht.below h ht.1)
  have C2 : Hid (∀ V, Below w.heap.size w V → Calls Tryd.prog 12 #[.agg (spArr s p), .int .i64 i, .int .i64 b, .string l] V (SpFar V (spSign s i b l))) := fun V h => SpSign_far s p i b l V ((hP.below h).mono h.size) hl1 hl2 hl (ht.below h ht.1)
  have HO : Hid ((spSign s i a k).2 = 0 → (spSign s i b l).2 = 0 → a ≠ b → _) := fun h1 h2 h3 => order_plain h1 h2 h3
  clear hP hz ht hl1 hl2
  generalize spSign s i a k = R1 at *
  generalize spSign s i b l = R2 at *
  obtain ⟨x, ex⟩ := R1
  obtain ⟨y, ey⟩ := R2
  simp only at HO
  generalize hA : spArr s p = arr at *
  have HA := Lib.hid hA
  clear hA
  go_enter Tryd.func5, Tryd.ntmps5
  go_upto_region 1 with fail
  refine wp_forget (fun W => Arr W w.heap.size 25 arr ∧ Below w.heap.size w W) h1.out ?_
  clear h1
  rintro W ⟨AX, b0⟩
  have hA := HA.out
  clear HA
  subst hA
  go_wp2_with (refine wpList_load_row rfl 25 _ rfl w.heap.size rfl 25 _ (0, 0) _ AX Tryd.underlying25 rfl (spInfo s _) ?_)
  (with_reducible refine (C1.out W b0).mono ?_)
  clear C1
  rintro _ V ⟨p1, rfl, hI, b1, _, _⟩
  simp only at hI
  have hst : Hid (Or1 w V.heap.size s x p p1 ((V.alloc (.cells spZero 25)).setRow V.heap.size (spArr x p1))) := by
    have A0 : Arr (V.alloc (.cells spZero 25)) V.heap.size 25 spZero := Arr.new _ _ _
    have bz : Below V.heap.size V ((V.alloc (.cells spZero 25)).setRow V.heap.size (spArr x p1)) := below_setRow ((Below.refl _ _).alloc (Nat.le_refl _) _) (Nat.le_refl _) _
    have bb := b1.trans (bz.mono b1.size)
    have bel := b0.trans (bb.mono b0.size)
    exact ⟨AX.below bb AX.lt, A0.row _, hI.below bz, bel, HT.out.below bel HT.out.1, Nat.lt_of_lt_of_le AX.lt b1.size⟩
  have A0 : Arr (V.alloc (.cells spZero 25)) V.heap.size 25 spZero := Arr.new _ _ _
  go_upto_region 2 with (refine wpList_store_row rfl 25 _ _ rfl V.heap.size (spArr x p1) rfl rfl 25 spZero A0 (spInfo x _) rfl (spArr_one x _) ?_)
  refine wp_forget (Or1 w V.heap.size s x p p1) (by exact hst.out) ?_
  clear hst A0 hI b1 b0 AX
  generalize V.heap.size = q1
  intro W1 hW1
  go_wp2_with (refine wpList_load_row rfl 25 _ rfl w.heap.size rfl 25 _ (0, 0) _ hW1.box Tryd.underlying25 rfl (spInfo s _) ?_)
  (with_reducible refine (C2.out W1 hW1.bel).mono ?_)
  clear C2
  rintro _ V2 ⟨p2, rfl, hI, b1, f1, f2⟩
  simp only at hI
  have hst := Lib.hid (hW1.next b1 hI (far_of f1 f2 (by have := hW1.b1.lt; omega)) HT.out)
  have A0 : Arr (V2.alloc (.cells spZero 25)) V2.heap.size 25 spZero := Arr.new _ _ _
  go_upto_region 3 with (refine wpList_store_row rfl 25 _ _ rfl V2.heap.size (spArr y p2) rfl rfl 25 spZero A0 (spInfo y _) rfl (spArr_one y _) ?_)
  refine wp_forget (Or2 w q1 V2.heap.size s x y p p1 p2) (by exact hst.out) ?_
  clear hst A0 hI b1 f1 f2 hW1
  generalize V2.heap.size = q2
  intro W2 hW2
  have CS := Lib.hid (keepSteps_any W2 hW2.tab)
  cases hx : ex != 0
  case true =>
    go_wp2_with fail
    (with_reducible refine CS.out.mono ?_)
    rintro _ W3 ⟨rfl, b3⟩
    go_wp2_with fail
    go_ret
    exact ⟨rfl, hW2.bel.trans (b3.mono hW2.bel.size)⟩
  cases hy : ey != 0
  case true =>
    go_wp2_with fail
    (with_reducible refine CS.out.mono ?_)
    rintro _ W3 ⟨rfl, b3⟩
    go_wp2_with fail
    go_ret
    exact ⟨rfl, hW2.bel.trans (b3.mono hW2.bel.size)⟩
  cases hab : a == b
  case true =>
    go_wp2_with fail
    (with_reducible refine CS.out.mono ?_)
    rintro _ W3 ⟨rfl, b3⟩
    go_wp2_with fail
    go_ret
    exact ⟨rfl, hW2.bel.trans (b3.mono hW2.bel.size)⟩
  have hx2 : ex = 0 := by simpa using hx
  have hy2 : ey = 0 := by simpa using hy
  obtain ⟨z, e1, e2, e3, ⟨n1, n2⟩, m1, m2, m3, m4, m5⟩ := HO.out hx2 hy2 (by simpa using hab)
  subst hx2 hy2
  clear CS hx hy HO
  have C3 : Hid (∀ V, SpIn V V.heap.size x p1 → Tab V → Calls Tryd.prog 12 #[.agg (spArr x p1), .int .i64 i, .int .i64 b, .string l] V (SpFar V (z, 0))) := fun V h h' => by rw [← e1]; exact SpSign_far x p1 i b l V h (by omega) (by omega) hl h'
  have C4 : Hid (∀ V, SpIn V V.heap.size y p2 → Tab V → Calls Tryd.prog 12 #[.agg (spArr y p2), .int .i64 i, .int .i64 a, .string k] V (SpFar V (z, 0))) := fun V h h' => by rw [← e2]; exact SpSign_far y p2 i a k V h (by omega) (by omega) hk h'
  have C5 : Hid (∀ V p, SpIn V V.heap.size z p → Tab V → Calls Tryd.prog 12 #[.agg (spArr z p), .int .i64 i, .int .i64 a, .string k] V (SpFar V (spZ, 8))) := fun V p h h' => by rw [← e3]; exact SpSign_far z p i a k V h (by omega) (by omega) hk h'
  have HN : Hid (z.who.length = s.who.length + 2 ∧ s.who.length ≤ 8 ∧ z.seals.length = s.who.length + 2) := ⟨n1, m5, n2⟩
  clear e1 e2 e3 n1 n2 m1 m2 m3 m4 m5 hk hl
  go_wp2_with (refine wpList_load_row rfl 25 _ rfl q1 rfl 25 _ (0, 0) _ hW2.b1 Tryd.underlying25 rfl (spInfo x _) ?_)
  (with_reducible refine (C3.out W2 (hW2.i1.mono (Nat.le_of_lt hW2.b1.lt)) hW2.tab).mono ?_)
  clear C3
  rintro _ V3 ⟨p3, rfl, hI, b1, f1, f2⟩
  simp only at hI
  have hst := Lib.hid (hW2.next b1 hI (far_of f1 f2 (by have := hW2.b1.lt; omega)) HT.out)
  have hB := hW2.below b1
  go_upto_region 6 with (refine wpList_store_row rfl 25 _ _ rfl q1 (spArr z p3) rfl rfl 25 (spArr x p1) hB.b1 (spInfo z _) rfl (spArr_one z _) ?_)
  refine wp_forget (Or3 w q1 q2 s z y p p3 p2) (by exact hst.out) ?_
  clear hst hB hI b1 f1 f2 hW2
  intro W3 hW3
  go_wp2_with (refine wpList_load_row rfl 25 _ rfl q2 rfl 25 _ (0, 0) _ hW3.b2 Tryd.underlying25 rfl (spInfo y _) ?_)
  (with_reducible refine (C4.out W3 hW3.i2 hW3.tab).mono ?_)
  clear C4
  rintro _ V4 ⟨p4, rfl, hI, b1, f1, f2⟩
  simp only at hI
  have hst := Lib.hid (hW3.next b1 hI (far_of f1 f2 (by have := hW3.b1.lt; omega)) HT.out)
  have hB := hW3.below b1
  go_upto_region 7 with (refine wpList_store_row rfl 25 _ _ rfl q2 (spArr z p4) rfl rfl 25 (spArr y p2) hB.b2 (spInfo z _) rfl (spArr_one z _) ?_)
  refine wp_forget (Or3 w q1 q2 s z z p p3 p4) (by exact hst.out) ?_
  clear hst hB hI b1 f1 f2 hW3
  intro W4 hW4
  go_wp2_with (refine wpList_load_row rfl 25 _ rfl q1 rfl 25 _ (0, 0) _ hW4.b1 Tryd.underlying25 rfl (spInfo z _) ?_)
  (with_reducible refine (C5.out W4 p3 hW4.i1 hW4.tab).mono ?_)
  clear C5
  rintro _ V5 ⟨p5, rfl, hI, b1, _, _⟩
  have hB := hW4.below b1
  have bz : Below V5.heap.size V5 ((V5.alloc (.cells spZero 25)).setRow V5.heap.size (spArr spZ p5)) := below_setRow ((Below.refl _ _).alloc (Nat.le_refl _) _) (Nat.le_refl _) _
  have hst := Lib.hid (hB.below bz)
  have A0 : Arr (V5.alloc (.cells spZero 25)) V5.heap.size 25 spZero := Arr.new _ _ _
  go_upto_region 8 with (refine wpList_store_row rfl 25 _ _ rfl V5.heap.size (spArr spZ p5) rfl rfl 25 spZero A0 (spInfo spZ _) rfl (spArr_one spZ _) ?_)
  refine wp_forget (Or3 w q1 q2 s z z p p3 p4) (by exact hst.out) ?_
  clear hst hB hI b1 bz A0 hW4
  intro W5 hW5
  obtain ⟨xa, xc, ya, yc⟩ := p3
  obtain ⟨ua, uc, va, vc⟩ := p4
  have HN2 := HN.out
  have C : Hid (Calls Tryd.prog 11 #[.agg (spArr z ⟨xa, xc, ya, yc⟩), .agg (spArr z ⟨ua, uc, va, vc⟩)] W5 fun e w' => e = .returned (.bool true) ∧ Below W5.heap.size W5 w') := KeepSameStep z _ _ W5 hW5.i1 hW5.i2 (by omega) (by omega)
  have c0 := hW5.b1.cell 0
  have c1 := hW5.b1.cell 1
  have c2 := hW5.b1.cell 2
  have c3 := hW5.b1.cell 3
  have c4 := hW5.b1.cell 4
  have e0 := hW5.b2.cell 0
  have e1 := hW5.b2.cell 1
  have e2 := hW5.b2.cell 2
  have e3 := hW5.b2.cell 3
  have e4 := hW5.b2.cell 4
  simp only [spArr, List.getElem?_toArray, List.getElem?_cons_zero, List.getElem?_cons_succ] at c0 c1 c2 c3 c4 e0 e1 e2 e3 e4 C
  rw [HN2.1, HN2.2.2] at C
  rw [HN2.1] at c3 e3
  rw [HN2.2.2] at c4 e4
  clear HN2
  go_wp2_with fail
  (with_reducible refine C.out.mono ?_)
  clear C c0 c1 c2 c4 e0 e1 e2 e3 e4
  rintro _ W6 ⟨rfl, b6⟩
  have hW6 := hW5.below b6
  clear hW5 b6 c3
  have g3 : W6.cell? ⟨w.heap.size, 3, none⟩ = some (.slice p.wa s.who.length p.wc) := hW6.box.cell 3
  have c3 : W6.cell? ⟨q1, 3, none⟩ = some (.slice xa z.who.length xc) := hW6.b1.cell 3
  have CS := Lib.hid (keepSteps_any W6 hW6.tab)
  have hs8 : (s.who.length : Int) ≤ 8 := by have := HN.out; omega
  have hz8 : IntKind.i64.wrap ((z.who.length : Int) - (s.who.length : Int)) = 2 := by
    have := HN.out
    rw [IntWalk.i64_in _ (by omega)]
    omega
  rw [HN.out.1] at c3 hz8
  go_wp2_with fail
  (with_reducible refine CS.out.mono ?_)
  rintro _ W7 ⟨rfl, b7⟩
  go_wp2_with fail
  go_ret
  exact ⟨rfl, hW6.bel.trans (b7.mono hW6.bel.size)⟩
end Go.Proofs.YtchpgngphgjmnaaDoor

/- Taking an operation of a region by hand. -/
namespace Go.Proofs.YtchpgngphgjmnaaDoor
open Go.RowKit

section
variable {P : Program} {ops : Array Oper} {Q : Exit → Act → World → Prop} {md : Region.Mode} {S : World → Prop}
/-- an operation that yields is taken first -/
theorem takeY (i d : Nat) (v : Value) {oi : Oper} {fuel : Nat} {listed : Array Bool} {ts : Array Value} {df : List Deferred} {w : World} (hi : ops[i]? = some oi) (hd : oi.dst = some d)
    (hs : Region.noSelect ops = true) (hf : Region.free md ops listed i = true) (hr : (Region.ready md ops listed).contains i = true)
    (hQ : ∀ c a w, Q (.panic c) (a.put oi.dst v) w → Q (.panic c) a w) (hw : Region.wanted oi (yielded ops ts) = true)
    (hv : ∀ w, S w → (execOp (Act.eval ⟨ts, df⟩) oi).run P w = .ok (.value v) w) (hS : S w)
    (h : wpAnyH P md ops Q S fuel (listed.setIfInBounds i true) ⟨ts.setIfInBounds d v, df⟩ w) : wpAnyH P md ops Q S (fuel + 1) listed ⟨ts, df⟩ w :=
  wpAnyH_take hi hs hf hr hQ (Or.inl ⟨hw, hv⟩) hS (by rw [hd]; exact h)
/-- an operation that is not wanted is taken first -/
theorem takeN (i d : Nat) {oi : Oper} {fuel : Nat} {listed : Array Bool} {ts : Array Value} {df : List Deferred} {w : World} (hi : ops[i]? = some oi) (hd : oi.dst = some d)
    (hs : Region.noSelect ops = true) (hf : Region.free md ops listed i = true) (hr : (Region.ready md ops listed).contains i = true)
    (hQ : ∀ c a w, Q (.panic c) (a.put oi.dst undef) w → Q (.panic c) a w) (hw : Region.wanted oi (yielded ops ts) = false) (hS : S w)
    (h : wpAnyH P md ops Q S fuel (listed.setIfInBounds i true) ⟨ts.setIfInBounds d undef, df⟩ w) : wpAnyH P md ops Q S (fuel + 1) listed ⟨ts, df⟩ w :=
  wpAnyH_take hi hs hf hr hQ (Or.inr ⟨hw, rfl⟩) hS (by rw [hd]; exact h)
end
end Go.Proofs.YtchpgngphgjmnaaDoor
