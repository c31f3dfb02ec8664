/- keep.SumStates: the walk. -/
import Derived.Test.YtngfgmcnpbjefaaDoorParts
namespace Go.Proofs.YtngfgmcnpbjefaaDoor
open Go.RowKit

/-- cells that make up a state -/
def IsS (A : Array Value) : Prop := ∃ hs r m, A = sarr hs r m ∧ hs.length = 8
theorem IsS.info {A : Array Value} (h : IsS A) : (Tryd.prog.info? 28).map (·.size) = some A.size := by obtain ⟨hs, r, m, rfl, h8⟩ := h; exact infoS _ h8 _ _
theorem IsS.size {A : Array Value} (h : IsS A) : A.size = 10 := by obtain ⟨hs, r, m, rfl, h8⟩ := h; exact sarr_size _ h8 _ _
theorem IsS.one {A : Array Value} (h : IsS A) : A.all (·.oneCell') = true := by obtain ⟨hs, r, m, rfl, h8⟩ := h; exact sarr_one _ _ _
theorem IsS.eq {A : Array Value} (h : IsS A) (w : World) : (binOp .eql 28 (.agg A) (.agg A)).run Tryd.prog w = .ok (.bool true) w := by obtain ⟨hs, r, m, rfl, h8⟩ := h; exact eqS_run _ h8 _ _ w

/-- what a call of Add comes to -/
def AddIs (A : Array Value) (b : ByteArray) (B : Array Value) (e : Int) : Prop := ∀ W, Tab W → Calls Tryd.prog 14 #[.agg A, .string b] W fun x w' => x = .returned (.tuple #[.agg B, .int .i64 e]) ∧ Below W.heap.size W w'
def EndIs (A : Array Value) (s : ByteArray) (e : Int) : Prop := ∀ W, Tab W → Calls Tryd.prog 16 #[.agg A] W fun x w' => x = .returned (.tuple #[.string s, .int .i64 e]) ∧ Below W.heap.size W w'
def GoodIs (A : Array Value) (g : Bool) : Prop := ∀ W, Calls Tryd.prog 18 #[.agg A] W fun x w' => x = .returned (.bool g) ∧ Below W.heap.size W w'

/-- three ways through the law -/
def WayS (A0 A2 A3 : Array Value) (e1 e2 e3 : Int) : Prop :=
  (GoodIs A0 false ∧ (∃ s, EndIs A0 s 3) ∧ e1 = 3 ∧ e3 = 3) ∨ (GoodIs A0 true ∧ e3 = 3) ∨
  (GoodIs A0 true ∧ e1 = 0 ∧ e2 = 0 ∧ e3 = 0 ∧ A2 = A3 ∧ (∃ s, EndIs A3 s 0) ∧ GoodIs A3 true)

/-- the law's own blocks -/
def SW4 (g1 g2 g3 : Nat) (A0 A1 A2 A3 : Array Value) (w W : World) : Prop :=
  PW1 w.heap.size A0 w W ∧ PW1 g1 A1 w W ∧ PW1 g2 A2 w W ∧ PW1 g3 A3 w W
theorem SW4.below {g1 g2 g3 : Nat} {A0 A1 A2 A3 : Array Value} {w W W' : World} (h : SW4 g1 g2 g3 A0 A1 A2 A3 w W) (hb : Below W.heap.size W W') : SW4 g1 g2 g3 A0 A1 A2 A3 w W' :=
  ⟨h.1.below hb, h.2.1.below hb, h.2.2.1.below hb, h.2.2.2.below hb⟩
/-- a new block, laid and filled, leaves the others -/
theorem PW1.other {g : Nat} {A B : Array Value} {w W : World} (h : PW1 g A w W) (hw : 0 < w.heap.size) : PW1 g A w ((W.alloc (.cells zeroS 28)).setRow W.heap.size B) :=
  ⟨(h.1.alloc _).row_far (Nat.ne_of_gt h.1.lt) _, h.2.1, (PW1.start (A := B) h.2.2.1 h.2.2.2 hw).2.2⟩

set_option maxRecDepth 100000 in
set_option maxHeartbeats 2000000 in
theorem States_walk (A0 A1 A2 A3 : Array Value) (a b : ByteArray) (e1 e2 e3 : Int) (i0 : IsS A0) (i1 : IsS A1) (i2 : IsS A2) (i3 : IsS A3)
    (C1 : AddIs A0 a A1 e1) (C2 : AddIs A1 b A2 e2) (C3 : AddIs A0 (a ++ b) A3 e3) (hway : WayS A0 A2 A3 e1 e2 e3) (hab : ¬ (9223372036854775807 < a.size + b.size)) (w : World) (ht : Tab w) :
    Calls Tryd.prog 8 #[.agg A0, .string a, .string b] w fun e w' => e = .returned (.bool true) ∧ Below w.heap.size w w' := by
  go_enter Tryd.func8, Tryd.ntmps8
  go_upto_region 1 with fail
  refine wp_forget (PW1 w.heap.size A0 w) ⟨Arr.new _ _ _, Nat.le_refl _, ht.alloc _, (Below.refl _ _).alloc (Nat.le_refl _) _⟩ ?_
  intro W hW
  go_wp2_with (refine wpList_load_row rfl 28 _ rfl w.heap.size rfl 28 _ (0, 0) _ hW.1 Tryd.underlying28 rfl i0.info ?_)
  have t1 := hW.2.2.1
  have c1 := C1 W t1
  (with_reducible refine c1.mono ?_)
  clear c1
  rintro e w1 ⟨rfl, b1⟩
  have hW1 := hW.below b1
  go_upto_region 2 with (refine wpList_store_row rfl 28 _ _ rfl w1.heap.size A1 rfl rfl 28 zeroS (Arr.new w1 _ _) i1.info (by rw [i1.size]; rfl) i1.one ?_)
  refine wp_forget (fun W => PW1 w.heap.size A0 w W ∧ PW1 w1.heap.size A1 w W) ⟨hW1.other ht.1, PW1.start hW1.2.2.1 hW1.2.2.2 ht.1⟩ ?_
  generalize w1.heap.size = g1
  clear hW hW1 b1 t1 W w1
  rintro W ⟨hW, hX⟩
  go_wp2_with (refine wpList_load_row rfl 28 _ rfl g1 rfl 28 _ (0, 0) _ hX.1 Tryd.underlying28 rfl i1.info ?_)
  have c1 := C2 W hX.2.2.1
  (with_reducible refine c1.mono ?_)
  clear c1
  rintro e w1 ⟨rfl, b1⟩
  have hW1 := hW.below b1
  have hX1 := hX.below b1
  go_upto_region 3 with (refine wpList_store_row rfl 28 _ _ rfl w1.heap.size A2 rfl rfl 28 zeroS (Arr.new w1 _ _) i2.info (by rw [i2.size]; rfl) i2.one ?_)
  refine wp_forget (fun W => PW1 w.heap.size A0 w W ∧ PW1 g1 A1 w W ∧ PW1 w1.heap.size A2 w W) ⟨hW1.other ht.1, hX1.other ht.1, PW1.start hW1.2.2.1 hW1.2.2.2 ht.1⟩ ?_
  generalize w1.heap.size = g2
  clear hW hW1 hX hX1 b1 W w1
  rintro W ⟨hW, hX, hY⟩
  go_wp2_with (refine wpList_load_row rfl 28 _ rfl w.heap.size rfl 28 _ (0, 0) _ hW.1 Tryd.underlying28 rfl i0.info ?_)
  have c1 := C3 W hX.2.2.1
  (with_reducible refine c1.mono ?_)
  clear c1
  rintro e w1 ⟨rfl, b1⟩
  have hW1 := hW.below b1
  have hX1 := hX.below b1
  have hY1 := hY.below b1
  go_upto_region 4 with (refine wpList_store_row rfl 28 _ _ rfl w1.heap.size A3 rfl rfl 28 zeroS (Arr.new w1 _ _) i3.info (by rw [i3.size]; rfl) i3.one ?_)
  refine wp_forget (fun W => SW4 g1 g2 w1.heap.size A0 A1 A2 A3 w W) ⟨hW1.other ht.1, hX1.other ht.1, hY1.other ht.1, PW1.start hW1.2.2.1 hW1.2.2.2 ht.1⟩ ?_
  generalize w1.heap.size = g3
  clear hW hW1 hX hX1 hY hY1 b1 W w1 C1 C2 C3
  rintro W hS
  go_wp2_with (refine wpList_load_row rfl 28 _ rfl w.heap.size rfl 28 _ (0, 0) _ hS.1.1 Tryd.underlying28 rfl i0.info ?_)
  rcases hway with ⟨hG, ⟨s, hE⟩, rfl, rfl⟩ | ⟨hG, rfl⟩ | ⟨hG, rfl, rfl, rfl, rfl, ⟨s, hE⟩, hG3⟩
  · have c1 := hG W
    (with_reducible refine c1.mono ?_)
    clear c1
    rintro e w1 ⟨rfl, b1⟩
    have hS1 := hS.below b1
    go_wp2_with (refine wpList_load_row rfl 28 _ rfl w.heap.size rfl 28 _ (0, 0) _ hS1.1.1 Tryd.underlying28 rfl i0.info ?_)
    have c1 := hE w1 hS1.1.2.2.1
    (with_reducible refine c1.mono ?_)
    clear c1
    rintro e w2 ⟨rfl, b2⟩
    have hS2 := hS1.below b2
    have t2 := hS2.1.2.2.1
    go_wp2_with fail
    (with_reducible refine (abc_any _ t2).mono ?_)
    rintro e w4 ⟨rfl, b4⟩
    have hS4 := hS2.below b4
    go_wp2_with fail
    go_ret
    exact ⟨rfl, hS4.1.2.2.2⟩
  · have c1 := hG W
    (with_reducible refine c1.mono ?_)
    clear c1
    rintro e w1 ⟨rfl, b1⟩
    have hS1 := hS.below b1
    have t2 := hS1.1.2.2.1
    go_wp2_with fail
    (with_reducible refine (abc_any _ t2).mono ?_)
    rintro e w4 ⟨rfl, b4⟩
    have hS4 := hS1.below b4
    go_wp2_with fail
    go_ret
    exact ⟨rfl, hS4.1.2.2.2⟩
  · have c1 := hG W
    (with_reducible refine c1.mono ?_)
    clear c1
    rintro e w1 ⟨rfl, b1⟩
    have hS1 := hS.below b1
    go_wp2_with (refine wpList_load_row rfl 28 _ rfl g2 rfl 28 _ (0, 0) _ hS1.2.2.1.1 Tryd.underlying28 rfl i2.info ?_)
    have c1 := hE w1 hS1.1.2.2.1
    (with_reducible refine c1.mono ?_)
    clear c1
    rintro e w2 ⟨rfl, b2⟩
    have hS2 := hS1.below b2
    go_wp2_with (refine wpList_load_row rfl 28 _ rfl g3 rfl 28 _ (0, 0) _ hS2.2.2.2.1 Tryd.underlying28 rfl i2.info ?_)
    have c1 := hE w2 hS2.1.2.2.1
    (with_reducible refine c1.mono ?_)
    clear c1
    rintro e w3 ⟨rfl, b3⟩
    have hS3 := hS2.below b3
    go_wp2_with (first
      | (refine wpList_load_row_w rfl 28 _ rfl g2 rfl 28 _ (0, 0) _ hS3.2.2.1.1 Tryd.underlying28 rfl i2.info ?_)
      | (refine wpList_load_row_w rfl 28 _ rfl g3 rfl 28 _ (0, 0) _ hS3.2.2.2.1 Tryd.underlying28 rfl i2.info ?_)
      | (refine wpList_binop_w rfl .eql 28 _ _ _ rfl (.agg A2) (.agg A2) (.bool true) rfl rfl (eqGuardS _ _ _ _ _) (i2.eq _) ?_))
    have c1 := hG3 w3
    (with_reducible refine c1.mono ?_)
    clear c1
    rintro e w4 ⟨rfl, b4⟩
    have hS4 := hS3.below b4
    have t4 := hS4.1.2.2.1
    go_wp2_with fail
    (with_reducible refine (abc_any _ t4).mono ?_)
    rintro e w5 ⟨rfl, b5⟩
    have hS5 := hS4.below b5
    go_wp2_with fail
    go_ret
    exact ⟨rfl, hS5.1.2.2.2⟩
end Go.Proofs.YtngfgmcnpbjefaaDoor
