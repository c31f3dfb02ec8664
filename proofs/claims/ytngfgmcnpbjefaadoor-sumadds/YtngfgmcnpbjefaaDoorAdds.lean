/- law.SumAdds: its walk. -/
import Derived.Test.YtngfgmcnpbjefaaDoorRefAdd
import Derived.Test.YtngfgmcnpbjefaaDoorStatesAny
import Derived.Test.YtngfgmcnpbjefaaDoorRefSum
namespace Go.Proofs.YtngfgmcnpbjefaaDoor
open Go.RowKit

def RAddIs (A : Array Value) (b : ByteArray) (B : Array Value) (e : Int) : Prop := ∀ W, Calls Tryd.prog 15 #[.agg A, .string b] W fun x w' => x = .returned (.tuple #[.agg B, .int .i64 e]) ∧ Below W.heap.size W w'
def REndIs (A : Array Value) (s : ByteArray) (e : Int) : Prop := ∀ W, Calls Tryd.prog 17 #[.agg A] W fun x w' => x = .returned (.tuple #[.string s, .int .i64 e]) ∧ Below W.heap.size W w'
def RGoodIs (A : Array Value) (g : Bool) : Prop := ∀ W, Calls Tryd.prog 19 #[.agg A] W fun x w' => x = .returned (.bool g) ∧ Below W.heap.size W w'

theorem PW1.drew {g : Nat} {A : Array Value} {w W : World} (h : PW1 g A w W) : PW1 g A w W.drew := ⟨h.1.drew, h.2.1, h.2.2.1.drew, h.2.2.2.drew⟩
set_option maxRecDepth 100000 in
set_option maxHeartbeats 1000000 in
theorem eq8_int (d : Nat) (a0 a1 a2 a3 a4 a5 a6 a7 : Int) (w : World) :
    (Op.equalIn (d + 2) 26 (.agg #[.int .u32 a0, .int .u32 a1, .int .u32 a2, .int .u32 a3, .int .u32 a4, .int .u32 a5, .int .u32 a6, .int .u32 a7])
      (.agg #[.int .u32 a0, .int .u32 a1, .int .u32 a2, .int .u32 a3, .int .u32 a4, .int .u32 a5, .int .u32 a6, .int .u32 a7])).run Tryd.prog w = .ok true w := by
  have hs : ∀ w, (sizeOf 25).run Tryd.prog w = .ok 1 w := fun w => by kernel_rfl
  have ha : ∀ w, (isAgg 25).run Tryd.prog w = .ok false w := fun w => by kernel_rfl
  have hi : ∀ (a : Int) (w : World), (Op.equalIn (d + 1) 25 (.int .u32 a) (.int .u32 a)).run Tryd.prog w = .ok true w := fun a w => by
    rw [run_equalIn_int w d _ .u32 .u32 a a Tryd.underlying25]; simp
  rw [Op.equalIn]
  simp [run_underlying Tryd.underlying26, hs, part, ha, hi, Std.Legacy.Range.forIn_eq_forIn_range', List.range', Std.Legacy.Range.size]
theorem Begin_num (w : World) : Calls Tryd.prog 20 #[] w fun e w' => e = .returned (.agg #[.int .u32 1779033703, .int .u32 3144134277, .int .u32 1013904242, .int .u32 2773480762, .int .u32 1359893119, .int .u32 2600822924, .int .u32 528734635, .int .u32 1541459225, .string ⟨#[]⟩, .int .i64 0]) ∧ Below w.heap.size w w' := Begin_any w
theorem Start_num (w : World) : Calls Tryd.prog 21 #[] w fun e w' => e = .returned (.agg #[.int .u32 1779033703, .int .u32 3144134277, .int .u32 1013904242, .int .u32 2773480762, .int .u32 1359893119, .int .u32 2600822924, .int .u32 528734635, .int .u32 1541459225]) ∧ Below w.heap.size w w' := Start_any w

def H30 (w : World) (g1 g2 : Nat) (h0 h1 h2 h3 h4 h5 h6 h7 y0 y1 y2 y3 y4 y5 y6 y7 : UInt32) (r r1 : ByteArray) (m m1 : Int) (W : World) : Prop :=
  PW1 w.heap.size (sarr [h0, h1, h2, h3, h4, h5, h6, h7] r m) w W ∧ PW1 g1 (sarr [y0, y1, y2, y3, y4, y5, y6, y7] r1 m1) w W ∧ PW1 g2 (sarr [y0, y1, y2, y3, y4, y5, y6, y7] r1 m1) w W
section
variable {w : World} {g1 g2 : Nat} {h0 h1 h2 h3 h4 h5 h6 h7 y0 y1 y2 y3 y4 y5 y6 y7 : UInt32} {r r1 : ByteArray} {m m1 : Int} {w' : World}
theorem H30.below {W : World} (h : H30 w g1 g2 h0 h1 h2 h3 h4 h5 h6 h7 y0 y1 y2 y3 y4 y5 y6 y7 r r1 m m1 W) (hb : Below W.heap.size W w') : H30 w g1 g2 h0 h1 h2 h3 h4 h5 h6 h7 y0 y1 y2 y3 y4 y5 y6 y7 r r1 m m1 w' := ⟨h.1.below hb, h.2.1.below hb, h.2.2.below hb⟩
theorem hold30 (h : H30 w g1 g2 h0 h1 h2 h3 h4 h5 h6 h7 y0 y1 y2 y3 y4 y5 y6 y7 r r1 m m1 w') :
    w'.cell? ⟨w.heap.size, 0, none⟩ = some (.int .u32 (wd h0)) ∧ w'.cell? ⟨w.heap.size, 1, none⟩ = some (.int .u32 (wd h1)) ∧ w'.cell? ⟨w.heap.size, 2, none⟩ = some (.int .u32 (wd h2)) ∧ w'.cell? ⟨w.heap.size, 3, none⟩ = some (.int .u32 (wd h3)) ∧ w'.cell? ⟨w.heap.size, 4, none⟩ = some (.int .u32 (wd h4)) ∧ w'.cell? ⟨w.heap.size, 5, none⟩ = some (.int .u32 (wd h5)) ∧ w'.cell? ⟨w.heap.size, 6, none⟩ = some (.int .u32 (wd h6)) ∧ w'.cell? ⟨w.heap.size, 7, none⟩ = some (.int .u32 (wd h7)) ∧ w'.cell? ⟨w.heap.size, 8, none⟩ = some (.string r) ∧ w'.cell? ⟨w.heap.size, 9, none⟩ = some (.int .i64 m) ∧ w'.cell? ⟨g1, 0, none⟩ = some (.int .u32 (wd y0)) ∧ w'.cell? ⟨g1, 1, none⟩ = some (.int .u32 (wd y1)) ∧ w'.cell? ⟨g1, 2, none⟩ = some (.int .u32 (wd y2)) ∧ w'.cell? ⟨g1, 3, none⟩ = some (.int .u32 (wd y3)) ∧ w'.cell? ⟨g1, 4, none⟩ = some (.int .u32 (wd y4)) ∧ w'.cell? ⟨g1, 5, none⟩ = some (.int .u32 (wd y5)) ∧ w'.cell? ⟨g1, 6, none⟩ = some (.int .u32 (wd y6)) ∧ w'.cell? ⟨g1, 7, none⟩ = some (.int .u32 (wd y7)) ∧ w'.cell? ⟨g1, 8, none⟩ = some (.string r1) ∧ w'.cell? ⟨g1, 9, none⟩ = some (.int .i64 m1) ∧ w'.cell? ⟨g2, 0, none⟩ = some (.int .u32 (wd y0)) ∧ w'.cell? ⟨g2, 1, none⟩ = some (.int .u32 (wd y1)) ∧ w'.cell? ⟨g2, 2, none⟩ = some (.int .u32 (wd y2)) ∧ w'.cell? ⟨g2, 3, none⟩ = some (.int .u32 (wd y3)) ∧ w'.cell? ⟨g2, 4, none⟩ = some (.int .u32 (wd y4)) ∧ w'.cell? ⟨g2, 5, none⟩ = some (.int .u32 (wd y5)) ∧ w'.cell? ⟨g2, 6, none⟩ = some (.int .u32 (wd y6)) ∧ w'.cell? ⟨g2, 7, none⟩ = some (.int .u32 (wd y7)) ∧ w'.cell? ⟨g2, 8, none⟩ = some (.string r1) ∧ w'.cell? ⟨g2, 9, none⟩ = some (.int .i64 m1) := by
  obtain ⟨c0, c1, c2, c3, c4, c5, c6, c7, c8, c9⟩ := cells10 h.1.1
  obtain ⟨p0, p1, p2, p3, p4, p5, p6, p7, p8, p9⟩ := cells10 h.2.1.1
  obtain ⟨o0, o1, o2, o3, o4, o5, o6, o7, o8, o9⟩ := cells10 h.2.2.1
  exact ⟨c0, c1, c2, c3, c4, c5, c6, c7, c8, c9, p0, p1, p2, p3, p4, p5, p6, p7, p8, p9, o0, o1, o2, o3, o4, o5, o6, o7, o8, o9⟩
end

set_option maxRecDepth 100000 in
set_option maxHeartbeats 4000000 in
theorem Adds_walk (h0 h1 h2 h3 h4 h5 h6 h7 y0 y1 y2 y3 y4 y5 y6 y7 : UInt32) (r r1 b x : ByteArray) (m m1 e1 e2 : Int) (gd : Bool)
    (C1 : AddIs (sarr [h0, h1, h2, h3, h4, h5, h6, h7] r m) b (sarr [y0, y1, y2, y3, y4, y5, y6, y7] r1 m1) e1)
    (C2 : RAddIs (sarr [h0, h1, h2, h3, h4, h5, h6, h7] r m) b (sarr [y0, y1, y2, y3, y4, y5, y6, y7] r1 m1) e1)
    (C3 : EndIs (sarr [h0, h1, h2, h3, h4, h5, h6, h7] r m) x e2) (C4 : REndIs (sarr [h0, h1, h2, h3, h4, h5, h6, h7] r m) x e2)
    (C5 : GoodIs (sarr [h0, h1, h2, h3, h4, h5, h6, h7] r m) gd) (C6 : RGoodIs (sarr [h0, h1, h2, h3, h4, h5, h6, h7] r m) gd) (w : World) (ht : Tab w) :
    Calls Tryd.prog 4 #[.agg (sarr [h0, h1, h2, h3, h4, h5, h6, h7] r m), .string b] w fun e w' => e = .returned (.bool true) ∧ Below w.heap.size w w' := by
  have i0 : IsS (sarr [h0, h1, h2, h3, h4, h5, h6, h7] r m) := isS _ rfl _ _
  have i1 : IsS (sarr [y0, y1, y2, y3, y4, y5, y6, y7] r1 m1) := isS _ rfl _ _
  generalize hA0 : sarr [h0, h1, h2, h3, h4, h5, h6, h7] r m = A0 at *
  generalize hA1 : sarr [y0, y1, y2, y3, y4, y5, y6, y7] r1 m1 = A1 at *
  have HA0 := Lib.hid hA0
  have HA1 := Lib.hid hA1
  clear hA0 hA1
  go_enter Tryd.func4, Tryd.ntmps4
  go_upto_region 1 with fail
  refine wp_forget (PW1 w.heap.size A0 w) ⟨Arr.new _ _ _, Nat.le_refl _, ht.alloc _, (Below.refl _ _).alloc (Nat.le_refl _) _⟩ ?_
  intro W hW
  go_wp2_with (refine wpList_load_row rfl 28 _ rfl w.heap.size rfl 28 _ (0, 0) _ hW.1 Tryd.underlying28 rfl i0.info ?_)
  have t1 := hW.2.2.1
  have c1 := C1 W t1
  (with_reducible refine c1.mono ?_)
  clear c1
  rintro e w1 ⟨rfl, b1⟩
  have hW1 := hW.below b1
  go_upto_region 2 with (refine wpList_store_row rfl 28 _ _ rfl w1.heap.size A1 rfl rfl 28 zeroS (Arr.new w1 _ _) i1.info (by rw [i1.size]; rfl) i1.one ?_)
  refine wp_forget (fun W => PW1 w.heap.size A0 w W ∧ PW1 w1.heap.size A1 w W) ⟨hW1.other ht.1, PW1.start hW1.2.2.1 hW1.2.2.2 ht.1⟩ ?_
  generalize w1.heap.size = g1
  clear hW hW1 b1 t1 W w1
  rintro W ⟨hW, hX⟩
  go_wp2_with (refine wpList_load_row rfl 28 _ rfl w.heap.size rfl 28 _ (0, 0) _ hW.1 Tryd.underlying28 rfl i0.info ?_)
  have c1 := C2 W
  (with_reducible refine c1.mono ?_)
  clear c1
  rintro e w1 ⟨rfl, b1⟩
  have hW1 := hW.below b1
  have hX1 := hX.below b1
  go_upto_region 3 with (refine wpList_store_row rfl 28 _ _ rfl w1.heap.size A1 rfl rfl 28 zeroS (Arr.new w1 _ _) i1.info (by rw [i1.size]; rfl) i1.one ?_)
  refine wp_forget (fun W => PW1 w.heap.size A0 w W ∧ PW1 g1 A1 w W ∧ PW1 w1.heap.size A1 w W) ⟨hW1.other ht.1, hX1.other ht.1, PW1.start hW1.2.2.1 hW1.2.2.2 ht.1⟩ ?_
  generalize w1.heap.size = g2
  clear hW hW1 hX hX1 b1 W w1
  rintro W ⟨hW, hX, hY⟩
  go_wp2_with (refine wpList_load_row rfl 28 _ rfl w.heap.size rfl 28 _ (0, 0) _ hW.1 Tryd.underlying28 rfl i0.info ?_)
  have c1 := C3 W hX.2.2.1
  (with_reducible refine c1.mono ?_)
  clear c1
  rintro e w1 ⟨rfl, b1⟩
  have hW1 := hW.below b1
  have hX1 := hX.below b1
  have hY1 := hY.below b1
  clear hW hX hY b1 W
  go_wp2_with (refine wpList_load_row rfl 28 _ rfl w.heap.size rfl 28 _ (0, 0) _ hW1.1 Tryd.underlying28 rfl i0.info ?_)
  have c1 := C4 w1
  (with_reducible refine c1.mono ?_)
  clear c1
  rintro e W ⟨rfl, b1⟩
  have hW := hW1.below b1
  have hX := hX1.below b1
  have hY := hY1.below b1
  clear hW1 hX1 hY1 b1 w1 C1 C2 C3 C4
  go_upto_region 5 with fail
  clear i0 i1
  obtain rfl := HA0.out
  obtain rfl := HA1.out
  clear HA0 HA1
  have D5 : ∀ W, Calls Tryd.prog 18 #[.agg #[.int .u32 (wd h0), .int .u32 (wd h1), .int .u32 (wd h2), .int .u32 (wd h3), .int .u32 (wd h4), .int .u32 (wd h5), .int .u32 (wd h6), .int .u32 (wd h7), .string r, .int .i64 m]] W fun x w' => x = .returned (.bool gd) ∧ Below W.heap.size W w' := C5
  have D6 : ∀ W, Calls Tryd.prog 19 #[.agg #[.int .u32 (wd h0), .int .u32 (wd h1), .int .u32 (wd h2), .int .u32 (wd h3), .int .u32 (wd h4), .int .u32 (wd h5), .int .u32 (wd h6), .int .u32 (wd h7), .string r, .int .i64 m]] W fun x w' => x = .returned (.bool gd) ∧ Below W.heap.size W w' := C6
  have q1 : ∀ w, (Op.equalIn 9999 26 (.agg #[.int .u32 (wd y0), .int .u32 (wd y1), .int .u32 (wd y2), .int .u32 (wd y3), .int .u32 (wd y4), .int .u32 (wd y5), .int .u32 (wd y6), .int .u32 (wd y7)]) (.agg #[.int .u32 (wd y0), .int .u32 (wd y1), .int .u32 (wd y2), .int .u32 (wd y3), .int .u32 (wd y4), .int .u32 (wd y5), .int .u32 (wd y6), .int .u32 (wd y7)])).run Tryd.prog w = .ok true w := fun w => eq8_run 9997 y0 y1 y2 y3 y4 y5 y6 y7 w
  have q2 : ∀ w, (Op.equalIn 9999 26 (.agg #[.int .u32 1779033703, .int .u32 3144134277, .int .u32 1013904242, .int .u32 2773480762, .int .u32 1359893119, .int .u32 2600822924, .int .u32 528734635, .int .u32 1541459225]) (.agg #[.int .u32 1779033703, .int .u32 3144134277, .int .u32 1013904242, .int .u32 2773480762, .int .u32 1359893119, .int .u32 2600822924, .int .u32 528734635, .int .u32 1541459225])).run Tryd.prog w = .ok true w := fun w => eq8_int 9997 _ _ _ _ _ _ _ _ w
  have he : Tryd.prog.eqGuardType Tryd.prog.depth 28 = false := by kernel_rfl
  obtain ⟨c0, c1, c2, c3, c4, c5, c6, c7, c8, c9⟩ := cells10 hW.1
  obtain ⟨p0, p1, p2, p3, p4, p5, p6, p7, p8, p9⟩ := cells10 hX.1
  obtain ⟨o0, o1, o2, o3, o4, o5, o6, o7, o8, o9⟩ := cells10 hY.1
  have hV : H30 w g1 g2 h0 h1 h2 h3 h4 h5 h6 h7 y0 y1 y2 y3 y4 y5 y6 y7 r r1 m m1 W.drew := ⟨hW.drew, hX.drew, hY.drew⟩
  clear C5 C6
  go_region_held3 (fun w' => w'.cell? ⟨w.heap.size, 0, none⟩ = some (.int .u32 (wd h0)) ∧ w'.cell? ⟨w.heap.size, 1, none⟩ = some (.int .u32 (wd h1)) ∧ w'.cell? ⟨w.heap.size, 2, none⟩ = some (.int .u32 (wd h2)) ∧ w'.cell? ⟨w.heap.size, 3, none⟩ = some (.int .u32 (wd h3)) ∧ w'.cell? ⟨w.heap.size, 4, none⟩ = some (.int .u32 (wd h4)) ∧ w'.cell? ⟨w.heap.size, 5, none⟩ = some (.int .u32 (wd h5)) ∧ w'.cell? ⟨w.heap.size, 6, none⟩ = some (.int .u32 (wd h6)) ∧ w'.cell? ⟨w.heap.size, 7, none⟩ = some (.int .u32 (wd h7)) ∧ w'.cell? ⟨w.heap.size, 8, none⟩ = some (.string r) ∧ w'.cell? ⟨w.heap.size, 9, none⟩ = some (.int .i64 m) ∧ w'.cell? ⟨g1, 0, none⟩ = some (.int .u32 (wd y0)) ∧ w'.cell? ⟨g1, 1, none⟩ = some (.int .u32 (wd y1)) ∧ w'.cell? ⟨g1, 2, none⟩ = some (.int .u32 (wd y2)) ∧ w'.cell? ⟨g1, 3, none⟩ = some (.int .u32 (wd y3)) ∧ w'.cell? ⟨g1, 4, none⟩ = some (.int .u32 (wd y4)) ∧ w'.cell? ⟨g1, 5, none⟩ = some (.int .u32 (wd y5)) ∧ w'.cell? ⟨g1, 6, none⟩ = some (.int .u32 (wd y6)) ∧ w'.cell? ⟨g1, 7, none⟩ = some (.int .u32 (wd y7)) ∧ w'.cell? ⟨g1, 8, none⟩ = some (.string r1) ∧ w'.cell? ⟨g1, 9, none⟩ = some (.int .i64 m1) ∧ w'.cell? ⟨g2, 0, none⟩ = some (.int .u32 (wd y0)) ∧ w'.cell? ⟨g2, 1, none⟩ = some (.int .u32 (wd y1)) ∧ w'.cell? ⟨g2, 2, none⟩ = some (.int .u32 (wd y2)) ∧ w'.cell? ⟨g2, 3, none⟩ = some (.int .u32 (wd y3)) ∧ w'.cell? ⟨g2, 4, none⟩ = some (.int .u32 (wd y4)) ∧ w'.cell? ⟨g2, 5, none⟩ = some (.int .u32 (wd y5)) ∧ w'.cell? ⟨g2, 6, none⟩ = some (.int .u32 (wd y6)) ∧ w'.cell? ⟨g2, 7, none⟩ = some (.int .u32 (wd y7)) ∧ w'.cell? ⟨g2, 8, none⟩ = some (.string r1) ∧ w'.cell? ⟨g2, 9, none⟩ = some (.int .i64 m1))
    (first | exact hold30 hV | exact hold30 hV1 | exact hold30 hV2 | exact hold30 hV3 | exact hold30 hV4 | exact hold30 hV5)
    (first
      | (go_at_call 18
         (with_reducible refine (D5 _).mono ?_)
         rintro e w1 ⟨rfl, b1⟩
         have hV1 := hV.below b1)
      | (go_at_call 19
         (with_reducible refine (D6 _).mono ?_)
         rintro e w2 ⟨rfl, b2⟩
         have hV2 := hV1.below b2)
      | (go_at_call 20
         (with_reducible refine (Begin_num _).mono ?_)
         rintro e w3 ⟨rfl, b3⟩
         have hV3 := hV2.below b3)
      | (go_at_call 21
         (with_reducible refine (Start_num _).mono ?_)
         rintro e w4 ⟨rfl, b4⟩
         have hV4 := hV3.below b4
         have t4 := hV4.1.2.2.1)
      | (go_at_call 13
         (with_reducible refine (sums_any _ t4).mono ?_)
         rintro e w5 ⟨rfl, b5⟩
         have hV5 := hV4.below b5))
  go_wp2_with fail
  go_ret
  exact ⟨rfl, hV5.1.2.2.2⟩

theorem Adds_lists (hs ys : List UInt32) (h8 : hs.length = 8) (y8 : ys.length = 8) (r r1 b x : ByteArray) (m m1 e1 e2 : Int) (gd : Bool)
    (C1 : AddIs (sarr hs r m) b (sarr ys r1 m1) e1) (C2 : RAddIs (sarr hs r m) b (sarr ys r1 m1) e1) (C3 : EndIs (sarr hs r m) x e2) (C4 : REndIs (sarr hs r m) x e2)
    (C5 : GoodIs (sarr hs r m) gd) (C6 : RGoodIs (sarr hs r m) gd) (w : World) (ht : Tab w) :
    Calls Tryd.prog 4 #[.agg (sarr hs r m), .string b] w fun e w' => e = .returned (.bool true) ∧ Below w.heap.size w w' := by
  obtain ⟨h0, h1, h2, h3, h4, h5, h6, h7, rfl⟩ := eight h8
  obtain ⟨y0, y1, y2, y3, y4, y5, y6, y7, rfl⟩ := eight y8
  exact Adds_walk _ _ _ _ _ _ _ _ _ _ _ _ _ _ _ _ r r1 b x m m1 e1 e2 gd C1 C2 C3 C4 C5 C6 w ht

theorem SumAdds_any (hs : List UInt32) (h8 : hs.length = 8) (r b : ByteArray) (m : Int) (hm : -9223372036854775808 ≤ m) (hM : m ≤ 9223372036854775807) (hb : b.size ≤ 140737488355328) (w : World) (ht : Tab w) :
    Calls Tryd.prog 4 #[.agg (sarr hs r m), .string b] w fun e w' => e = .returned (.bool true) ∧ Below w.heap.size w w' := by
  by_cases hok : okS r m
  · obtain ⟨M, rfl⟩ := Int.eq_ofNat_of_zero_le hok.1
    have C3 : EndIs (sarr hs r M) (bs (shaFrom hs r.data.toList M)) 0 := fun W hT => End_ok hs h8 r M hok W hT
    have C4 : REndIs (sarr hs r M) (bs (shaFrom hs r.data.toList M)) 0 := fun W => RefEnd_ok hs h8 r M hok W
    have C5 : GoodIs (sarr hs r M) true := fun W => Good_yes hs h8 r M hok W
    have C6 : RGoodIs (sarr hs r M) true := fun W => RefGood_yes hs h8 r M hok W
    by_cases h1 : M + b.size < 1152921504606846976
    · have C2 : RAddIs (sarr hs r M) b (addS hs r M b) 0 := fun W => RefAdd_ok hs h8 r b M hok h1 hb W
      exact Adds_lists hs _ h8 (blocks_len8 _ _ h8) r _ b _ _ _ 0 0 true (add_is hs h8 r b M hok h1) C2 C3 C4 C5 C6 w ht
    · have C1 : AddIs (sarr hs r M) b zeroS 3 := fun W _ => Add_long hs h8 r b M hok (by omega) (by omega) W
      have C2 : RAddIs (sarr hs r M) b zeroS 3 := fun W => RefAdd_long hs h8 r b M hok (by omega) hb W
      exact Adds_lists hs _ h8 rfl r _ b _ _ _ 3 0 true C1 C2 C3 C4 C5 C6 w ht
  · have C1 : AddIs (sarr hs r m) b zeroS 3 := fun W _ => Add_bad hs h8 r b m hm hM hok W
    have C2 : RAddIs (sarr hs r m) b zeroS 3 := fun W => RefAdd_bad hs h8 r b m hm hM hok W
    have C3 : EndIs (sarr hs r m) ⟨#[]⟩ 3 := fun W _ => End_bad hs h8 r m hm hM hok W
    have C4 : REndIs (sarr hs r m) ⟨#[]⟩ 3 := fun W => RefEnd_bad hs h8 r m hm hM hok W
    exact Adds_lists hs _ h8 rfl r _ b _ _ _ 3 3 false C1 C2 C3 C4 (fun W => Good_no hs h8 r m hm hM hok W) (fun W => RefGood_no hs h8 r m hm hM hok W) w ht
end Go.Proofs.YtngfgmcnpbjefaaDoor
