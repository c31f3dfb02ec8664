/- keep.objects, keep.ObjectIds: the walks. -/
import Derived.Test.YtgffbdkngnpfpaaDoorOBase
import Derived.Test.YtgffbdkngnpfpaaDoorORefSameB
import Derived.Test.YtgffbdkngnpfpaaDoorSum
namespace Go.Proofs.YtgffbdkngnpfpaaDoor
open Go.RowKit

theorem objects_keep (w : World) : Calls Tryd.prog 12 #[] w fun e w' => e = .returned (.bool true) ∧ Below w.heap.size w w' := by
  go_enter Tryd.func12, Tryd.ntmps12
  go_wp2_with fail
  have q := blobA_any w
  (with_reducible refine q.mono ?_)
  clear q
  rintro _ w1 ⟨rfl, b1⟩
  go_wp2_with fail
  go_ret
  exact ⟨rfl, b1⟩


theorem Id_any (b : ByteArray) (hb : b.size < 1152921504606846976) (w : World) (ht : Tab w) :
    Calls Tryd.prog 8 #[.string b] w fun e w' => e = .returned (.string (bs (sha b.data.toList))) ∧ Below w.heap.size w w' := by
  have C := Lib.hid (Sum_any b hb w ht)
  generalize bs (sha b.data.toList) = S at *
  go_enter Tryd.func8, Tryd.ntmps8
  go_wp2_with fail
  (with_reducible refine C.out.mono ?_)
  rintro _ w1 ⟨rfl, b1⟩
  go_wp2_with fail
  go_ret
  exact ⟨rfl, b1⟩
theorem enc_inj {o q : Ob} (h1 : encE o = 0) (h2 : encE q = 0) (h : encS o = encS q) : o = q := by
  have e1 := enc_back h1
  have e2 := enc_back h2
  rw [h, e2] at e1
  simp only [Prod.mk.injEq, and_true] at e1
  exact e1.symm
/-- two boxed objects, and the table -/
structure Bt (w : World) (o q : Ob) (p p' : At) (W : World) : Prop where
  bs : Bs w o q p p' W
  tab : Tab W
theorem Bt.below {w W W' : World} {o q : Ob} {p p' : At} (h : Bt w o q p p' W) (b : Below W.heap.size W W') : Bt w o q p p' W' := ⟨h.bs.below b, h.tab.below b h.tab.1⟩

set_option maxRecDepth 100000 in
set_option maxHeartbeats 4000000 in
theorem ObjectIds_any (o q : Ob) (p p' : At) (w : World) (ht : Tab w) (hO : ObIn w w.heap.size o p) (hQ : ObIn w w.heap.size q p') :
    Calls Tryd.prog 4 #[.agg (obArr o p), .agg (obArr q p')] w fun e w' => e = .returned (.bool true) ∧ Below w.heap.size w w' := by
  have h1 : Hid (Bt w o q p p' ((w.alloc (.cells (obArr o p) 25)).alloc (.cells (obArr q p') 25))) := ⟨bs_start hO hQ, (ht.alloc _).alloc _⟩
  have CE := fun W h => Lib.hid (Encode_any o p W h)
  have CQ := fun W h => Lib.hid (Encode_any q p' W h)
  have HI := fun a b => Lib.hid (enc_inj (o := o) (q := q) a b)
  have HZ := fun h => Lib.hid (enc_size (o := o) h)
  have HZ2 := fun h => Lib.hid (enc_size (o := q) h)
  have HOk := fun h => Lib.hid (good_facts (enc_ok (o := o) h).1)
  have HOk2 := fun h => Lib.hid (good_facts (enc_ok (o := q) h).1)
  have HS : Hid (o = q → encS o = encS q) := fun h => by rw [h]
  clear hO hQ ht
  generalize encS o = S at *
  generalize encE o = E at *
  generalize encS q = S2 at *
  generalize encE q = E2 at *
  generalize hA : obArr o p = arr at *
  generalize hA2 : obArr q p' = arr2 at *
  have HA := Lib.hid hA
  have HA2 := Lib.hid hA2
  clear hA hA2
  go_enter Tryd.func4, Tryd.ntmps4
  go_upto_region 1 with fail
  refine wp_forget (Bt w o q p p') h1.out ?_
  clear h1
  intro W hW
  have hA := HA.out
  have hA2 := HA2.out
  clear HA HA2
  subst hA hA2
  go_wp2_with (refine wpList_load_row rfl 25 _ rfl w.heap.size rfl 25 _ (0, 0) _ hW.bs.b1 Tryd.underlying25 rfl (obInfo o p) ?_)
  have c := (CE W (hW.bs.i1.mono hW.bs.bel.size)).out
  (with_reducible refine c.mono ?_)
  clear c CE
  rintro _ W2 ⟨rfl, b2⟩
  have hW2 := hW.below b2
  clear hW b2
  go_wp2_with (refine wpList_load_row rfl 25 _ rfl (w.heap.size + 1) rfl 25 _ (0, 0) _ hW2.bs.b2 Tryd.underlying25 rfl (obInfo q p') ?_)
  have c := (CQ W2 (hW2.bs.i2.mono hW2.bs.bel.size)).out
  (with_reducible refine c.mono ?_)
  clear c CQ
  rintro _ W3 ⟨rfl, b3⟩
  have hW3 := hW2.below b3
  clear hW2 b3
  cases hE : E != 0
  case true =>
    clear HI HZ HZ2 HOk HOk2 HS
    go_wp2_with fail
    have c := objects_keep W3
    (with_reducible refine c.mono ?_)
    clear c
    rintro _ W4 ⟨rfl, b4⟩
    go_wp2_with fail
    go_ret
    exact ⟨rfl, (hW3.below b4).bs.bel⟩
  have hE0 : E = 0 := by simpa using hE
  subst hE0
  clear hE
  cases hE : E2 != 0
  case true =>
    clear HI HZ HZ2 HOk HOk2 HS
    go_wp2_with fail
    have c := objects_keep W3
    (with_reducible refine c.mono ?_)
    clear c
    rintro _ W4 ⟨rfl, b4⟩
    go_wp2_with fail
    go_ret
    exact ⟨rfl, (hW3.below b4).bs.bel⟩
  have hE0 : E2 = 0 := by simpa using hE
  subst hE0
  clear hE
  have hF := (HOk rfl).out
  have hF2 := (HOk2 rfl).out
  have hz := (HZ rfl).out
  have hz2 := (HZ2 rfl).out
  have HI2 := Lib.hid (HI rfl rfl).out
  have CS := fun W h1 h2 => Lib.hid (sameObject_any o q p p' (by have := hF.ents; omega) (by have := hF2.ents; omega) (by have := hF.pars; omega) (by have := hF2.pars; omega) W h1 h2)
  clear HI HZ HZ2 HOk HOk2 hF hF2
  cases hq : S.toList == S2.toList
  case true =>
    have e1 := HI2.out ((eqB_iff S S2).1 hq)
    rw [decide_eq_true e1] at CS
    clear HI2 HS e1
    go_wp2_with fail
    have c := objects_keep W3
    (with_reducible refine c.mono ?_)
    clear c
    rintro _ W4 ⟨rfl, b4⟩
    have hW4 := hW3.below b4
    clear hW3 b4
    go_wp2_with (first
      | (refine wpList_load_row_w rfl 25 _ rfl w.heap.size rfl 25 _ (0, 0) _ hW4.bs.b1 Tryd.underlying25 rfl (obInfo _ _) ?_)
      | (refine wpList_load_row_w rfl 25 _ rfl (w.heap.size + 1) rfl 25 _ (0, 0) _ hW4.bs.b2 Tryd.underlying25 rfl (obInfo _ _) ?_))
    have c := (CS W4 (hW4.bs.i1.mono hW4.bs.bel.size) (hW4.bs.i2.mono hW4.bs.bel.size)).out
    (with_reducible refine c.mono ?_)
    clear c CS
    rintro _ W5 ⟨rfl, b5⟩
    go_wp2_with fail
    go_ret
    exact ⟨rfl, (hW4.below b5).bs.bel⟩
  have hne : o ≠ q := fun e => by
    have := (eqB_iff S S2).2 (HS.out e)
    unfold eqB at this
    rw [this] at hq
    cases hq
  rw [decide_eq_false hne] at CS
  have C1 := fun W h => Lib.hid (Id_any S (by omega) W h)
  have C2 := fun W h => Lib.hid (Id_any S2 (by omega) W h)
  have D1 := fun W h => Lib.hid (Sum_any S (by omega) W h)
  have D2 := fun W h => Lib.hid (Sum_any S2 (by omega) W h)
  generalize bs (sha S.data.toList) = R1 at *
  generalize bs (sha S2.data.toList) = R2 at *
  clear HI2 HS hne hz hz2
  go_wp2_with (first
    | (refine wpList_load_row rfl 25 _ rfl w.heap.size rfl 25 _ (0, 0) _ hW3.bs.b1 Tryd.underlying25 rfl (obInfo _ _) ?_)
    | (refine wpList_load_row rfl 25 _ rfl (w.heap.size + 1) rfl 25 _ (0, 0) _ hW3.bs.b2 Tryd.underlying25 rfl (obInfo _ _) ?_))
  have c := (CS W3 (hW3.bs.i1.mono hW3.bs.bel.size) (hW3.bs.i2.mono hW3.bs.bel.size)).out
  (with_reducible refine c.mono ?_)
  clear c CS
  rintro _ W4 ⟨rfl, b4⟩
  have hW4 := hW3.below b4
  clear hW3 b4
  go_wp2_with fail
  have c := (C1 W4 hW4.tab).out
  (with_reducible refine c.mono ?_)
  clear c C1
  rintro _ W5 ⟨rfl, b5⟩
  have hW5 := hW4.below b5
  clear hW4 b5
  go_wp2_with fail
  have c := (C2 W5 hW5.tab).out
  (with_reducible refine c.mono ?_)
  clear c C2
  rintro _ W6 ⟨rfl, b6⟩
  have hW6 := hW5.below b6
  clear hW5 b6
  cases hr : R1.toList == R2.toList
  · clear D1 D2
    go_wp2_with fail
    have c := objects_keep W6
    (with_reducible refine c.mono ?_)
    clear c
    rintro _ W7 ⟨rfl, b7⟩
    go_wp2_with fail
    go_ret
    exact ⟨rfl, (hW6.below b7).bs.bel⟩
  · go_wp2_with fail
    have c := (D1 W6 hW6.tab).out
    (with_reducible refine c.mono ?_)
    clear c D1
    rintro _ W7 ⟨rfl, b7⟩
    have hW7 := hW6.below b7
    clear hW6 b7
    go_wp2_with fail
    have c := (D2 W7 hW7.tab).out
    (with_reducible refine c.mono ?_)
    clear c D2
    rintro _ W8 ⟨rfl, b8⟩
    have hW8 := hW7.below b8
    clear hW7 b8
    go_wp2_with fail
    have c := objects_keep W8
    (with_reducible refine c.mono ?_)
    clear c
    rintro _ W9 ⟨rfl, b9⟩
    go_wp2_with fail
    go_ret
    exact ⟨rfl, (hW8.below b9).bs.bel⟩
end Go.Proofs.YtgffbdkngnpfpaaDoor
