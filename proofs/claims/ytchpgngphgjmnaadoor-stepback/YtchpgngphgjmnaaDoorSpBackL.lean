/- keep.StepBack: its walk. -/
import Derived.Test.YtchpgngphgjmnaaDoorOSame
import Derived.Test.YtchpgngphgjmnaaDoorSpSameK
namespace Go.Proofs.YtchpgngphgjmnaaDoor
open Go.RowKit

/-- a step's box and its copy, beside the table -/
def Sq2 (w : World) (q0 q5 : Nat) (s : Sp) (p p2 : SpAt) (W : World) : Prop :=
  Arr W q0 25 (spArr s p) ∧ Arr W q5 25 (spArr s p2) ∧ SpIn W W.heap.size s p ∧ SpIn W W.heap.size s p2 ∧ Below w.heap.size w W ∧ Tab W
theorem Sq2.below {w W W' : World} {q0 q5 : Nat} {s : Sp} {p p2 : SpAt} (h : Sq2 w q0 q5 s p p2 W) (b : Below W.heap.size W W') : Sq2 w q0 q5 s p p2 W' :=
  ⟨h.1.below b h.1.lt, h.2.1.below b h.2.1.lt, (h.2.2.1.below b).mono b.size, (h.2.2.2.1.below b).mono b.size, h.2.2.2.2.1.trans (b.mono h.2.2.2.2.1.size), h.2.2.2.2.2.below b h.2.2.2.2.2.1⟩
theorem below_zero {V : World} (a : Array Value) : Below V.heap.size V ((V.alloc (.cells spZero 25)).setRow V.heap.size a) := below_setRow ((Below.refl _ _).alloc (Nat.le_refl _) _) (Nat.le_refl _) _
set_option maxRecDepth 100000 in
set_option maxHeartbeats 4000000 in
theorem StepBack_any (s : Sp) (p : SpAt) (w : World) (hP : SpIn w w.heap.size s p) (hz : SpSz s) (ht : Tab w) :
    Calls Tryd.prog 3 #[.agg (spArr s p)] w fun e w' => e = .returned (.bool true) ∧ Below w.heap.size w w' := by
  have hl1 : s.who.length ≤ 140737488355328 := by have := hz.who; omega
  have hl2 : s.seals.length ≤ 140737488355328 := by have := hz.seals; omega
  have h1 : Hid (Sq1 w w.heap.size s p (w.alloc (.cells (spArr s p) 25))) := by
    have bb : Below w.heap.size w (w.alloc (.cells (spArr s p) 25)) := (Below.refl _ _).alloc (Nat.le_refl _) _
    exact ⟨Arr.new _ _ _, (hP.below bb).mono bb.size, bb, ht.below bb ht.1⟩
  have CE := Lib.hid (fun V h => SpEncode_any s p V h hl1 hl2)
  have CG := Lib.hid (fun V h => SpGood_any s p V h hl1 hl2)
  have CK := Lib.hid (fun V p2 h h' => KeepSameStep s p2 p V h h' hl1 hl2)
  have hE : spEnc s = if spGood s ≠ 0 then (⟨#[]⟩, spGood s) else (bs (spEncL s), 0) := rfl
  have HD : Hid (spGood s = 0 → spDec (bs (spEncL s)) = (s, 0) ∧ spDec (bs (spEncL s) ++ ⟨#[120]⟩) = (spZ, 2) ∧ (spEncL s).length ≤ 20000) := fun h => ⟨spdec_back h, spdec_more h, enc_len h⟩
  have HE := Lib.hid hE
  clear hE hP hz hl1 hl2
  generalize spEnc s = E at *
  generalize spGood s = G at *
  obtain ⟨wa, wc, sa, sc⟩ := p
  generalize hA : spArr s ⟨wa, wc, sa, sc⟩ = arr at *
  have HA := Lib.hid hA
  clear hA
  go_enter Tryd.func3, Tryd.ntmps3
  go_upto_region 1 with fail
  refine wp_forget (Sq1 w w.heap.size s ⟨wa, wc, sa, sc⟩) h1.out ?_
  clear h1
  intro W hW
  have hA := HA.out
  clear HA
  subst hA
  go_wp2_with (refine wpList_load_row rfl 25 _ rfl w.heap.size rfl 25 _ (0, 0) _ hW.1 Tryd.underlying25 rfl (spInfo s _) ?_)
  have C := Lib.hid (CE.out W hW.2.1)
  clear CE
  (with_reducible refine C.out.mono ?_)
  clear C
  rintro _ W2 ⟨rfl, b2⟩
  have hW2 := hW.below b2
  clear hW b2
  cases hG : G != 0
  case true =>
    have hG2 : G ≠ 0 := by simpa using hG
    rw [if_pos hG2] at HE
    have hE := HE.out
    subst hE
    have c0 := hW2.1.cell 0
    have c1 := hW2.1.cell 1
    have c2 := hW2.1.cell 2
    have c3 := hW2.1.cell 3
    have c4 := hW2.1.cell 4
    simp only [spArr, List.getElem?_toArray, List.getElem?_cons_zero, List.getElem?_cons_succ] at c0 c1 c2 c3 c4
    have C : Hid (Calls Tryd.prog 8 #[.agg #[.string s.ref, .string s.old, .string s.new, .slice wa s.who.length wc, .slice sa s.seals.length sc]] W2 fun e w' => e = .returned (.int .i64 G) ∧ Below W2.heap.size W2 w') := CG.out W2 hW2.2.1
    have hgg : (G == G) = true := by simp
    clear CG HE
    go_wp2_with fail
    (with_reducible refine C.out.mono ?_)
    clear C
    rintro _ W3 ⟨rfl, b3⟩
    have hW3 := hW2.below b3
    clear hW2 b3
    have CS := Lib.hid (keepSteps_any W3 hW3.2.2.2)
    go_wp2_with fail
    (with_reducible refine CS.out.mono ?_)
    rintro _ W4 ⟨rfl, b4⟩
    go_wp2_with fail
    go_ret
    exact ⟨rfl, hW3.2.2.1.trans (b4.mono hW3.2.2.1.size)⟩
  have hG2 : G = 0 := by simpa using hG
  subst hG2
  rw [if_neg (by simp)] at HE
  have hE := HE.out
  subst hE
  obtain ⟨d1, d2, hlen⟩ := HD.out rfl
  have hbs : (bs (spEncL s)).size ≤ 20000 := by rw [bs_size]; exact hlen
  have C1 := Lib.hid (fun V => SpDecode_any (bs (spEncL s)) (by omega) V)
  have C2 := Lib.hid (fun V => SpDecode_any (bs (spEncL s) ++ ⟨#[120]⟩) (by rw [ByteArray.size_append]; show _ + 1 ≤ _; omega) V)
  rw [d1] at C1
  rw [d2] at C2
  clear HD HE d1 d2 hlen CG hG
  generalize bs (spEncL s) = b at *
  go_wp2_with fail
  (with_reducible refine (C1.out _).mono ?_)
  clear C1
  rintro _ V ⟨p2, rfl, hI, b1⟩
  simp only at hI
  have hV := hW2.below b1
  have bz := below_zero (V := V) (spArr s p2)
  have hst : Hid (Sq2 w w.heap.size V.heap.size s ⟨wa, wc, sa, sc⟩ p2 ((V.alloc (.cells spZero 25)).setRow V.heap.size (spArr s p2))) := by
    have A0 : Arr (V.alloc (.cells spZero 25)) V.heap.size 25 spZero := Arr.new _ _ _
    have h2 := hV.below bz
    exact ⟨h2.1, A0.row _, h2.2.1, (hI.below bz).mono bz.size, h2.2.2.1, h2.2.2.2⟩
  have A0 : Arr (V.alloc (.cells spZero 25)) V.heap.size 25 spZero := Arr.new _ _ _
  go_upto_region 5 with (refine wpList_store_row rfl 25 _ _ rfl V.heap.size (spArr s p2) rfl rfl 25 spZero A0 (spInfo s _) rfl (spArr_one s _) ?_)
  refine wp_forget (Sq2 w w.heap.size V.heap.size s ⟨wa, wc, sa, sc⟩ p2) (by exact hst.out) ?_
  clear hst A0 hI b1 bz hV hW2
  generalize V.heap.size = q
  intro W3 hW3
  go_wp2_with fail
  (with_reducible refine (C2.out _).mono ?_)
  clear C2
  rintro _ V2 ⟨p3, rfl, _, b1⟩
  have hV := hW3.below b1
  have bz := below_zero (V := V2) (spArr spZ p3)
  have hst := Lib.hid (hV.below bz)
  have A0 : Arr (V2.alloc (.cells spZero 25)) V2.heap.size 25 spZero := Arr.new _ _ _
  go_upto_region 6 with (refine wpList_store_row rfl 25 _ _ rfl V2.heap.size (spArr spZ p3) rfl rfl 25 spZero A0 (spInfo spZ _) rfl (spArr_one spZ _) ?_)
  refine wp_forget (Sq2 w w.heap.size q s ⟨wa, wc, sa, sc⟩ p2) (by exact hst.out) ?_
  clear hst A0 b1 bz hV hW3
  intro W4 hW4
  obtain ⟨xa, xc, ya, yc⟩ := p2
  have c0 := hW4.1.cell 0
  have c1 := hW4.1.cell 1
  have c2 := hW4.1.cell 2
  have c3 := hW4.1.cell 3
  have c4 := hW4.1.cell 4
  have e0 := hW4.2.1.cell 0
  have e1 := hW4.2.1.cell 1
  have e2 := hW4.2.1.cell 2
  have e3 := hW4.2.1.cell 3
  have e4 := hW4.2.1.cell 4
  simp only [spArr, List.getElem?_toArray, List.getElem?_cons_zero, List.getElem?_cons_succ] at c0 c1 c2 c3 c4 e0 e1 e2 e3 e4
  have C : Hid (Calls Tryd.prog 11 #[.agg #[.string s.ref, .string s.old, .string s.new, .slice xa s.who.length xc, .slice ya s.seals.length yc], .agg #[.string s.ref, .string s.old, .string s.new, .slice wa s.who.length wc, .slice sa s.seals.length sc]] W4 fun e w' => e = .returned (.bool true) ∧ Below W4.heap.size W4 w') := CK.out W4 ⟨xa, xc, ya, yc⟩ hW4.2.2.2.1 hW4.2.2.1
  clear CK
  go_wp2_with fail
  (with_reducible refine C.out.mono ?_)
  clear C
  rintro _ W5 ⟨rfl, b5⟩
  have hW5 := hW4.below b5
  clear hW4 b5
  have CS := Lib.hid (keepSteps_any W5 hW5.2.2.2.2.2)
  go_wp2_with fail
  (with_reducible refine CS.out.mono ?_)
  rintro _ W6 ⟨rfl, b6⟩
  go_wp2_with fail
  go_ret
  exact ⟨rfl, hW5.2.2.2.2.1.trans (b6.mono hW5.2.2.2.2.1.size)⟩
end Go.Proofs.YtchpgngphgjmnaaDoor
