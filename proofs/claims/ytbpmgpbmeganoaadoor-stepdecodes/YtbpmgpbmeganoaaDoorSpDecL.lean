/- law.StepDecodes: its walk. -/
import Derived.Test.YtbpmgpbmeganoaaDoorORefSame
import Derived.Test.YtbpmgpbmeganoaaDoorSpSameR
import Derived.Test.YtbpmgpbmeganoaaDoorDSpec
namespace Go.Proofs.YtbpmgpbmeganoaaDoor
open Go.RowKit

/-- a step in a block -/
structure Bk1 (w : World) (q : Nat) (s : Sp) (p : SpAt) (W : World) : Prop where
  arr : Arr W q 25 (spArr s p)
  inn : SpIn W W.heap.size s p
  bel : Below w.heap.size w W
/-- and another one -/
structure Bk2 (w : World) (q q2 : Nat) (s : Sp) (p p2 : SpAt) (W : World) : Prop where
  arr : Arr W q 25 (spArr s p)
  inn : SpIn W W.heap.size s p
  arr2 : Arr W q2 25 (spArr s p2)
  inn2 : SpIn W W.heap.size s p2
  bel : Below w.heap.size w W
theorem spDec_lens (b : ByteArray) (h : b.size ≤ 140737488355328) : (spDec b).1.who.length ≤ 140737488355328 ∧ (spDec b).1.seals.length ≤ 140737488355328 := by
  unfold spDec
  rw [spRead_st]
  have hl0 : ∀ l, (some b.data.toList : St) = some l → l.length ≤ 140737488355328 := fun l e => by cases e; exact h
  have hL := stSgs_le (stTxt_le (stTxt_le (stTxt_le hl0)))
  unfold stStep
  simp only
  generalize stSgs _ = y at *
  obtain ⟨L, st⟩ := y
  cases st with
  | none => exact ⟨Nat.zero_le _, Nat.zero_le _⟩
  | some r =>
    simp only
    by_cases hr : r = []
    · rw [if_pos hr]
      simp only
      split
      · exact ⟨Nat.zero_le _, Nat.zero_le _⟩
      · simp only [List.length_map]
        exact ⟨hL, hL⟩
    · rw [if_neg hr]
      exact ⟨Nat.zero_le _, Nat.zero_le _⟩
set_option maxRecDepth 100000 in
set_option maxHeartbeats 4000000 in
theorem StepDecodes_any (b : ByteArray) (hb : b.size ≤ 140737488355328) (w : World) (ht : Tab w) :
    Calls Tryd.prog 4 #[.string b] w fun e w' => e = .returned (.bool true) ∧ Below w.heap.size w w' := by
  have C1 := Lib.hid (SpDecode_any b hb w)
  have C2 := Lib.hid (fun V => RefDecode_any b hb V)
  have HLn := Lib.hid (spDec_lens b hb)
  have HT : Hid (∀ V, Below w.heap.size w V → Tab V) := fun V b => ht.below b ht.1
  clear ht
  generalize spDec b = D at *
  obtain ⟨s, z⟩ := D
  simp only at HLn
  go_enter Tryd.func4, Tryd.ntmps4
  go_wp2_with fail
  (with_reducible refine C1.out.mono ?_)
  clear C1
  rintro _ V ⟨p, rfl, hI, b1⟩
  simp only at hI
  have bz : Below V.heap.size V ((V.alloc (.cells spZero 25)).setRow V.heap.size (spArr s p)) := below_setRow ((Below.refl _ _).alloc (Nat.le_refl _) _) (Nat.le_refl _) _
  have A0 : Arr (V.alloc (.cells spZero 25)) V.heap.size 25 spZero := Arr.new _ _ _
  have hst : Hid (Bk1 w V.heap.size s p ((V.alloc (.cells spZero 25)).setRow V.heap.size (spArr s p))) := ⟨A0.row _, (hI.below bz).mono bz.size, b1.trans (bz.mono b1.size)⟩
  go_upto_region 2 with (refine wpList_store_row rfl 25 _ _ rfl V.heap.size (spArr s p) rfl rfl 25 spZero A0 (spInfo s _) rfl (spArr_one s _) ?_)
  refine wp_forget (Bk1 w V.heap.size s p) (by exact hst.out) ?_
  clear hst A0 hI b1 bz
  generalize V.heap.size = q
  intro W hW
  go_wp2_with fail
  (with_reducible refine (C2.out W).mono ?_)
  clear C2
  rintro _ V2 ⟨p2, rfl, hI, b1⟩
  simp only at hI
  have bz : Below V2.heap.size V2 ((V2.alloc (.cells spZero 25)).setRow V2.heap.size (spArr s p2)) := below_setRow ((Below.refl _ _).alloc (Nat.le_refl _) _) (Nat.le_refl _) _
  have bb := b1.trans (bz.mono b1.size)
  have A0 : Arr (V2.alloc (.cells spZero 25)) V2.heap.size 25 spZero := Arr.new _ _ _
  have hst : Hid (Bk2 w q V2.heap.size s p p2 ((V2.alloc (.cells spZero 25)).setRow V2.heap.size (spArr s p2))) :=
    ⟨hW.arr.below bb hW.arr.lt, (hW.inn.below bb).mono bb.size, A0.row _, (hI.below bz).mono bz.size, hW.bel.trans (bb.mono hW.bel.size)⟩
  go_upto_region 3 with (refine wpList_store_row rfl 25 _ _ rfl V2.heap.size (spArr s p2) rfl rfl 25 spZero A0 (spInfo s _) rfl (spArr_one s _) ?_)
  refine wp_forget (Bk2 w q V2.heap.size s p p2) (by exact hst.out) ?_
  clear hst A0 hI b1 bz bb hW
  generalize V2.heap.size = q2
  intro W4 hW4
  obtain ⟨xa, xc, ya, yc⟩ := p2
  obtain ⟨wa, wc, sa, sc⟩ := p
  have c0 := hW4.arr.cell 0
  have c1 := hW4.arr.cell 1
  have c2 := hW4.arr.cell 2
  have c3 := hW4.arr.cell 3
  have c4 := hW4.arr.cell 4
  have e0 := hW4.arr2.cell 0
  have e1 := hW4.arr2.cell 1
  have e2 := hW4.arr2.cell 2
  have e3 := hW4.arr2.cell 3
  have e4 := hW4.arr2.cell 4
  simp only [spArr, List.getElem?_toArray, List.getElem?_cons_zero, List.getElem?_cons_succ] at c0 c1 c2 c3 c4 e0 e1 e2 e3 e4
  have C : Hid (Calls Tryd.prog 23 #[.agg #[.string s.ref, .string s.old, .string s.new, .slice wa s.who.length wc, .slice sa s.seals.length sc], .agg #[.string s.ref, .string s.old, .string s.new, .slice xa s.who.length xc, .slice ya s.seals.length yc]] W4 fun e w' => e = .returned (.bool true) ∧ Below W4.heap.size W4 w') := RefSameStep s ⟨wa, wc, sa, sc⟩ ⟨xa, xc, ya, yc⟩ W4 hW4.inn hW4.inn2 HLn.out.1 HLn.out.2
  have hzz : (z == z) = true := by simp
  clear HLn
  go_wp2_with fail
  (with_reducible refine C.out.mono ?_)
  clear C
  rintro _ W5 ⟨rfl, b5⟩
  have bel := hW4.bel.trans (b5.mono hW4.bel.size)
  have CS := Lib.hid (lawSteps_any W5 (HT.out W5 bel))
  go_wp2_with fail
  (with_reducible refine CS.out.mono ?_)
  rintro _ W6 ⟨rfl, b6⟩
  go_wp2_with fail
  go_ret
  exact ⟨rfl, bel.trans (b6.mono bel.size)⟩
end Go.Proofs.YtbpmgpbmeganoaaDoor
