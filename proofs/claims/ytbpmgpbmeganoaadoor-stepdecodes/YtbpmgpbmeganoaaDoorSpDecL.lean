/- Texts in one: SpStepsL, SpDecL. -/
import Derived.Test.YtbpmgpbmeganoaaDoorSpSearch
import Derived.Test.YtbpmgpbmeganoaaDoorSpSign
import Derived.Test.YtbpmgpbmeganoaaDoorSpCheck
import Derived.Test.YtbpmgpbmeganoaaDoorORefSame
/- law.steps: it answers true (wip/tools/genspst.py). -/
namespace Go.Proofs.YtbpmgpbmeganoaaDoor
open Go.RowKit

set_option maxRecDepth 100000 in
set_option maxHeartbeats 2000000 in
theorem lawSteps_any (w : World) (ht : Tab w) : Calls Tryd.prog 20 #[] w fun e w' => e = .returned (.bool true) ∧ Below w.heap.size w w' := by
  have C1 := Lib.hid (SpSign_any sp0 pZ 0 1 ⟨#[107]⟩ w ⟨NumsA.nil _ _ _, Txs.nil _ _ _, Nat.le_refl _, Nat.le_refl _⟩ (by decide) (by decide) (by decide) ht)
  have hS := steps_sign
  obtain ⟨_, _, hl1, hl2⟩ := sign_good (key := ⟨#[107]⟩) sp0_good (x := 1) (by decide) (by decide) (by decide) (bs (spBodyL 0 sp0))
  have hC := steps_check
  rw [hS] at C1
  generalize hR : spPut sp0 1 (sealB ⟨#[107]⟩ (bs (spBodyL 0 sp0))) = R at *
  have harr : spArr sp0 pZ = #[.string ⟨#[97]⟩, .string ⟨#[]⟩, .string ⟨#[48, 49, 50, 51, 52, 53, 54, 55, 56, 57, 97, 98, 99, 100, 101, 102, 48, 49, 50, 51, 52, 53, 54, 55, 56, 57, 97, 98, 99, 100, 101, 102]⟩, .slice none 0 0, .slice none 0 0] := rfl
  rw [harr] at C1
  clear harr hR hS
  go_enter Tryd.func20, Tryd.ntmps20
  go_wp2_with fail
  (with_reducible refine C1.out.mono ?_)
  clear C1
  rintro _ V ⟨p, rfl, hI, b1⟩
  simp only at hI
  obtain ⟨wa, wc, sa, sc⟩ := p
  have hl1' : R.who.length = 1 := hl1
  have hl2' : R.seals.length = 1 := hl2
  have A0 : Arr (V.alloc (.cells spZero 25)) V.heap.size 25 spZero := Arr.new _ _ _
  go_upto_region 2 with (refine wpList_store_row rfl 25 _ _ rfl V.heap.size (spArr R ⟨wa, wc, sa, sc⟩) rfl rfl 25 spZero A0 (spInfo R _) rfl (spArr_one R _) ?_)
  have AX : Arr ((V.alloc (.cells spZero 25)).setRow V.heap.size (spArr R ⟨wa, wc, sa, sc⟩)) V.heap.size 25 (spArr R ⟨wa, wc, sa, sc⟩) := A0.row _
  have bb : Below V.heap.size V ((V.alloc (.cells spZero 25)).setRow V.heap.size (spArr R ⟨wa, wc, sa, sc⟩)) := below_setRow ((Below.refl _ _).alloc (Nat.le_refl _) _) (Nat.le_refl _) _
  refine wp_forget (fun W => Arr W V.heap.size 25 (spArr R ⟨wa, wc, sa, sc⟩) ∧ SpIn W W.heap.size R ⟨wa, wc, sa, sc⟩ ∧ Below w.heap.size w W ∧ Tab W) (by exact ⟨AX, (hI.below bb).mono bb.size, b1.trans (bb.mono b1.size), ht.below (b1.trans (bb.mono b1.size)) ht.1⟩) ?_
  clear AX bb A0 hI b1
  generalize V.heap.size = q
  rintro W ⟨AX, hI, b1, htW⟩
  have c3 : W.cell? ⟨q, 3, none⟩ = some (.slice wa R.who.length wc) := AX.cell 3
  rw [hl1'] at c3
  have ba : Below W.heap.size W (W.alloc (.cells #[.string ⟨#[]⟩, .string ⟨#[107]⟩] 9)) := (Below.refl _ _).alloc (Nat.le_refl _) _
  have AY : Arr (W.alloc (.cells #[.string ⟨#[]⟩, .string ⟨#[107]⟩] 9)) W.heap.size 9 #[.string ⟨#[]⟩, .string ⟨#[107]⟩] := Arr.new _ _ _
  have AX2 := AX.below ba AX.lt
  have hlt := AY.lt
  have C2 := Lib.hid (SpCheck_any ⟨[⟨#[]⟩, ⟨#[107]⟩], [], 1⟩ ⟨some ⟨W.heap.size, 0, none⟩, 2, none, 0⟩ R ⟨wa, wc, sa, sc⟩ 0 (W.alloc (.cells #[.string ⟨#[]⟩, .string ⟨#[107]⟩] 9))
    ⟨fun k x hx => by
      match k, hx with
      | 0, hx => cases hx; exact ⟨_, rfl, hlt, AY.cell 0⟩
      | 1, hx => cases hx; exact ⟨_, rfl, hlt, AY.cell 1⟩
      | k + 2, hx => simp at hx, Txs.nil _ _ _, Nat.le_refl _, Nat.le_refl _⟩ ((hI.below ba).mono ba.size)
    ⟨by decide, by decide, fun t h => by simp at h; rcases h with rfl | rfl <;> decide⟩ (by omega) (by omega) (htW.below ba htW.1))
  rw [hC] at C2
  have hky : kyArr ⟨[⟨#[]⟩, ⟨#[107]⟩], [], 1⟩ ⟨some ⟨W.heap.size, 0, none⟩, 2, none, 0⟩ = #[.slice (some ⟨W.heap.size, 0, none⟩) 2 2, .slice none 0 0, .int .i64 1] := rfl
  rw [hky] at C2
  have harr : spArr R ⟨wa, wc, sa, sc⟩ = #[.string R.ref, .string R.old, .string R.new, .slice wa 1 wc, .slice sa 1 sc] := by
    show #[Value.string R.ref, .string R.old, .string R.new, .slice wa R.who.length wc, .slice sa R.seals.length sc] = _
    rw [hl1', hl2']
  rw [harr] at C2 AX2
  have x0 := AX2.cell 0
  have x1 := AX2.cell 1
  have x2 := AX2.cell 2
  have x3 := AX2.cell 3
  have x4 := AX2.cell 4
  simp only [List.getElem?_toArray, List.getElem?_cons_zero, List.getElem?_cons_succ] at x0 x1 x2 x3 x4
  clear hky hC AY hlt
  go_wp2_with fail
  (with_reducible refine C2.out.mono ?_)
  rintro _ W2 ⟨rfl, b2⟩
  go_wp2_with fail
  go_ret
  exact ⟨rfl, b1.trans ((ba.trans (b2.mono ba.size)).mono b1.size)⟩
end Go.Proofs.YtbpmgpbmeganoaaDoor

/- law.StepDecodes: its walk. -/
namespace Go.Proofs.YtbpmgpbmeganoaaDoor
open Go.RowKit

/-- a step in a block -/
structure Bk1 (w : World) (q : Nat) (s : Sp) (p : SpAt) (W : World) : Prop where
  arr : Arr W q 25 (spArr s p)
  inn : SpIn W W.heap.size s p
  bel : Below w.heap.size w W
/-- and another one -/
structure Bk2 (w : World) (q q2 : Nat) (s : Sp) (p p2 : SpAt) (W : World) : Prop where
  arr : Arr W q 25 (spArr s p)
  inn : SpIn W W.heap.size s p
  arr2 : Arr W q2 25 (spArr s p2)
  inn2 : SpIn W W.heap.size s p2
  bel : Below w.heap.size w W
theorem spDec_lens (b : ByteArray) (h : b.size ≤ 140737488355328) : (spDec b).1.who.length ≤ 140737488355328 ∧ (spDec b).1.seals.length ≤ 140737488355328 := by
  unfold spDec
  rw [spRead_st]
  have hl0 : ∀ l, (some b.data.toList : St) = some l → l.length ≤ 140737488355328 := fun l e => by cases e; exact h
  have hL := stSgs_le (stTxt_le (stTxt_le (stTxt_le hl0)))
  unfold stStep
  simp only
  generalize stSgs _ = y at *
  obtain ⟨L, st⟩ := y
  cases st with
  | none => exact ⟨Nat.zero_le _, Nat.zero_le _⟩
  | some r =>
    simp only
    by_cases hr : r = []
    · rw [if_pos hr]
      simp only
      split
      · exact ⟨Nat.zero_le _, Nat.zero_le _⟩
      · simp only [List.length_map]
        exact ⟨hL, hL⟩
    · rw [if_neg hr]
      exact ⟨Nat.zero_le _, Nat.zero_le _⟩
set_option maxRecDepth 100000 in
set_option maxHeartbeats 4000000 in
theorem StepDecodes_any (b : ByteArray) (hb : b.size ≤ 140737488355328) (w : World) (ht : Tab w) :
    Calls Tryd.prog 4 #[.string b] w fun e w' => e = .returned (.bool true) ∧ Below w.heap.size w w' := by
  have C1 := Lib.hid (SpDecode_any b hb w)
  have C2 := Lib.hid (fun V => RefDecode_any b hb V)
  have HLn := Lib.hid (spDec_lens b hb)
  have HT : Hid (∀ V, Below w.heap.size w V → Tab V) := fun V b => ht.below b ht.1
  clear ht
  generalize spDec b = D at *
  obtain ⟨s, z⟩ := D
  simp only at HLn
  go_enter Tryd.func4, Tryd.ntmps4
  go_wp2_with fail
  (with_reducible refine C1.out.mono ?_)
  clear C1
  rintro _ V ⟨p, rfl, hI, b1⟩
  simp only at hI
  have bz : Below V.heap.size V ((V.alloc (.cells spZero 25)).setRow V.heap.size (spArr s p)) := below_setRow ((Below.refl _ _).alloc (Nat.le_refl _) _) (Nat.le_refl _) _
  have A0 : Arr (V.alloc (.cells spZero 25)) V.heap.size 25 spZero := Arr.new _ _ _
  have hst : Hid (Bk1 w V.heap.size s p ((V.alloc (.cells spZero 25)).setRow V.heap.size (spArr s p))) := ⟨A0.row _, (hI.below bz).mono bz.size, b1.trans (bz.mono b1.size)⟩
  go_upto_region 2 with (refine wpList_store_row rfl 25 _ _ rfl V.heap.size (spArr s p) rfl rfl 25 spZero A0 (spInfo s _) rfl (spArr_one s _) ?_)
  refine wp_forget (Bk1 w V.heap.size s p) (by exact hst.out) ?_
  clear hst A0 hI b1 bz
  generalize V.heap.size = q
  intro W hW
  go_wp2_with fail
  (with_reducible refine (C2.out W).mono ?_)
  clear C2
  rintro _ V2 ⟨p2, rfl, hI, b1⟩
  simp only at hI
  have bz : Below V2.heap.size V2 ((V2.alloc (.cells spZero 25)).setRow V2.heap.size (spArr s p2)) := below_setRow ((Below.refl _ _).alloc (Nat.le_refl _) _) (Nat.le_refl _) _
  have bb := b1.trans (bz.mono b1.size)
  have A0 : Arr (V2.alloc (.cells spZero 25)) V2.heap.size 25 spZero := Arr.new _ _ _
  have hst : Hid (Bk2 w q V2.heap.size s p p2 ((V2.alloc (.cells spZero 25)).setRow V2.heap.size (spArr s p2))) :=
    ⟨hW.arr.below bb hW.arr.lt, (hW.inn.below bb).mono bb.size, A0.row _, (hI.below bz).mono bz.size, hW.bel.trans (bb.mono hW.bel.size)⟩
  go_upto_region 3 with (refine wpList_store_row rfl 25 _ _ rfl V2.heap.size (spArr s p2) rfl rfl 25 spZero A0 (spInfo s _) rfl (spArr_one s _) ?_)
  refine wp_forget (Bk2 w q V2.heap.size s p p2) (by exact hst.out) ?_
  clear hst A0 hI b1 bz bb hW
  generalize V2.heap.size = q2
  intro W4 hW4
  obtain ⟨xa, xc, ya, yc⟩ := p2
  obtain ⟨wa, wc, sa, sc⟩ := p
  have c0 := hW4.arr.cell 0
  have c1 := hW4.arr.cell 1
  have c2 := hW4.arr.cell 2
  have c3 := hW4.arr.cell 3
  have c4 := hW4.arr.cell 4
  have e0 := hW4.arr2.cell 0
  have e1 := hW4.arr2.cell 1
  have e2 := hW4.arr2.cell 2
  have e3 := hW4.arr2.cell 3
  have e4 := hW4.arr2.cell 4
  simp only [spArr, List.getElem?_toArray, List.getElem?_cons_zero, List.getElem?_cons_succ] at c0 c1 c2 c3 c4 e0 e1 e2 e3 e4
  have C : Hid (Calls Tryd.prog 23 #[.agg #[.string s.ref, .string s.old, .string s.new, .slice wa s.who.length wc, .slice sa s.seals.length sc], .agg #[.string s.ref, .string s.old, .string s.new, .slice xa s.who.length xc, .slice ya s.seals.length yc]] W4 fun e w' => e = .returned (.bool true) ∧ Below W4.heap.size W4 w') := RefSameStep s ⟨wa, wc, sa, sc⟩ ⟨xa, xc, ya, yc⟩ W4 hW4.inn hW4.inn2 HLn.out.1 HLn.out.2
  have hzz : (z == z) = true := by simp
  clear HLn
  go_wp2_with fail
  (with_reducible refine C.out.mono ?_)
  clear C
  rintro _ W5 ⟨rfl, b5⟩
  have bel := hW4.bel.trans (b5.mono hW4.bel.size)
  have CS := Lib.hid (lawSteps_any W5 (HT.out W5 bel))
  go_wp2_with fail
  (with_reducible refine CS.out.mono ?_)
  rintro _ W6 ⟨rfl, b6⟩
  go_wp2_with fail
  go_ret
  exact ⟨rfl, bel.trans (b6.mono bel.size)⟩
end Go.Proofs.YtbpmgpbmeganoaaDoor
