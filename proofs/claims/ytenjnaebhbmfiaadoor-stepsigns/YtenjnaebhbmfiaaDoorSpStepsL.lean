/- law.steps: it answers true (wip/tools/genspst.py). -/
import Derived.Test.YtenjnaebhbmfiaaDoorSpSearch
import Derived.Test.YtenjnaebhbmfiaaDoorSpSign
import Derived.Test.YtenjnaebhbmfiaaDoorSpCheck
namespace Go.Proofs.YtenjnaebhbmfiaaDoor
open Go.RowKit

set_option maxRecDepth 100000 in
set_option maxHeartbeats 2000000 in
theorem lawSteps_any (w : World) (ht : Tab w) : Calls Tryd.prog 8 #[] w fun e w' => e = .returned (.bool true) ∧ Below w.heap.size w w' := by
  have C1 := Lib.hid (SpSign_any sp0 pZ 0 1 ⟨#[107]⟩ w ⟨NumsA.nil _ _ _, Txs.nil _ _ _, Nat.le_refl _, Nat.le_refl _⟩ (by decide) (by decide) (by decide) ht)
  have hS := steps_sign
  obtain ⟨_, _, hl1, hl2⟩ := sign_good (key := ⟨#[107]⟩) sp0_good (x := 1) (by decide) (by decide) (by decide) (bs (spBodyL 0 sp0))
  have hC := steps_check
  rw [hS] at C1
  generalize hR : spPut sp0 1 (sealB ⟨#[107]⟩ (bs (spBodyL 0 sp0))) = R at *
  have harr : spArr sp0 pZ = #[.string ⟨#[97]⟩, .string ⟨#[]⟩, .string ⟨#[48, 49, 50, 51, 52, 53, 54, 55, 56, 57, 97, 98, 99, 100, 101, 102, 48, 49, 50, 51, 52, 53, 54, 55, 56, 57, 97, 98, 99, 100, 101, 102]⟩, .slice none 0 0, .slice none 0 0] := rfl
  rw [harr] at C1
  clear harr hR hS
  go_enter Tryd.func8, Tryd.ntmps8
  go_wp2_with fail
  (with_reducible refine C1.out.mono ?_)
  clear C1
  rintro _ V ⟨p, rfl, hI, b1⟩
  simp only at hI
  obtain ⟨wa, wc, sa, sc⟩ := p
  have hl1' : R.who.length = 1 := hl1
  have hl2' : R.seals.length = 1 := hl2
  have A0 : Arr (V.alloc (.cells spZero 25)) V.heap.size 25 spZero := Arr.new _ _ _
  go_upto_region 2 with (refine wpList_store_row rfl 25 _ _ rfl V.heap.size (spArr R ⟨wa, wc, sa, sc⟩) rfl rfl 25 spZero A0 (spInfo R _) rfl (spArr_one R _) ?_)
  have AX : Arr ((V.alloc (.cells spZero 25)).setRow V.heap.size (spArr R ⟨wa, wc, sa, sc⟩)) V.heap.size 25 (spArr R ⟨wa, wc, sa, sc⟩) := A0.row _
  have bb : Below V.heap.size V ((V.alloc (.cells spZero 25)).setRow V.heap.size (spArr R ⟨wa, wc, sa, sc⟩)) := below_setRow ((Below.refl _ _).alloc (Nat.le_refl _) _) (Nat.le_refl _) _
  refine wp_forget (fun W => Arr W V.heap.size 25 (spArr R ⟨wa, wc, sa, sc⟩) ∧ SpIn W W.heap.size R ⟨wa, wc, sa, sc⟩ ∧ Below w.heap.size w W ∧ Tab W) (by exact ⟨AX, (hI.below bb).mono bb.size, b1.trans (bb.mono b1.size), ht.below (b1.trans (bb.mono b1.size)) ht.1⟩) ?_
  clear AX bb A0 hI b1
  generalize V.heap.size = q
  rintro W ⟨AX, hI, b1, htW⟩
  have c3 : W.cell? ⟨q, 3, none⟩ = some (.slice wa R.who.length wc) := AX.cell 3
  rw [hl1'] at c3
  have ba : Below W.heap.size W (W.alloc (.cells #[.string ⟨#[]⟩, .string ⟨#[107]⟩] 9)) := (Below.refl _ _).alloc (Nat.le_refl _) _
  have AY : Arr (W.alloc (.cells #[.string ⟨#[]⟩, .string ⟨#[107]⟩] 9)) W.heap.size 9 #[.string ⟨#[]⟩, .string ⟨#[107]⟩] := Arr.new _ _ _
  have AX2 := AX.below ba AX.lt
  have hlt := AY.lt
  have C2 := Lib.hid (SpCheck_any ⟨[⟨#[]⟩, ⟨#[107]⟩], [], 1⟩ ⟨some ⟨W.heap.size, 0, none⟩, 2, none, 0⟩ R ⟨wa, wc, sa, sc⟩ 0 (W.alloc (.cells #[.string ⟨#[]⟩, .string ⟨#[107]⟩] 9))
    ⟨fun k x hx => by
      match k, hx with
      | 0, hx => cases hx; exact ⟨_, rfl, hlt, AY.cell 0⟩
      | 1, hx => cases hx; exact ⟨_, rfl, hlt, AY.cell 1⟩
      | k + 2, hx => simp at hx, Txs.nil _ _ _, Nat.le_refl _, Nat.le_refl _⟩ ((hI.below ba).mono ba.size)
    ⟨by decide, by decide, fun t h => by simp at h; rcases h with rfl | rfl <;> decide⟩ (by omega) (by omega) (htW.below ba htW.1))
  rw [hC] at C2
  have hky : kyArr ⟨[⟨#[]⟩, ⟨#[107]⟩], [], 1⟩ ⟨some ⟨W.heap.size, 0, none⟩, 2, none, 0⟩ = #[.slice (some ⟨W.heap.size, 0, none⟩) 2 2, .slice none 0 0, .int .i64 1] := rfl
  rw [hky] at C2
  have harr : spArr R ⟨wa, wc, sa, sc⟩ = #[.string R.ref, .string R.old, .string R.new, .slice wa 1 wc, .slice sa 1 sc] := by
    show #[Value.string R.ref, .string R.old, .string R.new, .slice wa R.who.length wc, .slice sa R.seals.length sc] = _
    rw [hl1', hl2']
  rw [harr] at C2 AX2
  have x0 := AX2.cell 0
  have x1 := AX2.cell 1
  have x2 := AX2.cell 2
  have x3 := AX2.cell 3
  have x4 := AX2.cell 4
  simp only [List.getElem?_toArray, List.getElem?_cons_zero, List.getElem?_cons_succ] at x0 x1 x2 x3 x4
  clear hky hC AY hlt
  go_wp2_with fail
  (with_reducible refine C2.out.mono ?_)
  rintro _ W2 ⟨rfl, b2⟩
  go_wp2_with fail
  go_ret
  exact ⟨rfl, b1.trans ((ba.trans (b2.mono ba.size)).mono b1.size)⟩
end Go.Proofs.YtenjnaebhbmfiaaDoor
