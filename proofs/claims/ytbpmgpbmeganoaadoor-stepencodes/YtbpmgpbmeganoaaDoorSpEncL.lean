/- Texts in one: SpStepsL, SpEncL. -/
import Derived.Test.YtbpmgpbmeganoaaDoorSpSearch
import Derived.Test.YtbpmgpbmeganoaaDoorSpSign
import Derived.Test.YtbpmgpbmeganoaaDoorSpCheck
import Derived.Test.YtbpmgpbmeganoaaDoorSpCat
/- law.steps: it answers true (wip/tools/genspst.py). -/
namespace Go.Proofs.YtbpmgpbmeganoaaDoor
open Go.RowKit

set_option maxRecDepth 100000 in
set_option maxHeartbeats 2000000 in
theorem lawSteps_any (w : World) (ht : Tab w) : Calls Tryd.prog 20 #[] w fun e w' => e = .returned (.bool true) ∧ Below w.heap.size w w' := by
  have C1 := Lib.hid (SpSign_any sp0 pZ 0 1 ⟨#[107]⟩ w ⟨NumsA.nil _ _ _, Txs.nil _ _ _, Nat.le_refl _, Nat.le_refl _⟩ (by decide) (by decide) (by decide) ht)
  have hS := steps_sign
  obtain ⟨_, _, hl1, hl2⟩ := sign_good (key := ⟨#[107]⟩) sp0_good (x := 1) (by decide) (by decide) (by decide) (bs (spBodyL 0 sp0))
  have hC := steps_check
  rw [hS] at C1
  generalize hR : spPut sp0 1 (sealB ⟨#[107]⟩ (bs (spBodyL 0 sp0))) = R at *
  have harr : spArr sp0 pZ = #[.string ⟨#[97]⟩, .string ⟨#[]⟩, .string ⟨#[48, 49, 50, 51, 52, 53, 54, 55, 56, 57, 97, 98, 99, 100, 101, 102, 48, 49, 50, 51, 52, 53, 54, 55, 56, 57, 97, 98, 99, 100, 101, 102]⟩, .slice none 0 0, .slice none 0 0] := rfl
  rw [harr] at C1
  clear harr hR hS
  go_enter Tryd.func20, Tryd.ntmps20
  go_wp2_with fail
  (with_reducible refine C1.out.mono ?_)
  clear C1
  rintro _ V ⟨p, rfl, hI, b1⟩
  simp only at hI
  obtain ⟨wa, wc, sa, sc⟩ := p
  have hl1' : R.who.length = 1 := hl1
  have hl2' : R.seals.length = 1 := hl2
  have A0 : Arr (V.alloc (.cells spZero 25)) V.heap.size 25 spZero := Arr.new _ _ _
  go_upto_region 2 with (refine wpList_store_row rfl 25 _ _ rfl V.heap.size (spArr R ⟨wa, wc, sa, sc⟩) rfl rfl 25 spZero A0 (spInfo R _) rfl (spArr_one R _) ?_)
  have AX : Arr ((V.alloc (.cells spZero 25)).setRow V.heap.size (spArr R ⟨wa, wc, sa, sc⟩)) V.heap.size 25 (spArr R ⟨wa, wc, sa, sc⟩) := A0.row _
  have bb : Below V.heap.size V ((V.alloc (.cells spZero 25)).setRow V.heap.size (spArr R ⟨wa, wc, sa, sc⟩)) := below_setRow ((Below.refl _ _).alloc (Nat.le_refl _) _) (Nat.le_refl _) _
  refine wp_forget (fun W => Arr W V.heap.size 25 (spArr R ⟨wa, wc, sa, sc⟩) ∧ SpIn W W.heap.size R ⟨wa, wc, sa, sc⟩ ∧ Below w.heap.size w W ∧ Tab W) (by exact ⟨AX, (hI.below bb).mono bb.size, b1.trans (bb.mono b1.size), ht.below (b1.trans (bb.mono b1.size)) ht.1⟩) ?_
  clear AX bb A0 hI b1
  generalize V.heap.size = q
  rintro W ⟨AX, hI, b1, htW⟩
  have c3 : W.cell? ⟨q, 3, none⟩ = some (.slice wa R.who.length wc) := AX.cell 3
  rw [hl1'] at c3
  have ba : Below W.heap.size W (W.alloc (.cells #[.string ⟨#[]⟩, .string ⟨#[107]⟩] 9)) := (Below.refl _ _).alloc (Nat.le_refl _) _
  have AY : Arr (W.alloc (.cells #[.string ⟨#[]⟩, .string ⟨#[107]⟩] 9)) W.heap.size 9 #[.string ⟨#[]⟩, .string ⟨#[107]⟩] := Arr.new _ _ _
  have AX2 := AX.below ba AX.lt
  have hlt := AY.lt
  have C2 := Lib.hid (SpCheck_any ⟨[⟨#[]⟩, ⟨#[107]⟩], [], 1⟩ ⟨some ⟨W.heap.size, 0, none⟩, 2, none, 0⟩ R ⟨wa, wc, sa, sc⟩ 0 (W.alloc (.cells #[.string ⟨#[]⟩, .string ⟨#[107]⟩] 9))
    ⟨fun k x hx => by
      match k, hx with
      | 0, hx => cases hx; exact ⟨_, rfl, hlt, AY.cell 0⟩
      | 1, hx => cases hx; exact ⟨_, rfl, hlt, AY.cell 1⟩
      | k + 2, hx => simp at hx, Txs.nil _ _ _, Nat.le_refl _, Nat.le_refl _⟩ ((hI.below ba).mono ba.size)
    ⟨by decide, by decide, fun t h => by simp at h; rcases h with rfl | rfl <;> decide⟩ (by omega) (by omega) (htW.below ba htW.1))
  rw [hC] at C2
  have hky : kyArr ⟨[⟨#[]⟩, ⟨#[107]⟩], [], 1⟩ ⟨some ⟨W.heap.size, 0, none⟩, 2, none, 0⟩ = #[.slice (some ⟨W.heap.size, 0, none⟩) 2 2, .slice none 0 0, .int .i64 1] := rfl
  rw [hky] at C2
  have harr : spArr R ⟨wa, wc, sa, sc⟩ = #[.string R.ref, .string R.old, .string R.new, .slice wa 1 wc, .slice sa 1 sc] := by
    show #[Value.string R.ref, .string R.old, .string R.new, .slice wa R.who.length wc, .slice sa R.seals.length sc] = _
    rw [hl1', hl2']
  rw [harr] at C2 AX2
  have x0 := AX2.cell 0
  have x1 := AX2.cell 1
  have x2 := AX2.cell 2
  have x3 := AX2.cell 3
  have x4 := AX2.cell 4
  simp only [List.getElem?_toArray, List.getElem?_cons_zero, List.getElem?_cons_succ] at x0 x1 x2 x3 x4
  clear hky hC AY hlt
  go_wp2_with fail
  (with_reducible refine C2.out.mono ?_)
  rintro _ W2 ⟨rfl, b2⟩
  go_wp2_with fail
  go_ret
  exact ⟨rfl, b1.trans ((ba.trans (b2.mono ba.size)).mono b1.size)⟩
end Go.Proofs.YtbpmgpbmeganoaaDoor

/- law.StepEncodes: its walk. -/
namespace Go.Proofs.YtbpmgpbmeganoaaDoor
open Go.RowKit

theorem Sx.bel {w W : World} {s : Sp} {p : SpAt} (h : Sx w s p W) : Below w.heap.size w W := h.2.2
set_option maxRecDepth 100000 in
set_option maxHeartbeats 4000000 in
theorem StepEncodes_any (s : Sp) (p : SpAt) (i : Int) (w : World) (hP : SpIn w w.heap.size s p) (hz : SpSz s) (ht : Tab w) :
    Calls Tryd.prog 3 #[.agg (spArr s p), .int .i64 i] w fun e w' => e = .returned (.bool true) ∧ Below w.heap.size w w' := by
  obtain ⟨wa, wc, sa, sc⟩ := p
  have hl1 : s.who.length ≤ 140737488355328 := by have := hz.who; omega
  have hl2 : s.seals.length ≤ 140737488355328 := by have := hz.seals; omega
  have hl3 : s.ref.size ≤ 140737488355328 := by have := hz.ref; omega
  have h1 := Lib.hid (Sx.start hP)
  have HT : Hid (∀ V, Below w.heap.size w V → Tab V) := fun V b => ht.below b ht.1
  have CC := Lib.hid (fun V h => CopyStep_any s ⟨wa, wc, sa, sc⟩ V h hz)
  have CE := Lib.hid (fun V p h => SpEncode_any s p V h hl1 hl2)
  have CR := Lib.hid (fun V h => RefEncodeStep_any s ⟨wa, wc, sa, sc⟩ V h hz)
  have CB := Lib.hid (fun V p => Body_any i s p V)
  have CD := Lib.hid (fun V => RefBody_any i s ⟨wa, wc, sa, sc⟩ V)
  have CG := Lib.hid (fun V p h => SpGood_any s p V h hl1 hl2)
  have CH := Lib.hid (fun V h => GoodStep_any s ⟨wa, wc, sa, sc⟩ V h hl3 hl1 hl2)
  clear hP hz ht hl1 hl2 hl3
  generalize spEnc s = E at *
  generalize spBody i s = B at *
  generalize spGood s = G at *
  generalize hA : spArr s ⟨wa, wc, sa, sc⟩ = arr at *
  have HA := Lib.hid hA
  clear hA
  go_enter Tryd.func3, Tryd.ntmps3
  go_upto_region 1 with fail
  refine wp_forget (Sx w s ⟨wa, wc, sa, sc⟩) h1.out ?_
  clear h1
  intro W hW
  have hA := HA.out
  clear HA
  subst hA
  go_wp2_with (refine wpList_load_row rfl 25 _ rfl w.heap.size rfl 25 _ (0, 0) _ hW.1 Tryd.underlying25 rfl (spInfo s _) ?_)
  (with_reducible refine (CC.out W hW.up).mono ?_)
  rintro _ V ⟨p1, rfl, hI, b1⟩
  have hV := hW.below b1
  clear hW b1
  go_wp2_with fail
  (with_reducible refine (CE.out V p1 hI).mono ?_)
  clear CE hI
  rintro _ W2 ⟨rfl, b2⟩
  have hW2 := hV.below b2
  clear hV b2
  go_wp2_with (refine wpList_load_row rfl 25 _ rfl w.heap.size rfl 25 _ (0, 0) _ hW2.1 Tryd.underlying25 rfl (spInfo s _) ?_)
  (with_reducible refine (CR.out W2 hW2.up).mono ?_)
  clear CR
  rintro _ W3 ⟨rfl, b3⟩
  have hW3 := hW2.below b3
  clear hW2 b3
  go_wp2_with (refine wpList_load_row rfl 25 _ rfl w.heap.size rfl 25 _ (0, 0) _ hW3.1 Tryd.underlying25 rfl (spInfo s _) ?_)
  (with_reducible refine (CC.out W3 hW3.up).mono ?_)
  rintro _ V ⟨p2, rfl, _, b1⟩
  have hV := hW3.below b1
  clear hW3 b1
  go_wp2_with fail
  (with_reducible refine (CB.out V p2).mono ?_)
  clear CB
  rintro _ W4 ⟨rfl, b4⟩
  have hW4 := hV.below b4
  clear hV b4
  go_wp2_with (refine wpList_load_row rfl 25 _ rfl w.heap.size rfl 25 _ (0, 0) _ hW4.1 Tryd.underlying25 rfl (spInfo s _) ?_)
  (with_reducible refine (CD.out W4).mono ?_)
  clear CD
  rintro _ W5 ⟨rfl, b5⟩
  have hW5 := hW4.below b5
  clear hW4 b5
  have e1 : (E.1.toList == E.1.toList) = true := by simp
  have e2 : (E.2 == E.2) = true := by simp
  have e3 : (B.1.toList == B.1.toList) = true := by simp
  have e4 : (B.2 == B.2) = true := by simp
  have e5 : (G == G) = true := by simp
  have CC' : Hid (∀ V, SpIn V V.heap.size s ⟨wa, wc, sa, sc⟩ → Calls Tryd.prog 14 #[.agg #[.string s.ref, .string s.old, .string s.new, .slice wa s.who.length wc, .slice sa s.seals.length sc]] V (CpEnd V s)) := fun V h => CC.out V h
  have CH' : Hid (∀ V, SpIn V V.heap.size s ⟨wa, wc, sa, sc⟩ → Calls Tryd.prog 19 #[.agg #[.string s.ref, .string s.old, .string s.new, .slice wa s.who.length wc, .slice sa s.seals.length sc]] V fun e w' => e = .returned (.int .i64 G) ∧ Below V.heap.size V w') := fun V h => CH.out V h
  clear CC CH
  have hc := hW5.c
  have hX : Sx w s ⟨wa, wc, sa, sc⟩ W5.drew := hW5.below (Below.refl _ _).drew
  clear hW5
  go_wp2_with fail
  go_region_held3 (fun w' => w'.cell? ⟨w.heap.size, 0, none⟩ = some (.string s.ref) ∧ w'.cell? ⟨w.heap.size, 1, none⟩ = some (.string s.old) ∧ w'.cell? ⟨w.heap.size, 2, none⟩ = some (.string s.new) ∧
      w'.cell? ⟨w.heap.size, 3, none⟩ = some (.slice wa s.who.length wc) ∧ w'.cell? ⟨w.heap.size, 4, none⟩ = some (.slice sa s.seals.length sc))
    (first | exact hc | exact hc6 | exact hc7 | exact hc8 | exact hc9)
    (first
      | (go_at_call 14
         (with_reducible refine (CC'.out _ hX.up).mono ?_)
         rintro _ W6 ⟨p3, rfl, hI6, b6⟩
         have hX6 := hX.below b6
         have hc6 := hX6.c)
      | (go_at_call 18
         (with_reducible refine (CG.out _ p3 hI6).mono ?_)
         rintro _ W7 ⟨rfl, b7⟩
         have hX7 := hX6.below b7
         have hc7 := hX7.c)
      | (go_at_call 19
         (with_reducible refine (CH'.out _ hX7.up).mono ?_)
         rintro _ W8 ⟨rfl, b8⟩
         have hX8 := hX7.below b8
         have hc8 := hX8.c)
      | (go_at_call 20
         (with_reducible refine (lawSteps_any _ (HT.out _ hX8.bel)).mono ?_)
         rintro _ W9 ⟨rfl, b9⟩
         have hX9 := hX8.below b9
         have hc9 := hX9.c))
  all_goals
    go_wp2_with fail
    go_ret
    exact ⟨rfl, hX9.bel⟩
end Go.Proofs.YtbpmgpbmeganoaaDoor
