/- Texts in one: SpStepsL, SpRepL. -/
import Derived.Test.YtbpmgpbmeganoaaDoorSpSearch
import Derived.Test.YtbpmgpbmeganoaaDoorSpSign
import Derived.Test.YtbpmgpbmeganoaaDoorSpCheck
import Derived.Test.YtbpmgpbmeganoaaDoorSpCat
/- law.steps: it answers true (wip/tools/genspst.py). -/
namespace Go.Proofs.YtbpmgpbmeganoaaDoor
open Go.RowKit

set_option maxRecDepth 100000 in
set_option maxHeartbeats 2000000 in
theorem lawSteps_any (w : World) (ht : Tab w) : Calls Tryd.prog 20 #[] w fun e w' => e = .returned (.bool true) ∧ Below w.heap.size w w' := by
  have C1 := Lib.hid (SpSign_any sp0 pZ 0 1 ⟨#[107]⟩ w ⟨NumsA.nil _ _ _, Txs.nil _ _ _, Nat.le_refl _, Nat.le_refl _⟩ (by decide) (by decide) (by decide) ht)
  have hS := steps_sign
  obtain ⟨_, _, hl1, hl2⟩ := sign_good (key := ⟨#[107]⟩) sp0_good (x := 1) (by decide) (by decide) (by decide) (bs (spBodyL 0 sp0))
  have hC := steps_check
  rw [hS] at C1
  generalize hR : spPut sp0 1 (sealB ⟨#[107]⟩ (bs (spBodyL 0 sp0))) = R at *
  have harr : spArr sp0 pZ = #[.string ⟨#[97]⟩, .string ⟨#[]⟩, .string ⟨#[48, 49, 50, 51, 52, 53, 54, 55, 56, 57, 97, 98, 99, 100, 101, 102, 48, 49, 50, 51, 52, 53, 54, 55, 56, 57, 97, 98, 99, 100, 101, 102]⟩, .slice none 0 0, .slice none 0 0] := rfl
  rw [harr] at C1
  clear harr hR hS
  go_enter Tryd.func20, Tryd.ntmps20
  go_wp2_with fail
  (with_reducible refine C1.out.mono ?_)
  clear C1
  rintro _ V ⟨p, rfl, hI, b1⟩
  simp only at hI
  obtain ⟨wa, wc, sa, sc⟩ := p
  have hl1' : R.who.length = 1 := hl1
  have hl2' : R.seals.length = 1 := hl2
  have A0 : Arr (V.alloc (.cells spZero 25)) V.heap.size 25 spZero := Arr.new _ _ _
  go_upto_region 2 with (refine wpList_store_row rfl 25 _ _ rfl V.heap.size (spArr R ⟨wa, wc, sa, sc⟩) rfl rfl 25 spZero A0 (spInfo R _) rfl (spArr_one R _) ?_)
  have AX : Arr ((V.alloc (.cells spZero 25)).setRow V.heap.size (spArr R ⟨wa, wc, sa, sc⟩)) V.heap.size 25 (spArr R ⟨wa, wc, sa, sc⟩) := A0.row _
  have bb : Below V.heap.size V ((V.alloc (.cells spZero 25)).setRow V.heap.size (spArr R ⟨wa, wc, sa, sc⟩)) := below_setRow ((Below.refl _ _).alloc (Nat.le_refl _) _) (Nat.le_refl _) _
  refine wp_forget (fun W => Arr W V.heap.size 25 (spArr R ⟨wa, wc, sa, sc⟩) ∧ SpIn W W.heap.size R ⟨wa, wc, sa, sc⟩ ∧ Below w.heap.size w W ∧ Tab W) (by exact ⟨AX, (hI.below bb).mono bb.size, b1.trans (bb.mono b1.size), ht.below (b1.trans (bb.mono b1.size)) ht.1⟩) ?_
  clear AX bb A0 hI b1
  generalize V.heap.size = q
  rintro W ⟨AX, hI, b1, htW⟩
  have c3 : W.cell? ⟨q, 3, none⟩ = some (.slice wa R.who.length wc) := AX.cell 3
  rw [hl1'] at c3
  have ba : Below W.heap.size W (W.alloc (.cells #[.string ⟨#[]⟩, .string ⟨#[107]⟩] 9)) := (Below.refl _ _).alloc (Nat.le_refl _) _
  have AY : Arr (W.alloc (.cells #[.string ⟨#[]⟩, .string ⟨#[107]⟩] 9)) W.heap.size 9 #[.string ⟨#[]⟩, .string ⟨#[107]⟩] := Arr.new _ _ _
  have AX2 := AX.below ba AX.lt
  have hlt := AY.lt
  have C2 := Lib.hid (SpCheck_any ⟨[⟨#[]⟩, ⟨#[107]⟩], [], 1⟩ ⟨some ⟨W.heap.size, 0, none⟩, 2, none, 0⟩ R ⟨wa, wc, sa, sc⟩ 0 (W.alloc (.cells #[.string ⟨#[]⟩, .string ⟨#[107]⟩] 9))
    ⟨fun k x hx => by
      match k, hx with
      | 0, hx => cases hx; exact ⟨_, rfl, hlt, AY.cell 0⟩
      | 1, hx => cases hx; exact ⟨_, rfl, hlt, AY.cell 1⟩
      | k + 2, hx => simp at hx, Txs.nil _ _ _, Nat.le_refl _, Nat.le_refl _⟩ ((hI.below ba).mono ba.size)
    ⟨by decide, by decide, fun t h => by simp at h; rcases h with rfl | rfl <;> decide⟩ (by omega) (by omega) (htW.below ba htW.1))
  rw [hC] at C2
  have hky : kyArr ⟨[⟨#[]⟩, ⟨#[107]⟩], [], 1⟩ ⟨some ⟨W.heap.size, 0, none⟩, 2, none, 0⟩ = #[.slice (some ⟨W.heap.size, 0, none⟩) 2 2, .slice none 0 0, .int .i64 1] := rfl
  rw [hky] at C2
  have harr : spArr R ⟨wa, wc, sa, sc⟩ = #[.string R.ref, .string R.old, .string R.new, .slice wa 1 wc, .slice sa 1 sc] := by
    show #[Value.string R.ref, .string R.old, .string R.new, .slice wa R.who.length wc, .slice sa R.seals.length sc] = _
    rw [hl1', hl2']
  rw [harr] at C2 AX2
  have x0 := AX2.cell 0
  have x1 := AX2.cell 1
  have x2 := AX2.cell 2
  have x3 := AX2.cell 3
  have x4 := AX2.cell 4
  simp only [List.getElem?_toArray, List.getElem?_cons_zero, List.getElem?_cons_succ] at x0 x1 x2 x3 x4
  clear hky hC AY hlt
  go_wp2_with fail
  (with_reducible refine C2.out.mono ?_)
  rintro _ W2 ⟨rfl, b2⟩
  go_wp2_with fail
  go_ret
  exact ⟨rfl, b1.trans ((ba.trans (b2.mono ba.size)).mono b1.size)⟩
end Go.Proofs.YtbpmgpbmeganoaaDoor

/- law.StepReplays: its walk. -/
namespace Go.Proofs.YtbpmgpbmeganoaaDoor
open Go.RowKit

theorem plS_sz {L M : List SpL} (h : plS M = plS L) (hz : SzL L) : SzL M := fun x hx => by
  have h1 : x.1 ∈ plS M := List.mem_map.2 ⟨x, hx, rfl⟩
  rw [h] at h1
  obtain ⟨y, hy, e⟩ := List.mem_map.1 h1
  rw [← e]
  exact hz y hy
theorem plS_ln {L M : List SpL} (h : plS M = plS L) : M.length = L.length := by rw [← plS_len, h, plS_len]
theorem rfs_few {k : Ky} {L : List Sp} (n : Nat) (h : n = (spReplay k.sig k.need L).1.length) : n ≤ 140737488355328 := by
  have key : ∀ (L : List Sp) (i : Nat) (cur : List Rf), cur.length ≤ 32 → (spGo k.sig k.need i cur L).1.length ≤ 32 := by
    intro L
    induction L with
    | nil => intro i cur h; exact h
    | cons s l ih =>
      intro i cur h
      rw [spGo_apply]
      by_cases h2 : (spApply k.sig k.need i cur s).2 ≠ 0
      · rw [if_pos h2]; exact Nat.zero_le _
      · rw [if_neg h2]
        exact ih _ _ (goodR_small (apply_good (by simpa using h2))).1
  rw [h]
  unfold spReplay
  split
  · exact Nat.zero_le _
  · have := key L 0 [] (Nat.zero_le _)
    omega
set_option maxRecDepth 100000 in
set_option maxHeartbeats 4000000 in
theorem StepReplays_any (k : Ky) (q : KyAt) (LL : List SpL) (A : Option Addr) (c : Nat) (w : World) (hK : KyIn w w.heap.size k q) (hkz : KySz k) (hP : Spx w w.heap.size A LL) (hz : SzL LL) (hl : LL.length * 96 ≤ 140737488351232) (ht : Tab w) :
    Calls Tryd.prog 7 #[.agg (kyArr k q), .slice A LL.length c] w fun e w' => e = .returned (.bool true) ∧ Below w.heap.size w w' := by
  have h1 := Lib.hid (Sq0.start w k q)
  have CK : Hid (∀ V, Below w.heap.size w V → Calls Tryd.prog 27 #[.agg (kyArr k q)] V (KpEnd V k)) := fun V b => keys_law k q V (hK.up b) hkz
  have CC : Hid (∀ V, Below w.heap.size w V → Calls Tryd.prog 30 #[.slice A LL.length c] V (CcEnd V (plS LL))) := fun V b => CopySteps_any LL A c V (hP.up b) hz hl
  have CP : Hid (∀ V q2 M B d, Below w.heap.size w V → KyIn V V.heap.size k q2 → Spx V V.heap.size B M → plS M = plS LL → Calls Tryd.prog 29 #[.agg (kyArr k q2), .slice B M.length d] V (SqEnd V (spReplay k.sig k.need (plS LL)))) := fun V q2 M B d b hK2 hM he => by
    have := Replay_any k q2 M B d V hK2 hM (by have := hkz.sig; omega) (fun t h => Nat.le_trans (hkz.each t h) (by decide)) (plS_sz he hz) (by have := plS_ln he; omega) (ht.below b ht.1)
    rw [he] at this
    exact this
  have CR : Hid (∀ V, Below w.heap.size w V → Calls Tryd.prog 31 #[.agg (kyArr k q), .slice A LL.length c] V (SqEnd V (spReplay k.sig k.need (plS LL)))) := fun V b => RefReplay_any k q LL A c V (hK.up b) (hP.up b) hkz hz (by omega) (ht.below b ht.1)
  have CL : Hid (∀ V, Below w.heap.size w V → Calls Tryd.prog 20 #[] V fun e w' => e = .returned (.bool true) ∧ Below V.heap.size V w') := fun V b => lawSteps_any V (ht.below b ht.1)
  have hf := rfs_few (k := k) (L := plS LL) _ rfl
  clear hK hkz hP hz ht
  generalize spReplay k.sig k.need (plS LL) = R at *
  obtain ⟨r, i, z⟩ := R
  simp only at hf
  have HF := Lib.hid hf
  have hzz : (z == z) = true := by simp
  have hii : (i == i) = true := by simp
  obtain ⟨ka, kc, ka2, kc2⟩ := q
  generalize hA2 : kyArr k ⟨ka, kc, ka2, kc2⟩ = arr2 at *
  have HA2 := Lib.hid hA2
  clear hA2 hf
  go_enter Tryd.func7, Tryd.ntmps7
  go_upto_region 1 with fail
  refine wp_forget (Sq0 w k ⟨ka, kc, ka2, kc2⟩) (by rw [← HA2.out] at h1 ⊢; exact h1.out) ?_
  clear h1
  intro W hW
  have hA2 := HA2.out
  clear HA2
  subst hA2
  have AK := hW.1
  go_wp2_with (refine wpList_load_row rfl 41 _ rfl w.heap.size rfl 41 _ (0, 0) _ AK Tryd.underlying41 rfl (kyInfo _ _) ?_)
  (with_reducible refine (CK.out W hW.bel).mono ?_)
  rintro _ W2 ⟨q2, rfl, hI2, b2⟩
  have hW2 := hW.below b2
  clear hW b2 AK CK
  go_wp2_with fail
  (with_reducible refine (CC.out W2 hW2.bel).mono ?_)
  rintro _ W3 ⟨M, B, d, rfl, he, _, hM, b3⟩
  have hW3 := hW2.below b3
  have hI3 := hI2.up b3
  clear hW2 b3 CC hI2
  go_wp2_with fail
  (with_reducible refine (CP.out W3 q2 M B d hW3.bel hI3 hM he).mono ?_)
  rintro _ W4 ⟨A4, c4, rfl, hR4, _, b4⟩
  have hW4 := hW3.below b4
  clear hW3 b4 CP hI3 hM he
  have AK := hW4.1
  simp only
  go_wp2_with (refine wpList_load_row rfl 41 _ rfl w.heap.size rfl 41 _ (0, 0) _ AK Tryd.underlying41 rfl (kyInfo _ _) ?_)
  (with_reducible refine (CR.out W4 hW4.bel).mono ?_)
  rintro _ W5 ⟨A5, c5, rfl, hR5, _, b5⟩
  have hW5 := hW4.below b5
  have hR4' := hR4.up b5
  clear hW4 b5 CR hR4 AK
  have CSm := Lib.hid (SameRefs_any r r A4 A5 c4 c5 W5 hR4' hR5 HF.out HF.out)
  rw [decide_eq_true rfl] at CSm
  clear hR4' hR5
  simp only
  go_wp2_with fail
  (with_reducible refine CSm.out.mono ?_)
  rintro _ W6 ⟨rfl, b6⟩
  have hW6 := hW5.below b6
  clear hW5 b6 CSm
  go_wp2_with fail
  (with_reducible refine (CL.out W6 hW6.bel).mono ?_)
  rintro _ W7 ⟨rfl, b7⟩
  have hW7 := hW6.below b7
  go_wp2_with fail
  go_ret
  exact ⟨rfl, hW7.bel⟩
end Go.Proofs.YtbpmgpbmeganoaaDoor
