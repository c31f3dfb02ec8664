/- law.StepReplays: its walk. -/
import Derived.Test.YtbpmgpbmeganoaaDoorSpCps
import Derived.Test.YtbpmgpbmeganoaaDoorSpSearch
import Derived.Test.YtbpmgpbmeganoaaDoorSpStepsL
namespace Go.Proofs.YtbpmgpbmeganoaaDoor
open Go.RowKit

theorem plS_sz {L M : List SpL} (h : plS M = plS L) (hz : SzL L) : SzL M := fun x hx => by
  have h1 : x.1 ∈ plS M := List.mem_map.2 ⟨x, hx, rfl⟩
  rw [h] at h1
  obtain ⟨y, hy, e⟩ := List.mem_map.1 h1
  rw [← e]
  exact hz y hy
theorem plS_ln {L M : List SpL} (h : plS M = plS L) : M.length = L.length := by rw [← plS_len, h, plS_len]
theorem rfs_few {k : Ky} {L : List Sp} (n : Nat) (h : n = (spReplay k.sig k.need L).1.length) : n ≤ 140737488355328 := by
  have key : ∀ (L : List Sp) (i : Nat) (cur : List Rf), cur.length ≤ 32 → (spGo k.sig k.need i cur L).1.length ≤ 32 := by
    intro L
    induction L with
    | nil => intro i cur h; exact h
    | cons s l ih =>
      intro i cur h
      rw [spGo_apply]
      by_cases h2 : (spApply k.sig k.need i cur s).2 ≠ 0
      · rw [if_pos h2]; exact Nat.zero_le _
      · rw [if_neg h2]
        exact ih _ _ (goodR_small (apply_good (by simpa using h2))).1
  rw [h]
  unfold spReplay
  split
  · exact Nat.zero_le _
  · have := key L 0 [] (Nat.zero_le _)
    omega
set_option maxRecDepth 100000 in
set_option maxHeartbeats 4000000 in
theorem StepReplays_any (k : Ky) (q : KyAt) (LL : List SpL) (A : Option Addr) (c : Nat) (w : World) (hK : KyIn w w.heap.size k q) (hkz : KySz k) (hP : Spx w w.heap.size A LL) (hz : SzL LL) (hl : LL.length * 96 ≤ 140737488351232) (ht : Tab w) :
    Calls Tryd.prog 7 #[.agg (kyArr k q), .slice A LL.length c] w fun e w' => e = .returned (.bool true) ∧ Below w.heap.size w w' := by
  have h1 := Lib.hid (Sq0.start w k q)
  have CK : Hid (∀ V, Below w.heap.size w V → Calls Tryd.prog 27 #[.agg (kyArr k q)] V (KpEnd V k)) := fun V b => keys_law k q V (hK.up b) hkz
  have CC : Hid (∀ V, Below w.heap.size w V → Calls Tryd.prog 30 #[.slice A LL.length c] V (CcEnd V (plS LL))) := fun V b => CopySteps_any LL A c V (hP.up b) hz hl
  have CP : Hid (∀ V q2 M B d, Below w.heap.size w V → KyIn V V.heap.size k q2 → Spx V V.heap.size B M → plS M = plS LL → Calls Tryd.prog 29 #[.agg (kyArr k q2), .slice B M.length d] V (SqEnd V (spReplay k.sig k.need (plS LL)))) := fun V q2 M B d b hK2 hM he => by
    have := Replay_any k q2 M B d V hK2 hM (by have := hkz.sig; omega) (fun t h => Nat.le_trans (hkz.each t h) (by decide)) (plS_sz he hz) (by have := plS_ln he; omega) (ht.below b ht.1)
    rw [he] at this
    exact this
  have CR : Hid (∀ V, Below w.heap.size w V → Calls Tryd.prog 31 #[.agg (kyArr k q), .slice A LL.length c] V (SqEnd V (spReplay k.sig k.need (plS LL)))) := fun V b => RefReplay_any k q LL A c V (hK.up b) (hP.up b) hkz hz (by omega) (ht.below b ht.1)
  have CL : Hid (∀ V, Below w.heap.size w V → Calls Tryd.prog 20 #[] V fun e w' => e = .returned (.bool true) ∧ Below V.heap.size V w') := fun V b => lawSteps_any V (ht.below b ht.1)
  have hf := rfs_few (k := k) (L := plS LL) _ rfl
  clear hK hkz hP hz ht
  generalize spReplay k.sig k.need (plS LL) = R at *
  obtain ⟨r, i, z⟩ := R
  simp only at hf
  have HF := Lib.hid hf
  have hzz : (z == z) = true := by simp
  have hii : (i == i) = true := by simp
  obtain ⟨ka, kc, ka2, kc2⟩ := q
  generalize hA2 : kyArr k ⟨ka, kc, ka2, kc2⟩ = arr2 at *
  have HA2 := Lib.hid hA2
  clear hA2 hf
  go_enter Tryd.func7, Tryd.ntmps7
  go_upto_region 1 with fail
  refine wp_forget (Sq0 w k ⟨ka, kc, ka2, kc2⟩) (by rw [← HA2.out] at h1 ⊢; exact h1.out) ?_
  clear h1
  intro W hW
  have hA2 := HA2.out
  clear HA2
  subst hA2
  have AK := hW.1
  go_wp2_with (refine wpList_load_row rfl 41 _ rfl w.heap.size rfl 41 _ (0, 0) _ AK Tryd.underlying41 rfl (kyInfo _ _) ?_)
  (with_reducible refine (CK.out W hW.bel).mono ?_)
  rintro _ W2 ⟨q2, rfl, hI2, b2⟩
  have hW2 := hW.below b2
  clear hW b2 AK CK
  go_wp2_with fail
  (with_reducible refine (CC.out W2 hW2.bel).mono ?_)
  rintro _ W3 ⟨M, B, d, rfl, he, _, hM, b3⟩
  have hW3 := hW2.below b3
  have hI3 := hI2.up b3
  clear hW2 b3 CC hI2
  go_wp2_with fail
  (with_reducible refine (CP.out W3 q2 M B d hW3.bel hI3 hM he).mono ?_)
  rintro _ W4 ⟨A4, c4, rfl, hR4, _, b4⟩
  have hW4 := hW3.below b4
  clear hW3 b4 CP hI3 hM he
  have AK := hW4.1
  simp only
  go_wp2_with (refine wpList_load_row rfl 41 _ rfl w.heap.size rfl 41 _ (0, 0) _ AK Tryd.underlying41 rfl (kyInfo _ _) ?_)
  (with_reducible refine (CR.out W4 hW4.bel).mono ?_)
  rintro _ W5 ⟨A5, c5, rfl, hR5, _, b5⟩
  have hW5 := hW4.below b5
  have hR4' := hR4.up b5
  clear hW4 b5 CR hR4 AK
  have CSm := Lib.hid (SameRefs_any r r A4 A5 c4 c5 W5 hR4' hR5 HF.out HF.out)
  rw [decide_eq_true rfl] at CSm
  clear hR4' hR5
  simp only
  go_wp2_with fail
  (with_reducible refine CSm.out.mono ?_)
  rintro _ W6 ⟨rfl, b6⟩
  have hW6 := hW5.below b6
  clear hW5 b6 CSm
  go_wp2_with fail
  (with_reducible refine (CL.out W6 hW6.bel).mono ?_)
  rintro _ W7 ⟨rfl, b7⟩
  have hW7 := hW6.below b7
  go_wp2_with fail
  go_ret
  exact ⟨rfl, hW7.bel⟩
end Go.Proofs.YtbpmgpbmeganoaaDoor
