/- keep.StepParts: its walk. -/
import Derived.Test.YtbpmgpbmeganoaaDoorSpRep
import Derived.Test.YtbpmgpbmeganoaaDoorOPick
namespace Go.Proofs.YtbpmgpbmeganoaaDoor
open Go.RowKit

set_option maxRecDepth 100000 in
set_option maxHeartbeats 4000000 in
theorem StepParts_any (k : Ky) (q : KyAt) (LL : List SpL) (A : Option Addr) (c : Nat) (n : Int) (w : World) (hK : KyIn w w.heap.size k q) (hkz : KySz k) (hP : Spx w w.heap.size A LL) (hz : SzL LL) (hl : LL.length * 96 ≤ 140737488351232) (hc : LL.length ≤ c) (ht : Tab w) :
    Calls Tryd.prog 12 #[.agg (kyArr k q), .slice A LL.length c, .int .i64 n] w fun e w' => e = .returned (.bool true) ∧ Below w.heap.size w w' := by
  obtain ⟨ka, kc, ka2, kc2⟩ := q
  obtain ⟨p1, p2⟩ := pk_in n (LL.length + 1) (by omega)
  obtain ⟨m, hm⟩ := Int.eq_ofNat_of_zero_le p1
  have hmL : m ≤ LL.length := by omega
  have CN : Hid (∀ V, Calls Tryd.prog 36 #[.int .i64 n, .int .i64 ((LL.length : Int) + 1)] V fun e w' => e = .returned (.int .i64 (m : Int)) ∧ V = w') := fun V => by
    have := pick_any n (LL.length + 1) (by omega) (by omega) V
    rw [hm] at this
    exact this
  have h1 := Lib.hid (Sq0.start w k ⟨ka, kc, ka2, kc2⟩)
  have hks : k.sig.length ≤ 140737488351232 := by have := hkz.sig; omega
  have hke : ∀ t ∈ k.sig, t.size ≤ 140737488355328 := fun t h => Nat.le_trans (hkz.each t h) (by decide)
  have CP : Hid (∀ V, Below w.heap.size w V → Calls Tryd.prog 29 #[.agg (kyArr k ⟨ka, kc, ka2, kc2⟩), .slice A LL.length c] V (SqEnd V (spReplay k.sig k.need (plS LL)))) := fun V b =>
    Replay_any k ⟨ka, kc, ka2, kc2⟩ LL A c V (hK.up b) (hP.up b) hks hke hz (by omega) (ht.below b ht.1)
  have CQ : Hid (∀ V, Below w.heap.size w V → Calls Tryd.prog 29 #[.agg #[.slice ka k.sig.length kc, .slice ka2 k.wit.length kc2, .int .i64 k.need], .slice A m c] V (SqEnd V (spReplay k.sig k.need ((plS LL).take m)))) := fun V b => by
    have := Replay_any k ⟨ka, kc, ka2, kc2⟩ (LL.take m) A c V (hK.up b) ((hP.take m).up b) hks hke (fun x hx => hz x (List.mem_of_mem_take hx)) (by rw [List.length_take]; omega) (ht.below b ht.1)
    rw [List.length_take, Nat.min_eq_left hmL, plS_take] at this
    exact this
  have CL : Hid (∀ V, Below w.heap.size w V → Calls Tryd.prog 33 #[] V fun e w' => e = .returned (.bool true) ∧ Below V.heap.size V w') := fun V b => keepSteps_any V (ht.below b ht.1)
  have HCs := Lib.hid (parts_cases k.sig k.need (plS LL) m)
  have HLn := Lib.hid (plS_len LL)
  clear hK hkz hP hz ht hks hke p1 p2 hm
  generalize spReplay k.sig k.need (plS LL) = R at *
  generalize spReplay k.sig k.need ((plS LL).take m) = R2 at *
  obtain ⟨r, i, z⟩ := R
  obtain ⟨r2, i2, z2⟩ := R2
  simp only at HCs
  have hmc : (m : Int) ≤ (c : Int) := by omega
  have hm0 : (0 : Int) ≤ (m : Int) := by omega
  have hl1 : (LL.length : Int) + 1 ≤ 4611686018427387904 := by omega
  generalize hA2 : kyArr k ⟨ka, kc, ka2, kc2⟩ = arr2 at *
  have HA2 := Lib.hid hA2
  clear hA2
  go_enter Tryd.func12, Tryd.ntmps12
  go_upto_region 1 with fail
  refine wp_forget (Sq0 w k ⟨ka, kc, ka2, kc2⟩) (by rw [← HA2.out] at h1 ⊢; exact h1.out) ?_
  clear h1
  intro W hW
  have hA2 := HA2.out
  clear HA2
  subst hA2
  have AK := hW.1
  go_wp2_with (refine wpList_load_row rfl 41 _ rfl w.heap.size rfl 41 _ (0, 0) _ AK Tryd.underlying41 rfl (kyInfo _ _) ?_)
  (with_reducible refine (CP.out W hW.bel).mono ?_)
  rintro _ W2 ⟨A2, c2, rfl, _, _, b2⟩
  have hW2 := hW.below b2
  clear hW b2 AK CP
  simp only
  go_wp2_with fail
  (with_reducible refine (CL.out W2 hW2.bel).mono ?_)
  rintro _ W3 ⟨rfl, b3⟩
  have hW3 := hW2.below b3
  clear hW2 b3 CL
  go_wp2_with fail
  (with_reducible refine (CN.out W3).mono ?_)
  rintro _ _ ⟨rfl, rfl⟩
  clear CN
  have hc0 : W3.drew.cell? ⟨w.heap.size, 0, none⟩ = some (.slice ka k.sig.length kc) ∧ W3.drew.cell? ⟨w.heap.size, 1, none⟩ = some (.slice ka2 k.wit.length kc2) ∧ W3.drew.cell? ⟨w.heap.size, 2, none⟩ = some (.int .i64 k.need) := ⟨hW3.1.cell 0, hW3.1.cell 1, hW3.1.cell 2⟩
  have hX := hW3.below (Below.refl _ W3).drew
  clear hW3
  go_wp2_with fail
  go_region_held3 (fun w' => w'.cell? ⟨w.heap.size, 0, none⟩ = some (.slice ka k.sig.length kc) ∧ w'.cell? ⟨w.heap.size, 1, none⟩ = some (.slice ka2 k.wit.length kc2) ∧ w'.cell? ⟨w.heap.size, 2, none⟩ = some (.int .i64 k.need))
    (first | exact hc0 | exact hc5)
    (first
      | (go_at_call 29
         (with_reducible refine (CQ.out _ hX.bel).mono ?_)
         rintro _ W5 ⟨A5, c5, rfl, _, _, b5⟩
         have hX5 := hX.below b5
         have hc5 : W5.cell? ⟨w.heap.size, 0, none⟩ = some (.slice ka k.sig.length kc) ∧ W5.cell? ⟨w.heap.size, 1, none⟩ = some (.slice ka2 k.wit.length kc2) ∧ W5.cell? ⟨w.heap.size, 2, none⟩ = some (.int .i64 k.need) := ⟨hX5.1.cell 0, hX5.1.cell 1, hX5.1.cell 2⟩))
  clear CQ hc0 hX hc5
  have HB := Lib.hid hX5.bel
  clear hX5
  rcases HCs.out with ⟨h1, h2⟩ | ⟨h1, h2, h3⟩ | ⟨h1, h2, h3, h4, h5⟩ | ⟨h1, h2, h3, h4, h5⟩
  · simp only [Prod.mk.injEq] at h2
    obtain ⟨rfl, rfl, rfl⟩ := h2
    have hq : (200 : Int) < (LL.length : Int) := by rw [HLn.out] at h1; omega
    clear h1 HCs
    go_wp2_with fail
    go_ret
    exact ⟨rfl, HB.out⟩
  · simp only [Prod.mk.injEq] at h2 h3
    obtain ⟨rfl, rfl⟩ := h2
    obtain ⟨rfl, rfl⟩ := h3
    have hq : ¬ (200 : Int) < (LL.length : Int) := by rw [HLn.out] at h1; omega
    clear h1 HCs
    go_wp2_with fail
    go_ret
    exact ⟨rfl, HB.out⟩
  · subst h3 h5
    have hq : ¬ (200 : Int) < (LL.length : Int) := by rw [HLn.out] at h1; omega
    have h6 : (z == 0) = false := by rw [beq_eq_false_iff_ne]; exact h2
    clear h1 HCs h2
    go_wp2_with fail
    go_ret
    exact ⟨rfl, HB.out⟩
  · simp only [Prod.mk.injEq] at h5
    obtain ⟨rfl, rfl, rfl⟩ := h5
    subst h3
    have hq : ¬ (200 : Int) < (LL.length : Int) := by rw [HLn.out] at h1; omega
    have h6 : (z2 == 0) = false := by rw [beq_eq_false_iff_ne]; exact h2
    have h7 : ¬ (m : Int) ≤ i2 := by omega
    have hzz : (z2 == z2) = true := by simp
    have hii : (i2 == i2) = true := by simp
    clear h1 HCs h2
    go_wp2_with fail
    go_ret
    exact ⟨rfl, HB.out⟩
end Go.Proofs.YtbpmgpbmeganoaaDoor
