/- What Reach answers, as keep.StoreClosed asks it: plain. -/
import Derived.Test.YtkcnogmjnmnbdaaGreatDoorStReachQ
import Derived.Test.YtkcnogmjnmnbdaaGreatDoorStWithin
namespace Go.Proofs.YtkcnogmjnmnbdaaGreatDoor
open Go.RowKit

theorem loadR_yes {r : ByteArray × Int} (h : (loadR r).2 = 0) : r.2 = 0 ∧ (decO r.1.data.toList).2 = 0 ∧ (loadR r).1 = (decO r.1.data.toList).1 := by
  unfold loadR at h ⊢
  split at h
  · cases h
  · rename_i h1
    rw [if_neg h1]
    split at h
    · cases h
    · rename_i h2
      rw [if_neg h2]
      exact ⟨Decidable.byContradiction h1, Decidable.byContradiction h2, rfl⟩
theorem reachGo_no {G : ByteArray → ByteArray × Int} : ∀ (n : Nat) (V : List ByteArray) (i m : Nat) (la wo : Bool), (reachGo G n V i m la wo).2 ≠ 0 → (reachGo G n V i m la wo).1 = []
  | 0, V, i, m, la, wo, _ => rfl
  | n + 1, V, i, m, la, wo, h => by
    unfold reachGo at h ⊢
    split
    · rename_i h1
      rw [if_pos h1] at h
      split
      · rename_i h2
        rw [if_pos h2] at h
        split
        · rfl
        · rename_i h3
          rw [if_neg h3] at h
          exact reachGo_no n _ _ _ _ _ h
      · rename_i h2
        rw [if_neg h2] at h
        split
        · rename_i h3
          rw [if_pos h3] at h
          exact reachGo_no n _ _ _ _ _ h
        · rename_i h3
          rw [if_neg h3] at h
          exact reachGo_no n _ _ _ _ _ h
    · rename_i h1
      rw [if_neg h1] at h
      split
      · rfl
      · rename_i h2
        rw [if_neg h2] at h
        split
        · rfl
        · rename_i h3
          rw [if_neg h3] at h
          exact absurd rfl h
theorem reachO_no {G : ByteArray → ByteArray × Int} {U : List ByteArray} (h : (reachO G U).2 ≠ 0) : (reachO G U).1 = [] := reachGo_no _ _ _ _ _ _ h
/-- what the law asks of what is reached -/
theorem reach_law {G : ByteArray → ByteArray × Int} {U : List ByteArray} (h : (reachO G U).2 = 0) :
    (∀ (i : Nat) (id : ByteArray), (reachO G U).1[i]? = some id → (G id).2 = 0 ∧ (decO (G id).1.data.toList).2 = 0 ∧ ∀ y ∈ linksL (decO (G id).1.data.toList).1, memB y (reachO G U).1 = true) ∧
    (∀ (i : Nat) (a b : ByteArray), (reachO G U).1[i]? = some a → (reachO G U).1[i + 1]? = some b → Op.bytesLess a.toList b.toList = true) ∧
    (∀ x ∈ U, memB x (reachO G U).1 = true) ∧ (reachO G U).1.length ≤ 400 ∧
    (∀ root, memB root (reachO G U).1 = true → (reachO G [root]).2 = 0 ∧ (∀ x ∈ (reachO G [root]).1, memB x (reachO G U).1 = true) ∧ memB root (reachO G [root]).1 = true ∧ (reachO G [root]).1.length ≤ 400) := by
  obtain ⟨V, h1, h2, h3, h4, h5, _⟩ := reachO_ok h
  have hm : ∀ x, memB x (reachO G U).1 = true ↔ x ∈ V := fun x => by rw [h1, memB_iff, sortB_mem]
  refine ⟨fun i id hid => ?_, fun i a b ha hb => ?_, fun x hx => (hm x).2 (h3 x hx), by rw [h1, sortB_len]; exact h5, fun root hr => ?_⟩
  · have hv : id ∈ V := by rw [h1] at hid; exact sortB_mem.1 (List.mem_of_getElem? hid)
    obtain ⟨k1, k2⟩ := h4 id hv
    obtain ⟨j1, j2, j3⟩ := loadR_yes k1
    refine ⟨j1, j2, fun y hy => (hm y).2 (k2 y (by rw [j3]; exact hy))⟩
  · rw [h1] at ha hb
    rw [toList_data, toList_data]
    exact sortB_rises h2 i a b ha hb
  · have hv := (hm root).1 hr
    have h6 := reachO_yes (U := [root]) h4 h5 (fun x hx => by rw [List.mem_singleton.1 hx]; exact hv)
    obtain ⟨V', g1, _, g3, _, g5, g6⟩ := reachO_ok h6
    refine ⟨h6, fun x hx => (hm x).2 (g6 V h4 (fun z hz => by rw [List.mem_singleton.1 hz]; exact hv) x (by rw [g1] at hx; exact sortB_mem.1 hx)), ?_, by rw [g1, sortB_len]; exact g5⟩
    rw [g1, memB_iff, sortB_mem]
    exact g3 root List.mem_cons_self
end Go.Proofs.YtkcnogmjnmnbdaaGreatDoor
