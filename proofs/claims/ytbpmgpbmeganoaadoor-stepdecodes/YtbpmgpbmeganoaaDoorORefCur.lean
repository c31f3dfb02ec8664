/- The document's own cursor by the states of a reader. -/
import Derived.Test.YtbpmgpbmeganoaaDoorBw
import Derived.Test.YtbpmgpbmeganoaaDoorWStep
namespace Go.Proofs.YtbpmgpbmeganoaaDoor
open Go.RowKit

def CS (w : World) (g : Nat) : St → Prop
  | some l => Cu w g (bs l) 0 ∧ l.length ≤ 8192
  | none => ∃ s e, (e != 0) = true ∧ Cu w g s e
theorem CS.lt {w : World} {g : Nat} {st : St} (h : CS w g st) : g < w.heap.size := by
  cases st with
  | none => obtain ⟨s, e, he, h⟩ := h; exact Arr.lt h
  | some l => exact Arr.lt h.1
theorem CS.kept {w w' : World} {g : Nat} {st : St} {r : Option Nat} (h : CS w g st) (k : w.grownBy w' r) (hr : some g ≠ r) : CS w' g st := by
  cases st with
  | none => obtain ⟨s, e, he, h⟩ := h; exact ⟨s, e, he, Arr.kept h k hr⟩
  | some l => exact ⟨Arr.kept h.1 k hr, h.2⟩
/-- the cursor's two cells: what is left, what went wrong -/
theorem CS.cells {w : World} {g : Nat} {st : St} (h : CS w g st) : ∃ s e, Cu w g s e ∧ (e != 0) = st.isNone ∧ (e == 0) = !st.isNone ∧ ∀ l, st = some l → s = bs l ∧ e = 0 := by
  cases st with
  | none =>
    obtain ⟨s, e, he, h⟩ := h
    refine ⟨s, e, h, he, ?_, fun l e => by cases e⟩
    rw [Option.isNone_none, Bool.not_true, beq_eq_false_iff_ne]
    exact (bne_iff_ne).1 he
  | some l => exact ⟨bs l, 0, h.1, rfl, rfl, fun l' e => by cases e; exact ⟨rfl, rfl⟩⟩
def Cde (w : World) (g : Nat) (v : Value) (st : St) (x : Ending) (w' : World) : Prop := x = .returned v ∧ CS w' g st ∧ w.grownBy w' (some g)
theorem cs_num (g : Nat) (st : St) (w : World) (h : CS w g st) : Calls Tryd.prog 54 #[.pointer (some ⟨g, 0, none⟩)] w (Cde w g (.int .i64 ((stNum st).1 : Int)) (stNum st).2) := by
  cases st with
  | none =>
    obtain ⟨s, e, he, h⟩ := h
    exact (cnumber_bad g s e he w h).mono fun x w' ⟨h1, h2, h3⟩ => ⟨h1, ⟨s, e, he, h2⟩, h3⟩
  | some l =>
    obtain ⟨h, hl⟩ := h
    have hs : (bs l).size ≤ 281474976710656 := by rw [bs_size]; omega
    cases hg : got l with
    | none =>
      rw [show stNum (some l) = (0, none) from by simp [stNum, rdNum, hg]]
      exact (cnumber_go g (bs l) 0 0 2 (refGetIs_none _ hs (by rw [bs_list]; exact hg)) (by omega) w h).mono fun x w' ⟨h1, h2, h3⟩ => ⟨h1, ⟨_, 2, by decide, h2⟩, h3⟩
    | some y =>
      obtain ⟨n, k⟩ := y
      have hk := got_some _ _ _ hg
      rw [show stNum (some l) = (n, some (l.drop k)) from by simp [stNum, rdNum, hg]]
      refine (cnumber_go g (bs l) n k 0 (refGetIs_some _ hs n k (by rw [bs_list]; exact hg)) (by rw [bs_size]; exact hk.2.2.2.2) w h).mono fun x w' ⟨h1, h2, h3⟩ => ⟨h1, ⟨?_, by rw [List.length_drop]; omega⟩, h3⟩
      rw [bs_drop] at h2
      exact h2
theorem cs_txt (g : Nat) (st : St) (w : World) (h : CS w g st) : Calls Tryd.prog 53 #[.pointer (some ⟨g, 0, none⟩)] w (Cde w g (.string (stTxt st).1) (stTxt st).2) := by
  cases st with
  | none =>
    obtain ⟨s, e, he, h⟩ := h
    exact (ctext_bad g s e he w h).mono fun x w' ⟨h1, h2, h3⟩ => ⟨h1, ⟨s, e, he, h2⟩, h3⟩
  | some l =>
    obtain ⟨h, hl⟩ := h
    have hs : (bs l).size ≤ 281474976710656 := by rw [bs_size]; omega
    cases hg : got l with
    | none =>
      rw [show stTxt (some l) = (⟨#[]⟩, none) from by simp [stTxt, rdText, rdNum, hg]]
      exact (ctext_go g (bs l) ⟨#[]⟩ 0 2 (refText_none _ hs (by rw [bs_list]; exact hg)) (by omega) w h).mono fun x w' ⟨h1, h2, h3⟩ => ⟨h1, ⟨_, 2, by decide, h2⟩, h3⟩
    | some y =>
      obtain ⟨n, k⟩ := y
      have hk := (got_some _ _ _ hg).2.2.2.2
      by_cases h4 : n ≤ 4096
      · by_cases h5 : n ≤ (l.drop k).length
        · rw [show stTxt (some l) = (bs ((l.drop k).take n), some ((l.drop k).drop n)) from by simp only [stTxt, rdText, rdNum, hg]; rw [if_pos ⟨h4, h5⟩]]
          rw [List.length_drop] at h5
          refine (ctext_go g (bs l) _ (k + n) 0 (refText_yes _ hs n k (by rw [bs_list]; exact hg) h4 (by rw [bs_size]; omega)) (by rw [bs_size]; omega) w h).mono fun x w' ⟨h1, h2, h3⟩ => ⟨?_, ⟨?_, ?_⟩, h3⟩
          · rw [h1, bs_mid]
          · rw [bs_drop] at h2
            rw [List.drop_drop]
            exact h2
          · simp only [List.length_drop]; omega
        · rw [show stTxt (some l) = (⟨#[]⟩, none) from by simp only [stTxt, rdText, rdNum, hg]; rw [if_neg (fun q => h5 q.2)]]
          rw [List.length_drop] at h5
          exact (ctext_go g (bs l) ⟨#[]⟩ 0 2 (refText_short _ hs n k (by rw [bs_list]; exact hg) h4 (by rw [bs_size]; omega)) (by omega) w h).mono fun x w' ⟨h1, h2, h3⟩ => ⟨h1, ⟨_, 2, by decide, h2⟩, h3⟩
      · rw [show stTxt (some l) = (⟨#[]⟩, none) from by simp only [stTxt, rdText, rdNum, hg]; rw [if_neg (fun q => h4 q.1)]]
        exact (ctext_go g (bs l) ⟨#[]⟩ 0 1 (refText_long _ hs n k (by rw [bs_list]; exact hg) (by omega)) (by omega) w h).mono fun x w' ⟨h1, h2, h3⟩ => ⟨h1, ⟨_, 1, by decide, h2⟩, h3⟩
theorem cs_id (g : Nat) (st : St) (w : World) (h : CS w g st) : Calls Tryd.prog 55 #[.pointer (some ⟨g, 0, none⟩), .int .i64 32] w (Cde w g (.string (stId st).1) (stId st).2) := by
  cases st with
  | none =>
    obtain ⟨s, e, he, h⟩ := h
    exact (ctake_bad g s 32 e he (by rw [beq_eq_false_iff_ne]; exact (bne_iff_ne).1 he) w h).mono fun x w' ⟨h1, h2, h3⟩ => ⟨h1, ⟨s, e, he, h2⟩, h3⟩
  | some l =>
    obtain ⟨h, hl⟩ := h
    by_cases h5 : 32 ≤ l.length
    · rw [show stId (some l) = (bs (l.take 32), some (l.drop 32)) from by simp only [stId, rdId]; rw [if_pos h5]]
      refine (ctake_go g (bs l) 32 (by rw [bs_size]; exact h5) w h).mono fun x w' ⟨h1, h2, h3⟩ => ⟨?_, ⟨?_, ?_⟩, h3⟩
      · rw [h1, bs_head]
      · rw [bs_drop] at h2; exact h2
      · rw [List.length_drop]; omega
    · rw [show stId (some l) = (⟨#[]⟩, none) from by simp only [stId, rdId]; rw [if_neg h5]]
      exact (ctake_no g (bs l) 32 (.inr (by rw [bs_size]; omega)) w h).mono fun x w' ⟨h1, h2, h3⟩ => ⟨h1, ⟨_, 2, by decide, h2⟩, h3⟩
theorem rdText_small {l r : List UInt8} {t : ByteArray} (h : rdText l = some (t, r)) : t.size ≤ 4096 := by
  unfold rdText at h
  cases hg : rdNum l with
  | none => simp [hg] at h
  | some y =>
    obtain ⟨n, r1⟩ := y
    simp only [hg] at h
    split at h
    · rename_i hc
      simp only [Option.some.injEq, Prod.mk.injEq] at h
      rw [← h.1, bs_size, List.length_take]
      omega
    · cases h
theorem txt_small (st : St) : (stTxt st).1.size ≤ 4096 := by
  cases st with
  | none => exact Nat.zero_le _
  | some l =>
    cases h1 : rdText l with
    | none =>
      rw [show stTxt (some l) = (⟨#[]⟩, none) from by simp [stTxt, h1]]
      exact Nat.zero_le _
    | some y =>
      obtain ⟨t, r⟩ := y
      rw [show stTxt (some l) = (t, some r) from by simp [stTxt, h1]]
      exact rdText_small h1
end Go.Proofs.YtbpmgpbmeganoaaDoor
