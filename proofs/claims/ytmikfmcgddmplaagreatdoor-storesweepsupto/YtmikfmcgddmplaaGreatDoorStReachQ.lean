/- What store.Reach answers: closed, rising, least: plain mathematics. -/
import Derived.Test.YtmikfmcgddmplaaGreatDoorStReachP
import Derived.Sort.Walk0
namespace Go.Proofs.YtmikfmcgddmplaaGreatDoor
open Go.RowKit

theorem sortB_mem {x : ByteArray} {V : List ByteArray} : x ∈ sortB V ↔ x ∈ V := by
  unfold sortB
  rw [List.mem_map]
  constructor
  · rintro ⟨y, hy, rfl⟩
    rw [List.mem_mergeSort, List.mem_map] at hy
    obtain ⟨z, hz, rfl⟩ := hy
    rw [bs_of]
    exact hz
  · intro h
    exact ⟨x.data.toList, by rw [List.mem_mergeSort, List.mem_map]; exact ⟨x, h, rfl⟩, bs_of x⟩
theorem addAll_mem2 (x : ByteArray) : ∀ (U T : List ByteArray), x ∈ addAll T U ↔ x ∈ T ∨ x ∈ U
  | [], T => by simp [addAll]
  | y :: l, T => by
    show x ∈ addAll (if memB y T = true then T else T ++ [y]) l ↔ _
    rw [addAll_mem2 x l, List.mem_cons]
    split
    · rename_i h
      have hy := memB_iff.1 h
      constructor
      · rintro (h | h)
        · exact .inl h
        · exact .inr (.inr h)
      · rintro (h | rfl | h)
        · exact .inl h
        · exact .inl hy
        · exact .inr h
    · rw [List.mem_append, List.mem_singleton, or_assoc]
theorem addAll_nodup2 : ∀ (U T : List ByteArray), T.Nodup → (addAll T U).Nodup
  | [], T, h => h
  | y :: l, T, h => by
    show (addAll (if memB y T = true then T else T ++ [y]) l).Nodup
    refine addAll_nodup2 l _ ?_
    split
    · exact h
    · rename_i hn
      rw [List.nodup_append]
      refine ⟨h, by simp, fun a ha b hb e => ?_⟩
      rw [List.mem_singleton.1 hb] at e
      rw [e] at ha
      exact hn (memB_iff.2 ha)
theorem nodup_len2 : ∀ (l m : List ByteArray), l.Nodup → (∀ x ∈ l, x ∈ m) → l.length ≤ m.length
  | [], _, _, _ => Nat.zero_le _
  | x :: l, m, h, hs => by
    rw [List.nodup_cons] at h
    have ih := nodup_len2 l (m.filter fun y => !decide (y = x)) h.2 (fun y hy => by
      rw [List.mem_filter]
      refine ⟨hs y (List.mem_cons_of_mem _ hy), ?_⟩
      have : y ≠ x := fun e => h.1 (by rw [← e]; exact hy)
      simp [this])
    have h2 : (m.filter fun y => !decide (y = x)).length < m.length := by
      rw [List.length_filter_lt_length_iff_exists]
      exact ⟨x, hs x List.mem_cons_self, by simp⟩
    rw [List.length_cons]
    omega
/-- the sorted texts rise -/
theorem sortB_rises {V : List ByteArray} (h : V.Nodup) (i : Nat) (a b : ByteArray) (ha : (sortB V)[i]? = some a) (hb : (sortB V)[i + 1]? = some b) : Op.bytesLess a.data.toList b.data.toList = true := by
  have hp : ((V.map fun x => x.data.toList).mergeSort fun x y => decide (x ≤ y)).Pairwise fun x y => decide (x ≤ y) = true :=
    List.pairwise_mergeSort (fun a b c h1 h2 => by simp only [decide_eq_true_eq] at h1 h2 ⊢; exact List.le_trans h1 h2) (fun a b => by simp only [Bool.or_eq_true, decide_eq_true_eq]; exact List.le_total a b) _
  have hn : ((V.map fun x => x.data.toList).mergeSort fun x y => decide (x ≤ y)).Nodup := by
    rw [(List.mergeSort_perm _ _).nodup_iff]
    exact List.Pairwise.map _ (fun x y hxy e => hxy (bytes_eq e)) h
  unfold sortB at ha hb
  generalize (V.map fun x => x.data.toList).mergeSort (fun x y => decide (x ≤ y)) = L at *
  rw [List.getElem?_map, Option.map_eq_some_iff] at ha hb
  obtain ⟨x, hx, rfl⟩ := ha
  obtain ⟨y, hy, rfl⟩ := hb
  rw [bs_list, bs_list, Go.Proofs.bytesLess_eq, decide_eq_true_eq]
  obtain ⟨hi, rfl⟩ := List.getElem?_eq_some_iff.1 hx
  obtain ⟨hj, rfl⟩ := List.getElem?_eq_some_iff.1 hy
  have h1 := of_decide_eq_true (List.pairwise_iff_getElem.1 hp i (i + 1) hi hj (Nat.lt_succ_self _))
  have h2 := List.pairwise_iff_getElem.1 hn i (i + 1) hi hj (Nat.lt_succ_self _)
  rcases List.le_iff_lt_or_eq.1 h1 with h | h
  · exact h
  · exact absurd h h2
/-- once one is lacking or wrong, Reach says no -/
theorem reach_flag {G : ByteArray → ByteArray × Int} {N : Nat} : ∀ (n : Nat) (V : List ByteArray) (i m ul : Nat) (la wo : Bool), n + i = ul + 30001 → i ≤ V.length → V.length ≤ ul + 64 * m → m ≤ 400 → (la = true ∨ wo = true) → (reachGo G n V i m la wo).2 ≠ 0
  | 0, V, i, m, ul, la, wo, hn, hi, hV, hm, _ => by omega
  | n + 1, V, i, m, ul, la, wo, hn, hi, hV, hm, hf => by
    rw [reachGo]
    by_cases hlt : i < V.length
    · rw [if_pos hlt]
      have hs := loadR_small (G (V.getD i ⟨#[]⟩))
      generalize loadR (G (V.getD i ⟨#[]⟩)) = R at *
      split
      · split
        · simp
        · have hl := linksL_len hs.1 hs.2
          have ha := addAll_len (linksL R.1) V
          obtain ⟨Z, hZ⟩ := addAll_ext (linksL R.1) V
          exact reach_flag (N := N) n _ (i + 1) (m + 1) ul la wo (by omega) (by rw [hZ, List.length_append]; omega) (by omega) (by omega) hf
      · split
        · exact reach_flag (N := N) n V (i + 1) m ul true wo (by omega) hlt hV hm (.inl rfl)
        · exact reach_flag (N := N) n V (i + 1) m ul la true (by omega) hlt hV hm (.inr rfl)
    · rw [if_neg hlt]
      rcases hf with rfl | rfl
      · simp
      · split <;> simp
/-- a list that is closed under links, all of it objects -/
def ClosedL (G : ByteArray → ByteArray × Int) (P : List ByteArray) : Prop := ∀ v ∈ P, (loadR (G v)).2 = 0 ∧ ∀ y ∈ linksL (loadR (G v)).1, y ∈ P
theorem reach_ok {G : ByteArray → ByteArray × Int} : ∀ (n : Nat) (V : List ByteArray) (i ul : Nat), n + i = ul + 30001 → i ≤ V.length → V.length ≤ ul + 64 * i → i ≤ 400 → V.Nodup →
    (∀ j v, j < i → V[j]? = some v → (loadR (G v)).2 = 0 ∧ ∀ y ∈ linksL (loadR (G v)).1, y ∈ V) → (reachGo G n V i i false false).2 = 0 →
    ∃ V', (reachGo G n V i i false false).1 = sortB V' ∧ V'.Nodup ∧ (∀ x ∈ V, x ∈ V') ∧ ClosedL G V' ∧ V'.length ≤ 400 ∧ ∀ P, ClosedL G P → (∀ x ∈ V, x ∈ P) → ∀ x ∈ V', x ∈ P
  | 0, V, i, ul, hn, hi, hV, hm, _, _, _ => by omega
  | n + 1, V, i, ul, hn, hi, hV, hm, hd, hj, h0 => by
    rw [reachGo] at h0 ⊢
    by_cases hlt : i < V.length
    · rw [if_pos hlt] at h0 ⊢
      have hx : V[i]? = some V[i] := List.getElem?_eq_getElem hlt
      rw [List.getD_eq_getElem?_getD, hx, Option.getD_some] at h0 ⊢
      have hmem : V[i] ∈ V := List.getElem_mem hlt
      generalize V[i] = v at *
      have hs := loadR_small (G v)
      by_cases he : (loadR (G v)).2 = 0
      · rw [if_pos he] at h0 ⊢
        by_cases hful : 400 < i + 1
        · rw [if_pos hful] at h0; simp at h0
        · rw [if_neg hful] at h0 ⊢
          have hl := linksL_len hs.1 hs.2
          have ha := addAll_len (linksL (loadR (G v)).1) V
          obtain ⟨Z, hZ⟩ := addAll_ext (linksL (loadR (G v)).1) V
          obtain ⟨V', h1, h2, h3, h4, h5, h6⟩ := reach_ok n (addAll V (linksL (loadR (G v)).1)) (i + 1) ul (by omega) (by rw [hZ, List.length_append]; omega) (by omega) (by omega) (addAll_nodup2 _ _ hd) (fun j u hj2 hu => by
            have hu2 : V[j]? = some u := by
              rw [hZ, List.getElem?_append_left (by omega)] at hu
              exact hu
            by_cases e : j = i
            · subst e
              rw [hx] at hu2
              cases hu2
              exact ⟨he, fun y hy => (addAll_mem2 _ _ _).2 (.inr hy)⟩
            · obtain ⟨k1, k2⟩ := hj j u (by omega) hu2
              exact ⟨k1, fun y hy => (addAll_mem2 _ _ _).2 (.inl (k2 y hy))⟩) h0
          refine ⟨V', h1, h2, fun x hx => h3 x ((addAll_mem2 _ _ _).2 (.inl hx)), h4, h5, fun P hP hVP => h6 P hP fun x hx => ?_⟩
          rcases (addAll_mem2 _ _ _).1 hx with h | h
          · exact hVP x h
          · exact (hP v (hVP v hmem)).2 x h
      · rw [if_neg he] at h0
        split at h0
        · exact absurd h0 (reach_flag (N := 0) n V (i + 1) i ul true false (by omega) hlt hV (by omega) (.inl rfl))
        · exact absurd h0 (reach_flag (N := 0) n V (i + 1) i ul false true (by omega) hlt hV (by omega) (.inr rfl))
    · rw [if_neg hlt]
      refine ⟨V, rfl, hd, fun x hx => hx, fun v hv => ?_, by omega, fun P _ h => h⟩
      obtain ⟨j, hjl, hje⟩ := List.mem_iff_getElem.1 hv
      exact hj j v (by omega) (by rw [List.getElem?_eq_getElem hjl, hje])
theorem reach_yes {G : ByteArray → ByteArray × Int} {P : List ByteArray} (hP : ClosedL G P) (hl : P.length ≤ 400) : ∀ (n : Nat) (V : List ByteArray) (i ul : Nat), n + i = ul + 30001 → i ≤ V.length → V.length ≤ ul + 64 * i → V.Nodup → (∀ x ∈ V, x ∈ P) → (reachGo G n V i i false false).2 = 0
  | 0, V, i, ul, hn, hi, hV, hd, hs => by
    have := nodup_len2 V P hd hs
    omega
  | n + 1, V, i, ul, hn, hi, hV, hd, hs => by
    have hlen := nodup_len2 V P hd hs
    rw [reachGo]
    by_cases hlt : i < V.length
    · rw [if_pos hlt]
      have hx : V[i]? = some V[i] := List.getElem?_eq_getElem hlt
      rw [List.getD_eq_getElem?_getD, hx, Option.getD_some]
      have hmem : V[i] ∈ V := List.getElem_mem hlt
      generalize V[i] = v at *
      obtain ⟨k1, k2⟩ := hP v (hs v hmem)
      have hsm := loadR_small (G v)
      have hlk := linksL_len hsm.1 hsm.2
      have ha := addAll_len (linksL (loadR (G v)).1) V
      obtain ⟨Z, hZ⟩ := addAll_ext (linksL (loadR (G v)).1) V
      rw [if_pos k1, if_neg (by omega)]
      refine reach_yes hP hl n _ (i + 1) ul (by omega) (by rw [hZ, List.length_append]; omega) (by omega) (addAll_nodup2 _ _ hd) fun x hx => ?_
      rcases (addAll_mem2 _ _ _).1 hx with h | h
      · exact hs x h
      · exact k2 x h
    · rw [if_neg hlt]
      rfl
/-- what Reach answers where it says yes -/
theorem reachO_ok {G : ByteArray → ByteArray × Int} {U : List ByteArray} (h : (reachO G U).2 = 0) :
    ∃ V, (reachO G U).1 = sortB V ∧ V.Nodup ∧ (∀ x ∈ U, x ∈ V) ∧ ClosedL G V ∧ V.length ≤ 400 ∧ ∀ P, ClosedL G P → (∀ x ∈ U, x ∈ P) → ∀ x ∈ V, x ∈ P := by
  have ha := addAll_len U []
  obtain ⟨V, h1, h2, h3, h4, h5, h6⟩ := reach_ok (G := G) (U.length + 30001) (addAll [] U) 0 U.length (by omega) (Nat.zero_le _) (by simpa using ha) (by omega) (addAll_nodup2 _ _ List.nodup_nil) (fun j v hj => absurd hj (by omega)) h
  exact ⟨V, h1, h2, fun x hx => h3 x ((addAll_mem2 _ _ _).2 (.inr hx)), h4, h5, fun P hP hU => h6 P hP fun x hx => by
    rcases (addAll_mem2 _ _ _).1 hx with h | h
    · cases h
    · exact hU x h⟩
/-- of what lies within a closed list of at most 400, Reach says yes -/
theorem reachO_yes {G : ByteArray → ByteArray × Int} {P U : List ByteArray} (hP : ClosedL G P) (hl : P.length ≤ 400) (hU : ∀ x ∈ U, x ∈ P) : (reachO G U).2 = 0 := by
  have ha := addAll_len U []
  refine reach_yes hP hl (U.length + 30001) (addAll [] U) 0 U.length (by omega) (Nat.zero_le _) (by simpa using ha) (addAll_nodup2 _ _ List.nodup_nil) fun x hx => ?_
  rcases (addAll_mem2 _ _ _).1 hx with h | h
  · cases h
  · exact hU x h
end Go.Proofs.YtmikfmcgddmplaaGreatDoor
