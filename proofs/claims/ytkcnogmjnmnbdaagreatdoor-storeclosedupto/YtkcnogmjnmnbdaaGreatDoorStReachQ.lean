/- Texts in one: StSort, StReachQ. -/
import Derived.Test.YtkcnogmjnmnbdaaGreatDoorDkMath
import Derived.Shelf.Sort.Plain
import Derived.Shelf.Small.Bits
import Derived.Sort.OwnSorted
import Derived.Sort.Walk0
/- slices.Sort at []string: its contract, laid at this program. -/
namespace Go.Proofs.YtkcnogmjnmnbdaaGreatDoor
open Go.RowKit

def sortRen : Go.Shelf.Ren := ⟨fun
  | 125 => 63
  | 128 => 113
  | 129 => 114
  | 190 => 35
  | 258 => 62
  | 302 => 105
  | 303 => 106
  | 304 => 107
  | 305 => 108
  | 306 => 109
  | 307 => 110
  | 308 => 74
  | 309 => 111
  | 310 => 112
  | 329 => 143
  | 330 => 144
  | 333 => 142
  | 334 => 145
  | 335 => 146
  | 336 => 122
  | 344 => 162
  | n => n, fun
  | 0 => 0
  | 3 => 3
  | 4 => 4
  | 5 => 5
  | 9 => 9
  | 31 => 22
  | 46 => 97
  | 51 => 99
  | 53 => 143
  | 131 => 75
  | 182 => 135
  | 183 => 136
  | 218 => 166
  | 222 => 170
  | 228 => 181
  | 229 => 182
  | n => n, fun n => n⟩
set_option maxRecDepth 100000 in
theorem sortLays : Go.Proofs.Lays.n190 Tryz.prog sortRen := {
  mixed := by kernel_rfl
  f125 := by kernel_rfl
  f128 := by kernel_rfl
  f129 := by kernel_rfl
  f190 := by kernel_rfl
  f258 := by kernel_rfl
  f302 := by kernel_rfl
  f303 := by kernel_rfl
  f304 := by kernel_rfl
  f305 := by kernel_rfl
  f306 := by kernel_rfl
  f307 := by kernel_rfl
  f308 := by kernel_rfl
  f309 := by kernel_rfl
  f310 := by kernel_rfl
  f329 := by kernel_rfl
  f330 := by kernel_rfl
  f333 := by kernel_rfl
  f334 := by kernel_rfl
  f335 := by kernel_rfl
  f336 := by kernel_rfl
  f344 := by kernel_rfl
  t0 := by kernel_rfl
  a0 := fun w => by kernel_rfl
  z0 := fun w => by kernel_rfl
  v0 := fun w => by kernel_rfl
  t3 := by kernel_rfl
  a3 := fun w => by kernel_rfl
  z3 := fun w => by kernel_rfl
  v3 := fun w => by kernel_rfl
  t4 := by kernel_rfl
  a4 := fun w => by kernel_rfl
  z4 := fun w => by kernel_rfl
  v4 := fun w => by kernel_rfl
  t5 := by kernel_rfl
  a5 := fun w => by kernel_rfl
  z5 := fun w => by kernel_rfl
  v5 := fun w => by kernel_rfl
  t9 := by kernel_rfl
  a9 := fun w => by kernel_rfl
  z9 := fun w => by kernel_rfl
  v9 := fun w => by kernel_rfl
  t31 := by kernel_rfl
  a31 := fun w => by kernel_rfl
  z31 := fun w => by kernel_rfl
  v31 := fun w => by kernel_rfl
  t46 := by kernel_rfl
  a46 := fun w => by kernel_rfl
  z46 := fun w => by kernel_rfl
  v46 := fun w => by kernel_rfl
  t51 := by kernel_rfl
  a51 := fun w => by kernel_rfl
  z51 := fun w => by kernel_rfl
  v51 := fun w => by kernel_rfl
  t53 := by kernel_rfl
  a53 := fun w => by kernel_rfl
  z53 := fun w => by kernel_rfl
  v53 := fun w => by kernel_rfl
  t131 := by kernel_rfl
  a131 := fun w => by kernel_rfl
  z131 := fun w => by kernel_rfl
  v131 := fun w => by kernel_rfl
  t182 := by kernel_rfl
  a182 := fun w => by kernel_rfl
  z182 := fun w => by kernel_rfl
  v182 := fun w => by kernel_rfl
  t183 := by kernel_rfl
  a183 := fun w => by kernel_rfl
  z183 := fun w => by kernel_rfl
  v183 := fun w => by kernel_rfl
  t218 := by kernel_rfl
  a218 := fun w => by kernel_rfl
  z218 := fun w => by kernel_rfl
  v218 := fun w => by kernel_rfl
  t222 := by kernel_rfl
  a222 := fun w => by kernel_rfl
  z222 := fun w => by kernel_rfl
  v222 := fun w => by kernel_rfl
  t228 := by kernel_rfl
  a228 := fun w => by kernel_rfl
  z228 := fun w => by kernel_rfl
  v228 := fun w => by kernel_rfl
  t229 := by kernel_rfl
  a229 := fun w => by kernel_rfl
  z229 := fun w => by kernel_rfl
  v229 := fun w => by kernel_rfl
}
theorem lenLays : Go.Proofs.Lays.n125 Tryz.prog sortRen := {
  mixed := sortLays.mixed
  f125 := sortLays.f125
  f128 := sortLays.f128
  f129 := sortLays.f129
  t3 := sortLays.t3
  a3 := sortLays.a3
  z3 := sortLays.z3
  v3 := sortLays.v3
  t4 := sortLays.t4
  a4 := sortLays.a4
  z4 := sortLays.z4
  v4 := sortLays.v4
  t5 := sortLays.t5
  a5 := sortLays.a5
  z5 := sortLays.z5
  v5 := sortLays.v5
  t9 := sortLays.t9
  a9 := sortLays.a9
  z9 := sortLays.z9
  v9 := sortLays.v9
  t46 := sortLays.t46
  a46 := sortLays.a46
  z46 := sortLays.z46
  v46 := sortLays.v46
  t51 := sortLays.t51
  a51 := sortLays.a51
  z51 := sortLays.z51
  v51 := sortLays.v51
  t53 := sortLays.t53
  a53 := sortLays.a53
  z53 := sortLays.z53
  v53 := sortLays.v53
}
theorem len_zero (w : World) : Calls Tryz.prog 63 #[.int .u64 0] w fun e w' => e = .returned (.int .i64 0) ∧ w' = w := by
  have q := Go.Proofs.Any.bits_Len lenLays 0 w (by omega) (by omega)
  exact q
theorem isort_none (w : World) : Calls Tryz.prog 105 #[.slice none 0 0, .int .i64 0, .int .i64 0] w fun e w' => e = .returned (.tuple #[]) ∧ w' = w := by
  go_enter Tryz.func105, Tryz.ntmps105
  go_wp2
  refine wp_loop_rounds 1 ?_
  rw [rounds_succ]
  go_wp2
  go_end0
  exact ⟨rfl, rfl⟩
set_option maxRecDepth 100000 in
theorem pdq_none (w : World) : Calls Tryz.prog 62 #[.slice none 0 0, .int .i64 0, .int .i64 0, .int .i64 0] w fun e w' => e = .returned (.tuple #[]) ∧ w' = w := by
  go_enter Tryz.func62, Tryz.ntmps62
  go_wp2
  refine wp_loop_rounds 1 ?_
  rw [rounds_succ]
  go_wp2_with (first | (go_at_call 105; refine (isort_none _).mono ?_; rintro e w' ⟨rfl, rfl⟩))
  refine bodyPost_ret (results_none rfl _ _ _) rfl ?_
  exact ⟨rfl, rfl⟩
set_option maxRecDepth 100000 in
theorem sort_none (w : World) : Calls Tryz.prog 35 #[.slice none 0 0] w fun e w' => e = .returned (.tuple #[]) ∧ w' = w := by
  go_enter Tryz.func35, Tryz.ntmps35
  go_wp2_with (first
    | (go_at_call 63; refine (len_zero _).mono ?_; rintro e w' ⟨rfl, rfl⟩)
    | (go_at_call 62; refine (pdq_none _).mono ?_; rintro e w' ⟨rfl, rfl⟩))
  go_end0
  exact ⟨rfl, rfl⟩
theorem enc_list (T : List ByteArray) : (T.map fun x => x.data.toList).map Go.Proofs.encStr = T.map sv := by
  rw [List.map_map]
  refine List.map_congr_left fun x _ => ?_
  rfl
theorem enc_back2 (L : List (List UInt8)) : (L.map bs).map sv = L.map Go.Proofs.encStr := by
  rw [List.map_map]
  refine List.map_congr_left fun x _ => ?_
  rfl
theorem sort_said : SortSaid := fun T v base W hrow hl => by
  rcases hrow.2 with ⟨rfl, hn⟩ | ⟨g, cap, cur, rfl, hb, hg, hnc, hcm, hcs, htake⟩
  · have e : T = [] := List.eq_nil_of_length_eq_zero hn
    subst e
    refine (sort_none W).mono fun x w' ⟨h1, h2⟩ => ⟨h1, ?_, ?_⟩
    · subst h2; exact ⟨by simp [sortB], .inl ⟨rfl, rfl⟩⟩
    · subst h2; exact World.grownBy.refl _ _
  · have hlm : (T.map fun x => x.data.toList).length = T.length := List.length_map _
    have hH := Go.holds_of_block (ss := T.map fun x => x.data.toList) hg (by rw [hlm, enc_list, ← htake, Nat.mul_one])
    have q := Go.Proofs.Any.slices_Sort_string sortLays g 0 cap (T.map fun x => x.data.toList) W hH (Array.getElem?_eq_some_iff.1 hg).1 (by rw [hlm]; omega)
    rw [hlm] at q
    refine Calls.mono (show Calls Tryz.prog 35 #[.slice (some ⟨g, 0, none⟩) T.length cap] W _ from q) ?_
    rintro x w' ⟨h1, n, os, rfl⟩
    refine ⟨h1, ?_, Go.grownBy_sorted _⟩
    have h3 := Go.ownsRow_sorted (n := n) (os := os) (ss := T.map fun x => x.data.toList) (ts := (T.map fun x => x.data.toList).mergeSort fun x y => decide (x ≤ y)) (by rw [List.length_mergeSort]) hb hg (by rw [hlm]; exact hnc) hcm hcs
    rw [hlm] at h3
    unfold sortB
    rw [enc_back2]
    exact h3
end Go.Proofs.YtkcnogmjnmnbdaaGreatDoor

/- What store.Reach answers: closed, rising, least: plain mathematics. -/
namespace Go.Proofs.YtkcnogmjnmnbdaaGreatDoor
open Go.RowKit

theorem sortB_mem {x : ByteArray} {V : List ByteArray} : x ∈ sortB V ↔ x ∈ V := by
  unfold sortB
  rw [List.mem_map]
  constructor
  · rintro ⟨y, hy, rfl⟩
    rw [List.mem_mergeSort, List.mem_map] at hy
    obtain ⟨z, hz, rfl⟩ := hy
    rw [bs_of]
    exact hz
  · intro h
    exact ⟨x.data.toList, by rw [List.mem_mergeSort, List.mem_map]; exact ⟨x, h, rfl⟩, bs_of x⟩
theorem addAll_mem2 (x : ByteArray) : ∀ (U T : List ByteArray), x ∈ addAll T U ↔ x ∈ T ∨ x ∈ U
  | [], T => by simp [addAll]
  | y :: l, T => by
    show x ∈ addAll (if memB y T = true then T else T ++ [y]) l ↔ _
    rw [addAll_mem2 x l, List.mem_cons]
    split
    · rename_i h
      have hy := memB_iff.1 h
      constructor
      · rintro (h | h)
        · exact .inl h
        · exact .inr (.inr h)
      · rintro (h | rfl | h)
        · exact .inl h
        · exact .inl hy
        · exact .inr h
    · rw [List.mem_append, List.mem_singleton, or_assoc]
theorem addAll_nodup2 : ∀ (U T : List ByteArray), T.Nodup → (addAll T U).Nodup
  | [], T, h => h
  | y :: l, T, h => by
    show (addAll (if memB y T = true then T else T ++ [y]) l).Nodup
    refine addAll_nodup2 l _ ?_
    split
    · exact h
    · rename_i hn
      rw [List.nodup_append]
      refine ⟨h, by simp, fun a ha b hb e => ?_⟩
      rw [List.mem_singleton.1 hb] at e
      rw [e] at ha
      exact hn (memB_iff.2 ha)
theorem nodup_len2 : ∀ (l m : List ByteArray), l.Nodup → (∀ x ∈ l, x ∈ m) → l.length ≤ m.length
  | [], _, _, _ => Nat.zero_le _
  | x :: l, m, h, hs => by
    rw [List.nodup_cons] at h
    have ih := nodup_len2 l (m.filter fun y => !decide (y = x)) h.2 (fun y hy => by
      rw [List.mem_filter]
      refine ⟨hs y (List.mem_cons_of_mem _ hy), ?_⟩
      have : y ≠ x := fun e => h.1 (by rw [← e]; exact hy)
      simp [this])
    have h2 : (m.filter fun y => !decide (y = x)).length < m.length := by
      rw [List.length_filter_lt_length_iff_exists]
      exact ⟨x, hs x List.mem_cons_self, by simp⟩
    rw [List.length_cons]
    omega
/-- the sorted texts rise -/
theorem sortB_rises {V : List ByteArray} (h : V.Nodup) (i : Nat) (a b : ByteArray) (ha : (sortB V)[i]? = some a) (hb : (sortB V)[i + 1]? = some b) : Op.bytesLess a.data.toList b.data.toList = true := by
  have hp : ((V.map fun x => x.data.toList).mergeSort fun x y => decide (x ≤ y)).Pairwise fun x y => decide (x ≤ y) = true :=
    List.pairwise_mergeSort (fun a b c h1 h2 => by simp only [decide_eq_true_eq] at h1 h2 ⊢; exact List.le_trans h1 h2) (fun a b => by simp only [Bool.or_eq_true, decide_eq_true_eq]; exact List.le_total a b) _
  have hn : ((V.map fun x => x.data.toList).mergeSort fun x y => decide (x ≤ y)).Nodup := by
    rw [(List.mergeSort_perm _ _).nodup_iff]
    exact List.Pairwise.map _ (fun x y hxy e => hxy (bytes_eq e)) h
  unfold sortB at ha hb
  generalize (V.map fun x => x.data.toList).mergeSort (fun x y => decide (x ≤ y)) = L at *
  rw [List.getElem?_map, Option.map_eq_some_iff] at ha hb
  obtain ⟨x, hx, rfl⟩ := ha
  obtain ⟨y, hy, rfl⟩ := hb
  rw [bs_list, bs_list, Go.Proofs.bytesLess_eq, decide_eq_true_eq]
  obtain ⟨hi, rfl⟩ := List.getElem?_eq_some_iff.1 hx
  obtain ⟨hj, rfl⟩ := List.getElem?_eq_some_iff.1 hy
  have h1 := of_decide_eq_true (List.pairwise_iff_getElem.1 hp i (i + 1) hi hj (Nat.lt_succ_self _))
  have h2 := List.pairwise_iff_getElem.1 hn i (i + 1) hi hj (Nat.lt_succ_self _)
  rcases List.le_iff_lt_or_eq.1 h1 with h | h
  · exact h
  · exact absurd h h2
/-- once one is lacking or wrong, Reach says no -/
theorem reach_flag {G : ByteArray → ByteArray × Int} {N : Nat} : ∀ (n : Nat) (V : List ByteArray) (i m ul : Nat) (la wo : Bool), n + i = ul + 30001 → i ≤ V.length → V.length ≤ ul + 64 * m → m ≤ 400 → (la = true ∨ wo = true) → (reachGo G n V i m la wo).2 ≠ 0
  | 0, V, i, m, ul, la, wo, hn, hi, hV, hm, _ => by omega
  | n + 1, V, i, m, ul, la, wo, hn, hi, hV, hm, hf => by
    rw [reachGo]
    by_cases hlt : i < V.length
    · rw [if_pos hlt]
      have hs := loadR_small (G (V.getD i ⟨#[]⟩))
      generalize loadR (G (V.getD i ⟨#[]⟩)) = R at *
      split
      · split
        · simp
        · have hl := linksL_len hs.1 hs.2
          have ha := addAll_len (linksL R.1) V
          obtain ⟨Z, hZ⟩ := addAll_ext (linksL R.1) V
          exact reach_flag (N := N) n _ (i + 1) (m + 1) ul la wo (by omega) (by rw [hZ, List.length_append]; omega) (by omega) (by omega) hf
      · split
        · exact reach_flag (N := N) n V (i + 1) m ul true wo (by omega) hlt hV hm (.inl rfl)
        · exact reach_flag (N := N) n V (i + 1) m ul la true (by omega) hlt hV hm (.inr rfl)
    · rw [if_neg hlt]
      rcases hf with rfl | rfl
      · simp
      · split <;> simp
/-- a list that is closed under links, all of it objects -/
def ClosedL (G : ByteArray → ByteArray × Int) (P : List ByteArray) : Prop := ∀ v ∈ P, (loadR (G v)).2 = 0 ∧ ∀ y ∈ linksL (loadR (G v)).1, y ∈ P
theorem reach_ok {G : ByteArray → ByteArray × Int} : ∀ (n : Nat) (V : List ByteArray) (i ul : Nat), n + i = ul + 30001 → i ≤ V.length → V.length ≤ ul + 64 * i → i ≤ 400 → V.Nodup →
    (∀ j v, j < i → V[j]? = some v → (loadR (G v)).2 = 0 ∧ ∀ y ∈ linksL (loadR (G v)).1, y ∈ V) → (reachGo G n V i i false false).2 = 0 →
    ∃ V', (reachGo G n V i i false false).1 = sortB V' ∧ V'.Nodup ∧ (∀ x ∈ V, x ∈ V') ∧ ClosedL G V' ∧ V'.length ≤ 400 ∧ ∀ P, ClosedL G P → (∀ x ∈ V, x ∈ P) → ∀ x ∈ V', x ∈ P
  | 0, V, i, ul, hn, hi, hV, hm, _, _, _ => by omega
  | n + 1, V, i, ul, hn, hi, hV, hm, hd, hj, h0 => by
    rw [reachGo] at h0 ⊢
    by_cases hlt : i < V.length
    · rw [if_pos hlt] at h0 ⊢
      have hx : V[i]? = some V[i] := List.getElem?_eq_getElem hlt
      rw [List.getD_eq_getElem?_getD, hx, Option.getD_some] at h0 ⊢
      have hmem : V[i] ∈ V := List.getElem_mem hlt
      generalize V[i] = v at *
      have hs := loadR_small (G v)
      by_cases he : (loadR (G v)).2 = 0
      · rw [if_pos he] at h0 ⊢
        by_cases hful : 400 < i + 1
        · rw [if_pos hful] at h0; simp at h0
        · rw [if_neg hful] at h0 ⊢
          have hl := linksL_len hs.1 hs.2
          have ha := addAll_len (linksL (loadR (G v)).1) V
          obtain ⟨Z, hZ⟩ := addAll_ext (linksL (loadR (G v)).1) V
          obtain ⟨V', h1, h2, h3, h4, h5, h6⟩ := reach_ok n (addAll V (linksL (loadR (G v)).1)) (i + 1) ul (by omega) (by rw [hZ, List.length_append]; omega) (by omega) (by omega) (addAll_nodup2 _ _ hd) (fun j u hj2 hu => by
            have hu2 : V[j]? = some u := by
              rw [hZ, List.getElem?_append_left (by omega)] at hu
              exact hu
            by_cases e : j = i
            · subst e
              rw [hx] at hu2
              cases hu2
              exact ⟨he, fun y hy => (addAll_mem2 _ _ _).2 (.inr hy)⟩
            · obtain ⟨k1, k2⟩ := hj j u (by omega) hu2
              exact ⟨k1, fun y hy => (addAll_mem2 _ _ _).2 (.inl (k2 y hy))⟩) h0
          refine ⟨V', h1, h2, fun x hx => h3 x ((addAll_mem2 _ _ _).2 (.inl hx)), h4, h5, fun P hP hVP => h6 P hP fun x hx => ?_⟩
          rcases (addAll_mem2 _ _ _).1 hx with h | h
          · exact hVP x h
          · exact (hP v (hVP v hmem)).2 x h
      · rw [if_neg he] at h0
        split at h0
        · exact absurd h0 (reach_flag (N := 0) n V (i + 1) i ul true false (by omega) hlt hV (by omega) (.inl rfl))
        · exact absurd h0 (reach_flag (N := 0) n V (i + 1) i ul false true (by omega) hlt hV (by omega) (.inr rfl))
    · rw [if_neg hlt]
      refine ⟨V, rfl, hd, fun x hx => hx, fun v hv => ?_, by omega, fun P _ h => h⟩
      obtain ⟨j, hjl, hje⟩ := List.mem_iff_getElem.1 hv
      exact hj j v (by omega) (by rw [List.getElem?_eq_getElem hjl, hje])
theorem reach_yes {G : ByteArray → ByteArray × Int} {P : List ByteArray} (hP : ClosedL G P) (hl : P.length ≤ 400) : ∀ (n : Nat) (V : List ByteArray) (i ul : Nat), n + i = ul + 30001 → i ≤ V.length → V.length ≤ ul + 64 * i → V.Nodup → (∀ x ∈ V, x ∈ P) → (reachGo G n V i i false false).2 = 0
  | 0, V, i, ul, hn, hi, hV, hd, hs => by
    have := nodup_len2 V P hd hs
    omega
  | n + 1, V, i, ul, hn, hi, hV, hd, hs => by
    have hlen := nodup_len2 V P hd hs
    rw [reachGo]
    by_cases hlt : i < V.length
    · rw [if_pos hlt]
      have hx : V[i]? = some V[i] := List.getElem?_eq_getElem hlt
      rw [List.getD_eq_getElem?_getD, hx, Option.getD_some]
      have hmem : V[i] ∈ V := List.getElem_mem hlt
      generalize V[i] = v at *
      obtain ⟨k1, k2⟩ := hP v (hs v hmem)
      have hsm := loadR_small (G v)
      have hlk := linksL_len hsm.1 hsm.2
      have ha := addAll_len (linksL (loadR (G v)).1) V
      obtain ⟨Z, hZ⟩ := addAll_ext (linksL (loadR (G v)).1) V
      rw [if_pos k1, if_neg (by omega)]
      refine reach_yes hP hl n _ (i + 1) ul (by omega) (by rw [hZ, List.length_append]; omega) (by omega) (addAll_nodup2 _ _ hd) fun x hx => ?_
      rcases (addAll_mem2 _ _ _).1 hx with h | h
      · exact hs x h
      · exact k2 x h
    · rw [if_neg hlt]
      rfl
/-- what Reach answers where it says yes -/
theorem reachO_ok {G : ByteArray → ByteArray × Int} {U : List ByteArray} (h : (reachO G U).2 = 0) :
    ∃ V, (reachO G U).1 = sortB V ∧ V.Nodup ∧ (∀ x ∈ U, x ∈ V) ∧ ClosedL G V ∧ V.length ≤ 400 ∧ ∀ P, ClosedL G P → (∀ x ∈ U, x ∈ P) → ∀ x ∈ V, x ∈ P := by
  have ha := addAll_len U []
  obtain ⟨V, h1, h2, h3, h4, h5, h6⟩ := reach_ok (G := G) (U.length + 30001) (addAll [] U) 0 U.length (by omega) (Nat.zero_le _) (by simpa using ha) (by omega) (addAll_nodup2 _ _ List.nodup_nil) (fun j v hj => absurd hj (by omega)) h
  exact ⟨V, h1, h2, fun x hx => h3 x ((addAll_mem2 _ _ _).2 (.inr hx)), h4, h5, fun P hP hU => h6 P hP fun x hx => by
    rcases (addAll_mem2 _ _ _).1 hx with h | h
    · cases h
    · exact hU x h⟩
/-- of what lies within a closed list of at most 400, Reach says yes -/
theorem reachO_yes {G : ByteArray → ByteArray × Int} {P U : List ByteArray} (hP : ClosedL G P) (hl : P.length ≤ 400) (hU : ∀ x ∈ U, x ∈ P) : (reachO G U).2 = 0 := by
  have ha := addAll_len U []
  refine reach_yes hP hl (U.length + 30001) (addAll [] U) 0 U.length (by omega) (Nat.zero_le _) (by simpa using ha) (addAll_nodup2 _ _ List.nodup_nil) fun x hx => ?_
  rcases (addAll_mem2 _ _ _).1 hx with h | h
  · cases h
  · exact hU x h
end Go.Proofs.YtkcnogmjnmnbdaaGreatDoor
