/- Texts in one: StReachP, DkMath. -/
import Derived.Test.YtmikfmcgddmplaaGreatDoorOLinks
import Derived.Test.YtmikfmcgddmplaaGreatDoorDkSpec
/- What store.Reach answers: plain definitions. -/
namespace Go.Proofs.YtmikfmcgddmplaaGreatDoor
open Go.RowKit

theorem addAll_ext : ∀ (U T : List ByteArray), ∃ W, addAll T U = T ++ W
  | [], T => ⟨[], by simp [addAll]⟩
  | y :: l, T => by
    obtain ⟨W, hW⟩ := addAll_ext l (if memB y T = true then T else T ++ [y])
    show ∃ W, addAll (if memB y T = true then T else T ++ [y]) l = T ++ W
    rw [hW]
    split
    · exact ⟨W, rfl⟩
    · exact ⟨y :: W, by simp⟩
def sortB (V : List ByteArray) : List ByteArray := ((V.map fun x => x.data.toList).mergeSort fun x y => decide (x ≤ y)).map bs
theorem sortB_len (V : List ByteArray) : (sortB V).length = V.length := by
  unfold sortB
  rw [List.length_map, List.length_mergeSort, List.length_map]
/-- the ids that have come up, how many are seen, how many of them are objects, whether one is lacking, whether one is wrong -/
def reachGo (G : ByteArray → ByteArray × Int) : Nat → List ByteArray → Nat → Nat → Bool → Bool → List ByteArray × Int
  | 0, _, _, _, _, _ => ([], 0)
  | n + 1, V, i, m, la, wr => if i < V.length then
      (if (loadR (G (V.getD i ⟨#[]⟩))).2 = 0 then (if 400 < m + 1 then ([], 6) else reachGo G n (addAll V (linksL (loadR (G (V.getD i ⟨#[]⟩))).1)) (i + 1) (m + 1) la wr)
       else if (loadR (G (V.getD i ⟨#[]⟩))).2 = 7 then reachGo G n V (i + 1) m true wr else reachGo G n V (i + 1) m la true)
    else if la then ([], 7) else if wr then ([], 2) else (sortB V, 0)
def reachO (G : ByteArray → ByteArray × Int) (U : List ByteArray) : List ByteArray × Int := reachGo G (U.length + 30001) (addAll [] U) 0 0 false false
theorem loadR_err (r : ByteArray × Int) : (loadR r).2 = 0 ∨ (loadR r).2 = 7 ∨ (loadR r).2 = 2 := by
  unfold loadR
  split
  · exact .inr (.inl rfl)
  · split
    · exact .inr (.inr rfl)
    · exact .inl rfl
theorem loadR_small (r : ByteArray × Int) : (loadR r).1.ents.length ≤ 64 ∧ (loadR r).1.pars.length ≤ 4 := by
  unfold loadR
  split
  · simp [Ob.none]
  · split
    · simp [Ob.none]
    · rename_i h
      have h2 : (decO r.1.data.toList).2 = 0 := by
        by_cases e : (decO r.1.data.toList).2 = 0
        · exact e
        · exact absurd e h
      have hF := good_facts (dec_only h2).2.1
      exact ⟨hF.ents, hF.pars⟩
theorem linksL_len {o : Ob} (h1 : o.ents.length ≤ 64) (h2 : o.pars.length ≤ 4) : (linksL o).length ≤ 64 := by
  unfold linksL
  split
  · rw [List.length_map]; exact h1
  · split
    · rw [List.length_cons]; omega
    · split <;> simp
/-- behind Reach -/
def RhEnd (w : World) (r : List ByteArray × Int) (x : Ending) (w' : World) : Prop :=
  ∃ A c, x = .returned (.tuple #[.slice A r.1.length c, .int .i64 r.2]) ∧ Txs w' w'.heap.size A r.1 ∧ Below w.heap.size w w'
/-- what is wanted of slices.Sort -/
def SortSaid : Prop := ∀ (T : List ByteArray) (v : Value) (base : Nat) (W : World), W.ownsRow base 9 1 v T.length (T.map sv) → T.length ≤ 140737488355328 →
  Calls Tryz.prog 24 #[v] W fun x w' => x = .returned (.tuple #[]) ∧ w'.ownsRow base 9 1 v T.length ((sortB T).map sv) ∧ W.grownBy w' v.ownBlock
end Go.Proofs.YtmikfmcgddmplaaGreatDoor

/- Disks: what the plain steps keep. -/
namespace Go.Proofs.YtmikfmcgddmplaaGreatDoor
open Go.RowKit

/-- names that rise, all behind b -/
def ris : ByteArray → List Fl → Prop
  | _, [] => True
  | b, f :: l => ltB b f.name = true ∧ ris f.name l
theorem goodL_iff : ∀ (L : List Fl) (b : ByteArray), goodL b L = true ↔ ris b L ∧ ∀ f ∈ L, named f.name = true ∧ fits f = true
  | [], b => by simp [goodL, ris]
  | f :: l, b => by
    rw [goodL, ris, Bool.and_eq_true, Bool.and_eq_true, Bool.and_eq_true, goodL_iff l]
    constructor
    · rintro ⟨⟨⟨h1, h2⟩, h3⟩, h4, h5⟩
      refine ⟨⟨h3, h4⟩, fun g hg => ?_⟩
      rcases List.mem_cons.1 hg with rfl | hg
      · exact ⟨h1, h2⟩
      · exact h5 g hg
    · rintro ⟨⟨h3, h4⟩, h5⟩
      have h6 := h5 f List.mem_cons_self
      exact ⟨⟨⟨h6.1, h6.2⟩, h3⟩, h4, fun g hg => h5 g (List.mem_cons_of_mem _ hg)⟩
theorem goodD_iff (L : List Fl) : goodD L = true ↔ L.length ≤ 400 ∧ ris ⟨#[]⟩ L ∧ ∀ f ∈ L, named f.name = true ∧ fits f = true := by
  unfold goodD
  rw [Bool.and_eq_true, goodL_iff, decide_eq_true_iff]
theorem ris_lt : ∀ {L : List Fl} {b : ByteArray}, ris b L → ∀ f ∈ L, ltB b f.name = true
  | g :: l, b, h, f, hf => by
    rcases List.mem_cons.1 hf with rfl | hf
    · exact h.1
    · exact ltB_trans h.1 (ris_lt h.2 f hf)
theorem ris_weak : ∀ {L : List Fl} {a b : ByteArray}, ltB a b = true → ris b L → ris a L
  | [], _, _, _, _ => trivial
  | _ :: _, _, _, h, k => ⟨ltB_trans h k.1, k.2⟩
theorem ris_app : ∀ {L M : List Fl} {b : ByteArray}, ris b (L ++ M) → ris b L
  | [], _, _, _ => trivial
  | _ :: _, _, _, h => ⟨h.1, ris_app h.2⟩
theorem ltB_le {a b c : ByteArray} (h : ltB a b = false) (k : ltB a c = true) : b ≠ c → ltB b c = true := fun hne => by
  rcases ltB_tri a b with h1 | rfl | h1
  · rw [h1] at h; cases h
  · exact k
  · exact ltB_trans h1 k
theorem low_le (n : ByteArray) : ∀ L : List Fl, low n L ≤ L.length
  | [] => Nat.le_refl _
  | f :: l => by
    have := low_le n l
    unfold low
    split
    · simp; omega
    · simp
/-- ahead of where a name would stand, all names are ahead of it; there and behind it none is -/
theorem low_split (n : ByteArray) : ∀ (L : List Fl) (b : ByteArray), ris b L → ∀ (k : Nat) (f : Fl), L[k]? = some f → (ltB f.name n = true ↔ k < low n L)
  | [], _, _, k, f, hk => by simp at hk
  | g :: l, b, h, k, f, hk => by
    unfold low
    cases k with
    | zero =>
      simp at hk
      subst hk
      cases hg : ltB g.name n <;> simp
    | succ k =>
      rw [List.getElem?_cons_succ] at hk
      have ih := low_split n l g.name h.2 k f hk
      cases hg : ltB g.name n with
      | true => simp [ih]
      | false =>
        simp only [Bool.false_eq_true, if_false, Nat.not_lt_zero, iff_false, Bool.not_eq_true]
        have h1 := ris_lt h.2 f (List.mem_of_getElem? hk)
        cases hf : ltB f.name n with
        | false => rfl
        | true => rw [ltB_trans h1 hf] at hg; cases hg
theorem getF_low (n : ByteArray) : ∀ (L : List Fl) (b : ByteArray), ris b L → getF n L = match L[low n L]? with
    | none => none
    | some f => if f.name = n then some f else none
  | [], _, _ => rfl
  | g :: l, b, h => by
    have ih := getF_low n l g.name h.2
    unfold getF at ih ⊢
    unfold low
    rw [List.find?_cons]
    cases hg : ltB g.name n with
    | true =>
      have hne : ¬ g.name = n := ltB_ne hg
      simp only [hne, decide_false, if_true, List.getElem?_cons_succ]
      exact ih
    | false =>
      by_cases e : g.name = n
      · simp [e]
      · simp only [e, decide_false, Bool.false_eq_true, if_false, List.getElem?_cons_zero]
        rw [List.find?_eq_none]
        intro f hf
        have h1 := ris_lt h.2 f hf
        rcases ltB_tri n g.name with h2 | h2 | h2
        · have := ltB_ne (ltB_trans h2 h1)
          rw [decide_eq_true_eq]
          exact fun q => this q.symm
        · exact absurd h2.symm e
        · rw [h2] at hg; cases hg
theorem getF_name {n : ByteArray} {L : List Fl} {f : Fl} (h : getF n L = some f) : f.name = n ∧ f ∈ L := by
  unfold getF at h
  have h1 := List.find?_some h
  simp only [decide_eq_true_eq] at h1
  exact ⟨h1, List.mem_of_find?_eq_some h⟩
theorem putL_cut (f : Fl) : ∀ (L : List Fl) (b : ByteArray), ris b L → putL f L = L.take (low f.name L) ++ f :: L.drop (low f.name L + if (getF f.name L).isSome then 1 else 0)
  | [], _, _ => rfl
  | g :: l, b, h => by
    have ih := putL_cut f l g.name h.2
    have hg := getF_low f.name (g :: l) b h
    have hg2 := getF_low f.name l g.name h.2
    unfold putL
    unfold low at hg ⊢
    cases hl : ltB g.name f.name with
    | true =>
      simp only [hl, if_true, List.getElem?_cons_succ] at hg
      rw [← hg2] at hg
      rw [hg]
      simp only [if_true, List.take_succ_cons, List.cons_append]
      rw [ih]
      congr 2
      rw [show low f.name l + 1 + (if (getF f.name l).isSome = true then 1 else 0) = (low f.name l + if (getF f.name l).isSome = true then 1 else 0) + 1 from by omega, List.drop_succ_cons]
    | false =>
      simp only [hl, Bool.false_eq_true, if_false, List.getElem?_cons_zero] at hg
      rw [hg]
      by_cases e : g.name = f.name
      · simp [e]
      · simp [e]
theorem del_cut (n : ByteArray) : ∀ (L : List Fl) (b : ByteArray), ris b L → (getF n L).isSome = true → del n L = L.take (low n L) ++ L.drop (low n L + 1)
  | [], _, _, h => by cases h
  | g :: l, b, h, hs => by
    have ih := del_cut n l g.name h.2
    have hg := getF_low n (g :: l) b h
    have hg2 := getF_low n l g.name h.2
    unfold del at ih ⊢
    unfold low at hg ⊢
    rw [List.filter_cons]
    cases hl : ltB g.name n with
    | true =>
      simp only [hl, if_true, List.getElem?_cons_succ] at hg
      rw [← hg2] at hg
      rw [hg] at hs
      have hne : ¬ g.name = n := ltB_ne hl
      simp only [hne, decide_false, Bool.not_false, if_true, List.take_succ_cons, List.cons_append, List.drop_succ_cons]
      rw [ih hs]
    | false =>
      simp only [hl, Bool.false_eq_true, if_false, List.getElem?_cons_zero] at hg
      by_cases e : g.name = n
      · simp only [e, decide_true, Bool.not_true, Bool.false_eq_true, if_false, List.take_zero, List.nil_append, Nat.zero_add, List.drop_succ_cons, List.drop_zero]
        rw [List.filter_eq_self]
        intro f hf
        have := ltB_ne (ris_lt h.2 f hf)
        have hn : ¬ f.name = n := fun q => this (e.trans q.symm)
        simp [hn]
      · rw [if_neg e] at hg
        rw [hg] at hs
        cases hs
theorem getF_put (n : ByteArray) (f : Fl) : ∀ (L : List Fl) (b : ByteArray), ris b L → getF n (putL f L) = if f.name = n then some f else getF n L
  | [], _, _ => by
    unfold putL getF
    by_cases e : f.name = n <;> simp [e]
  | g :: l, b, h => by
    have ih := getF_put n f l g.name h.2
    unfold putL
    unfold getF at ih ⊢
    cases hl : ltB g.name f.name with
    | true =>
      simp only [if_true, List.find?_cons]
      by_cases e : g.name = n
      · have hne : ¬ f.name = n := fun q => ltB_ne hl (e.trans q.symm)
        simp [e, hne]
      · simp only [e, decide_false]
        exact ih
    | false =>
      simp only [Bool.false_eq_true, if_false]
      by_cases e : g.name = f.name
      · rw [if_pos e]
        simp only [List.find?_cons, e]
        by_cases q : f.name = n <;> simp [q]
      · rw [if_neg e]
        simp only [List.find?_cons]
        by_cases q : f.name = n <;> simp [q]
theorem getF_del (n m : ByteArray) (L : List Fl) : getF n (del m L) = if m = n then none else getF n L := by
  unfold getF del
  rw [List.find?_filter]
  by_cases e : m = n
  · subst e
    rw [if_pos rfl, List.find?_eq_none]
    intro f _
    by_cases q : f.name = m <;> simp [q]
  · rw [if_neg e]
    congr 1
    funext f
    by_cases q : f.name = n
    · have : ¬ n = m := fun h => e h.symm
      simp [q, this]
    · simp [q]
theorem put_ris (f : Fl) : ∀ (L : List Fl) (b : ByteArray), ris b L → ltB b f.name = true → ris b (putL f L)
  | [], _, _, h => ⟨h, trivial⟩
  | g :: l, b, h, hb => by
    unfold putL
    cases hl : ltB g.name f.name with
    | true => exact ⟨h.1, put_ris f l g.name h.2 hl⟩
    | false =>
      simp only [Bool.false_eq_true, if_false]
      by_cases e : g.name = f.name
      · rw [if_pos e]
        exact ⟨hb, by rw [← e]; exact h.2⟩
      · rw [if_neg e]
        refine ⟨hb, ?_, h.2⟩
        rcases ltB_tri g.name f.name with h1 | h1 | h1
        · rw [h1] at hl; cases hl
        · exact absurd h1 e
        · exact h1
theorem put_mem (f g : Fl) : ∀ L : List Fl, g ∈ putL f L → g = f ∨ g ∈ L
  | [], h => .inl (by simpa [putL] using h)
  | x :: l, h => by
    unfold putL at h
    split at h
    · rcases List.mem_cons.1 h with rfl | h
      · exact .inr List.mem_cons_self
      · rcases put_mem f g l h with h | h
        · exact .inl h
        · exact .inr (List.mem_cons_of_mem _ h)
    · split at h
      · rcases List.mem_cons.1 h with rfl | h
        · exact .inl rfl
        · exact .inr (List.mem_cons_of_mem _ h)
      · rcases List.mem_cons.1 h with rfl | h
        · exact .inl rfl
        · exact .inr h
theorem del_ris (n : ByteArray) : ∀ (L : List Fl) (b : ByteArray), ris b L → ris b (del n L)
  | [], _, _ => trivial
  | g :: l, b, h => by
    have ih := del_ris n l g.name h.2
    unfold del at ih ⊢
    rw [List.filter_cons]
    split
    · exact ⟨h.1, ih⟩
    · exact ris_weak h.1 ih
theorem empty_lt {s : ByteArray} (h : named s = true) : ltB ⟨#[]⟩ s = true := by
  unfold named at h
  rw [Bool.and_eq_true, Bool.and_eq_true, decide_eq_true_iff] at h
  have h1 : 1 ≤ s.data.toList.length := h.1.1
  unfold ltB
  rw [toList_data, toList_data]
  cases hs : s.data.toList with
  | nil => rw [hs] at h1; simp at h1
  | cons a l => rfl
theorem put_len (f : Fl) (L : List Fl) (b : ByteArray) (h : ris b L) : (putL f L).length = L.length + if (getF f.name L).isSome then 0 else 1 := by
  have hle := low_le f.name L
  have hg := getF_low f.name L b h
  rw [putL_cut f L b h, List.length_append, List.length_take, List.length_cons, List.length_drop]
  cases hf : getF f.name L with
  | none => simp; omega
  | some x =>
    rw [hf] at hg
    have : low f.name L < L.length := by
      rcases Nat.lt_or_ge (low f.name L) L.length with h1 | h1
      · exact h1
      · rw [List.getElem?_eq_none h1] at hg; cases hg
    simp
    omega
theorem good_put {f : Fl} {L : List Fl} (h : goodD L = true) (hn : named f.name = true) (hf : fits f = true) (hl : (getF f.name L).isSome = true ∨ L.length < 400) : goodD (putL f L) = true := by
  obtain ⟨h1, h2, h3⟩ := (goodD_iff L).1 h
  refine (goodD_iff _).2 ⟨?_, put_ris f L _ h2 (empty_lt hn), fun g hg => ?_⟩
  · rw [put_len f L _ h2]
    rcases hl with hl | hl
    · simp [hl]; omega
    · split <;> omega
  · rcases put_mem f g L hg with rfl | hg
    · exact ⟨hn, hf⟩
    · exact h3 g hg
theorem good_del {n : ByteArray} {L : List Fl} (h : goodD L = true) : goodD (del n L) = true := by
  obtain ⟨h1, h2, h3⟩ := (goodD_iff L).1 h
  exact (goodD_iff _).2 ⟨Nat.le_trans (List.length_filter_le _ _) h1, del_ris n L _ h2, fun g hg => h3 g ((List.mem_filter.1 hg).1)⟩
theorem fits_get {n : ByteArray} {L : List Fl} {f : Fl} (h : goodD L = true) (k : getF n L = some f) : named n = true ∧ fits f = true := by
  obtain ⟨h1, h2⟩ := getF_name k
  have := ((goodD_iff L).1 h).2.2 f h2
  rw [h1] at this
  exact this
end Go.Proofs.YtmikfmcgddmplaaGreatDoor
