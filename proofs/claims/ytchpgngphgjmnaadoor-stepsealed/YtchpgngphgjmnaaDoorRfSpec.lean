/- Texts in one: RfMath, RfSpec. -/
import Derived.Test.YtchpgngphgjmnaaDoorDkMath
/- Lists of refs by names, plain: made out of DkMath (wip/tools/genrf.py). -/
namespace Go.Proofs.YtchpgngphgjmnaaDoor
open Go.RowKit

/-- a ref -/
structure Rf where
  name : ByteArray
  id : ByteArray
  deriving DecidableEq
def rrs : ByteArray → List Rf → Prop
  | _, [] => True
  | b, f :: l => ltB b f.name = true ∧ rrs f.name l
def rlow (n : ByteArray) : List Rf → Nat
  | [] => 0
  | f :: l => if ltB f.name n then rlow n l + 1 else 0
def getRf (n : ByteArray) (L : List Rf) : Option Rf := L.find? fun f => decide (f.name = n)
def putR (f : Rf) : List Rf → List Rf
  | [] => [f]
  | x :: l => if ltB x.name f.name then x :: putR f l else if x.name = f.name then f :: l else f :: x :: l
def delR (n : ByteArray) (L : List Rf) : List Rf := L.filter fun f => !decide (f.name = n)
theorem rrs_lt : ∀ {L : List Rf} {b : ByteArray}, rrs b L → ∀ f ∈ L, ltB b f.name = true
  | g :: l, b, h, f, hf => by
    rcases List.mem_cons.1 hf with rfl | hf
    · exact h.1
    · exact ltB_trans h.1 (rrs_lt h.2 f hf)
theorem rrs_weak : ∀ {L : List Rf} {a b : ByteArray}, ltB a b = true → rrs b L → rrs a L
  | [], _, _, _, _ => trivial
  | _ :: _, _, _, h, k => ⟨ltB_trans h k.1, k.2⟩
theorem rrs_app : ∀ {L M : List Rf} {b : ByteArray}, rrs b (L ++ M) → rrs b L
  | [], _, _, _ => trivial
  | _ :: _, _, _, h => ⟨h.1, rrs_app h.2⟩
theorem rlow_le (n : ByteArray) : ∀ L : List Rf, rlow n L ≤ L.length
  | [] => Nat.le_refl _
  | f :: l => by
    have := rlow_le n l
    unfold rlow
    split
    · simp; omega
    · simp
theorem rlow_split (n : ByteArray) : ∀ (L : List Rf) (b : ByteArray), rrs b L → ∀ (k : Nat) (f : Rf), L[k]? = some f → (ltB f.name n = true ↔ k < rlow n L)
  | [], _, _, k, f, hk => by simp at hk
  | g :: l, b, h, k, f, hk => by
    unfold rlow
    cases k with
    | zero =>
      simp at hk
      subst hk
      cases hg : ltB g.name n <;> simp
    | succ k =>
      rw [List.getElem?_cons_succ] at hk
      have ih := rlow_split n l g.name h.2 k f hk
      cases hg : ltB g.name n with
      | true => simp [ih]
      | false =>
        simp only [Bool.false_eq_true, if_false, Nat.not_lt_zero, iff_false, Bool.not_eq_true]
        have h1 := rrs_lt h.2 f (List.mem_of_getElem? hk)
        cases hf : ltB f.name n with
        | false => rfl
        | true => rw [ltB_trans h1 hf] at hg; cases hg
theorem getR_low (n : ByteArray) : ∀ (L : List Rf) (b : ByteArray), rrs b L → getRf n L = match L[rlow n L]? with
    | none => none
    | some f => if f.name = n then some f else none
  | [], _, _ => rfl
  | g :: l, b, h => by
    have ih := getR_low n l g.name h.2
    unfold getRf at ih ⊢
    unfold rlow
    rw [List.find?_cons]
    cases hg : ltB g.name n with
    | true =>
      have hne : ¬ g.name = n := ltB_ne hg
      simp only [hne, decide_false, if_true, List.getElem?_cons_succ]
      exact ih
    | false =>
      by_cases e : g.name = n
      · simp [e]
      · simp only [e, decide_false, Bool.false_eq_true, if_false, List.getElem?_cons_zero]
        rw [List.find?_eq_none]
        intro f hf
        have h1 := rrs_lt h.2 f hf
        rcases ltB_tri n g.name with h2 | h2 | h2
        · have := ltB_ne (ltB_trans h2 h1)
          rw [decide_eq_true_eq]
          exact fun q => this q.symm
        · exact absurd h2.symm e
        · rw [h2] at hg; cases hg
theorem getR_name {n : ByteArray} {L : List Rf} {f : Rf} (h : getRf n L = some f) : f.name = n ∧ f ∈ L := by
  unfold getRf at h
  have h1 := List.find?_some h
  simp only [decide_eq_true_eq] at h1
  exact ⟨h1, List.mem_of_find?_eq_some h⟩
theorem putR_cut (f : Rf) : ∀ (L : List Rf) (b : ByteArray), rrs b L → putR f L = L.take (rlow f.name L) ++ f :: L.drop (rlow f.name L + if (getRf f.name L).isSome then 1 else 0)
  | [], _, _ => rfl
  | g :: l, b, h => by
    have ih := putR_cut f l g.name h.2
    have hg := getR_low f.name (g :: l) b h
    have hg2 := getR_low f.name l g.name h.2
    unfold putR
    unfold rlow at hg ⊢
    cases hl : ltB g.name f.name with
    | true =>
      simp only [hl, if_true, List.getElem?_cons_succ] at hg
      rw [← hg2] at hg
      rw [hg]
      simp only [if_true, List.take_succ_cons, List.cons_append]
      rw [ih]
      congr 2
      rw [show rlow f.name l + 1 + (if (getRf f.name l).isSome = true then 1 else 0) = (rlow f.name l + if (getRf f.name l).isSome = true then 1 else 0) + 1 from by omega, List.drop_succ_cons]
    | false =>
      simp only [hl, Bool.false_eq_true, if_false, List.getElem?_cons_zero] at hg
      rw [hg]
      by_cases e : g.name = f.name
      · simp [e]
      · simp [e]
theorem delR_cut (n : ByteArray) : ∀ (L : List Rf) (b : ByteArray), rrs b L → (getRf n L).isSome = true → delR n L = L.take (rlow n L) ++ L.drop (rlow n L + 1)
  | [], _, _, h => by cases h
  | g :: l, b, h, hs => by
    have ih := delR_cut n l g.name h.2
    have hg := getR_low n (g :: l) b h
    have hg2 := getR_low n l g.name h.2
    unfold delR at ih ⊢
    unfold rlow at hg ⊢
    rw [List.filter_cons]
    cases hl : ltB g.name n with
    | true =>
      simp only [hl, if_true, List.getElem?_cons_succ] at hg
      rw [← hg2] at hg
      rw [hg] at hs
      have hne : ¬ g.name = n := ltB_ne hl
      simp only [hne, decide_false, Bool.not_false, if_true, List.take_succ_cons, List.cons_append, List.drop_succ_cons]
      rw [ih hs]
    | false =>
      simp only [hl, Bool.false_eq_true, if_false, List.getElem?_cons_zero] at hg
      by_cases e : g.name = n
      · simp only [e, decide_true, Bool.not_true, Bool.false_eq_true, if_false, List.take_zero, List.nil_append, Nat.zero_add, List.drop_succ_cons, List.drop_zero]
        rw [List.filter_eq_self]
        intro f hf
        have := ltB_ne (rrs_lt h.2 f hf)
        have hn : ¬ f.name = n := fun q => this (e.trans q.symm)
        simp [hn]
      · rw [if_neg e] at hg
        rw [hg] at hs
        cases hs
theorem getR_put (n : ByteArray) (f : Rf) : ∀ (L : List Rf) (b : ByteArray), rrs b L → getRf n (putR f L) = if f.name = n then some f else getRf n L
  | [], _, _ => by
    unfold putR getRf
    by_cases e : f.name = n <;> simp [e]
  | g :: l, b, h => by
    have ih := getR_put n f l g.name h.2
    unfold putR
    unfold getRf at ih ⊢
    cases hl : ltB g.name f.name with
    | true =>
      simp only [if_true, List.find?_cons]
      by_cases e : g.name = n
      · have hne : ¬ f.name = n := fun q => ltB_ne hl (e.trans q.symm)
        simp [e, hne]
      · simp only [e, decide_false]
        exact ih
    | false =>
      simp only [Bool.false_eq_true, if_false]
      by_cases e : g.name = f.name
      · rw [if_pos e]
        simp only [List.find?_cons, e]
        by_cases q : f.name = n <;> simp [q]
      · rw [if_neg e]
        simp only [List.find?_cons]
        by_cases q : f.name = n <;> simp [q]
theorem getR_del (n m : ByteArray) (L : List Rf) : getRf n (delR m L) = if m = n then none else getRf n L := by
  unfold getRf delR
  rw [List.find?_filter]
  by_cases e : m = n
  · subst e
    rw [if_pos rfl, List.find?_eq_none]
    intro f _
    by_cases q : f.name = m <;> simp [q]
  · rw [if_neg e]
    congr 1
    funext f
    by_cases q : f.name = n
    · have : ¬ n = m := fun h => e h.symm
      simp [q, this]
    · simp [q]
theorem putR_rrs (f : Rf) : ∀ (L : List Rf) (b : ByteArray), rrs b L → ltB b f.name = true → rrs b (putR f L)
  | [], _, _, h => ⟨h, trivial⟩
  | g :: l, b, h, hb => by
    unfold putR
    cases hl : ltB g.name f.name with
    | true => exact ⟨h.1, putR_rrs f l g.name h.2 hl⟩
    | false =>
      simp only [Bool.false_eq_true, if_false]
      by_cases e : g.name = f.name
      · rw [if_pos e]
        exact ⟨hb, by rw [← e]; exact h.2⟩
      · rw [if_neg e]
        refine ⟨hb, ?_, h.2⟩
        rcases ltB_tri g.name f.name with h1 | h1 | h1
        · rw [h1] at hl; cases hl
        · exact absurd h1 e
        · exact h1
theorem putR_mem (f g : Rf) : ∀ L : List Rf, g ∈ putR f L → g = f ∨ g ∈ L
  | [], h => .inl (by simpa [putR] using h)
  | x :: l, h => by
    unfold putR at h
    split at h
    · rcases List.mem_cons.1 h with rfl | h
      · exact .inr List.mem_cons_self
      · rcases putR_mem f g l h with h | h
        · exact .inl h
        · exact .inr (List.mem_cons_of_mem _ h)
    · split at h
      · rcases List.mem_cons.1 h with rfl | h
        · exact .inl rfl
        · exact .inr (List.mem_cons_of_mem _ h)
      · rcases List.mem_cons.1 h with rfl | h
        · exact .inl rfl
        · exact .inr h
theorem delR_rrs (n : ByteArray) : ∀ (L : List Rf) (b : ByteArray), rrs b L → rrs b (delR n L)
  | [], _, _ => trivial
  | g :: l, b, h => by
    have ih := delR_rrs n l g.name h.2
    unfold delR at ih ⊢
    rw [List.filter_cons]
    split
    · exact ⟨h.1, ih⟩
    · exact rrs_weak h.1 ih
theorem putR_len (f : Rf) (L : List Rf) (b : ByteArray) (h : rrs b L) : (putR f L).length = L.length + if (getRf f.name L).isSome then 0 else 1 := by
  have hle := rlow_le f.name L
  have hg := getR_low f.name L b h
  rw [putR_cut f L b h, List.length_append, List.length_take, List.length_cons, List.length_drop]
  cases hf : getRf f.name L with
  | none => simp; omega
  | some x =>
    rw [hf] at hg
    have : rlow f.name L < L.length := by
      rcases Nat.lt_or_ge (rlow f.name L) L.length with h1 | h1
      · exact h1
      · rw [List.getElem?_eq_none h1] at hg; cases hg
    simp
    omega
end Go.Proofs.YtchpgngphgjmnaaDoor

/- What package refs answers, plain. -/
namespace Go.Proofs.YtchpgngphgjmnaaDoor
open Go.RowKit

def inP (c : UInt8) : Bool := (decide (97 ≤ c.toNat) && decide (c.toNat ≤ 122)) || (decide (48 ≤ c.toNat) && decide (c.toNat ≤ 57)) || decide (c.toNat = 45) || decide (c.toNat = 95)
def okP (l : List UInt8) : Bool := !l.isEmpty && l.all inP
/-- what stands before, between and behind the slashes -/
def splitP : List UInt8 → List UInt8 → List (List UInt8)
  | acc, [] => [acc]
  | acc, c :: r => if c.toNat = 47 then acc :: splitP [] r else splitP (acc ++ [c]) r
def namedR (s : ByteArray) : Bool := decide (s.size ≤ 60) && (splitP [] s.data.toList).all okP
/-- the same, byte by byte, of a text with a slash behind it: p bytes of a piece have come -/
def walkP : Nat → List UInt8 → Bool
  | _, [] => true
  | p, c :: r => if c.toNat = 47 then (if p = 0 then false else walkP 0 r) else if inP c then walkP (p + 1) r else false
theorem split_bad : ∀ (l acc : List UInt8), acc.all inP = false → (splitP acc l).all okP = false
  | [], acc, h => by
    unfold splitP okP
    simp [h]
  | c :: r, acc, h => by
    have ih := split_bad r (acc ++ [c]) (by rw [List.all_append, h]; rfl)
    unfold splitP
    split
    · have : okP acc = false := by unfold okP; rw [h, Bool.and_false]
      rw [List.all_cons, this, Bool.false_and]
    · exact ih
theorem walk_split : ∀ (l acc : List UInt8), acc.all inP = true → walkP acc.length (l ++ [47]) = (splitP acc l).all okP
  | [], acc, h => by
    cases acc with
    | nil => decide
    | cons a acc => simp [walkP, splitP, okP, h]
  | c :: r, acc, h => by
    rw [List.cons_append, walkP, splitP]
    by_cases e : c.toNat = 47
    · rw [if_pos e, if_pos e, List.all_cons]
      cases acc with
      | nil => simp [okP]
      | cons a acc =>
        have h2 := walk_split r [] rfl
        have h3 : okP (a :: acc) = true := by unfold okP; rw [h]; rfl
        rw [h3, Bool.true_and, if_neg (by simp)]
        exact h2
    · rw [if_neg e, if_neg e]
      cases hc : inP c with
      | true =>
        have h2 := walk_split r (acc ++ [c]) (by rw [List.all_append, h]; simp [hc])
        rw [List.length_append] at h2
        exact h2
      | false =>
        rw [split_bad r (acc ++ [c]) (by rw [List.all_append, h]; simp [hc])]
        rfl
theorem named_walk (s : ByteArray) : namedR s = (walkP 0 (s.data.toList ++ [47]) && decide (s.size ≤ 60)) := by
  unfold namedR
  rw [Bool.and_comm]
  congr 1
  exact (walk_split _ [] rfl).symm
theorem walkP_zero_nil : walkP 0 [47] = false := by decide
def isId (s : ByteArray) : Bool := decide (s.size = 0) || decide (s.size = 32)
def goodLR : ByteArray → List Rf → Bool
  | _, [] => true
  | b, f :: l => namedR f.name && decide (f.id.size = 32) && ltB b f.name && goodLR f.name l
def goodR (L : List Rf) : Bool := decide (L.length ≤ 32) && goodLR ⟨#[]⟩ L
def idAt (n : ByteArray) (L : List Rf) : ByteArray := match getRf n L with
  | none => ⟨#[]⟩
  | some f => f.id
def changed (L : List Rf) (n i : ByteArray) : List Rf := if i.size = 0 then delR n L else putR ⟨n, i⟩ L
/-- what Set answers -/
def setR (L : List Rf) (n o i : ByteArray) : List Rf × Int :=
  if !goodR L then ([], 3) else if !namedR n || !isId o || !isId i then ([], 2) else if idAt n L ≠ o then ([], 9) else if 32 < (changed L n i).length then ([], 6) else (changed L n i, 0)
theorem named_ne {s : ByteArray} (h : namedR s = true) : 1 ≤ s.size := by
  rcases Nat.eq_zero_or_pos s.size with e | e
  · have : s.data.toList = [] := List.eq_nil_of_length_eq_zero e
    unfold namedR at h
    rw [this] at h
    simp [splitP, okP] at h
  · exact e
theorem named_le {s : ByteArray} (h : namedR s = true) : s.size ≤ 60 := by
  unfold namedR at h
  rw [Bool.and_eq_true, decide_eq_true_iff] at h
  exact h.1
theorem empty_ltR {s : ByteArray} (h : 1 ≤ s.size) : ltB ⟨#[]⟩ s = true := by
  have h1 : 1 ≤ s.data.toList.length := h
  unfold ltB
  rw [toList_data, toList_data]
  cases hs : s.data.toList with
  | nil => rw [hs] at h1; simp at h1
  | cons a l => rfl
theorem goodLR_iff : ∀ (L : List Rf) (b : ByteArray), goodLR b L = true ↔ rrs b L ∧ ∀ f ∈ L, namedR f.name = true ∧ f.id.size = 32
  | [], b => by simp [goodLR, rrs]
  | f :: l, b => by
    rw [goodLR, rrs, Bool.and_eq_true, Bool.and_eq_true, Bool.and_eq_true, goodLR_iff l, decide_eq_true_iff]
    constructor
    · rintro ⟨⟨⟨h1, h2⟩, h3⟩, h4, h5⟩
      refine ⟨⟨h3, h4⟩, fun g hg => ?_⟩
      rcases List.mem_cons.1 hg with rfl | hg
      · exact ⟨h1, h2⟩
      · exact h5 g hg
    · rintro ⟨⟨h3, h4⟩, h5⟩
      have h6 := h5 f List.mem_cons_self
      exact ⟨⟨⟨h6.1, h6.2⟩, h3⟩, h4, fun g hg => h5 g (List.mem_cons_of_mem _ hg)⟩
theorem goodR_iff (L : List Rf) : goodR L = true ↔ L.length ≤ 32 ∧ rrs ⟨#[]⟩ L ∧ ∀ f ∈ L, namedR f.name = true ∧ f.id.size = 32 := by
  unfold goodR
  rw [Bool.and_eq_true, goodLR_iff, decide_eq_true_iff]
end Go.Proofs.YtchpgngphgjmnaaDoor
