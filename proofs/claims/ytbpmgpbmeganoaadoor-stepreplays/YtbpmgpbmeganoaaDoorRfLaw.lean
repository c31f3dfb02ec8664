/- refs.Set, plain: what is set is there, others are as they were, and it can be set back; settles. -/
import Derived.Test.YtbpmgpbmeganoaaDoorRfSame
namespace Go.Proofs.YtbpmgpbmeganoaaDoor
open Go.RowKit

theorem setR_ok {L : List Rf} {n o i : ByteArray} (h : (setR L n o i).2 = 0) : goodR L = true ∧ namedR n = true ∧ isId o = true ∧ isId i = true ∧ idAt n L = o ∧ (changed L n i).length ≤ 32 ∧ setR L n o i = (changed L n i, 0) := by
  unfold setR at h ⊢
  cases hG : goodR L
  · rw [hG] at h; simp at h
  cases hn : namedR n
  · rw [hG, hn] at h; simp at h
  cases ho : isId o
  · rw [hG, hn, ho] at h; simp at h
  cases hi : isId i
  · rw [hG, hn, ho, hi] at h; simp at h
  rw [hG, hn, ho, hi] at h
  simp only [Bool.not_true, Bool.or_false, Bool.false_eq_true, if_false] at h ⊢
  by_cases hq : idAt n L = o
  · rw [if_neg (fun k => k hq)] at h ⊢
    by_cases h32 : 32 < (changed L n i).length
    · rw [if_pos h32] at h; simp at h
    · rw [if_neg h32]
      exact ⟨trivial, trivial, trivial, trivial, hq, by omega, rfl⟩
  · rw [if_pos hq] at h; simp at h
theorem setR_no {L : List Rf} {n o i : ByteArray} (h : ¬ (setR L n o i).2 = 0) : (setR L n o i).1 = [] := by
  unfold setR at h ⊢
  split
  · rfl
  · rename_i h1
    rw [if_neg h1] at h
    split
    · rfl
    · rename_i h2
      rw [if_neg h2] at h
      split
      · rfl
      · rename_i h3
        rw [if_neg h3] at h
        split
        · rfl
        · rename_i h4
          rw [if_neg h4] at h
          exact absurd rfl h
theorem id_size {i : ByteArray} (h : isId i = true) : i.size = 0 ∨ i.size = 32 := by
  unfold isId at h
  rw [Bool.or_eq_true, decide_eq_true_iff, decide_eq_true_iff] at h
  exact h
theorem empty_of {i : ByteArray} (h : i.size = 0) : i = ⟨#[]⟩ := bytes_eq (List.eq_nil_of_length_eq_zero h)
theorem changed_good {L : List Rf} {n i : ByteArray} (hG : goodR L = true) (hn : namedR n = true) (hi : isId i = true) (hl : (changed L n i).length ≤ 32) : goodR (changed L n i) = true := by
  obtain ⟨_, hr, hall⟩ := (goodR_iff L).1 hG
  refine (goodR_iff _).2 ⟨hl, ?_, fun f hf => ?_⟩
  · unfold changed
    split
    · exact delR_rrs n L _ hr
    · exact putR_rrs ⟨n, i⟩ L _ hr (empty_ltR (named_ne hn))
  · unfold changed at hf
    split at hf
    · exact hall f (List.mem_filter.1 hf).1
    · rename_i h0
      rcases putR_mem ⟨n, i⟩ f L hf with rfl | hf
      · exact ⟨hn, (id_size hi).resolve_left h0⟩
      · exact hall f hf
theorem changed_at {L : List Rf} (hG : goodR L = true) (n i m : ByteArray) : idAt m (changed L n i) = if n = m then i else idAt m L := by
  obtain ⟨_, hr, _⟩ := (goodR_iff L).1 hG
  unfold changed
  split
  · rename_i h0
    unfold idAt
    rw [getR_del]
    by_cases e : n = m
    · rw [if_pos e, if_pos e]; exact (empty_of h0).symm
    · rw [if_neg e, if_neg e]
  · unfold idAt
    rw [getR_put m ⟨n, i⟩ L _ hr]
    simp only
    by_cases e : n = m
    · rw [if_pos e, if_pos e]
    · rw [if_neg e, if_neg e]
theorem ahead_app (n : ByteArray) (X Y : List Rf) : aheadR n (X ++ Y) = aheadR n X ++ aheadR n Y := List.filter_append ..
theorem behind_app (n : ByteArray) (X Y : List Rf) : behindR n (X ++ Y) = behindR n X ++ behindR n Y := List.filter_append ..
theorem ahead_ahead (n : ByteArray) (L : List Rf) : aheadR n (aheadR n L) = aheadR n L := by
  unfold aheadR
  rw [List.filter_filter]
  congr 1
  funext f
  exact Bool.and_self _
theorem behind_behind (n : ByteArray) (L : List Rf) : behindR n (behindR n L) = behindR n L := by
  unfold behindR
  rw [List.filter_filter]
  congr 1
  funext f
  exact Bool.and_self _
theorem ahead_behind (n : ByteArray) (L : List Rf) : aheadR n (behindR n L) = [] := by
  unfold aheadR behindR
  rw [List.filter_eq_nil_iff]
  intro f hf
  rw [Bool.not_eq_true]
  exact ltB_asym (List.mem_filter.1 hf).2
theorem behind_ahead (n : ByteArray) (L : List Rf) : behindR n (aheadR n L) = [] := by
  unfold aheadR behindR
  rw [List.filter_eq_nil_iff]
  intro f hf
  rw [Bool.not_eq_true]
  exact ltB_asym (List.mem_filter.1 hf).2
theorem changed_twice {L : List Rf} {b b' : ByteArray} (h : rrs b L) (n i o : ByteArray) (h' : rrs b' (changed L n i)) : changed (changed L n i) n o = changed L n o := by
  rw [changed_parts h' n o, changed_parts h n i, changed_parts h n o]
  have e1 : aheadR n (if i.size = 0 then [] else [(⟨n, i⟩ : Rf)]) = [] := by
    split
    · rfl
    · unfold aheadR; rw [List.filter_cons, ltB_irr]; rfl
  have e2 : behindR n (if i.size = 0 then [] else [(⟨n, i⟩ : Rf)]) = [] := by
    split
    · rfl
    · unfold behindR; rw [List.filter_cons, ltB_irr]; rfl
  rw [ahead_app, ahead_app, behind_app, behind_app, ahead_ahead, ahead_behind, behind_ahead, behind_behind, e1, e2]
  simp
theorem changed_self {L : List Rf} (hG : goodR L = true) (n : ByteArray) : changed L n (idAt n L) = L := by
  obtain ⟨_, hr, hall⟩ := (goodR_iff L).1 hG
  have h0 := idAt_zero hG n
  unfold changed
  split
  · rename_i h1
    have := h0.1 h1
    unfold delR
    rw [List.filter_eq_self]
    intro f hf
    have hg : getRf n L = none := by
      cases hq : getRf n L with
      | none => rfl
      | some x => rw [hq] at this; cases this
    unfold getRf at hg
    rw [List.find?_eq_none] at hg
    simpa using hg f hf
  · rename_i h1
    have hs : hasR n L = true := by
      unfold hasR
      cases hq : (getRf n L).isSome with
      | true => rfl
      | false => exact absurd (h0.2 hq) h1
    obtain ⟨x, hx, hxn, hg, hlt⟩ := hasR_some hr hs
    have hid : idAt n L = x.id := by unfold idAt; rw [hg]
    have hc := putR_cut ⟨n, idAt n L⟩ L _ hr
    simp only at hc
    rw [hc, show (getRf n L).isSome = true from hs, if_pos rfl]
    have hx2 : L[rlow n L] = ⟨n, idAt n L⟩ := by
      obtain ⟨_, e⟩ := List.getElem?_eq_some_iff.1 hx
      rw [e, hid, ← hxn]
    rw [← hx2, ← List.drop_eq_getElem_cons hlt, List.take_append_drop]
theorem set_back {L : List Rf} {n i : ByteArray} (h : (setR L n (idAt n L) i).2 = 0) :
    goodR (changed L n i) = true ∧ idAt n (changed L n i) = i ∧ setR (changed L n i) n i (idAt n L) = (L, 0) := by
  obtain ⟨hG, hn, ho, hi, _, hl, _⟩ := setR_ok h
  obtain ⟨hl0, hr, _⟩ := (goodR_iff L).1 hG
  have hG2 := changed_good hG hn hi hl
  obtain ⟨_, hr2, _⟩ := (goodR_iff _).1 hG2
  have hat : idAt n (changed L n i) = i := by rw [changed_at hG, if_pos rfl]
  refine ⟨hG2, hat, ?_⟩
  have hc : changed (changed L n i) n (idAt n L) = L := by rw [changed_twice hr n i _ hr2, changed_self hG]
  unfold setR
  rw [hG2, hn, hi, ho, hat, hc]
  simp only [Bool.not_true, Bool.or_false, Bool.false_eq_true, if_false]
  rw [if_neg (fun k => k rfl), if_neg (by omega)]
theorem set_others {L : List Rf} {n o i : ByteArray} (h : (setR L n o i).2 = 0) :
    goodR L = true ∧ goodR (changed L n i) = true ∧ (∀ m, n ≠ m → idAt m (changed L n i) = idAt m L) ∧ ((setR (changed L n i) n o i).2 = 0 ↔ o = i) := by
  obtain ⟨hG, hn, ho, hi, _, hl, _⟩ := setR_ok h
  obtain ⟨hl0, hr, _⟩ := (goodR_iff L).1 hG
  have hG2 := changed_good hG hn hi hl
  obtain ⟨_, hr2, _⟩ := (goodR_iff _).1 hG2
  have hat : idAt n (changed L n i) = i := by rw [changed_at hG, if_pos rfl]
  refine ⟨hG, hG2, fun m hm => by rw [changed_at hG, if_neg hm], ?_⟩
  have hc : changed (changed L n i) n i = changed L n i := changed_twice hr n i _ hr2
  unfold setR
  rw [hG2, hn, hi, ho, hat, hc]
  simp only [Bool.not_true, Bool.or_false, Bool.false_eq_true, if_false]
  by_cases e : o = i
  · subst e
    rw [if_neg (fun k => k rfl), if_neg (by omega)]
    simp
  · rw [if_pos (fun k => e k.symm)]
    simp [e]
def abT : ByteArray := ⟨#[97, 47, 98]⟩
def idT : ByteArray := ⟨#[48, 49, 50, 51, 52, 53, 54, 55, 56, 57, 97, 98, 99, 100, 101, 102, 48, 49, 50, 51, 52, 53, 54, 55, 56, 57, 97, 98, 99, 100, 101, 102]⟩
theorem settles_set : setR [] abT ⟨#[]⟩ idT = ([⟨abT, idT⟩], 0) := by decide +kernel
theorem settles_get : goodR [⟨abT, idT⟩] = true ∧ idAt abT [⟨abT, idT⟩] = idT := by decide +kernel
end Go.Proofs.YtbpmgpbmeganoaaDoor
