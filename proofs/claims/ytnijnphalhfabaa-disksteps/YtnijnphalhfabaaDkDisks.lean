/- keep.disks, law.disks; what a step leaves. -/
import Derived.Test.YtnijnphalhfabaaDkRead
namespace Go.Proofs.Ytnijnphalhfabaa
open Go.RowKit

theorem good_sized {L : List Fl} (h : goodD L = true) : Sized L ∧ L.length ≤ 400 := by
  obtain ⟨h1, _, h3⟩ := (goodD_iff L).1 h
  refine ⟨fun f hf => ?_, h1⟩
  obtain ⟨k1, k2⟩ := h3 f hf
  unfold named at k1
  unfold fits at k2
  have k2 := of_decide_eq_true k2
  rw [Bool.and_eq_true, Bool.and_eq_true, decide_eq_true_iff, decide_eq_true_iff] at k1
  exact ⟨by omega, by omega, by omega⟩
def aT : ByteArray := ⟨#[97]⟩
def bT : ByteArray := ⟨#[98]⟩
theorem disks_step : stepP ⟨[], -1⟩ (wrP [] aT bT) = (⟨[⟨aT, ⟨#[]⟩, bT⟩], -1⟩, 0) := by decide +kernel
theorem disks_named : named ⟨#[97, 46, 98, 45, 99]⟩ = true := by decide +kernel
set_option maxRecDepth 100000 in
theorem disks_keep (w : World) : Calls Try.prog 27 #[] w fun e w' => e = .returned (.bool true) ∧ Below w.heap.size w w' := by
  have C1 : Hid (Calls Try.prog 12 #[.agg #[.slice none 0 0, .int .i64 (-1)], .string ⟨#[97]⟩, .string ⟨#[98]⟩] w (StEnd w (⟨[⟨aT, ⟨#[]⟩, bT⟩], -1⟩, 0))) := by
    have := Write_any [] aT bT (by decide) none 0 (-1) w (Fls.nil _ _ _) (fun f hf => by cases hf) (by simp) (by simp) (by decide)
    rw [disks_step] at this
    exact this
  have C2 : Hid (∀ V, Calls Try.prog 32 #[.string ⟨#[97, 46, 98, 45, 99]⟩] V fun e w' => e = .returned (.bool true) ∧ w' = V) := fun V => by
    have := Named_any ⟨#[97, 46, 98, 45, 99]⟩ V
    rw [disks_named] at this
    exact this
  go_enter Try.func27, Try.ntmps27
  go_wp2_with fail
  (with_reducible refine C1.out.mono ?_)
  clear C1
  rintro _ V ⟨A, c, rfl, _, _, b1⟩
  have b2 : Below w.heap.size w ((V.alloc (.cells dkZero 24)).setRow V.heap.size (dkArr [⟨aT, ⟨#[]⟩, bT⟩] A c (-1))) := b1.trans ((below_setRow ((Below.refl _ _).alloc (Nat.le_refl _) _) (Nat.le_refl _) _).mono b1.size)
  have AX : Arr ((V.alloc (.cells dkZero 24)).setRow V.heap.size (dkArr [⟨aT, ⟨#[]⟩, bT⟩] A c (-1))) V.heap.size 24 (dkArr [⟨aT, ⟨#[]⟩, bT⟩] A c (-1)) := (Arr.new _ _ _).row _
  go_upto_region 2 with (refine wpList_store_row rfl 24 _ _ rfl V.heap.size (dkArr [⟨aT, ⟨#[]⟩, bT⟩] A c (-1)) rfl rfl 24 dkZero (Arr.new V _ _) (dkInfo _ _ _ _) rfl (dkArr_one _ _ _ _) ?_)
  refine wp_forget (fun W => Arr W V.heap.size 24 (dkArr [⟨aT, ⟨#[]⟩, bT⟩] A c (-1)) ∧ Below w.heap.size w W) (by exact ⟨AX, b2⟩) ?_
  clear AX b2 b1
  generalize V.heap.size = q
  rintro W ⟨AX, b2⟩
  have c0 : W.cell? ⟨q, 0, none⟩ = some (.slice A 1 c) := AX.cell 0
  go_wp2_with fail
  (with_reducible refine (C2.out W).mono ?_)
  rintro _ W ⟨rfl, rfl⟩
  go_wp2_with fail
  go_ret
  exact ⟨rfl, b2⟩
set_option maxRecDepth 100000 in
theorem disks_law (w : World) : Calls Try.prog 20 #[] w fun e w' => e = .returned (.bool true) ∧ Below w.heap.size w w' := by
  have C1 : Hid (Calls Try.prog 12 #[.agg #[.slice none 0 0, .int .i64 (-1)], .string ⟨#[97]⟩, .string ⟨#[98]⟩] w (StEnd w (⟨[⟨aT, ⟨#[]⟩, bT⟩], -1⟩, 0))) := by
    have := Write_any [] aT bT (by decide) none 0 (-1) w (Fls.nil _ _ _) (fun f hf => by cases hf) (by simp) (by simp) (by decide)
    rw [disks_step] at this
    exact this
  have C2 : Hid (∀ V, Calls Try.prog 32 #[.string ⟨#[97, 46, 98, 45, 99]⟩] V fun e w' => e = .returned (.bool true) ∧ w' = V) := fun V => by
    have := Named_any ⟨#[97, 46, 98, 45, 99]⟩ V
    rw [disks_named] at this
    exact this
  go_enter Try.func20, Try.ntmps20
  go_wp2_with fail
  (with_reducible refine C1.out.mono ?_)
  clear C1
  rintro _ V ⟨A, c, rfl, _, _, b1⟩
  have b2 : Below w.heap.size w ((V.alloc (.cells dkZero 24)).setRow V.heap.size (dkArr [⟨aT, ⟨#[]⟩, bT⟩] A c (-1))) := b1.trans ((below_setRow ((Below.refl _ _).alloc (Nat.le_refl _) _) (Nat.le_refl _) _).mono b1.size)
  have AX : Arr ((V.alloc (.cells dkZero 24)).setRow V.heap.size (dkArr [⟨aT, ⟨#[]⟩, bT⟩] A c (-1))) V.heap.size 24 (dkArr [⟨aT, ⟨#[]⟩, bT⟩] A c (-1)) := (Arr.new _ _ _).row _
  go_upto_region 2 with (refine wpList_store_row rfl 24 _ _ rfl V.heap.size (dkArr [⟨aT, ⟨#[]⟩, bT⟩] A c (-1)) rfl rfl 24 dkZero (Arr.new V _ _) (dkInfo _ _ _ _) rfl (dkArr_one _ _ _ _) ?_)
  refine wp_forget (fun W => Arr W V.heap.size 24 (dkArr [⟨aT, ⟨#[]⟩, bT⟩] A c (-1)) ∧ Below w.heap.size w W) (by exact ⟨AX, b2⟩) ?_
  clear AX b2 b1
  generalize V.heap.size = q
  rintro W ⟨AX, b2⟩
  have c0 : W.cell? ⟨q, 0, none⟩ = some (.slice A 1 c) := AX.cell 0
  go_wp2_with fail
  (with_reducible refine (C2.out W).mono ?_)
  rintro _ W ⟨rfl, rfl⟩
  go_wp2_with fail
  go_ret
  exact ⟨rfl, b2⟩
/-- what a step that says no leaves -/
theorem step_no {d : Dk} {r : Except Int (List Fl)} (h : (stepP d r).2 ≠ 0) : (stepP d r).1 = d := by
  unfold stepP at h ⊢
  split
  · rfl
  · rename_i h1
    rw [if_neg h1] at h
    split
    · rfl
    · rename_i h2
      rw [if_neg h2] at h
      cases r with
      | error e => rfl
      | ok L => exact absurd rfl h
theorem step_yes {d : Dk} {r : Except Int (List Fl)} (hr : ∀ e, r = .error e → e ≠ 0) (h : (stepP d r).2 = 0) : goodD d.files = true ∧ d.fuse ≠ 0 ∧ ∃ L, r = .ok L ∧ stepP d r = (⟨L, burnt d.fuse⟩, 0) := by
  unfold stepP at h ⊢
  cases hg : goodD d.files with
  | false => rw [hg] at h; simp at h
  | true =>
    rw [hg] at h
    simp only [Bool.not_true, Bool.false_eq_true, if_false] at h ⊢
    by_cases hz : d.fuse = 0
    · rw [if_pos hz] at h; simp at h
    · rw [if_neg hz] at h ⊢
      cases r with
      | error e => exact absurd h (hr e rfl)
      | ok L => exact ⟨trivial, hz, L, rfl, rfl⟩
theorem rn_err {L : List Fl} {n m : ByteArray} : ∀ e, rnP L n m = .error e → e ≠ 0 := fun e h => by
  unfold rnP at h
  split at h
  · cases h; decide
  · split at h
    · cases h; decide
    · cases h
theorem rn_ok {L L' : List Fl} {n m : ByteArray} (hG : goodD L = true) (h : rnP L n m = .ok L') : ∃ f, getF n L = some f ∧ getF m L' = some ⟨m, f.safe, f.tail⟩ ∧ (n ≠ m → getF n L' = none) ∧ goodD L' = true := by
  obtain ⟨h4, hr, hall⟩ := (goodD_iff L).1 hG
  unfold rnP at h
  cases hm : named m with
  | false => rw [hm] at h; simp at h
  | true =>
    rw [hm] at h
    simp only [Bool.not_true, Bool.false_eq_true, if_false] at h
    cases hf : getF n L with
    | none => rw [hf] at h; cases h
    | some f =>
      rw [hf] at h
      cases h
      have hdr := del_ris n L _ hr
      refine ⟨f, rfl, ?_, fun hne => ?_, ?_⟩
      · rw [getF_put m _ _ _ hdr, if_pos rfl]
      · rw [getF_put n _ _ _ hdr, if_neg (fun e => hne e.symm), getF_del, if_pos rfl]
      · have hx := (fits_get hG hf).2
        refine good_put (good_del hG) hm hx (.inr ?_)
        have hn := getF_name hf
        have : (del n L).length < L.length := by
          have hs : (getF n L).isSome = true := by rw [hf]; rfl
          have hlt := (has_some hr (n := n) (by unfold hasN; exact hs))
          obtain ⟨_, _, _, _, hlt⟩ := hlt
          rw [del_cut n L _ hr hs, List.length_append, List.length_take, List.length_drop]
          omega
        omega
end Go.Proofs.Ytnijnphalhfabaa
