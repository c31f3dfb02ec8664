/- Texts in one: DkFuse, DkLaws. -/
import Derived.Test.YtkcnogmjnmnbdaaGreatDoorDkSave
import Derived.Test.YtkcnogmjnmnbdaaGreatDoorOPick
/- keep.DiskFuse: the walk. -/
namespace Go.Proofs.YtkcnogmjnmnbdaaGreatDoor
open Go.RowKit

theorem wr_no12 {L : List Fl} {n s : ByteArray} : ∀ e, wrP L n s = .error e → e ≠ 12 := fun e h => by
  unfold wrP at h
  split at h
  · cases h; decide
  · split at h
    · split at h
      · cases h; decide
      · split at h
        · cases h; decide
        · cases h
    · split at h
      · cases h; decide
      · cases h
/-- what a write upon a disk that is one comes to -/
theorem wr_step {L : List Fl} {n s : ByteArray} {z : Int} (hG : goodD L = true) (h0 : 0 ≤ z) : (z = 0 ∧ stepP ⟨L, z⟩ (wrP L n s) = (⟨L, z⟩, 12)) ∨
    (0 < z ∧ ∃ L', stepP ⟨L, z⟩ (wrP L n s) = (⟨L', z - 1⟩, 0) ∧ goodD L' = true) ∨ (0 < z ∧ ∃ e, stepP ⟨L, z⟩ (wrP L n s) = (⟨L, z⟩, e) ∧ e ≠ 0 ∧ e ≠ 12) := by
  unfold stepP
  simp only [hG, Bool.not_true, Bool.false_eq_true, if_false]
  by_cases hz : z = 0
  · exact .inl ⟨hz, by rw [if_pos hz]⟩
  · right
    rw [if_neg hz]
    cases hr : wrP L n s with
    | error e => exact .inr ⟨by omega, e, rfl, wr_err e hr, wr_no12 e hr⟩
    | ok L' =>
      refine .inl ⟨by omega, L', ?_, (wr_ok hG hr).2.2⟩
      simp only [burnt]
      rw [if_pos (by omega)]
theorem crash_good {L : List Fl} {z : Int} (hG : goodD L = true) (m : Nat) : crashD ⟨L, z⟩ (m : Int) = (⟨L.map (crashF m), -1⟩, 0) := by
  unfold crashD
  simp only [hG, Bool.not_true, Bool.false_or, Int.toNat_natCast]
  rw [if_neg (by simp)]
/-- where the law stands: the disk in its box -/
def FuRel (w : World) (i : Value) (wr : World) : Prop :=
  ∃ (k : Nat) (L : List Fl) (A : Option Addr) (c : Nat) (z : Int), i = .int .i64 (k : Int) ∧ k ≤ 8 ∧ goodD L = true ∧ 0 ≤ z ∧ z ≤ 4 ∧ L.length ≤ c ∧ Arr wr w.heap.size 37 (dkArr L A c z) ∧ Fls wr wr.heap.size A L ∧ Below w.heap.size w wr
end Go.Proofs.YtkcnogmjnmnbdaaGreatDoor

/- What Save leaves of other files, and of its own behind a crash: plain mathematics. -/
namespace Go.Proofs.YtkcnogmjnmnbdaaGreatDoor
open Go.RowKit

/-- a disk, and a file's bytes, as they were -/
def Keep (o : ByteArray) (d d' : Dk) : Prop := goodD d'.files = true ∧ getF o d'.files = getF o d.files
theorem keep_refl {o : ByteArray} {d : Dk} (h : goodD d.files = true) : Keep o d d := ⟨h, rfl⟩
theorem keep_trans {o : ByteArray} {a b c : Dk} (h : Keep o a b) (k : Keep o b c) : Keep o a c := ⟨k.1, k.2.trans h.2⟩
theorem step_keep {o : ByteArray} {d : Dk} {r : Except Int (List Fl)} (hG : goodD d.files = true) (h : ∀ L, r = .ok L → goodD L = true ∧ getF o L = getF o d.files) : Keep o d (stepP d r).1 := by
  unfold stepP
  simp only [hG, Bool.not_true, Bool.false_eq_true, if_false]
  split
  · exact keep_refl hG
  · cases r with
    | error e => exact keep_refl hG
    | ok L => exact h L rfl
theorem rm_keep {o n : ByteArray} {d : Dk} (hG : goodD d.files = true) (hn : o ≠ n) : Keep o d (stepP d (rmP d.files n)).1 := step_keep hG fun L h => by
  obtain ⟨rfl, h2⟩ := rm_ok hG h
  exact ⟨h2, by rw [getF_del, if_neg (fun e => hn e.symm)]⟩
theorem sy_keep {o n : ByteArray} {d : Dk} (hG : goodD d.files = true) (hn : o ≠ n) : Keep o d (stepP d (syP d.files n)).1 := step_keep hG fun L h => by
  obtain ⟨f, _, rfl, h2⟩ := sy_ok hG h
  exact ⟨h2, by rw [getF_put o _ _ _ ((goodD_iff _).1 hG).2.1, if_neg (fun e => hn e.symm)]⟩
theorem wr_keep {o n s : ByteArray} {d : Dk} (hG : goodD d.files = true) (hn : o ≠ n) : Keep o d (stepP d (wrP d.files n s)).1 := step_keep hG fun L h => by
  obtain ⟨_, ⟨f, _, rfl⟩, h2⟩ := wr_ok hG h
  exact ⟨h2, by rw [getF_put o _ _ _ ((goodD_iff _).1 hG).2.1, if_neg (fun e => hn e.symm)]⟩
theorem rn_list {L L' : List Fl} {n m : ByteArray} (h : rnP L n m = .ok L') : ∃ f, getF n L = some f ∧ L' = putL ⟨m, f.safe, f.tail⟩ (del n L) := by
  unfold rnP at h
  cases hm : named m with
  | false => rw [hm] at h; simp at h
  | true =>
    rw [hm] at h
    simp only [Bool.not_true, Bool.false_eq_true, if_false] at h
    cases hf : getF n L with
    | none => rw [hf] at h; cases h
    | some f => rw [hf] at h; cases h; exact ⟨f, rfl, rfl⟩
theorem rn_keep {o n m : ByteArray} {d : Dk} (hG : goodD d.files = true) (hn : o ≠ n) (hm : o ≠ m) : Keep o d (stepP d (rnP d.files n m)).1 := step_keep hG fun L h => by
  obtain ⟨_, _, _, _, h2⟩ := rn_ok hG h
  obtain ⟨f, _, rfl⟩ := rn_list h
  exact ⟨h2, by rw [getF_put o _ _ _ (del_ris _ _ _ ((goodD_iff _).1 hG).2.1), if_neg (fun e => hm e.symm), getF_del, if_neg (fun e => hn e.symm)]⟩
theorem then_keep {o : ByteArray} {d : Dk} {r : Dk × Int} {f : Dk → Dk × Int} (h : Keep o d r.1) (k : ∀ d', goodD d'.files = true → Keep o d' (f d').1) : Keep o d (thenD r f).1 := by
  unfold thenD
  split
  · exact h
  · exact keep_trans h (k _ h.1)
/-- Save leaves what is neither its file nor that with .new behind -/
theorem save_keep {o n s : ByteArray} {d : Dk} (hG : goodD d.files = true) (hn : o ≠ n) (hf : o ≠ newN n) : Keep o d (saveD d n s).1 := by
  unfold saveD
  simp only [hG, Bool.not_true, Bool.false_eq_true, if_false]
  split
  · exact keep_refl hG
  · refine then_keep (then_keep (then_keep ?_ fun d' h => wr_keep h hf) fun d' h => sy_keep h hf) fun d' h => rn_keep h hf hn
    split
    · exact rm_keep hG hf
    · exact keep_refl hG
theorem save_bad {n s : ByteArray} {d : Dk} (hG : goodD d.files = false) : (saveD d n s).1 = d := by
  unfold saveD
  simp [hG]
theorem step_bad {r : Except Int (List Fl)} {d : Dk} (hG : goodD d.files = false) : (stepP d r).1 = d := by
  unfold stepP
  simp [hG]
theorem read_keep {o : ByteArray} {d d' : Dk} (hG : goodD d.files = true) (h : Keep o d d') : readD d' o = readD d o := by
  unfold readD
  rw [hG, h.1, h.2]
theorem new_ne (n : ByteArray) : newN n ≠ n := fun e => by
  have := congrArg ByteArray.size e
  unfold newN at this
  rw [ByteArray.size_append] at this
  have : n.size + 4 = n.size := this
  omega
theorem crashF_name (k : Nat) (f : Fl) : (crashF k f).name = f.name := rfl
theorem ris_map (k : Nat) : ∀ (L : List Fl) (b : ByteArray), ris b L → ris b (L.map (crashF k))
  | [], _, _ => trivial
  | _ :: l, _, h => ⟨h.1, ris_map k l _ h.2⟩
theorem good_crash {L : List Fl} (hG : goodD L = true) (k : Nat) : goodD (L.map (crashF k)) = true := by
  obtain ⟨h1, h2, h3⟩ := (goodD_iff L).1 hG
  refine (goodD_iff _).2 ⟨by rw [List.length_map]; exact h1, ris_map k L _ h2, fun g hg => ?_⟩
  obtain ⟨f, hf, rfl⟩ := List.mem_map.1 hg
  obtain ⟨k1, k2⟩ := h3 f hf
  refine ⟨k1, ?_⟩
  unfold fits at k2 ⊢
  have k2 := of_decide_eq_true k2
  refine decide_eq_true ?_
  show (f.safe ++ f.tail.extract 0 (min k f.tail.size)).size + 0 ≤ 1048576
  rw [ByteArray.size_append, ByteArray.size_extract]
  omega
theorem get_crash (n : ByteArray) (k : Nat) : ∀ L : List Fl, getF n (L.map (crashF k)) = (getF n L).map (crashF k)
  | [] => rfl
  | f :: l => by
    have ih := get_crash n k l
    unfold getF at ih ⊢
    rw [List.map_cons, List.find?_cons, List.find?_cons]
    by_cases e : f.name = n
    · simp [crashF_name, e]
    · simp only [crashF_name, e, decide_false]
      exact ih
theorem app_none (s : ByteArray) : s ++ (⟨#[]⟩ : ByteArray) = s := by
  apply ByteArray.ext
  simp
theorem crash_still {f : Fl} (h : f.tail = ⟨#[]⟩) (k : Nat) : crashF k f = f := by
  obtain ⟨a, b, c⟩ := f
  obtain rfl : c = ⟨#[]⟩ := h
  unfold crashF
  simp only
  rw [show ((⟨#[]⟩ : ByteArray).extract 0 (min k (⟨#[]⟩ : ByteArray).size)) = ⟨#[]⟩ from by apply bytes_eq; rw [extract_drop]; simp, app_none]
/-- of what was safe, a save that says no leaves the file as it was, one that says yes the new one -/
theorem save_atomic {L : List Fl} {n s : ByteArray} {z : Int} (hG : goodD L = true) (ht : ∀ f ∈ L, f.tail = ⟨#[]⟩) (k : Nat) : goodD (saveD ⟨L, z⟩ n s).1.files = true ∧
    ((saveD ⟨L, z⟩ n s).2 = 0 → readD ⟨(saveD ⟨L, z⟩ n s).1.files.map (crashF k), -1⟩ n = (s, 0)) ∧
    ((saveD ⟨L, z⟩ n s).2 ≠ 0 → readD ⟨(saveD ⟨L, z⟩ n s).1.files.map (crashF k), -1⟩ n = readD ⟨L, z⟩ n) := by
  have hnf : n ≠ newN n := fun e => new_ne n e.symm
  -- a disk on which the file is as it was
  have still : ∀ d' : Dk, Keep n ⟨L, z⟩ d' → readD ⟨d'.files.map (crashF k), -1⟩ n = readD ⟨L, z⟩ n := fun d' h => by
    unfold readD
    simp only [hG, good_crash h.1 k, get_crash, h.2]
    cases hf : getF n L with
    | none => rfl
    | some f =>
      have := crash_still (ht f (getF_name hf).2) k
      simp only [Option.map_some, this]
  unfold saveD
  simp only [hG, Bool.not_true, Bool.false_eq_true, if_false]
  by_cases hN : (!named n || !named (newN n)) = true
  · rw [if_pos hN]
    exact ⟨hG, fun h => absurd h (by simp), fun _ => still _ (keep_refl hG)⟩
  rw [if_neg hN]
  obtain ⟨r0, hr0⟩ : ∃ r0, r0 = (if (getF (newN n) L).isSome = true then stepP ⟨L, z⟩ (rmP L (newN n)) else (⟨L, z⟩, 0)) := ⟨_, rfl⟩
  rw [← hr0]
  have K0 : Keep n ⟨L, z⟩ r0.1 := by
    rw [hr0]
    split
    · exact rm_keep hG hnf
    · exact keep_refl hG
  by_cases e0 : r0.2 = 0
  case neg => rw [then_err e0, then_err e0, then_err e0]; exact ⟨K0.1, fun h => absurd h e0, fun _ => still _ K0⟩
  have N0 : getF (newN n) r0.1.files = none := by
    rw [hr0] at e0 ⊢
    split
    · rename_i hs
      rw [if_pos hs] at e0
      obtain ⟨_, _, L1, h1, h2⟩ := step_yes rm_err e0
      rw [h2]
      obtain ⟨rfl, _⟩ := rm_ok hG h1
      rw [getF_del, if_pos rfl]
    · rename_i hs
      cases hg : getF (newN n) L with
      | none => rfl
      | some f => rw [hg] at hs; simp at hs
  rw [then_ok e0]
  obtain ⟨d0, _⟩ := r0
  simp only at K0 N0 ⊢
  clear hr0 e0
  obtain ⟨r1, hr1⟩ : ∃ r1, r1 = stepP d0 (wrP d0.files (newN n) s) := ⟨_, rfl⟩
  rw [← hr1]
  have K1 : Keep n ⟨L, z⟩ r1.1 := by rw [hr1]; exact keep_trans K0 (wr_keep K0.1 hnf)
  by_cases e1 : r1.2 = 0
  case neg => rw [then_err e1, then_err e1]; exact ⟨K1.1, fun h => absurd h e1, fun _ => still _ K1⟩
  have N1 : getF (newN n) r1.1.files = some ⟨newN n, ⟨#[]⟩, s⟩ := by
    rw [hr1] at e1 ⊢
    obtain ⟨_, _, L1, h1, h2⟩ := step_yes wr_err e1
    rw [h2]
    obtain ⟨_, ⟨f, hf, rfl⟩, _⟩ := wr_ok K0.1 h1
    rcases hf with hf | ⟨_, rfl⟩
    · rw [N0] at hf; cases hf
    · rw [getF_put _ _ _ _ ((goodD_iff _).1 K0.1).2.1, if_pos rfl, empty_append]
  rw [then_ok e1]
  obtain ⟨d1, _⟩ := r1
  simp only at K1 N1 ⊢
  clear hr1 e1
  obtain ⟨r2, hr2⟩ : ∃ r2, r2 = stepP d1 (syP d1.files (newN n)) := ⟨_, rfl⟩
  rw [← hr2]
  have K2 : Keep n ⟨L, z⟩ r2.1 := by rw [hr2]; exact keep_trans K1 (sy_keep K1.1 hnf)
  by_cases e2 : r2.2 = 0
  case neg => rw [then_err e2]; exact ⟨K2.1, fun h => absurd h e2, fun _ => still _ K2⟩
  have N2 : getF (newN n) r2.1.files = some ⟨newN n, s, ⟨#[]⟩⟩ := by
    rw [hr2] at e2 ⊢
    obtain ⟨_, _, L1, h1, h2⟩ := step_yes sy_err e2
    rw [h2]
    obtain ⟨f, hf, rfl, _⟩ := sy_ok K1.1 h1
    rw [N1] at hf
    cases hf
    rw [getF_put _ _ _ _ ((goodD_iff _).1 K1.1).2.1, if_pos rfl]
    show some (⟨newN n, (⟨#[]⟩ : ByteArray) ++ s, ⟨#[]⟩⟩ : Fl) = _
    rw [empty_append]
  rw [then_ok e2]
  obtain ⟨d2, _⟩ := r2
  simp only at K2 N2 ⊢
  clear hr2 e2
  by_cases e3 : (stepP d2 (rnP d2.files (newN n) n)).2 = 0
  · obtain ⟨_, _, L3, h1, h2⟩ := step_yes rn_err e3
    obtain ⟨f, k1, k2, _, k4⟩ := rn_ok K2.1 h1
    rw [N2] at k1
    cases k1
    rw [h2]
    refine ⟨k4, fun _ => ?_, fun h => absurd rfl h⟩
    unfold readD
    simp only [good_crash k4 k, get_crash, k2, Option.map_some]
    rw [crash_still (f := ⟨n, s, ⟨#[]⟩⟩) rfl k]
    simp only [Bool.not_true, Bool.false_eq_true, if_false]
    rw [app_none]
  · have := step_no e3
    rw [this]
    exact ⟨K2.1, fun h => absurd h e3, fun _ => still _ K2⟩
theorem crash_tails {L : List Fl} (k : Nat) : ∀ f ∈ L.map (crashF k), f.tail = ⟨#[]⟩ := fun f hf => by
  obtain ⟨g, _, rfl⟩ := List.mem_map.1 hf
  rfl
end Go.Proofs.YtkcnogmjnmnbdaaGreatDoor
