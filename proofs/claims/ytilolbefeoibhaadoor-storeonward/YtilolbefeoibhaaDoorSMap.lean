/- Texts in one: DkFuse, DkLaws, StBackP, StBack, SMap. -/
import Derived.Test.YtilolbefeoibhaaDoorOPick
import Derived.Test.YtilolbefeoibhaaDoorIMap
import Derived.Test.YtilolbefeoibhaaDoorDkMem
import Derived.Maps.RangeRun
import Derived.MapKept
/- keep.DiskFuse: the walk. -/
namespace Go.Proofs.YtilolbefeoibhaaDoor
open Go.RowKit

theorem wr_no12 {L : List Fl} {n s : ByteArray} : ∀ e, wrP L n s = .error e → e ≠ 12 := fun e h => by
  unfold wrP at h
  split at h
  · cases h; decide
  · split at h
    · split at h
      · cases h; decide
      · split at h
        · cases h; decide
        · cases h
    · split at h
      · cases h; decide
      · cases h
/-- what a write upon a disk that is one comes to -/
theorem wr_step {L : List Fl} {n s : ByteArray} {z : Int} (hG : goodD L = true) (h0 : 0 ≤ z) : (z = 0 ∧ stepP ⟨L, z⟩ (wrP L n s) = (⟨L, z⟩, 12)) ∨
    (0 < z ∧ ∃ L', stepP ⟨L, z⟩ (wrP L n s) = (⟨L', z - 1⟩, 0) ∧ goodD L' = true) ∨ (0 < z ∧ ∃ e, stepP ⟨L, z⟩ (wrP L n s) = (⟨L, z⟩, e) ∧ e ≠ 0 ∧ e ≠ 12) := by
  unfold stepP
  simp only [hG, Bool.not_true, Bool.false_eq_true, if_false]
  by_cases hz : z = 0
  · exact .inl ⟨hz, by rw [if_pos hz]⟩
  · right
    rw [if_neg hz]
    cases hr : wrP L n s with
    | error e => exact .inr ⟨by omega, e, rfl, wr_err e hr, wr_no12 e hr⟩
    | ok L' =>
      refine .inl ⟨by omega, L', ?_, (wr_ok hG hr).2.2⟩
      simp only [burnt]
      rw [if_pos (by omega)]
theorem crash_good {L : List Fl} {z : Int} (hG : goodD L = true) (m : Nat) : crashD ⟨L, z⟩ (m : Int) = (⟨L.map (crashF m), -1⟩, 0) := by
  unfold crashD
  simp only [hG, Bool.not_true, Bool.false_or, Int.toNat_natCast]
  rw [if_neg (by simp)]
/-- where the law stands: the disk in its box -/
def FuRel (w : World) (i : Value) (wr : World) : Prop :=
  ∃ (k : Nat) (L : List Fl) (A : Option Addr) (c : Nat) (z : Int), i = .int .i64 (k : Int) ∧ k ≤ 8 ∧ goodD L = true ∧ 0 ≤ z ∧ z ≤ 4 ∧ L.length ≤ c ∧ Arr wr w.heap.size 24 (dkArr L A c z) ∧ Fls wr wr.heap.size A L ∧ Below w.heap.size w wr
end Go.Proofs.YtilolbefeoibhaaDoor

/- What Save leaves of other files, and of its own behind a crash: plain mathematics. -/
namespace Go.Proofs.YtilolbefeoibhaaDoor
open Go.RowKit

/-- a disk, and a file's bytes, as they were -/
def Keep (o : ByteArray) (d d' : Dk) : Prop := goodD d'.files = true ∧ getF o d'.files = getF o d.files
theorem keep_refl {o : ByteArray} {d : Dk} (h : goodD d.files = true) : Keep o d d := ⟨h, rfl⟩
theorem keep_trans {o : ByteArray} {a b c : Dk} (h : Keep o a b) (k : Keep o b c) : Keep o a c := ⟨k.1, k.2.trans h.2⟩
theorem step_keep {o : ByteArray} {d : Dk} {r : Except Int (List Fl)} (hG : goodD d.files = true) (h : ∀ L, r = .ok L → goodD L = true ∧ getF o L = getF o d.files) : Keep o d (stepP d r).1 := by
  unfold stepP
  simp only [hG, Bool.not_true, Bool.false_eq_true, if_false]
  split
  · exact keep_refl hG
  · cases r with
    | error e => exact keep_refl hG
    | ok L => exact h L rfl
theorem rm_keep {o n : ByteArray} {d : Dk} (hG : goodD d.files = true) (hn : o ≠ n) : Keep o d (stepP d (rmP d.files n)).1 := step_keep hG fun L h => by
  obtain ⟨rfl, h2⟩ := rm_ok hG h
  exact ⟨h2, by rw [getF_del, if_neg (fun e => hn e.symm)]⟩
theorem sy_keep {o n : ByteArray} {d : Dk} (hG : goodD d.files = true) (hn : o ≠ n) : Keep o d (stepP d (syP d.files n)).1 := step_keep hG fun L h => by
  obtain ⟨f, _, rfl, h2⟩ := sy_ok hG h
  exact ⟨h2, by rw [getF_put o _ _ _ ((goodD_iff _).1 hG).2.1, if_neg (fun e => hn e.symm)]⟩
theorem wr_keep {o n s : ByteArray} {d : Dk} (hG : goodD d.files = true) (hn : o ≠ n) : Keep o d (stepP d (wrP d.files n s)).1 := step_keep hG fun L h => by
  obtain ⟨_, ⟨f, _, rfl⟩, h2⟩ := wr_ok hG h
  exact ⟨h2, by rw [getF_put o _ _ _ ((goodD_iff _).1 hG).2.1, if_neg (fun e => hn e.symm)]⟩
theorem rn_list {L L' : List Fl} {n m : ByteArray} (h : rnP L n m = .ok L') : ∃ f, getF n L = some f ∧ L' = putL ⟨m, f.safe, f.tail⟩ (del n L) := by
  unfold rnP at h
  cases hm : named m with
  | false => rw [hm] at h; simp at h
  | true =>
    rw [hm] at h
    simp only [Bool.not_true, Bool.false_eq_true, if_false] at h
    cases hf : getF n L with
    | none => rw [hf] at h; cases h
    | some f => rw [hf] at h; cases h; exact ⟨f, rfl, rfl⟩
theorem rn_keep {o n m : ByteArray} {d : Dk} (hG : goodD d.files = true) (hn : o ≠ n) (hm : o ≠ m) : Keep o d (stepP d (rnP d.files n m)).1 := step_keep hG fun L h => by
  obtain ⟨_, _, _, _, h2⟩ := rn_ok hG h
  obtain ⟨f, _, rfl⟩ := rn_list h
  exact ⟨h2, by rw [getF_put o _ _ _ (del_ris _ _ _ ((goodD_iff _).1 hG).2.1), if_neg (fun e => hm e.symm), getF_del, if_neg (fun e => hn e.symm)]⟩
theorem then_keep {o : ByteArray} {d : Dk} {r : Dk × Int} {f : Dk → Dk × Int} (h : Keep o d r.1) (k : ∀ d', goodD d'.files = true → Keep o d' (f d').1) : Keep o d (thenD r f).1 := by
  unfold thenD
  split
  · exact h
  · exact keep_trans h (k _ h.1)
/-- Save leaves what is neither its file nor that with .new behind -/
theorem save_keep {o n s : ByteArray} {d : Dk} (hG : goodD d.files = true) (hn : o ≠ n) (hf : o ≠ newN n) : Keep o d (saveD d n s).1 := by
  unfold saveD
  simp only [hG, Bool.not_true, Bool.false_eq_true, if_false]
  split
  · exact keep_refl hG
  · refine then_keep (then_keep (then_keep ?_ fun d' h => wr_keep h hf) fun d' h => sy_keep h hf) fun d' h => rn_keep h hf hn
    split
    · exact rm_keep hG hf
    · exact keep_refl hG
theorem save_bad {n s : ByteArray} {d : Dk} (hG : goodD d.files = false) : (saveD d n s).1 = d := by
  unfold saveD
  simp [hG]
theorem step_bad {r : Except Int (List Fl)} {d : Dk} (hG : goodD d.files = false) : (stepP d r).1 = d := by
  unfold stepP
  simp [hG]
theorem read_keep {o : ByteArray} {d d' : Dk} (hG : goodD d.files = true) (h : Keep o d d') : readD d' o = readD d o := by
  unfold readD
  rw [hG, h.1, h.2]
theorem new_ne (n : ByteArray) : newN n ≠ n := fun e => by
  have := congrArg ByteArray.size e
  unfold newN at this
  rw [ByteArray.size_append] at this
  have : n.size + 4 = n.size := this
  omega
theorem crashF_name (k : Nat) (f : Fl) : (crashF k f).name = f.name := rfl
theorem ris_map (k : Nat) : ∀ (L : List Fl) (b : ByteArray), ris b L → ris b (L.map (crashF k))
  | [], _, _ => trivial
  | _ :: l, _, h => ⟨h.1, ris_map k l _ h.2⟩
theorem good_crash {L : List Fl} (hG : goodD L = true) (k : Nat) : goodD (L.map (crashF k)) = true := by
  obtain ⟨h1, h2, h3⟩ := (goodD_iff L).1 hG
  refine (goodD_iff _).2 ⟨by rw [List.length_map]; exact h1, ris_map k L _ h2, fun g hg => ?_⟩
  obtain ⟨f, hf, rfl⟩ := List.mem_map.1 hg
  obtain ⟨k1, k2⟩ := h3 f hf
  refine ⟨k1, ?_⟩
  unfold fits at k2 ⊢
  have k2 := of_decide_eq_true k2
  refine decide_eq_true ?_
  show (f.safe ++ f.tail.extract 0 (min k f.tail.size)).size + 0 ≤ 1048576
  rw [ByteArray.size_append, ByteArray.size_extract]
  omega
theorem get_crash (n : ByteArray) (k : Nat) : ∀ L : List Fl, getF n (L.map (crashF k)) = (getF n L).map (crashF k)
  | [] => rfl
  | f :: l => by
    have ih := get_crash n k l
    unfold getF at ih ⊢
    rw [List.map_cons, List.find?_cons, List.find?_cons]
    by_cases e : f.name = n
    · simp [crashF_name, e]
    · simp only [crashF_name, e, decide_false]
      exact ih
theorem app_none (s : ByteArray) : s ++ (⟨#[]⟩ : ByteArray) = s := by
  apply ByteArray.ext
  simp
theorem crash_still {f : Fl} (h : f.tail = ⟨#[]⟩) (k : Nat) : crashF k f = f := by
  obtain ⟨a, b, c⟩ := f
  obtain rfl : c = ⟨#[]⟩ := h
  unfold crashF
  simp only
  rw [show ((⟨#[]⟩ : ByteArray).extract 0 (min k (⟨#[]⟩ : ByteArray).size)) = ⟨#[]⟩ from by apply bytes_eq; rw [extract_drop]; simp, app_none]
/-- of what was safe, a save that says no leaves the file as it was, one that says yes the new one -/
theorem save_atomic {L : List Fl} {n s : ByteArray} {z : Int} (hG : goodD L = true) (ht : ∀ f ∈ L, f.tail = ⟨#[]⟩) (k : Nat) : goodD (saveD ⟨L, z⟩ n s).1.files = true ∧
    ((saveD ⟨L, z⟩ n s).2 = 0 → readD ⟨(saveD ⟨L, z⟩ n s).1.files.map (crashF k), -1⟩ n = (s, 0)) ∧
    ((saveD ⟨L, z⟩ n s).2 ≠ 0 → readD ⟨(saveD ⟨L, z⟩ n s).1.files.map (crashF k), -1⟩ n = readD ⟨L, z⟩ n) := by
  have hnf : n ≠ newN n := fun e => new_ne n e.symm
  -- a disk on which the file is as it was
  have still : ∀ d' : Dk, Keep n ⟨L, z⟩ d' → readD ⟨d'.files.map (crashF k), -1⟩ n = readD ⟨L, z⟩ n := fun d' h => by
    unfold readD
    simp only [hG, good_crash h.1 k, get_crash, h.2]
    cases hf : getF n L with
    | none => rfl
    | some f =>
      have := crash_still (ht f (getF_name hf).2) k
      simp only [Option.map_some, this]
  unfold saveD
  simp only [hG, Bool.not_true, Bool.false_eq_true, if_false]
  by_cases hN : (!named n || !named (newN n)) = true
  · rw [if_pos hN]
    exact ⟨hG, fun h => absurd h (by simp), fun _ => still _ (keep_refl hG)⟩
  rw [if_neg hN]
  obtain ⟨r0, hr0⟩ : ∃ r0, r0 = (if (getF (newN n) L).isSome = true then stepP ⟨L, z⟩ (rmP L (newN n)) else (⟨L, z⟩, 0)) := ⟨_, rfl⟩
  rw [← hr0]
  have K0 : Keep n ⟨L, z⟩ r0.1 := by
    rw [hr0]
    split
    · exact rm_keep hG hnf
    · exact keep_refl hG
  by_cases e0 : r0.2 = 0
  case neg => rw [then_err e0, then_err e0, then_err e0]; exact ⟨K0.1, fun h => absurd h e0, fun _ => still _ K0⟩
  have N0 : getF (newN n) r0.1.files = none := by
    rw [hr0] at e0 ⊢
    split
    · rename_i hs
      rw [if_pos hs] at e0
      obtain ⟨_, _, L1, h1, h2⟩ := step_yes rm_err e0
      rw [h2]
      obtain ⟨rfl, _⟩ := rm_ok hG h1
      rw [getF_del, if_pos rfl]
    · rename_i hs
      cases hg : getF (newN n) L with
      | none => rfl
      | some f => rw [hg] at hs; simp at hs
  rw [then_ok e0]
  obtain ⟨d0, _⟩ := r0
  simp only at K0 N0 ⊢
  clear hr0 e0
  obtain ⟨r1, hr1⟩ : ∃ r1, r1 = stepP d0 (wrP d0.files (newN n) s) := ⟨_, rfl⟩
  rw [← hr1]
  have K1 : Keep n ⟨L, z⟩ r1.1 := by rw [hr1]; exact keep_trans K0 (wr_keep K0.1 hnf)
  by_cases e1 : r1.2 = 0
  case neg => rw [then_err e1, then_err e1]; exact ⟨K1.1, fun h => absurd h e1, fun _ => still _ K1⟩
  have N1 : getF (newN n) r1.1.files = some ⟨newN n, ⟨#[]⟩, s⟩ := by
    rw [hr1] at e1 ⊢
    obtain ⟨_, _, L1, h1, h2⟩ := step_yes wr_err e1
    rw [h2]
    obtain ⟨_, ⟨f, hf, rfl⟩, _⟩ := wr_ok K0.1 h1
    rcases hf with hf | ⟨_, rfl⟩
    · rw [N0] at hf; cases hf
    · rw [getF_put _ _ _ _ ((goodD_iff _).1 K0.1).2.1, if_pos rfl, empty_append]
  rw [then_ok e1]
  obtain ⟨d1, _⟩ := r1
  simp only at K1 N1 ⊢
  clear hr1 e1
  obtain ⟨r2, hr2⟩ : ∃ r2, r2 = stepP d1 (syP d1.files (newN n)) := ⟨_, rfl⟩
  rw [← hr2]
  have K2 : Keep n ⟨L, z⟩ r2.1 := by rw [hr2]; exact keep_trans K1 (sy_keep K1.1 hnf)
  by_cases e2 : r2.2 = 0
  case neg => rw [then_err e2]; exact ⟨K2.1, fun h => absurd h e2, fun _ => still _ K2⟩
  have N2 : getF (newN n) r2.1.files = some ⟨newN n, s, ⟨#[]⟩⟩ := by
    rw [hr2] at e2 ⊢
    obtain ⟨_, _, L1, h1, h2⟩ := step_yes sy_err e2
    rw [h2]
    obtain ⟨f, hf, rfl, _⟩ := sy_ok K1.1 h1
    rw [N1] at hf
    cases hf
    rw [getF_put _ _ _ _ ((goodD_iff _).1 K1.1).2.1, if_pos rfl]
    show some (⟨newN n, (⟨#[]⟩ : ByteArray) ++ s, ⟨#[]⟩⟩ : Fl) = _
    rw [empty_append]
  rw [then_ok e2]
  obtain ⟨d2, _⟩ := r2
  simp only at K2 N2 ⊢
  clear hr2 e2
  by_cases e3 : (stepP d2 (rnP d2.files (newN n) n)).2 = 0
  · obtain ⟨_, _, L3, h1, h2⟩ := step_yes rn_err e3
    obtain ⟨f, k1, k2, _, k4⟩ := rn_ok K2.1 h1
    rw [N2] at k1
    cases k1
    rw [h2]
    refine ⟨k4, fun _ => ?_, fun h => absurd rfl h⟩
    unfold readD
    simp only [good_crash k4 k, get_crash, k2, Option.map_some]
    rw [crash_still (f := ⟨n, s, ⟨#[]⟩⟩) rfl k]
    simp only [Bool.not_true, Bool.false_eq_true, if_false]
    rw [app_none]
  · have := step_no e3
    rw [this]
    exact ⟨K2.1, fun h => absurd h e3, fun _ => still _ K2⟩
theorem crash_tails {L : List Fl} (k : Nat) : ∀ f ∈ L.map (crashF k), f.tail = ⟨#[]⟩ := fun f hf => by
  obtain ⟨g, _, rfl⟩ := List.mem_map.1 hf
  rfl
end Go.Proofs.YtilolbefeoibhaaDoor

/- Put and Get, again and behind a crash: plain mathematics. -/
namespace Go.Proofs.YtilolbefeoibhaaDoor
open Go.RowKit

/-- a save that says yes: the file lies there, all of it safe -/
theorem save_yes {L : List Fl} {n s : ByteArray} {z : Int} (h : (saveD ⟨L, z⟩ n s).2 = 0) : goodD (saveD ⟨L, z⟩ n s).1.files = true ∧ getF n (saveD ⟨L, z⟩ n s).1.files = some ⟨n, s, ⟨#[]⟩⟩ := by
  have hnf : n ≠ newN n := fun e => new_ne n e.symm
  have hG : goodD L = true := by
    cases hG : goodD L with
    | true => rfl
    | false => unfold saveD at h; rw [hG] at h; simp at h
  unfold saveD at h ⊢
  simp only [hG, Bool.not_true, Bool.false_eq_true, if_false] at h ⊢
  by_cases hN : (!named n || !named (newN n)) = true
  · rw [if_pos hN] at h; simp at h
  rw [if_neg hN] at h ⊢
  obtain ⟨r0, hr0⟩ : ∃ r0, r0 = (if (getF (newN n) L).isSome = true then stepP ⟨L, z⟩ (rmP L (newN n)) else (⟨L, z⟩, 0)) := ⟨_, rfl⟩
  rw [← hr0] at h ⊢
  have K0 : Keep n ⟨L, z⟩ r0.1 := by
    rw [hr0]
    split
    · exact rm_keep hG hnf
    · exact keep_refl hG
  by_cases e0 : r0.2 = 0
  case neg => rw [then_err e0, then_err e0, then_err e0] at h; exact absurd h e0
  have N0 : getF (newN n) r0.1.files = none := by
    rw [hr0] at e0 ⊢
    split
    · rename_i hs
      rw [if_pos hs] at e0
      obtain ⟨_, _, L1, h1, h2⟩ := step_yes rm_err e0
      rw [h2]
      obtain ⟨rfl, _⟩ := rm_ok hG h1
      rw [getF_del, if_pos rfl]
    · rename_i hs
      cases hg : getF (newN n) L with
      | none => rfl
      | some f => rw [hg] at hs; simp at hs
  rw [then_ok e0] at h ⊢
  obtain ⟨d0, _⟩ := r0
  simp only at K0 N0 h ⊢
  clear hr0 e0
  obtain ⟨r1, hr1⟩ : ∃ r1, r1 = stepP d0 (wrP d0.files (newN n) s) := ⟨_, rfl⟩
  rw [← hr1] at h ⊢
  have K1 : Keep n ⟨L, z⟩ r1.1 := by rw [hr1]; exact keep_trans K0 (wr_keep K0.1 hnf)
  by_cases e1 : r1.2 = 0
  case neg => rw [then_err e1, then_err e1] at h; exact absurd h e1
  have N1 : getF (newN n) r1.1.files = some ⟨newN n, ⟨#[]⟩, s⟩ := by
    rw [hr1] at e1 ⊢
    obtain ⟨_, _, L1, h1, h2⟩ := step_yes wr_err e1
    rw [h2]
    obtain ⟨_, ⟨f, hf, rfl⟩, _⟩ := wr_ok K0.1 h1
    rcases hf with hf | ⟨_, rfl⟩
    · rw [N0] at hf; cases hf
    · rw [getF_put _ _ _ _ ((goodD_iff _).1 K0.1).2.1, if_pos rfl, empty_append]
  rw [then_ok e1] at h ⊢
  obtain ⟨d1, _⟩ := r1
  simp only at K1 N1 h ⊢
  clear hr1 e1
  obtain ⟨r2, hr2⟩ : ∃ r2, r2 = stepP d1 (syP d1.files (newN n)) := ⟨_, rfl⟩
  rw [← hr2] at h ⊢
  have K2 : Keep n ⟨L, z⟩ r2.1 := by rw [hr2]; exact keep_trans K1 (sy_keep K1.1 hnf)
  by_cases e2 : r2.2 = 0
  case neg => rw [then_err e2] at h; exact absurd h e2
  have N2 : getF (newN n) r2.1.files = some ⟨newN n, s, ⟨#[]⟩⟩ := by
    rw [hr2] at e2 ⊢
    obtain ⟨_, _, L1, h1, h2⟩ := step_yes sy_err e2
    rw [h2]
    obtain ⟨f, hf, rfl, _⟩ := sy_ok K1.1 h1
    rw [N1] at hf
    cases hf
    rw [getF_put _ _ _ _ ((goodD_iff _).1 K1.1).2.1, if_pos rfl]
    show some (⟨newN n, (⟨#[]⟩ : ByteArray) ++ s, ⟨#[]⟩⟩ : Fl) = _
    rw [empty_append]
  rw [then_ok e2] at h ⊢
  obtain ⟨d2, _⟩ := r2
  simp only at K2 N2 h ⊢
  clear hr2 e2
  obtain ⟨_, _, L3, h1, h2⟩ := step_yes rn_err h
  obtain ⟨f, k1, k2, _, k4⟩ := rn_ok K2.1 h1
  rw [N2] at k1
  cases k1
  rw [h2]
  exact ⟨k4, k2⟩
theorem step_fuse {d : Dk} {r : Except Int (List Fl)} : (stepP d r).1.fuse ≤ d.fuse := by
  unfold stepP burnt
  split
  · exact Int.le_refl _
  · split
    · exact Int.le_refl _
    · cases r with
      | error e => exact Int.le_refl _
      | ok L =>
        show (if 0 < d.fuse then d.fuse - 1 else d.fuse) ≤ d.fuse
        split <;> omega
theorem then_fuse {d : Dk} {r : Dk × Int} {f : Dk → Dk × Int} (h : r.1.fuse ≤ d.fuse) (k : ∀ x : Dk, (f x).1.fuse ≤ x.fuse) : (thenD r f).1.fuse ≤ d.fuse := by
  unfold thenD
  split
  · exact h
  · exact Int.le_trans (k _) h
theorem save_fuse {d : Dk} {n s : ByteArray} : (saveD d n s).1.fuse ≤ d.fuse := by
  unfold saveD
  split
  · exact Int.le_refl _
  · split
    · exact Int.le_refl _
    · refine then_fuse (then_fuse (then_fuse ?_ fun _ => step_fuse) fun _ => step_fuse) fun _ => step_fuse
      split
      · exact step_fuse
      · exact Int.le_refl _
theorem put_fuse {d : Dk} {s : ByteArray} : (putO d s).1.fuse ≤ d.fuse := by
  unfold putO
  split
  · exact Int.le_refl _
  · split
    · exact Int.le_refl _
    · split <;> exact save_fuse
theorem putO_no {d : Dk} {s : ByteArray} (h : (putO d s).2.2 ≠ 0) : (putO d s).2.1 = ⟨#[]⟩ := by
  unfold putO at h ⊢
  split
  · rfl
  · rename_i h1
    rw [if_neg h1] at h
    split
    · rename_i h2
      rw [if_pos h2] at h
      exact absurd rfl h
    · rename_i h2
      rw [if_neg h2] at h
      split
      · rfl
      · rename_i h3
        rw [if_neg h3] at h
        exact absurd rfl h
theorem getO_size (d : Dk) (id : ByteArray) : (getO d id).1.size ≤ 1048576 := by
  unfold getO tellR
  have := readD_size d (fileN id)
  split
  · exact Nat.zero_le _
  · split
    · exact Nat.zero_le _
    · split
      · exact Nat.zero_le _
      · exact this
/-- what Get tells of a disk on which the file lies -/
theorem getO_at {d : Dk} {id t : ByteArray} (hi : id.size = 32) (hr : readD d (fileN id) = (t, 0)) (hs : sumB t = id) : getO d id = (t, 0) := by
  unfold getO tellR
  rw [if_neg (fun h => h hi), hr]
  simp [hs]
theorem getO_ok {d : Dk} {id : ByteArray} (h : (getO d id).2 = 0) : id.size = 32 ∧ readD d (fileN id) = ((getO d id).1, 0) ∧ sumB (getO d id).1 = id := by
  unfold getO tellR at h ⊢
  by_cases h1 : id.size = 32
  case neg => rw [if_pos h1] at h; simp at h
  rw [if_neg (fun q => q h1)] at h ⊢
  by_cases h2 : (readD d (fileN id)).2 = 0
  case neg => rw [if_pos h2] at h; exact absurd h h2
  rw [if_neg (fun q => q h2)] at h ⊢
  by_cases h3 : sumB (readD d (fileN id)).1 = id
  case neg => rw [if_pos h3] at h; simp at h
  rw [if_neg (fun q => q h3)]
  exact ⟨h1, Prod.ext rfl h2, h3⟩
theorem readD_good {d : Dk} {n : ByteArray} (h : (readD d n).2 = 0) : goodD d.files = true := by
  cases hG : goodD d.files with
  | true => rfl
  | false => unfold readD at h; rw [hG] at h; simp at h
theorem hasO_ok {d : Dk} {id : ByteArray} (h : hasO d id = true) : (getO d id).2 = 0 ∧ (decO (getO d id).1.data.toList).2 = 0 := by
  unfold hasO loadR at h
  have h := of_decide_eq_true h
  by_cases h1 : (getO d id).2 = 0
  case neg => rw [if_pos h1] at h; simp at h
  rw [if_neg (fun q => q h1)] at h
  by_cases h2 : (decO (getO d id).1.data.toList).2 = 0
  case neg => rw [if_pos h2] at h; simp at h
  exact ⟨h1, h2⟩
theorem hasO_of {d : Dk} {id t : ByteArray} (h : getO d id = (t, 0)) (hd : (decO t.data.toList).2 = 0) : hasO d id = true := by
  unfold hasO loadR
  rw [h]
  simp [hd]
/-- a Put that says yes -/
theorem putO_yes {d : Dk} {s : ByteArray} (h : (putO d s).2.2 = 0) : (decO s.data.toList).2 = 0 ∧ (putO d s).2.1 = sumB s ∧ goodD (putO d s).1.files = true ∧
    ((hasO d (sumB s) = true ∧ (putO d s).1 = d) ∨ (getF (fileN (sumB s)) (putO d s).1.files = some ⟨fileN (sumB s), s, ⟨#[]⟩⟩)) := by
  unfold putO at h ⊢
  by_cases h1 : (decO s.data.toList).2 = 0
  case neg => rw [if_pos h1] at h; exact absurd h h1
  rw [if_neg (fun q => q h1)] at h ⊢
  by_cases h2 : hasO d (sumB s) = true
  · rw [if_pos h2] at h ⊢
    have hr := (getO_ok (hasO_ok h2).1).2.1
    exact ⟨h1, rfl, readD_good (n := fileN (sumB s)) (by rw [hr]), .inl ⟨h2, rfl⟩⟩
  rw [if_neg h2] at h ⊢
  by_cases h3 : (saveD d (fileN (sumB s)) s).2 = 0
  case neg => rw [if_pos h3] at h; exact absurd h h3
  rw [if_neg (fun q => q h3)]
  obtain ⟨L, z⟩ := d
  obtain ⟨k1, k2⟩ := save_yes h3
  exact ⟨h1, rfl, k1, .inr k2⟩
/-- what a Put that says yes has left -/
theorem put_back {d : Dk} {s : ByteArray} (k : Nat) (h : (putO d s).2.2 = 0) :
    putO (putO d s).1 s = ((putO d s).1, sumB s, 0) ∧ (getO (putO d s).1 (sumB s)).2 = 0 ∧ sumB (getO (putO d s).1 (sumB s)).1 = sumB s ∧
    ((getO (putO d s).1 (sumB s)).1 ≠ s → (getO d (sumB s)).2 = 0) ∧
    ((getO d (sumB s)).2 = 0 ∨ getO ⟨(putO d s).1.files.map (crashF k), -1⟩ (sumB s) = (s, 0)) := by
  obtain ⟨h1, _, hG, h2⟩ := putO_yes h
  generalize (putO d s).1 = a at *
  have again : hasO a (sumB s) = true → putO a s = (a, sumB s, 0) := fun hh => by
    unfold putO
    rw [if_neg (fun q => q h1), if_pos hh]
  rcases h2 with ⟨h2, rfl⟩ | h2
  · obtain ⟨k1, _⟩ := hasO_ok h2
    exact ⟨again h2, k1, (getO_ok k1).2.2, fun _ => k1, .inl k1⟩
  · have hr : readD a (fileN (sumB s)) = (s, 0) := by
      unfold readD
      rw [hG, h2]
      simp only [Bool.not_true, Bool.false_eq_true, if_false]
      rw [app_none]
    have hg : getO a (sumB s) = (s, 0) := getO_at (sumB_size s) hr rfl
    have hb : readD ⟨a.files.map (crashF k), -1⟩ (fileN (sumB s)) = (s, 0) := by
      unfold readD
      simp only [good_crash hG k, get_crash, h2, Option.map_some]
      rw [crash_still (f := ⟨fileN (sumB s), s, ⟨#[]⟩⟩) rfl k]
      simp only [Bool.not_true, Bool.false_eq_true, if_false]
      rw [app_none]
    refine ⟨again (hasO_of hg h1), by rw [hg], by rw [hg], fun q => absurd (by rw [hg]) q, .inr (getO_at (sumB_size s) hb rfl)⟩
def aaT : ByteArray := ⟨#[1, 1, 97]⟩
theorem stores_put : putO ⟨[], -1⟩ aaT = (⟨[⟨fileN (sumB aaT), aaT, ⟨#[]⟩⟩], -1⟩, sumB aaT, 0) := by decide +kernel
theorem stores_get : getO ⟨[⟨fileN (sumB aaT), aaT, ⟨#[]⟩⟩], -1⟩ (sumB aaT) = (aaT, 0) := by decide +kernel
end Go.Proofs.YtilolbefeoibhaaDoor

/- keep.stores, keep.StoreBack: the walks. -/
namespace Go.Proofs.YtilolbefeoibhaaDoor
open Go.RowKit

set_option maxRecDepth 100000 in
set_option maxHeartbeats 1000000 in
theorem stores_keep (w : World) (ht : Tab w) : Calls Tryd.prog 7 #[] w fun e w' => e = .returned (.bool true) ∧ Below w.heap.size w w' := by
  have C1 : Hid (Calls Tryd.prog 6 #[.agg #[.slice none 0 0, .int .i64 (-1)], .string ⟨#[1, 1, 97]⟩] w (PutEnd w (⟨[⟨fileN (sumB aaT), aaT, ⟨#[]⟩⟩], -1⟩, sumB aaT, 0))) := by
    have := Put_st [] aaT (by decide) none 0 (-1) w (Fls.nil _ _ _) (fun f hf => by cases hf) (by simp) (by simp) (by decide) ht
    rw [stores_put] at this
    exact this
  have hG : goodD [⟨fileN (sumB aaT), aaT, ⟨#[]⟩⟩] = true := readD_good (d := ⟨[⟨fileN (sumB aaT), aaT, ⟨#[]⟩⟩], -1⟩) (n := fileN (sumB aaT)) (by have := (getO_ok (d := ⟨[⟨fileN (sumB aaT), aaT, ⟨#[]⟩⟩], -1⟩) (id := sumB aaT) (by rw [stores_get])).2.1; rw [this])
  have C2 : ∀ (V : World) (A : Option Addr) (c : Nat), Fls V V.heap.size A [⟨fileN (sumB aaT), aaT, ⟨#[]⟩⟩] → Tab V → Hid (Calls Tryd.prog 9 #[.agg #[.slice A 1 c, .int .i64 (-1)], .string (sumB aaT)] V fun e w' => e = .returned (.tuple #[.string ⟨#[1, 1, 97]⟩, .int .i64 0]) ∧ Below V.heap.size V w') := fun V A c h t => by
    have := Get_st [⟨fileN (sumB aaT), aaT, ⟨#[]⟩⟩] (sumB aaT) A c (-1) V h (good_sized hG).1 (by simp) t
    rw [stores_get] at this
    exact this
  clear hG
  generalize hLL : [(⟨fileN (sumB aaT), aaT, ⟨#[]⟩⟩ : Fl)] = LL at *
  have hl1 : LL.length = 1 := by rw [← hLL]; rfl
  have HL1 := Lib.hid hl1
  clear hLL hl1
  generalize sumB aaT = I at *
  go_enter Tryd.func7, Tryd.ntmps7
  go_wp2_with fail
  (with_reducible refine C1.out.mono ?_)
  clear C1
  rintro _ V ⟨A, c, rfl, hF, _, b1⟩
  simp only at hF ⊢
  have b2 : Below w.heap.size w ((V.alloc (.cells dkZero 24)).setRow V.heap.size (dkArr LL A c (-1))) := b1.trans ((below_setRow ((Below.refl _ _).alloc (Nat.le_refl _) _) (Nat.le_refl _) _).mono b1.size)
  have bb : Below V.heap.size V ((V.alloc (.cells dkZero 24)).setRow V.heap.size (dkArr LL A c (-1))) := below_setRow ((Below.refl _ _).alloc (Nat.le_refl _) _) (Nat.le_refl _) _
  have AX : Arr ((V.alloc (.cells dkZero 24)).setRow V.heap.size (dkArr LL A c (-1))) V.heap.size 24 (dkArr LL A c (-1)) := (Arr.new _ _ _).row _
  go_upto_region 2 with (refine wpList_store_row rfl 24 _ _ rfl V.heap.size (dkArr LL A c (-1)) rfl rfl 24 dkZero (Arr.new V _ _) (dkInfo _ _ _ _) rfl (dkArr_one _ _ _ _) ?_)
  refine wp_forget (fun W => Arr W V.heap.size 24 (dkArr LL A c (-1)) ∧ Fls W W.heap.size A LL ∧ Below w.heap.size w W) (by exact ⟨AX, hF.up bb, b2⟩) ?_
  clear AX b2 b1 bb hF
  generalize V.heap.size = q
  rintro W ⟨AX, hF, b2⟩
  have c0 : W.cell? ⟨q, 0, none⟩ = some (.slice A 1 c) := by have := AX.cell 0; rw [this]; show some (Value.slice A LL.length c) = _; rw [HL1.out]
  have c1 : W.cell? ⟨q, 1, none⟩ = some (.int .i64 (-1)) := AX.cell 1
  have C3 := C2 W A c hF (ht.below b2 ht.1)
  clear C2
  go_wp2_with fail
  (with_reducible refine C3.out.mono ?_)
  rintro _ W1 ⟨rfl, b3⟩
  go_wp2_with fail
  go_ret
  exact ⟨rfl, b2.trans (b3.mono b2.size)⟩
/-- the four disks of the walk: what came in, what Put left, what Put left again, what came up behind the crash -/
def Zv (w : World) (L M B : List Fl) (A Aa Ag Ab : Option Addr) (c ca cg cb : Nat) (z y : Int) (qa qg qb : Nat) (W : World) : Prop :=
  Arr W w.heap.size 24 (dkArr L A c z) ∧ Arr W qa 24 (dkArr M Aa ca y) ∧ Arr W qg 24 (dkArr M Ag cg y) ∧ Arr W qb 24 (dkArr B Ab cb (-1)) ∧
  Fls W W.heap.size A L ∧ Fls W W.heap.size Aa M ∧ Fls W W.heap.size Ag M ∧ Fls W W.heap.size Ab B ∧ Below w.heap.size w W
theorem Zv.below {w : World} {L M B : List Fl} {A Aa Ag Ab : Option Addr} {c ca cg cb : Nat} {z y : Int} {qa qg qb : Nat} {W W' : World} (h : Zv w L M B A Aa Ag Ab c ca cg cb z y qa qg qb W) (b : Below W.heap.size W W') : Zv w L M B A Aa Ag Ab c ca cg cb z y qa qg qb W' := by
  obtain ⟨h1, h2, h3, h4, f1, f2, f3, f4, b0⟩ := h
  exact ⟨h1.below b h1.lt, h2.below b h2.lt, h3.below b h3.lt, h4.below b h4.lt, f1.up b, f2.up b, f3.up b, f4.up b, b0.trans (b.mono b0.size)⟩
/-- ahead of the crash -/
def Yv (w : World) (L M : List Fl) (A Aa Ag : Option Addr) (c ca cg : Nat) (z y : Int) (qa qg : Nat) (W : World) : Prop :=
  Arr W w.heap.size 24 (dkArr L A c z) ∧ Arr W qa 24 (dkArr M Aa ca y) ∧ Arr W qg 24 (dkArr M Ag cg y) ∧
  Fls W W.heap.size A L ∧ Fls W W.heap.size Aa M ∧ Fls W W.heap.size Ag M ∧ Below w.heap.size w W
theorem Yv.below {w : World} {L M : List Fl} {A Aa Ag : Option Addr} {c ca cg : Nat} {z y : Int} {qa qg : Nat} {W W' : World} (h : Yv w L M A Aa Ag c ca cg z y qa qg W) (b : Below W.heap.size W W') : Yv w L M A Aa Ag c ca cg z y qa qg W' := by
  obtain ⟨h1, h2, h3, f1, f2, f3, b0⟩ := h
  exact ⟨h1.below b h1.lt, h2.below b h2.lt, h3.below b h3.lt, f1.up b, f2.up b, f3.up b, b0.trans (b.mono b0.size)⟩
theorem Yv.late {w V : World} {L M B : List Fl} {A Aa Ag Ab : Option Addr} {c ca cg cb : Nat} {z y : Int} {qa qg : Nat} (h : Yv w L M A Aa Ag c ca cg z y qa qg V) (hF : Fls V V.heap.size Ab B) (W' : World) (e : W' = V.alloc (.cells #[.slice Ab B.length cb, .int .i64 (-1)] 24)) : Zv w L M B A Aa Ag Ab c ca cg cb z y qa qg V.heap.size W' := by
  subst e
  have b1 : Below V.heap.size V (V.alloc (.cells #[.slice Ab B.length cb, .int .i64 (-1)] 24)) := (Below.refl _ _).alloc (Nat.le_refl _) _
  obtain ⟨h1, h2, h3, f1, f2, f3, b0⟩ := h.below b1
  exact ⟨h1, h2, h3, Arr.new _ _ _, f1, f2, f3, hF.up b1, b0⟩
theorem fls_two {V : World} {A : Option Addr} {L : List Fl} {q : Nat} {u v : Value} (hF : Fls V V.heap.size A L) (hA : Arr V q 24 dkZero) : Fls ((V.setCell ⟨q, 0, none⟩ u).setCell ⟨q, 1, none⟩ v) ((V.setCell ⟨q, 0, none⟩ u).setCell ⟨q, 1, none⟩ v).heap.size A L := fun k' x hx => by
  have k : V.grownBy ((V.setCell ⟨q, 0, none⟩ u).setCell ⟨q, 1, none⟩ v) (some q) := gb_trans (gb_set _ _ _) (gb_set _ _ _)
  obtain ⟨ad, e, hbk, h0, h1, h2⟩ := hF k' x hx
  have hn : ¬ some (ad.add (k' * 3)).block = some q := fun e => by
    rw [Option.some.inj e, hA.cell] at h1
    exact dkZero_no _ _ h1
  exact ⟨ad, e, Nat.lt_of_lt_of_le hbk k.size, k.cell h0 hn, k.cell h1 hn, k.cell h2 hn⟩
theorem Yv.early {w V : World} {L M B : List Fl} {A Aa Ag Ab : Option Addr} {c ca cg cb : Nat} {z y : Int} {qa qg q : Nat} (h : Yv w L M A Aa Ag c ca cg z y qa qg V) (hF : Fls V V.heap.size Ab B) (hA : Arr V q 24 dkZero) (hq : w.heap.size < q) (ha : qa < q) (hg : qg < q) (W' : World) (e : W' = (V.setCell ⟨q, 0, none⟩ (.slice Ab B.length cb)).setCell ⟨q, 1, none⟩ (.int .i64 (-1))) : Zv w L M B A Aa Ag Ab c ca cg cb z y qa qg q W' := by
  subst e
  have k : V.grownBy ((V.setCell ⟨q, 0, none⟩ (.slice Ab B.length cb)).setCell ⟨q, 1, none⟩ (.int .i64 (-1))) (some q) := gb_trans (gb_set _ _ _) (gb_set _ _ _)
  obtain ⟨h1, h2, h3, f1, f2, f3, b0⟩ := h
  exact ⟨h1.kept k (fun e => by cases e; omega), h2.kept k (fun e => by cases e; omega), h3.kept k (fun e => by cases e; omega), (hA.put 0 (.slice Ab B.length cb)).put 1 (.int .i64 (-1)), fls_two f1 hA, fls_two f2 hA, fls_two f3 hA, fls_two hF hA, below_gb b0 k (by omega) b0.size⟩

set_option maxRecDepth 100000 in
set_option maxHeartbeats 8000000 in
theorem StoreBack_any (L : List Fl) (s : ByteArray) (m kp : Int) (hs : s.size ≤ 140737488355328) (A : Option Addr) (c : Nat) (z : Int) (w : World) (hP : Fls w w.heap.size A L) (hz : Sized L) (hl : L.length ≤ 140737488355328) (hc : L.length ≤ c) (ht : Tab w) :
    Calls Tryd.prog 3 #[.agg (dkArr L A c z), .string s, .int .i64 m, .int .i64 kp] w fun e w' => e = .returned (.bool true) ∧ Below w.heap.size w w' := by
  have A0 : Arr (w.alloc (.cells (dkArr L A c z) 24)) w.heap.size 24 (dkArr L A c z) := Arr.new _ _ _
  have b0 : Below w.heap.size w (w.alloc (.cells (dkArr L A c z) 24)) := (Below.refl _ _).alloc (Nat.le_refl _) _
  have CK := fun V h => Lib.hid (stores_keep V h)
  obtain ⟨hp0, hp1⟩ := pk_in m 7 (by omega)
  have CP : ∀ V, Hid (Calls Tryd.prog 5 #[.int .i64 m, .int .i64 7] V fun e w' => e = .returned (.int .i64 (pk m 7)) ∧ V = w') := fun V => pick_any m 7 (by omega) (by omega) V
  have hp0' : 0 ≤ pk m 7 := hp0
  have hp1' : pk m 7 < 7 := hp1
  clear hp0 hp1
  generalize pk m 7 = y0 at *
  have hy : wrap64 (y0 - 1) = y0 - 1 := IntWalk.wrap64_in _ (by omega)
  obtain ⟨kq0, kq1⟩ := pk_in kp 100 (by omega)
  have CQ : ∀ V, Hid (Calls Tryd.prog 5 #[.int .i64 kp, .int .i64 100] V fun e w' => e = .returned (.int .i64 (pk kp 100)) ∧ V = w') := fun V => pick_any kp 100 (by omega) (by omega) V
  have hk0' : 0 ≤ pk kp 100 := kq0
  have hk1' : pk kp 100 < 100 := kq1
  clear kq0 kq1
  generalize pk kp 100 = kk at *
  obtain ⟨j, rfl⟩ := Int.eq_ofNat_of_zero_le hk0'
  go_enter Tryd.func3, Tryd.ntmps3
  go_upto_region 1 with fail
  refine wp_forget (fun V => Arr V w.heap.size 24 (dkArr L A c z) ∧ Below w.heap.size w V) (by exact ⟨A0, b0⟩) ?_
  clear A0 b0
  rintro V ⟨A0, b0⟩
  have d1 : V.cell? ⟨w.heap.size, 1, none⟩ = some (.int .i64 z) := A0.cell 1
  have f1 := A0.free 1
  go_wp2_with fail
  (with_reducible refine (CP V).out.mono ?_)
  clear CP
  rintro _ V2 ⟨rfl, rfl⟩
  have A1 : Arr (V.setCell ⟨w.heap.size, 1, none⟩ (.int .i64 (y0 - 1))) w.heap.size 24 (dkArr L A c (y0 - 1)) := A0.put 1 (.int .i64 (y0 - 1))
  have b1 := below_gb b0 (show V.grownBy (V.setCell ⟨w.heap.size, 1, none⟩ (.int .i64 (y0 - 1))) (some w.heap.size) from gb_set _ _ _) (Nat.le_refl _) b0.size
  go_upto_region 2 with fail
  refine wp_forget (fun V => Arr V w.heap.size 24 (dkArr L A c (y0 - 1)) ∧ Below w.heap.size w V) (by exact ⟨A1, b1⟩) ?_
  clear A1 b1 A0 b0 d1 f1 hy
  have hzf : y0 - 1 ≤ 9223372036854775807 := by omega
  have hzl : y0 - 1 ≤ 100 := by omega
  generalize y0 - 1 = x at *
  clear hp0' hp1'
  rintro V ⟨A0, b0⟩
  have CT := fun (V : World) a t => Lib.hid (Put_st L s hs A c x V a hz hl hc hzf t)
  have HNo : Hid ((putO ⟨L, x⟩ s).2.2 ≠ 0 → (putO ⟨L, x⟩ s).2.1 = ⟨#[]⟩) := putO_no
  have HYes := fun h => Lib.hid (put_back (d := ⟨L, x⟩) (s := s) j h)
  have HYe2 := fun h => Lib.hid (putO_yes (d := ⟨L, x⟩) (s := s) h)
  have hfu : (putO ⟨L, x⟩ s).1.fuse ≤ 100 := Int.le_trans put_fuse hzl
  generalize putO ⟨L, x⟩ s = R at *
  obtain ⟨⟨M, y⟩, I, e⟩ := R
  have hfu' : y ≤ 100 := hfu
  clear hfu
  have c0 : V.cell? ⟨w.heap.size, 0, none⟩ = some (.slice A L.length c) := A0.cell 0
  have c1 : V.cell? ⟨w.heap.size, 1, none⟩ = some (.int .i64 x) := A0.cell 1
  have C1 : Hid (Calls Tryd.prog 6 #[.agg #[.slice A L.length c, .int .i64 x], .string s] V (PutEnd V (⟨M, y⟩, I, e))) := CT V (hP.up b0) (ht.below b0 ht.1)
  clear CT
  go_wp2_with fail
  (with_reducible refine C1.out.mono ?_)
  clear C1 c0 c1
  rintro _ V5 ⟨Aa, ca, rfl, hFa, hca, b2⟩
  simp only at hFa hca ⊢
  replace A0 := A0.below b2 A0.lt
  replace b0 := b0.trans (b2.mono b0.size)
  clear b2 V
  have bb : Below V5.heap.size V5 ((V5.alloc (.cells dkZero 24)).setRow V5.heap.size (dkArr M Aa ca y)) := below_setRow ((Below.refl _ _).alloc (Nat.le_refl _) _) (Nat.le_refl _) _
  have AX : Arr ((V5.alloc (.cells dkZero 24)).setRow V5.heap.size (dkArr M Aa ca y)) V5.heap.size 24 (dkArr M Aa ca y) := (Arr.new _ _ _).row _
  go_upto_region 3 with (refine wpList_store_row rfl 24 _ _ rfl V5.heap.size (dkArr M Aa ca y) rfl rfl 24 dkZero (Arr.new V5 _ _) (dkInfo _ _ _ _) rfl (dkArr_one _ _ _ _) ?_)
  refine wp_forget (fun W => Arr W V5.heap.size 24 (dkArr M Aa ca y) ∧ Arr W w.heap.size 24 (dkArr L A c x) ∧ Fls W W.heap.size Aa M ∧ Below w.heap.size w W) (by exact ⟨AX, A0.below bb A0.lt, hFa.up bb, b0.trans (bb.mono b0.size)⟩) ?_
  clear AX bb A0 b0 hFa
  generalize V5.heap.size = qa at *
  clear V5
  rintro W ⟨AX, A0, hFa, b0⟩
  by_cases he : e = 0
  case neg =>
    have hb : (e != 0) = true := by rw [bne_iff_ne]; exact he
    have hI : I = ⟨#[]⟩ := HNo.out he
    subst hI
    clear HNo HYes HYe2 he
    have hTW : Tab W := ht.below b0 ht.1
    go_wp2_with fail
    (with_reducible refine (CK W hTW).out.mono ?_)
    rintro _ W2 ⟨rfl, b2⟩
    go_wp2_with fail
    go_ret
    exact ⟨rfl, b0.trans (b2.mono b0.size)⟩
  subst he
  obtain ⟨h1, h2, hG, _⟩ := (HYe2 rfl).out
  have hI : I = sumB s := h2
  clear HYe2 h1 h2 HNo
  have hb : ((0 : Int) != 0) = false := rfl
  have hG' : goodD M = true := hG
  clear hG
  obtain ⟨hsz, hl4⟩ := good_sized hG'
  have hm : M.length ≤ 140737488355328 := by omega
  obtain ⟨q1, q2, q3, q4, q5⟩ := (HYes rfl).out
  have Q1 : putO ⟨M, y⟩ s = (⟨M, y⟩, sumB s, 0) := q1
  have Q4 : (getO ⟨M, y⟩ (sumB s)).1 ≠ s → (getO ⟨L, x⟩ (sumB s)).2 = 0 := q4
  have Q5 : (getO ⟨L, x⟩ (sumB s)).2 = 0 ∨ getO ⟨M.map (crashF j), -1⟩ (sumB s) = (s, 0) := q5
  have Q2 : (getO ⟨M, y⟩ (sumB s)).2 = 0 := q2
  have Q3 : sumB (getO ⟨M, y⟩ (sumB s)).1 = sumB s := q3
  clear HYes q1 q2 q3 q4 q5
  have CT := fun (V : World) Aa ca a b t => Lib.hid (Put_st M s hs Aa ca y V a hsz hm b (by omega) t)
  rw [Q1] at CT
  have CCr := fun (V : World) h => Lib.hid (Crash_any M (j : Int) (by omega) Aa ca y V h hsz hm hca)
  rw [show crashD ⟨M, y⟩ (j : Int) = (⟨M.map (crashF j), -1⟩, 0) from crash_good hG' j] at CCr
  have hGB := good_crash hG' j
  obtain ⟨hszB, hlB4⟩ := good_sized hGB
  have CGa := fun V a t => Lib.hid (Get_st M (sumB s) Aa ca y V a hsz hm t)
  have CGd := fun V a t => Lib.hid (Get_st L (sumB s) A c x V a hz hl t)
  have CGb := fun V Ab cb a t => Lib.hid (Get_st (M.map (crashF j)) (sumB s) Ab cb (-1) V a hszB (by omega) t)
  have CS : ∀ (V : World) (A' B' : Option Addr) (c' d' : Nat), Fls V V.heap.size A' M → Fls V V.heap.size B' M → Hid (Calls Tryd.prog 10 #[.agg #[.slice A' M.length c', .int .i64 y], .agg #[.slice B' M.length d', .int .i64 y]] V fun e w' => e = .returned (.bool true) ∧ Below V.heap.size V w') := fun V A' B' c' d' h1 h2 => by
    have := sameDisk_any M M A' B' c' d' y y V h1 h2 hm hm
    rw [decide_eq_true rfl] at this
    exact this
  have CIs : ∀ V, Tab V → Hid (Calls Tryd.prog 11 #[.string s] V fun x w' => x = .returned (.string (sumB s)) ∧ Below V.heap.size V w') := fun V h => Id_any s (by omega) V h
  have htsz := getO_size ⟨M, y⟩ (sumB s)
  clear hG' hGB hlB4 hl4
  generalize M.map (crashF j) = B at *
  generalize getO ⟨M, y⟩ (sumB s) = T at *
  generalize getO ⟨L, x⟩ (sumB s) = D at *
  generalize getO ⟨B, -1⟩ (sumB s) = U at *
  obtain ⟨t, te⟩ := T
  obtain ⟨dd, de⟩ := D
  obtain ⟨u, ue⟩ := U
  obtain rfl : te = 0 := Q2
  have Q3' : sumB t = sumB s := Q3
  have Q4' : t ≠ s → de = 0 := Q4
  have Q5' : de = 0 ∨ (u = s ∧ ue = 0) := by
    rcases Q5 with h | h
    · exact .inl h
    · cases h; exact .inr ⟨rfl, rfl⟩
  have htsz' : t.size ≤ 1048576 := htsz
  have CIt : ∀ V, Tab V → Hid (Calls Tryd.prog 11 #[.string t] V fun x w' => x = .returned (.string (sumB s)) ∧ Below V.heap.size V w') := fun V h => by
    have q := Id_any t (by omega) V h
    rw [show bs (sha t.data.toList) = sumB s from Q3'] at q
    exact q
  have HQ4 := Lib.hid Q4'
  have HQ5 := Lib.hid Q5'
  clear Q3 Q4 Q5 Q3' Q4' Q5' htsz htsz' Q1
  subst hI
  generalize sumB s = I at *
  have c0 : W.cell? ⟨qa, 0, none⟩ = some (.slice Aa M.length ca) := AX.cell 0
  have c1 : W.cell? ⟨qa, 1, none⟩ = some (.int .i64 y) := AX.cell 1
  have C1 : Hid (Calls Tryd.prog 6 #[.agg #[.slice Aa M.length ca, .int .i64 y], .string s] W (PutEnd W (⟨M, y⟩, I, 0))) := CT W Aa ca hFa hca (ht.below b0 ht.1)
  clear CT
  go_wp2_with fail
  (with_reducible refine C1.out.mono ?_)
  clear C1 c0 c1
  rintro _ V5 ⟨Ag, cg, rfl, hFg, hcg, b2⟩
  simp only at hFg hcg ⊢
  replace A0 := A0.below b2 A0.lt
  replace AX := AX.below b2 AX.lt
  replace hFa := hFa.up b2
  replace b0 := b0.trans (b2.mono b0.size)
  clear b2 W
  have HY : Yv w L M A Aa Ag c ca cg x y qa V5.heap.size ((V5.alloc (.cells dkZero 24)).setRow V5.heap.size (dkArr M Ag cg y)) := by
    have bb : Below V5.heap.size V5 ((V5.alloc (.cells dkZero 24)).setRow V5.heap.size (dkArr M Ag cg y)) := below_setRow ((Below.refl _ _).alloc (Nat.le_refl _) _) (Nat.le_refl _) _
    have AY : Arr ((V5.alloc (.cells dkZero 24)).setRow V5.heap.size (dkArr M Ag cg y)) V5.heap.size 24 (dkArr M Ag cg y) := (Arr.new _ _ _).row _
    have b4 := b0.trans (bb.mono b0.size)
    exact ⟨A0.below bb A0.lt, AX.below bb AX.lt, AY, hP.up b4, hFa.up bb, hFg.up bb, b4⟩
  go_upto_region 6 with (refine wpList_store_row rfl 24 _ _ rfl V5.heap.size (dkArr M Ag cg y) rfl rfl 24 dkZero (Arr.new V5 _ _) (dkInfo _ _ _ _) rfl (dkArr_one _ _ _ _) ?_)
  refine wp_forget (Yv w L M A Aa Ag c ca cg x y qa V5.heap.size) (by exact HY) ?_
  clear HY A0 AX hFa hFg b0
  generalize V5.heap.size = qg at *
  clear V5
  intro W HY
  have d0 : W.drew.cell? ⟨qa, 0, none⟩ = some (.slice Aa M.length ca) := HY.2.1.cell 0
  have d1 : W.drew.cell? ⟨qa, 1, none⟩ = some (.int .i64 y) := HY.2.1.cell 1
  have Yd : Yv w L M A Aa Ag c ca cg x y qa qg W.drew := HY.below (below_drewN (Below.refl _ _) 1)
  have be : Below W.heap.size W (W.alloc (.cells dkZero 24)).drew := ((Below.refl _ W).alloc (Nat.le_refl _) _).drew
  have Ye : Yv w L M A Aa Ag c ca cg x y qa qg (W.alloc (.cells dkZero 24)).drew := HY.below be
  have AE : Arr (W.alloc (.cells dkZero 24)).drew W.heap.size 24 dkZero := (Arr.new _ _ _).drew
  have hq1 : w.heap.size < W.heap.size := HY.1.lt
  have hq2 : qa < W.heap.size := HY.2.1.lt
  have hq3 : qg < W.heap.size := HY.2.2.1.lt
  replace CCr : ∀ V, Fls V V.heap.size Aa M → Hid (Calls Tryd.prog 8 #[.agg #[.slice Aa M.length ca, .int .i64 y], .int .i64 (j : Int)] V (StEnd V (⟨B, -1⟩, 0))) := CCr
  have CCd := CCr _ Yd.2.2.2.2.1
  have CCe := CCr _ Ye.2.2.2.2.1
  have d0e : (W.alloc (.cells dkZero 24)).drew.cell? ⟨qa, 0, none⟩ = some (.slice Aa M.length ca) := Ye.2.1.cell 0
  have d1e : (W.alloc (.cells dkZero 24)).drew.cell? ⟨qa, 1, none⟩ = some (.int .i64 y) := Ye.2.1.cell 1
  unfold dkZero at CCe d0e d1e
  clear CCr be
  go_region_law (first
    | (go_simp; go_at_call 5; (with_reducible refine (CQ _).out.mono ?_); rintro _ _ ⟨rfl, rfl⟩)
    | (go_simp; go_at_call 8; (with_reducible refine CCd.out.mono ?_); rintro _ W3 ⟨Ab, cb, rfl, hFb, hcb, b3⟩
       have HF : Hid (∀ W', W' = W3.alloc (.cells #[.slice Ab B.length cb, .int .i64 (-1)] 24) → Zv w L M B A Aa Ag Ab c ca cg cb x y qa qg W3.heap.size W') := (Yd.below b3).late hFb
       simp only [dkArr])
    | (go_simp; go_at_call 8; (with_reducible refine CCe.out.mono ?_); rintro _ W3 ⟨Ab, cb, rfl, hFb, hcb, b3⟩
       have AF := AE.below b3 AE.lt
       have HF : Hid (∀ W', W' = (W3.setCell ⟨W.heap.size, 0, none⟩ (.slice Ab B.length cb)).setCell ⟨W.heap.size, 1, none⟩ (.int .i64 (-1)) → Zv w L M B A Aa Ag Ab c ca cg cb x y qa qg W.heap.size W') := (Ye.below b3).early hFb AF hq1 hq2 hq3
       have x0 : W3.cell? ⟨W.heap.size, 0, none⟩ = some (.slice none 0 0) := AF.cell 0
       have x1 := AF.free 0
       have AG := AF.put 0 (.slice Ab B.length cb)
       have x2 : (W3.setCell ⟨W.heap.size, 0, none⟩ (.slice Ab B.length cb)).cell? ⟨W.heap.size, 1, none⟩ = some (.int .i64 0) := AG.cell 1
       have x3 := AG.free 1
       simp only [dkArr]))
  all_goals
    go_upto_region 7 with fail
    first
      | (refine wp_forget (Zv w L M B A Aa Ag Ab c ca cg cb x y qa qg W3.heap.size) (by exact HF.out _ rfl) ?_
         generalize W3.heap.size = qb)
      | (refine wp_forget (Zv w L M B A Aa Ag Ab c ca cg cb x y qa qg W.heap.size) (by exact HF.out _ rfl) ?_
         generalize W.heap.size = qb)
    intro V8 Z
    have g0 : V8.cell? ⟨qa, 0, none⟩ = some (.slice Aa M.length ca) := Z.2.1.cell 0
    have g1 : V8.cell? ⟨qa, 1, none⟩ = some (.int .i64 y) := Z.2.1.cell 1
    have C1 : Hid (Calls Tryd.prog 9 #[.agg #[.slice Aa M.length ca, .int .i64 y], .string I] V8 fun e w' => e = .returned (.tuple #[.string t, .int .i64 0]) ∧ Below V8.heap.size V8 w') := CGa V8 Z.2.2.2.2.2.1 (ht.below Z.2.2.2.2.2.2.2.2 ht.1)
    go_wp2_with fail
    (with_reducible refine C1.out.mono ?_)
    rintro _ V9 ⟨rfl, b9⟩
    replace Z := Z.below b9
    clear C1 g0 g1 b9
    have g0 : V9.cell? ⟨w.heap.size, 0, none⟩ = some (.slice A L.length c) := Z.1.cell 0
    have g1 : V9.cell? ⟨w.heap.size, 1, none⟩ = some (.int .i64 x) := Z.1.cell 1
    have C1 : Hid (Calls Tryd.prog 9 #[.agg #[.slice A L.length c, .int .i64 x], .string I] V9 fun e w' => e = .returned (.tuple #[.string dd, .int .i64 de]) ∧ Below V9.heap.size V9 w') := CGd V9 Z.2.2.2.2.1 (ht.below Z.2.2.2.2.2.2.2.2 ht.1)
    go_wp2_with fail
    (with_reducible refine C1.out.mono ?_)
    rintro _ V10 ⟨rfl, b9⟩
    replace Z := Z.below b9
    clear C1 g0 g1 b9
    have g0 : V10.cell? ⟨qb, 0, none⟩ = some (.slice Ab B.length cb) := Z.2.2.2.1.cell 0
    have g1 : V10.cell? ⟨qb, 1, none⟩ = some (.int .i64 (-1)) := Z.2.2.2.1.cell 1
    have C1 : Hid (Calls Tryd.prog 9 #[.agg #[.slice Ab B.length cb, .int .i64 (-1)], .string I] V10 fun e w' => e = .returned (.tuple #[.string u, .int .i64 ue]) ∧ Below V10.heap.size V10 w') := CGb V10 Ab cb Z.2.2.2.2.2.2.2.1 (ht.below Z.2.2.2.2.2.2.2.2 ht.1)
    go_wp2_with fail
    (with_reducible refine C1.out.mono ?_)
    rintro _ V11 ⟨rfl, b9⟩
    replace Z := Z.below b9
    clear C1 g0 g1 b9
    have g0 : V11.cell? ⟨qa, 0, none⟩ = some (.slice Aa M.length ca) := Z.2.1.cell 0
    have g1 : V11.cell? ⟨qa, 1, none⟩ = some (.int .i64 y) := Z.2.1.cell 1
    have g2 : V11.cell? ⟨qg, 0, none⟩ = some (.slice Ag M.length cg) := Z.2.2.1.cell 0
    have g3 : V11.cell? ⟨qg, 1, none⟩ = some (.int .i64 y) := Z.2.2.1.cell 1
    have C1 := CS V11 Ag Aa cg ca Z.2.2.2.2.2.2.1 Z.2.2.2.2.2.1
    go_wp2_with fail
    (with_reducible refine C1.out.mono ?_)
    rintro _ V12 ⟨rfl, b9⟩
    replace Z := Z.below b9
    clear C1 g0 g1 g2 g3 b9
    have hT12 := ht.below Z.2.2.2.2.2.2.2.2 ht.1
    go_wp2_with fail
    (with_reducible refine (CIs V12 hT12).out.mono ?_)
    rintro _ V13 ⟨rfl, b9⟩
    replace Z := Z.below b9
    clear b9 hT12
    have hT13 := ht.below Z.2.2.2.2.2.2.2.2 ht.1
    have b13 := Z.2.2.2.2.2.2.2.2
    by_cases hts : t = s
    · have hb1 : (t.toList == s.toList) = true := by rw [hts]; exact beq_self_eq_true _
      by_cases hde : de = 0
      · subst hde
        go_wp2_with fail
        (with_reducible refine (CK V13 hT13).out.mono ?_)
        rintro _ V14 ⟨rfl, b14⟩
        go_wp2_with fail
        go_ret
        exact ⟨rfl, b13.trans (b14.mono b13.size)⟩
      · rcases HQ5.out with h | ⟨rfl, rfl⟩
        · exact absurd h hde
        have hb2 : (de == 0) = false := by rw [beq_eq_false_iff_ne]; exact hde
        go_wp2_with fail
        (with_reducible refine (CK V13 hT13).out.mono ?_)
        rintro _ V14 ⟨rfl, b14⟩
        go_wp2_with fail
        go_ret
        exact ⟨rfl, b13.trans (b14.mono b13.size)⟩
    · have hb1 : (t.toList == s.toList) = false := by
        rw [beq_eq_false_iff_ne]
        intro q
        rw [toList_data, toList_data] at q
        exact hts (bytes_eq q)
      obtain rfl : de = 0 := HQ4.out hts
      go_wp2_with fail
      (with_reducible refine (CIt V13 hT13).out.mono ?_)
      rintro _ V14 ⟨rfl, b14⟩
      have b15 := b13.trans (b14.mono b13.size)
      have hT15 : Tab V14 := ht.below b15 ht.1
      go_wp2_with fail
      (with_reducible refine (CIs V14 hT15).out.mono ?_)
      rintro _ V15 ⟨rfl, b16⟩
      have b17 := b15.trans (b16.mono b15.size)
      have hT17 : Tab V15 := ht.below b17 ht.1
      go_wp2_with fail
      (with_reducible refine (CK V15 hT17).out.mono ?_)
      rintro _ V16 ⟨rfl, b18⟩
      go_wp2_with fail
      go_ret
      exact ⟨rfl, b17.trans (b18.mono b17.size)⟩
end Go.Proofs.YtilolbefeoibhaaDoor

/- A map from texts to whatever values that the call has made: its entries, one by one. -/
namespace Go.Proofs.YtilolbefeoibhaaDoor
open Go.RowKit

abbrev KX := ByteArray × Value
def mkXs : Nat → List KX → List MapEntry
  | _, [] => []
  | i, x :: l => { key := .string x.1, val := x.2, born := i } :: mkXs (i + 1) l
theorem mkXs_at : ∀ (l : List KX) (i q : Nat), (mkXs i l)[q]? = (l[q]?).map fun x => { key := .string x.1, val := x.2, born := i + q }
  | [], i, q => by simp [mkXs]
  | x :: l, i, 0 => by simp [mkXs]
  | x :: l, i, q + 1 => by
    rw [mkXs, List.getElem?_cons_succ, List.getElem?_cons_succ, mkXs_at l (i + 1) q, show i + 1 + q = i + (q + 1) from by omega]
theorem mkXs_len : ∀ (l : List KX) (i : Nat), (mkXs i l).length = l.length
  | [], _ => rfl
  | x :: l, i => by rw [mkXs, List.length_cons, List.length_cons, mkXs_len l]
/-- block b is a map of these entries -/
def MapX (w : World) (b : Nat) (l : List KX) : Prop := w.heap[b]? = some (.map (mkXs 0 l).toArray l.length)
theorem MapX.lt {w : World} {b : Nat} {l : List KX} (h : MapX w b l) : b < w.heap.size := (Array.getElem?_eq_some_iff.1 h).1
theorem MapX.kept {w w' : World} {b : Nat} {l : List KX} {r : Option Nat} (h : MapX w b l) (k : w.grownBy w' r) (hr : some b ≠ r) : MapX w' b l := (k.block b h.lt hr).trans h
theorem MapX.below {w w' : World} {b B : Nat} {l : List KX} (h : MapX w b l) (k : Below B w w') (hb : b < B) : MapX w' b l := (k.block b hb).trans h
theorem MapX.new (w : World) : MapX (w.alloc (.map #[] 0)) w.heap.size [] := heap_alloc_new w _
/-- where a key stands first -/
def posX (k : ByteArray) : List KX → Option Nat
  | [] => none
  | x :: l => if k = x.1 then some 0 else (posX k l).map (· + 1)
def upX (k : ByteArray) (v : Value) (l : List KX) : List KX := match posX k l with
  | none => l ++ [(k, v)]
  | some p => l.set p (k, v)
theorem posX_at : ∀ (k : ByteArray) (l : List KX) (p : Nat), posX k l = some p → ∃ v, l[p]? = some (k, v)
  | k, [], p, h => by cases h
  | k, x :: l, p, h => by
    rw [posX] at h
    split at h
    · rename_i e
      cases h
      exact ⟨x.2, by rw [e]; rfl⟩
    · obtain ⟨q, hq, rfl⟩ := Option.map_eq_some_iff.1 h
      obtain ⟨v, hv⟩ := posX_at k l q hq
      exact ⟨v, by rw [List.getElem?_cons_succ]; exact hv⟩
theorem findX_mk (k : ByteArray) : ∀ (l : List KX) (i j : Nat), Instr.findNow .string (.string k) (mkXs i l) j = some ((posX k l).map fun p => (j + p, (l.getD p (k, undef)).2))
  | [], i, j => rfl
  | x :: l, i, j => by
    rw [mkXs, Instr.findNow, Instr.sameNow, beq_bytes, posX]
    by_cases e : k = x.1
    · rw [decide_eq_true e, if_pos e]
      simp
    · rw [decide_eq_false e, if_neg e]
      simp only
      rw [findX_mk k l (i + 1) (j + 1)]
      congr 1
      cases posX k l with
      | none => rfl
      | some p =>
        simp only [Option.map_some, List.getD_cons_succ]
        rw [show j + 1 + p = j + (p + 1) from by omega]
theorem mkX_push (l : List KX) (k : ByteArray) (v : Value) : mkXs 0 l ++ [{ key := .string k, val := v, born := l.length }] = mkXs 0 (l ++ [(k, v)]) := by
  apply List.ext_getElem?
  intro q
  rw [mkXs_at]
  rcases Nat.lt_trichotomy q l.length with h | h | h
  · rw [List.getElem?_append_left (by rw [mkXs_len]; exact h), List.getElem?_append_left h, mkXs_at]
  · subst h
    rw [List.getElem?_append_right (by rw [mkXs_len]; exact Nat.le_refl _), List.getElem?_append_right (Nat.le_refl _), mkXs_len]
    simp
  · rw [List.getElem?_eq_none (by rw [List.length_append, mkXs_len]; simp; omega), List.getElem?_eq_none (by rw [List.length_append]; simp; omega)]
    rfl
theorem mkX_set (l : List KX) (p : Nat) (k : ByteArray) (v u : Value) (hp : l[p]? = some (k, u)) :
    (mkXs 0 l).modify p (fun e => { key := .string k, val := v, born := e.born }) = mkXs 0 (l.set p (k, v)) := by
  apply List.ext_getElem?
  intro q
  rw [List.getElem?_modify, mkXs_at, mkXs_at, List.getElem?_set]
  by_cases e : p = q
  · subst e
    rw [if_pos rfl, if_pos (List.getElem?_eq_some_iff.1 hp).1, hp]
    simp
  · rw [if_neg e]
    simp [e]
theorem run_upX {mt et : TypeId} (hu : Tryd.prog.underlying mt = some (.map 9 et)) {w : World} {b : Nat} {l : List KX} (h : MapX w b l) (k : ByteArray) (v : Value) :
    ∃ w', (Instr.mapUpdate mt (.map (some b)) (.string k) v).run Tryd.prog w = .ok () w' ∧ MapX w' b (upX k v l) ∧ w.grownBy w' (some b) := by
  have hk : MapKept.IsKey .string (.string k) := trivial
  have hf := findX_mk k l 0 0
  unfold upX
  cases hp : posX k l with
  | none =>
    rw [hp] at hf
    refine ⟨_, ?_, ?_, gb_map (o := .map (mkXs 0 (l ++ [(k, v)])).toArray (l.length + 1))⟩
    · simp [Instr.mapUpdate, run_underlying hu, MapKept.run_getObj_map h, MapKept.run_checkKey Tryd.underlying9 hk, MapKept.run_findKey Tryd.underlying9 hf, MapKept.run_setObj_map _ h, Result.andThen, mkX_push]
    · unfold MapX
      rw [(MapKept.heap_set h).1, List.length_append]
      rfl
  | some p =>
    rw [hp] at hf
    obtain ⟨u, hu'⟩ := posX_at k l p hp
    have hj : (mkXs 0 l)[p]? = some { key := .string k, val := u, born := 0 + p } := by rw [mkXs_at, hu']; rfl
    refine ⟨_, ?_, ?_, gb_map (o := .map (mkXs 0 (l.set p (k, v))).toArray l.length)⟩
    · rw [Option.map_some, Nat.zero_add] at hf
      simp [Instr.mapUpdate, run_underlying hu, MapKept.run_getObj_map h, MapKept.run_checkKey Tryd.underlying9 hk, MapKept.run_findKey Tryd.underlying9 hf, hj, MapKept.run_keyThatStays hk, MapKept.run_setObj_map _ h, Result.andThen, mkX_set l p k v u hu']
    · unfold MapX
      rw [(MapKept.heap_set h).1, List.length_set]
/-- what a look-up answers -/
def lookX (z : Value) (k : ByteArray) (l : List KX) : Value := match posX k l with
  | none => .tuple #[z, .bool false]
  | some p => .tuple #[(l.getD p (k, undef)).2, .bool true]
theorem run_lookX {mt et : TypeId} (hu : Tryd.prog.underlying mt = some (.map 9 et)) {z : Value} (hz : ∀ w, (zeroValue et).run Tryd.prog w = .ok z w) {w : World} {b : Nat} {l : List KX} (h : MapX w b l) (k : ByteArray) :
    (Instr.lookup mt (.map (some b)) (.string k) true).run Tryd.prog w = .ok (lookX z k l) w := by
  have hk : MapKept.IsKey .string (.string k) := trivial
  have hf := findX_mk k l 0 0
  unfold lookX
  cases hp : posX k l with
  | none =>
    rw [hp] at hf
    simp [Instr.lookup, run_underlying hu, MapKept.run_getObj_map h, MapKept.run_checkKey Tryd.underlying9 hk, MapKept.run_findKey Tryd.underlying9 hf, Result.andThen, hz]
  | some p =>
    rw [hp] at hf
    simp [Instr.lookup, run_underlying hu, MapKept.run_getObj_map h, MapKept.run_checkKey Tryd.underlying9 hk, MapKept.run_findKey Tryd.underlying9 hf, Result.andThen]
section
variable {w : World} {ops : Array Oper} {rest : List Oper} {o : Oper} {a : Act} {Q : Exit → Act → World → Prop}
/-- a store, at the operation -/
theorem wpList_upX {mt et : TypeId} (hu : Tryd.prog.underlying mt = some (.map 9 et)) (hg : o.guard = none) (m x v : Operand) (hop : o.op = Op.mapUpdate mt m x v ∨ o.op = Op.insert mt m x v) (b : Nat) (l : List KX) (hb : MapX w b l)
    (hm : a.eval m = .map (some b)) (k : ByteArray) (u : Value) (hx : a.eval x = .string k) (hv : a.eval v = u)
    (hK : ∀ w', MapX w' b (upX k u l) → w.grownBy w' (some b) → wpList Tryd.prog ops Q rest (a.put o.dst undef) w') : wpList Tryd.prog ops Q (o :: rest) a w := by
  refine wpList_plain hg fun K' hK' => ?_
  obtain ⟨w', hrun, r1, r2⟩ := run_upX hu hb k u
  unfold Oper.wp
  rcases hop with hop | hop
  · simp [execOp, hop, hm, hx, hv, hrun, Result.andThen]
    exact hK' _ _ (hK w' r1 r2)
  · simp [execOp, hop, hm, hx, hv, hrun, Result.andThen]
    exact hK' _ _ (hK w' r1 r2)
end
/-- the keys of a map are these texts -/
def KeyX (M : List KX) (T : List ByteArray) : Prop := ∀ k, (posX k M).isSome = true ↔ k ∈ T
theorem posX_push (k x : ByteArray) (v : Value) : ∀ M : List KX, (posX k (M ++ [(x, v)])).isSome = ((posX k M).isSome || decide (k = x))
  | [] => by
    simp only [posX, List.nil_append, Option.isSome_none, Bool.false_or]
    by_cases h : k = x
    · simp [h]
    · simp [h]
  | y :: M => by
    have := posX_push k x v M
    simp only [posX, List.cons_append]
    by_cases h : k = y.1
    · simp [h]
    · simp only [if_neg h, Option.isSome_map]
      exact this
theorem keyX_push {M : List KX} {T : List ByteArray} (h : KeyX M T) (s : ByteArray) (v : Value) : KeyX (M ++ [(s, v)]) (T ++ [s]) := fun k => by
  rw [posX_push, Bool.or_eq_true, h k, List.mem_append, List.mem_singleton, decide_eq_true_iff]
theorem keyX_nil : KeyX [] [] := fun k => by simp [posX]
theorem mapX_arr {w : World} {g g' : Nat} {t : TypeId} {cs : Array Value} {l : List KX} (h : MapX w g l) (h' : Arr w g' t cs) : g ≠ g' := fun e => by
  subst e
  have := h.symm.trans h'
  cases this
theorem own_mapX {w : World} {base : Nat} {e : TypeId} {size g : Nat} {v : Value} {n : Nat} {xs : List Value} {l : List KX} (h : w.ownsRow base e size v n xs) (h' : MapX w g l) : v.ownBlock ≠ some g := fun q => by
  rcases h.2 with ⟨rfl, _⟩ | ⟨k, cap, cur, rfl, _, hg, _⟩
  · cases q
  · cases q
    have := hg.symm.trans h'
    cases this
end Go.Proofs.YtilolbefeoibhaaDoor
