/- Texts in one: DkFuse, DkLaws, StOnP. -/
import Derived.Test.YtmikfmcgddmplaaGreatDoorDkSave
import Derived.Test.YtmikfmcgddmplaaGreatDoorOPick
import Derived.Test.YtmikfmcgddmplaaGreatDoorOLinks
import Derived.Test.YtmikfmcgddmplaaGreatDoorRefMath
/- keep.DiskFuse: the walk. -/
namespace Go.Proofs.YtmikfmcgddmplaaGreatDoor
open Go.RowKit

theorem wr_no12 {L : List Fl} {n s : ByteArray} : ∀ e, wrP L n s = .error e → e ≠ 12 := fun e h => by
  unfold wrP at h
  split at h
  · cases h; decide
  · split at h
    · split at h
      · cases h; decide
      · split at h
        · cases h; decide
        · cases h
    · split at h
      · cases h; decide
      · cases h
/-- what a write upon a disk that is one comes to -/
theorem wr_step {L : List Fl} {n s : ByteArray} {z : Int} (hG : goodD L = true) (h0 : 0 ≤ z) : (z = 0 ∧ stepP ⟨L, z⟩ (wrP L n s) = (⟨L, z⟩, 12)) ∨
    (0 < z ∧ ∃ L', stepP ⟨L, z⟩ (wrP L n s) = (⟨L', z - 1⟩, 0) ∧ goodD L' = true) ∨ (0 < z ∧ ∃ e, stepP ⟨L, z⟩ (wrP L n s) = (⟨L, z⟩, e) ∧ e ≠ 0 ∧ e ≠ 12) := by
  unfold stepP
  simp only [hG, Bool.not_true, Bool.false_eq_true, if_false]
  by_cases hz : z = 0
  · exact .inl ⟨hz, by rw [if_pos hz]⟩
  · right
    rw [if_neg hz]
    cases hr : wrP L n s with
    | error e => exact .inr ⟨by omega, e, rfl, wr_err e hr, wr_no12 e hr⟩
    | ok L' =>
      refine .inl ⟨by omega, L', ?_, (wr_ok hG hr).2.2⟩
      simp only [burnt]
      rw [if_pos (by omega)]
theorem crash_good {L : List Fl} {z : Int} (hG : goodD L = true) (m : Nat) : crashD ⟨L, z⟩ (m : Int) = (⟨L.map (crashF m), -1⟩, 0) := by
  unfold crashD
  simp only [hG, Bool.not_true, Bool.false_or, Int.toNat_natCast]
  rw [if_neg (by simp)]
/-- where the law stands: the disk in its box -/
def FuRel (w : World) (i : Value) (wr : World) : Prop :=
  ∃ (k : Nat) (L : List Fl) (A : Option Addr) (c : Nat) (z : Int), i = .int .i64 (k : Int) ∧ k ≤ 8 ∧ goodD L = true ∧ 0 ≤ z ∧ z ≤ 4 ∧ L.length ≤ c ∧ Arr wr w.heap.size 37 (dkArr L A c z) ∧ Fls wr wr.heap.size A L ∧ Below w.heap.size w wr
end Go.Proofs.YtmikfmcgddmplaaGreatDoor

/- What Save leaves of other files, and of its own behind a crash: plain mathematics. -/
namespace Go.Proofs.YtmikfmcgddmplaaGreatDoor
open Go.RowKit

/-- a disk, and a file's bytes, as they were -/
def Keep (o : ByteArray) (d d' : Dk) : Prop := goodD d'.files = true ∧ getF o d'.files = getF o d.files
theorem keep_refl {o : ByteArray} {d : Dk} (h : goodD d.files = true) : Keep o d d := ⟨h, rfl⟩
theorem keep_trans {o : ByteArray} {a b c : Dk} (h : Keep o a b) (k : Keep o b c) : Keep o a c := ⟨k.1, k.2.trans h.2⟩
theorem step_keep {o : ByteArray} {d : Dk} {r : Except Int (List Fl)} (hG : goodD d.files = true) (h : ∀ L, r = .ok L → goodD L = true ∧ getF o L = getF o d.files) : Keep o d (stepP d r).1 := by
  unfold stepP
  simp only [hG, Bool.not_true, Bool.false_eq_true, if_false]
  split
  · exact keep_refl hG
  · cases r with
    | error e => exact keep_refl hG
    | ok L => exact h L rfl
theorem rm_keep {o n : ByteArray} {d : Dk} (hG : goodD d.files = true) (hn : o ≠ n) : Keep o d (stepP d (rmP d.files n)).1 := step_keep hG fun L h => by
  obtain ⟨rfl, h2⟩ := rm_ok hG h
  exact ⟨h2, by rw [getF_del, if_neg (fun e => hn e.symm)]⟩
theorem sy_keep {o n : ByteArray} {d : Dk} (hG : goodD d.files = true) (hn : o ≠ n) : Keep o d (stepP d (syP d.files n)).1 := step_keep hG fun L h => by
  obtain ⟨f, _, rfl, h2⟩ := sy_ok hG h
  exact ⟨h2, by rw [getF_put o _ _ _ ((goodD_iff _).1 hG).2.1, if_neg (fun e => hn e.symm)]⟩
theorem wr_keep {o n s : ByteArray} {d : Dk} (hG : goodD d.files = true) (hn : o ≠ n) : Keep o d (stepP d (wrP d.files n s)).1 := step_keep hG fun L h => by
  obtain ⟨_, ⟨f, _, rfl⟩, h2⟩ := wr_ok hG h
  exact ⟨h2, by rw [getF_put o _ _ _ ((goodD_iff _).1 hG).2.1, if_neg (fun e => hn e.symm)]⟩
theorem rn_list {L L' : List Fl} {n m : ByteArray} (h : rnP L n m = .ok L') : ∃ f, getF n L = some f ∧ L' = putL ⟨m, f.safe, f.tail⟩ (del n L) := by
  unfold rnP at h
  cases hm : named m with
  | false => rw [hm] at h; simp at h
  | true =>
    rw [hm] at h
    simp only [Bool.not_true, Bool.false_eq_true, if_false] at h
    cases hf : getF n L with
    | none => rw [hf] at h; cases h
    | some f => rw [hf] at h; cases h; exact ⟨f, rfl, rfl⟩
theorem rn_keep {o n m : ByteArray} {d : Dk} (hG : goodD d.files = true) (hn : o ≠ n) (hm : o ≠ m) : Keep o d (stepP d (rnP d.files n m)).1 := step_keep hG fun L h => by
  obtain ⟨_, _, _, _, h2⟩ := rn_ok hG h
  obtain ⟨f, _, rfl⟩ := rn_list h
  exact ⟨h2, by rw [getF_put o _ _ _ (del_ris _ _ _ ((goodD_iff _).1 hG).2.1), if_neg (fun e => hm e.symm), getF_del, if_neg (fun e => hn e.symm)]⟩
theorem then_keep {o : ByteArray} {d : Dk} {r : Dk × Int} {f : Dk → Dk × Int} (h : Keep o d r.1) (k : ∀ d', goodD d'.files = true → Keep o d' (f d').1) : Keep o d (thenD r f).1 := by
  unfold thenD
  split
  · exact h
  · exact keep_trans h (k _ h.1)
/-- Save leaves what is neither its file nor that with .new behind -/
theorem save_keep {o n s : ByteArray} {d : Dk} (hG : goodD d.files = true) (hn : o ≠ n) (hf : o ≠ newN n) : Keep o d (saveD d n s).1 := by
  unfold saveD
  simp only [hG, Bool.not_true, Bool.false_eq_true, if_false]
  split
  · exact keep_refl hG
  · refine then_keep (then_keep (then_keep ?_ fun d' h => wr_keep h hf) fun d' h => sy_keep h hf) fun d' h => rn_keep h hf hn
    split
    · exact rm_keep hG hf
    · exact keep_refl hG
theorem save_bad {n s : ByteArray} {d : Dk} (hG : goodD d.files = false) : (saveD d n s).1 = d := by
  unfold saveD
  simp [hG]
theorem step_bad {r : Except Int (List Fl)} {d : Dk} (hG : goodD d.files = false) : (stepP d r).1 = d := by
  unfold stepP
  simp [hG]
theorem read_keep {o : ByteArray} {d d' : Dk} (hG : goodD d.files = true) (h : Keep o d d') : readD d' o = readD d o := by
  unfold readD
  rw [hG, h.1, h.2]
theorem new_ne (n : ByteArray) : newN n ≠ n := fun e => by
  have := congrArg ByteArray.size e
  unfold newN at this
  rw [ByteArray.size_append] at this
  have : n.size + 4 = n.size := this
  omega
theorem crashF_name (k : Nat) (f : Fl) : (crashF k f).name = f.name := rfl
theorem ris_map (k : Nat) : ∀ (L : List Fl) (b : ByteArray), ris b L → ris b (L.map (crashF k))
  | [], _, _ => trivial
  | _ :: l, _, h => ⟨h.1, ris_map k l _ h.2⟩
theorem good_crash {L : List Fl} (hG : goodD L = true) (k : Nat) : goodD (L.map (crashF k)) = true := by
  obtain ⟨h1, h2, h3⟩ := (goodD_iff L).1 hG
  refine (goodD_iff _).2 ⟨by rw [List.length_map]; exact h1, ris_map k L _ h2, fun g hg => ?_⟩
  obtain ⟨f, hf, rfl⟩ := List.mem_map.1 hg
  obtain ⟨k1, k2⟩ := h3 f hf
  refine ⟨k1, ?_⟩
  unfold fits at k2 ⊢
  have k2 := of_decide_eq_true k2
  refine decide_eq_true ?_
  show (f.safe ++ f.tail.extract 0 (min k f.tail.size)).size + 0 ≤ 1048576
  rw [ByteArray.size_append, ByteArray.size_extract]
  omega
theorem get_crash (n : ByteArray) (k : Nat) : ∀ L : List Fl, getF n (L.map (crashF k)) = (getF n L).map (crashF k)
  | [] => rfl
  | f :: l => by
    have ih := get_crash n k l
    unfold getF at ih ⊢
    rw [List.map_cons, List.find?_cons, List.find?_cons]
    by_cases e : f.name = n
    · simp [crashF_name, e]
    · simp only [crashF_name, e, decide_false]
      exact ih
theorem app_none (s : ByteArray) : s ++ (⟨#[]⟩ : ByteArray) = s := by
  apply ByteArray.ext
  simp
theorem crash_still {f : Fl} (h : f.tail = ⟨#[]⟩) (k : Nat) : crashF k f = f := by
  obtain ⟨a, b, c⟩ := f
  obtain rfl : c = ⟨#[]⟩ := h
  unfold crashF
  simp only
  rw [show ((⟨#[]⟩ : ByteArray).extract 0 (min k (⟨#[]⟩ : ByteArray).size)) = ⟨#[]⟩ from by apply bytes_eq; rw [extract_drop]; simp, app_none]
/-- of what was safe, a save that says no leaves the file as it was, one that says yes the new one -/
theorem save_atomic {L : List Fl} {n s : ByteArray} {z : Int} (hG : goodD L = true) (ht : ∀ f ∈ L, f.tail = ⟨#[]⟩) (k : Nat) : goodD (saveD ⟨L, z⟩ n s).1.files = true ∧
    ((saveD ⟨L, z⟩ n s).2 = 0 → readD ⟨(saveD ⟨L, z⟩ n s).1.files.map (crashF k), -1⟩ n = (s, 0)) ∧
    ((saveD ⟨L, z⟩ n s).2 ≠ 0 → readD ⟨(saveD ⟨L, z⟩ n s).1.files.map (crashF k), -1⟩ n = readD ⟨L, z⟩ n) := by
  have hnf : n ≠ newN n := fun e => new_ne n e.symm
  -- a disk on which the file is as it was
  have still : ∀ d' : Dk, Keep n ⟨L, z⟩ d' → readD ⟨d'.files.map (crashF k), -1⟩ n = readD ⟨L, z⟩ n := fun d' h => by
    unfold readD
    simp only [hG, good_crash h.1 k, get_crash, h.2]
    cases hf : getF n L with
    | none => rfl
    | some f =>
      have := crash_still (ht f (getF_name hf).2) k
      simp only [Option.map_some, this]
  unfold saveD
  simp only [hG, Bool.not_true, Bool.false_eq_true, if_false]
  by_cases hN : (!named n || !named (newN n)) = true
  · rw [if_pos hN]
    exact ⟨hG, fun h => absurd h (by simp), fun _ => still _ (keep_refl hG)⟩
  rw [if_neg hN]
  obtain ⟨r0, hr0⟩ : ∃ r0, r0 = (if (getF (newN n) L).isSome = true then stepP ⟨L, z⟩ (rmP L (newN n)) else (⟨L, z⟩, 0)) := ⟨_, rfl⟩
  rw [← hr0]
  have K0 : Keep n ⟨L, z⟩ r0.1 := by
    rw [hr0]
    split
    · exact rm_keep hG hnf
    · exact keep_refl hG
  by_cases e0 : r0.2 = 0
  case neg => rw [then_err e0, then_err e0, then_err e0]; exact ⟨K0.1, fun h => absurd h e0, fun _ => still _ K0⟩
  have N0 : getF (newN n) r0.1.files = none := by
    rw [hr0] at e0 ⊢
    split
    · rename_i hs
      rw [if_pos hs] at e0
      obtain ⟨_, _, L1, h1, h2⟩ := step_yes rm_err e0
      rw [h2]
      obtain ⟨rfl, _⟩ := rm_ok hG h1
      rw [getF_del, if_pos rfl]
    · rename_i hs
      cases hg : getF (newN n) L with
      | none => rfl
      | some f => rw [hg] at hs; simp at hs
  rw [then_ok e0]
  obtain ⟨d0, _⟩ := r0
  simp only at K0 N0 ⊢
  clear hr0 e0
  obtain ⟨r1, hr1⟩ : ∃ r1, r1 = stepP d0 (wrP d0.files (newN n) s) := ⟨_, rfl⟩
  rw [← hr1]
  have K1 : Keep n ⟨L, z⟩ r1.1 := by rw [hr1]; exact keep_trans K0 (wr_keep K0.1 hnf)
  by_cases e1 : r1.2 = 0
  case neg => rw [then_err e1, then_err e1]; exact ⟨K1.1, fun h => absurd h e1, fun _ => still _ K1⟩
  have N1 : getF (newN n) r1.1.files = some ⟨newN n, ⟨#[]⟩, s⟩ := by
    rw [hr1] at e1 ⊢
    obtain ⟨_, _, L1, h1, h2⟩ := step_yes wr_err e1
    rw [h2]
    obtain ⟨_, ⟨f, hf, rfl⟩, _⟩ := wr_ok K0.1 h1
    rcases hf with hf | ⟨_, rfl⟩
    · rw [N0] at hf; cases hf
    · rw [getF_put _ _ _ _ ((goodD_iff _).1 K0.1).2.1, if_pos rfl, empty_append]
  rw [then_ok e1]
  obtain ⟨d1, _⟩ := r1
  simp only at K1 N1 ⊢
  clear hr1 e1
  obtain ⟨r2, hr2⟩ : ∃ r2, r2 = stepP d1 (syP d1.files (newN n)) := ⟨_, rfl⟩
  rw [← hr2]
  have K2 : Keep n ⟨L, z⟩ r2.1 := by rw [hr2]; exact keep_trans K1 (sy_keep K1.1 hnf)
  by_cases e2 : r2.2 = 0
  case neg => rw [then_err e2]; exact ⟨K2.1, fun h => absurd h e2, fun _ => still _ K2⟩
  have N2 : getF (newN n) r2.1.files = some ⟨newN n, s, ⟨#[]⟩⟩ := by
    rw [hr2] at e2 ⊢
    obtain ⟨_, _, L1, h1, h2⟩ := step_yes sy_err e2
    rw [h2]
    obtain ⟨f, hf, rfl, _⟩ := sy_ok K1.1 h1
    rw [N1] at hf
    cases hf
    rw [getF_put _ _ _ _ ((goodD_iff _).1 K1.1).2.1, if_pos rfl]
    show some (⟨newN n, (⟨#[]⟩ : ByteArray) ++ s, ⟨#[]⟩⟩ : Fl) = _
    rw [empty_append]
  rw [then_ok e2]
  obtain ⟨d2, _⟩ := r2
  simp only at K2 N2 ⊢
  clear hr2 e2
  by_cases e3 : (stepP d2 (rnP d2.files (newN n) n)).2 = 0
  · obtain ⟨_, _, L3, h1, h2⟩ := step_yes rn_err e3
    obtain ⟨f, k1, k2, _, k4⟩ := rn_ok K2.1 h1
    rw [N2] at k1
    cases k1
    rw [h2]
    refine ⟨k4, fun _ => ?_, fun h => absurd rfl h⟩
    unfold readD
    simp only [good_crash k4 k, get_crash, k2, Option.map_some]
    rw [crash_still (f := ⟨n, s, ⟨#[]⟩⟩) rfl k]
    simp only [Bool.not_true, Bool.false_eq_true, if_false]
    rw [app_none]
  · have := step_no e3
    rw [this]
    exact ⟨K2.1, fun h => absurd h e3, fun _ => still _ K2⟩
theorem crash_tails {L : List Fl} (k : Nat) : ∀ f ∈ L.map (crashF k), f.tail = ⟨#[]⟩ := fun f hf => by
  obtain ⟨g, _, rfl⟩ := List.mem_map.1 hf
  rfl
end Go.Proofs.YtmikfmcgddmplaaGreatDoor

/- Descends is whether one is reached from another: plain mathematics. -/
namespace Go.Proofs.YtmikfmcgddmplaaGreatDoor
open Go.RowKit

inductive Rch (G : ByteArray → ByteArray × Int) : ByteArray → ByteArray → Prop
  | refl (x : ByteArray) : Rch G x x
  | step {x y z : ByteArray} : Rch G x y → z ∈ (loadR (G y)).1.pars → Rch G x z
theorem Rch.trans {G : ByteArray → ByteArray × Int} {x y z : ByteArray} (h : Rch G x y) (k : Rch G y z) : Rch G x z := by
  induction k with
  | refl => exact h
  | step _ hp ih => exact .step ih hp
theorem addAll_pre : ∀ (U T : List ByteArray), ∃ W, addAll T U = T ++ W
  | [], T => ⟨[], by simp [addAll]⟩
  | y :: l, T => by
    obtain ⟨W, hW⟩ := addAll_pre l (if memB y T = true then T else T ++ [y])
    show ∃ W, addAll (if memB y T = true then T else T ++ [y]) l = T ++ W
    rw [hW]
    split
    · exact ⟨W, rfl⟩
    · exact ⟨y :: W, by simp⟩
theorem addAll_mem (x : ByteArray) : ∀ (U T : List ByteArray), x ∈ addAll T U ↔ x ∈ T ∨ x ∈ U
  | [], T => by simp [addAll]
  | y :: l, T => by
    show x ∈ addAll (if memB y T = true then T else T ++ [y]) l ↔ _
    rw [addAll_mem x l, List.mem_cons]
    split
    · rename_i h
      have hy := memB_iff.1 h
      constructor
      · rintro (h | h)
        · exact .inl h
        · exact .inr (.inr h)
      · rintro (h | rfl | h)
        · exact .inl h
        · exact .inl hy
        · exact .inr h
    · rw [List.mem_append, List.mem_singleton, or_assoc]
theorem addAll_nodup : ∀ (U T : List ByteArray), T.Nodup → (addAll T U).Nodup
  | [], T, h => h
  | y :: l, T, h => by
    show (addAll (if memB y T = true then T else T ++ [y]) l).Nodup
    refine addAll_nodup l _ ?_
    split
    · exact h
    · rename_i hn
      rw [List.nodup_append]
      refine ⟨h, by simp, fun a ha b hb e => ?_⟩
      rw [List.mem_singleton.1 hb] at e
      rw [e] at ha
      exact hn (memB_iff.2 ha)
theorem nodup_len : ∀ (l m : List ByteArray), l.Nodup → (∀ x ∈ l, x ∈ m) → l.length ≤ m.length
  | [], _, _, _ => Nat.zero_le _
  | x :: l, m, h, hs => by
    rw [List.nodup_cons] at h
    have ih := nodup_len l (m.filter fun y => !decide (y = x)) h.2 (fun y hy => by
      rw [List.mem_filter]
      refine ⟨hs y (List.mem_cons_of_mem _ hy), ?_⟩
      have : y ≠ x := fun e => h.1 (by rw [← e]; exact hy)
      simp [this])
    have h2 : (m.filter fun y => !decide (y = x)).length < m.length := by
      rw [List.length_filter_lt_length_iff_exists]
      exact ⟨x, hs x List.mem_cons_self, by simp⟩
    rw [List.length_cons]
    omega
/-- the ids that have come up are those that are reached, once all are seen -/
theorem descGo_iff {G : ByteArray → ByteArray × Int} {a to : ByteArray} {P : List ByteArray} (hP : ∀ x y, y ∈ (loadR (G x)).1.pars → y ∈ P) (hl : P.length ≤ 390) :
    ∀ (n : Nat) (V : List ByteArray) (i : Nat), 401 ≤ n + i → i ≤ V.length → V.Nodup → a ∈ V → (∀ x ∈ V, Rch G a x) → (∀ x ∈ V, x ∈ a :: P) →
      (∀ j v, j < i → V[j]? = some v → v ≠ to ∧ ∀ y ∈ (loadR (G v)).1.pars, y ∈ V) → (descGo G to n V i = true ↔ Rch G a to)
  | 0, V, i, hn, hi, hd, _, _, hs, _ => by
    have := nodup_len V (a :: P) hd hs
    rw [List.length_cons] at this
    omega
  | n + 1, V, i, hn, hi, hd, ha, hr, hs, hj => by
    have hlen := nodup_len V (a :: P) hd hs
    rw [List.length_cons] at hlen
    rw [descGo]
    by_cases hlt : i < min V.length 400
    · rw [if_pos hlt]
      have hV : V[i]? = some V[i] := List.getElem?_eq_getElem (by omega)
      rw [List.getD_eq_getElem?_getD, hV, Option.getD_some]
      have hmem : V[i] ∈ V := List.getElem_mem (by omega)
      generalize V[i] = v at *
      by_cases hv : v = to
      · rw [if_pos hv, ← hv]
        exact ⟨fun _ => hr v hmem, fun _ => rfl⟩
      · rw [if_neg hv]
        obtain ⟨W, hW⟩ := addAll_pre (loadR (G v)).1.pars V
        refine descGo_iff hP hl n _ (i + 1) (by omega) ?_ (addAll_nodup _ _ hd) ((addAll_mem _ _ _).2 (.inl ha)) (fun x hx => ?_) (fun x hx => ?_) (fun j u hj2 hu => ?_)
        · rw [hW, List.length_append]; omega
        · rcases (addAll_mem _ _ _).1 hx with h | h
          · exact hr x h
          · exact .step (hr v hmem) h
        · rcases (addAll_mem _ _ _).1 hx with h | h
          · exact hs x h
          · exact List.mem_cons_of_mem _ (hP v x h)
        · have hu2 : V[j]? = some u := by
            rw [hW, List.getElem?_append_left (by omega)] at hu
            exact hu
          by_cases e : j = i
          · subst e
            rw [hV] at hu2
            cases hu2
            exact ⟨hv, fun y hy => (addAll_mem _ _ _).2 (.inr hy)⟩
          · obtain ⟨k1, k2⟩ := hj j u (by omega) hu2
            exact ⟨k1, fun y hy => (addAll_mem _ _ _).2 (.inl (k2 y hy))⟩
    · rw [if_neg hlt]
      have hiV : i = V.length := by omega
      refine ⟨fun h => by simp at h, fun h => ?_⟩
      have hin : ∀ x, Rch G a x → x ∈ V := fun x hx => by
        induction hx with
        | refl => exact ha
        | step _ hp ih =>
          obtain ⟨j, hjl, hje⟩ := List.mem_iff_getElem.1 ih
          exact (hj j _ (by omega) (by rw [List.getElem?_eq_getElem hjl, hje])).2 _ hp
      obtain ⟨j, hjl, hje⟩ := List.mem_iff_getElem.1 (hin to h)
      exact absurd rfl (hj j to (by omega) (by rw [List.getElem?_eq_getElem hjl, hje])).1
theorem desc_iff {G : ByteArray → ByteArray × Int} {P : List ByteArray} (hP : ∀ x y, y ∈ (loadR (G x)).1.pars → y ∈ P) (hl : P.length ≤ 390) (a to : ByteArray) : desc G a to = true ↔ Rch G a to :=
  descGo_iff hP hl 401 [a] 0 (by omega) (by simp) (by simp) (by simp) (fun x hx => by rw [List.mem_singleton.1 hx]; exact .refl a) (fun x hx => by rw [List.mem_singleton.1 hx]; simp) (fun j v hj => absurd hj (by omega))
theorem flat_len {f : ByteArray → List ByteArray} (hf : ∀ x, (f x).length ≤ 4) : ∀ l : List ByteArray, (l.flatMap f).length ≤ 4 * l.length
  | [] => by simp
  | x :: l => by
    have := flat_len hf l
    have := hf x
    rw [List.flatMap_cons, List.length_append, List.length_cons]
    omega
theorem dec_pars4 (l : List UInt8) : (decO l).1.pars.length ≤ 4 := by
  by_cases h : (decO l).2 = 0
  · exact (good_facts (dec_only h).2.1).pars
  · rw [dec_none h]; simp [Ob.none]
/-- of at most eighty objects: each descends from itself, and from whatever what it descends from descends from -/
theorem onward {M : List KT} {l : List ByteArray} (h80 : l.length ≤ 80) (hM : ∀ id s, getT id M = some s → s ∈ l) (a b c : ByteArray) :
    desc (tellT M) a a = true ∧ (desc (tellT M) a b = true → desc (tellT M) b c = true → desc (tellT M) a c = true) := by
  have hP : ∀ x y, y ∈ (loadR (tellT M x)).1.pars → y ∈ l.flatMap fun s => (decO s.data.toList).1.pars := fun x y hy => by
    unfold tellT at hy
    cases hg : getT x M with
    | none => rw [hg] at hy; unfold loadR at hy; simp [Ob.none] at hy
    | some s =>
      rw [hg] at hy
      rw [List.mem_flatMap]
      refine ⟨s, hM x s hg, ?_⟩
      unfold loadR at hy
      simp only [ne_eq, not_true_eq_false, if_false] at hy
      split at hy
      · simp [Ob.none] at hy
      · exact hy
  have hl := flat_len (f := fun s => (decO s.data.toList).1.pars) (fun s => dec_pars4 _) l
  have hI := fun x y => desc_iff hP (by omega) x y
  refine ⟨(hI a a).2 (.refl a), fun h1 h2 => ?_⟩
  exact (hI a c).2 (((hI a b).1 h1).trans ((hI b c).1 h2))
end Go.Proofs.YtmikfmcgddmplaaGreatDoor
