/- Texts in one: DkCh5, DkStep, DkSteps, DkRead, DkDisks, DkRefA. -/
import Derived.Test.YtbpmgpbmeganoaaDoorDkCh4
import Derived.Deep.RegionHeld3
import Derived.Laws.IdiomStrings
/- The change of Write. -/
namespace Go.Proofs.YtbpmgpbmeganoaaDoor
open Go.RowKit

theorem take_tail {C : List Value} {L : List Fl} {i cap : Nat} {f : Fl} {t : ByteArray} (hC : C.take (L.length * 3) = flCells L) (hcs : C.length = cap * 3) (hnc : L.length ≤ cap) (hi : L[i]? = some f) :
    (C.set (i * 3 + 2) (.string t)).take (L.length * 3) = flCells (L.set i ⟨f.name, f.safe, t⟩) := by
  have hlt := (List.getElem?_eq_some_iff.1 hi).1
  have h1 := take_set2 (f' := ⟨f.name, f.safe, t⟩) (u := .string f.safe) (v := .string t) hC hcs hnc hi rfl rfl rfl
  have e : C.set (i * 3 + 1) (.string f.safe) = C := by
    have hc : C[i * 3 + 1]? = some (.string f.safe) := by
      have := flCells_at L i 1 f hi (by omega)
      rw [← hC, List.getElem?_take_of_lt (by omega)] at this
      exact this
    obtain ⟨hl, he⟩ := List.getElem?_eq_some_iff.1 hc
    rw [← he, List.set_getElem_self]
  rw [e] at h1
  exact h1
end Go.Proofs.YtbpmgpbmeganoaaDoor

/- disk.step: its contract, at each change. -/
namespace Go.Proofs.YtbpmgpbmeganoaaDoor
open Go.RowKit

/-- a disk and an error, handed back -/
def StEnd (w : World) (d : Dk × Int) (x : Ending) (w' : World) : Prop :=
  ∃ A c, x = .returned (.tuple #[.agg (dkArr d.1.files A c d.1.fuse), .int .i64 d.2]) ∧ Fls w' w'.heap.size A d.1.files ∧ d.1.files.length ≤ c ∧ Below w.heap.size w w'
end Go.Proofs.YtbpmgpbmeganoaaDoor

/- disk.Write, Sync, Rename, Remove: their contracts. -/
namespace Go.Proofs.YtbpmgpbmeganoaaDoor
open Go.RowKit

theorem dkZero_no : ∀ (i : Nat) (t : ByteArray), dkZero[i]? ≠ some (.string t)
  | 0, t => by simp [dkZero]
  | 1, t => by simp [dkZero]
  | n + 2, t => by simp [dkZero]
end Go.Proofs.YtbpmgpbmeganoaaDoor

/- disk.Read; keep.sameDisk, keep.disks: contracts. -/
namespace Go.Proofs.YtbpmgpbmeganoaaDoor
open Go.RowKit

def neF (x y : Fl) : Bool := !(sameB x.name y.name && sameB x.safe y.safe && sameB x.tail y.tail)
theorem neF_iff (x y : Fl) : neF x y = false ↔ x = y := by
  unfold neF
  obtain ⟨a, b, c⟩ := x
  obtain ⟨a', b', c'⟩ := y
  simp [sameB_iff, and_assoc]
theorem take_same {α : Type} {T U : List α} {k : Nat} (h : T.take k = U.take k) (h1 : k < T.length) (h2 : k < U.length) (e : T[k] = U[k]) : T.take (k + 1) = U.take (k + 1) := by
  rw [List.take_succ_eq_append_getElem h1, List.take_succ_eq_append_getElem h2, h, e]
end Go.Proofs.YtbpmgpbmeganoaaDoor

/- keep.disks, law.disks; what a step leaves. -/
namespace Go.Proofs.YtbpmgpbmeganoaaDoor
open Go.RowKit

theorem good_sized {L : List Fl} (h : goodD L = true) : Sized L ∧ L.length ≤ 400 := by
  obtain ⟨h1, _, h3⟩ := (goodD_iff L).1 h
  refine ⟨fun f hf => ?_, h1⟩
  obtain ⟨k1, k2⟩ := h3 f hf
  unfold named at k1
  unfold fits at k2
  have k2 := of_decide_eq_true k2
  rw [Bool.and_eq_true, Bool.and_eq_true, decide_eq_true_iff, decide_eq_true_iff] at k1
  exact ⟨by omega, by omega, by omega⟩
def aT : ByteArray := ⟨#[97]⟩
def bT : ByteArray := ⟨#[98]⟩
theorem disks_step : stepP ⟨[], -1⟩ (wrP [] aT bT) = (⟨[⟨aT, ⟨#[]⟩, bT⟩], -1⟩, 0) := by decide +kernel
theorem disks_named : named ⟨#[97, 46, 98, 45, 99]⟩ = true := by decide +kernel
/-- what a step that says no leaves -/
theorem step_no {d : Dk} {r : Except Int (List Fl)} (h : (stepP d r).2 ≠ 0) : (stepP d r).1 = d := by
  unfold stepP at h ⊢
  split
  · rfl
  · rename_i h1
    rw [if_neg h1] at h
    split
    · rfl
    · rename_i h2
      rw [if_neg h2] at h
      cases r with
      | error e => rfl
      | ok L => exact absurd rfl h
theorem step_yes {d : Dk} {r : Except Int (List Fl)} (hr : ∀ e, r = .error e → e ≠ 0) (h : (stepP d r).2 = 0) : goodD d.files = true ∧ d.fuse ≠ 0 ∧ ∃ L, r = .ok L ∧ stepP d r = (⟨L, burnt d.fuse⟩, 0) := by
  unfold stepP at h ⊢
  cases hg : goodD d.files with
  | false => rw [hg] at h; simp at h
  | true =>
    rw [hg] at h
    simp only [Bool.not_true, Bool.false_eq_true, if_false] at h ⊢
    by_cases hz : d.fuse = 0
    · rw [if_pos hz] at h; simp at h
    · rw [if_neg hz] at h ⊢
      cases r with
      | error e => exact absurd h (hr e rfl)
      | ok L => exact ⟨trivial, hz, L, rfl, rfl⟩
theorem rn_err {L : List Fl} {n m : ByteArray} : ∀ e, rnP L n m = .error e → e ≠ 0 := fun e h => by
  unfold rnP at h
  split at h
  · cases h; decide
  · split at h
    · cases h; decide
    · cases h
theorem rn_ok {L L' : List Fl} {n m : ByteArray} (hG : goodD L = true) (h : rnP L n m = .ok L') : ∃ f, getF n L = some f ∧ getF m L' = some ⟨m, f.safe, f.tail⟩ ∧ (n ≠ m → getF n L' = none) ∧ goodD L' = true := by
  obtain ⟨h4, hr, hall⟩ := (goodD_iff L).1 hG
  unfold rnP at h
  cases hm : named m with
  | false => rw [hm] at h; simp at h
  | true =>
    rw [hm] at h
    simp only [Bool.not_true, Bool.false_eq_true, if_false] at h
    cases hf : getF n L with
    | none => rw [hf] at h; cases h
    | some f =>
      rw [hf] at h
      cases h
      have hdr := del_ris n L _ hr
      refine ⟨f, rfl, ?_, fun hne => ?_, ?_⟩
      · rw [getF_put m _ _ _ hdr, if_pos rfl]
      · rw [getF_put n _ _ _ hdr, if_neg (fun e => hne e.symm), getF_del, if_pos rfl]
      · have hx := (fits_get hG hf).2
        refine good_put (good_del hG) hm hx (.inr ?_)
        have hn := getF_name hf
        have : (del n L).length < L.length := by
          have hs : (getF n L).isSome = true := by rw [hf]; rfl
          have hlt := (has_some hr (n := n) (by unfold hasN; exact hs))
          obtain ⟨_, _, _, _, hlt⟩ := hlt
          rw [del_cut n L _ hr hs, List.length_append, List.length_take, List.length_drop]
          omega
        omega
end Go.Proofs.YtbpmgpbmeganoaaDoor

/- ref.fileName, GoodDisk, at: their contracts. -/
namespace Go.Proofs.YtbpmgpbmeganoaaDoor
open Go.RowKit

theorem conv_name (s : ByteArray) (w : World) : ∃ cap W, (convert 9 93 (.string s)).run Tryd.prog w = .ok (.slice (some ⟨w.heap.size, 0, none⟩) s.size cap) W ∧
    (∀ (k : Nat) (h : k < s.size), W.cell? ⟨w.heap.size, k, none⟩ = some (.int .u8 (s[k].toNat : Int))) ∧ Below w.heap.size w W := by
  refine ⟨_, _, run_bytes_of_string w 9 93 5 s Tryd.underlying9 Tryd.underlying93 Tryd.underlying5, fun k hk => ?_, (Below.refl _ _).drew.alloc (by simp) _⟩
  have hh : (w.drew.alloc (.cells (bytesRow s (grownCap w s.size 0 5)) 5 ((bytesRow s (grownCap w s.size 0 5)).size, (bytesRow s (grownCap w s.size 0 5)).size + 1))).heap[w.heap.size]? = some (.cells (bytesRow s (grownCap w s.size 0 5)) 5 ((bytesRow s (grownCap w s.size 0 5)).size, (bytesRow s (grownCap w s.size 0 5)).size + 1)) := heap_alloc_new w.drew _
  rw [cell_of_row _ _ k _ _ _ hh]
  rw [bytesRow_at s _ k hk]
  rfl
theorem inName_int (c : UInt8) : inName c = ((decide ((97 : Int) ≤ c.toNat) && decide ((c.toNat : Int) ≤ 122)) || (decide ((48 : Int) ≤ c.toNat) && decide ((c.toNat : Int) ≤ 57)) || ((c.toNat : Int) == 46) || ((c.toNat : Int) == 45)) := by
  have e1 : decide ((97 : Int) ≤ c.toNat) = decide (97 ≤ c.toNat) := decide_eq_decide.2 (by omega)
  have e2 : decide ((c.toNat : Int) ≤ 122) = decide (c.toNat ≤ 122) := decide_eq_decide.2 (by omega)
  have e3 : decide ((48 : Int) ≤ c.toNat) = decide (48 ≤ c.toNat) := decide_eq_decide.2 (by omega)
  have e4 : decide ((c.toNat : Int) ≤ 57) = decide (c.toNat ≤ 57) := decide_eq_decide.2 (by omega)
  have e5 : ((c.toNat : Int) == 46) = decide (c.toNat = 46) := by rw [show ((c.toNat : Int) == 46) = decide ((c.toNat : Int) = 46) from rfl]; exact decide_eq_decide.2 (by omega)
  have e6 : ((c.toNat : Int) == 45) = decide (c.toNat = 45) := by rw [show ((c.toNat : Int) == 45) = decide ((c.toNat : Int) = 45) from rfl]; exact decide_eq_decide.2 (by omega)
  rw [e1, e2, e3, e4, e5, e6]
  rfl
def FnRel (s : ByteArray) (W : World) (i : Value) (wr : World) : Prop :=
  ∃ k : Nat, k ≤ s.size ∧ i = .int .i64 (k : Int) ∧ (s.data.toList.take k).all inName = true ∧ wr = W
theorem le_not_lt (a b : ByteArray) : (Op.bytesLess a.toList b.toList || a.toList == b.toList) = !ltB b a := by
  rcases ltB_tri b a with h | rfl | h
  · have h1 : Op.bytesLess a.toList b.toList = false := ltB_asym h
    have h2 : (a.toList == b.toList) = false := by
      rw [beq_eq_false_iff_ne, toList_data, toList_data]
      exact fun q => ltB_ne h (bytes_eq q).symm
    rw [h1, h2, h]
    rfl
  · rw [ltB_irr]; simp
  · have h1 : Op.bytesLess a.toList b.toList = true := h
    rw [h1, ltB_asym h]
    rfl
end Go.Proofs.YtbpmgpbmeganoaaDoor
