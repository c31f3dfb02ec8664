/- Texts in one: SpRow, SpPartP. -/
import Derived.Test.YtbpmgpbmeganoaaDoorSpMath
import Derived.Test.YtbpmgpbmeganoaaDoorOApp
import Derived.Test.YtbpmgpbmeganoaaDoorSpSpec
/- Lists of steps in memory: each by its five cells. -/
namespace Go.Proofs.YtbpmgpbmeganoaaDoor
open Go.RowKit

/-- the steps that a slice holds, their slices below B -/
def Spx (w : World) (B : Nat) (A : Option Addr) (L : List SpL) : Prop :=
  ∀ k x, L[k]? = some x → ∃ ad, A = some ad ∧ (ad.add (k * 5)).block < B ∧ w.cell? (ad.add (k * 5)) = some (.string x.1.ref) ∧
    w.cell? ⟨(ad.add (k * 5)).block, (ad.add (k * 5)).off + 1, none⟩ = some (.string x.1.old) ∧ w.cell? ⟨(ad.add (k * 5)).block, (ad.add (k * 5)).off + 2, none⟩ = some (.string x.1.new) ∧
    w.cell? ⟨(ad.add (k * 5)).block, (ad.add (k * 5)).off + 3, none⟩ = some (.slice x.2.wa x.1.who.length x.2.wc) ∧ w.cell? ⟨(ad.add (k * 5)).block, (ad.add (k * 5)).off + 4, none⟩ = some (.slice x.2.sa x.1.seals.length x.2.sc) ∧ SpIn w B x.1 x.2
theorem Sps.row {w : World} {B : Nat} {A : Option Addr} {L : List SpL} (h : Sps w B A L) : Spx w B A L := fun k x hx => by
  obtain ⟨ad, e, hb, hc, hI⟩ := h k x hx
  obtain ⟨_, _, hat⟩ := World.cells?_some hc
  have h0 := hat 0 (by decide)
  have h1 := hat 1 (by decide)
  have h2 := hat 2 (by decide)
  have h3 := hat 3 (by decide)
  have h4 := hat 4 (by decide)
  rw [show (ad.add (k * 5)).add 0 = ad.add (k * 5) from if_pos rfl] at h0
  rw [add_next _ 1 (by omega)] at h1
  rw [add_next _ 2 (by omega)] at h2
  rw [add_next _ 3 (by omega)] at h3
  rw [add_next _ 4 (by omega)] at h4
  exact ⟨ad, e, hb, h0, h1, h2, h3, h4, hI⟩
theorem Spx.below {w w' : World} {B : Nat} {A : Option Addr} {L : List SpL} (h : Spx w B A L) (b : Below B w w') : Spx w' B A L := fun k x hx => by
  obtain ⟨ad, e, hb, h0, h1, h2, h3, h4, hI⟩ := h k x hx
  exact ⟨ad, e, hb, (b.cell hb).trans h0, (b.cell (p := ⟨(ad.add (k * 5)).block, (ad.add (k * 5)).off + 1, none⟩) hb).trans h1, (b.cell (p := ⟨(ad.add (k * 5)).block, (ad.add (k * 5)).off + 2, none⟩) hb).trans h2,
    (b.cell (p := ⟨(ad.add (k * 5)).block, (ad.add (k * 5)).off + 3, none⟩) hb).trans h3, (b.cell (p := ⟨(ad.add (k * 5)).block, (ad.add (k * 5)).off + 4, none⟩) hb).trans h4, hI.below b⟩
theorem Spx.mono {w : World} {B B' : Nat} {A : Option Addr} {L : List SpL} (h : Spx w B A L) (hB : B ≤ B') : Spx w B' A L := fun k x hx => by
  obtain ⟨ad, e, hb, h0, h1, h2, h3, h4, hI⟩ := h k x hx
  exact ⟨ad, e, by omega, h0, h1, h2, h3, h4, hI.mono hB⟩
theorem Spx.up {w w' : World} {A : Option Addr} {L : List SpL} (h : Spx w w.heap.size A L) (b : Below w.heap.size w w') : Spx w' w'.heap.size A L := (h.below b).mono b.size
theorem Spx.nil (w : World) (B : Nat) (A : Option Addr) : Spx w B A [] := fun k x h => by simp at h
theorem Spx.take {w : World} {B : Nat} {A : Option Addr} {L : List SpL} (h : Spx w B A L) (n : Nat) : Spx w B A (L.take n) := fun k x hx => by
  rw [List.getElem?_take] at hx
  split at hx
  · exact h k x hx
  · cases hx
/-- the cells of a row of steps -/
def spCells : List SpL → List Value
  | [] => []
  | x :: l => (spArr x.1 x.2).toList ++ spCells l
theorem spCells_app : ∀ a b : List SpL, spCells (a ++ b) = spCells a ++ spCells b
  | [], b => rfl
  | x :: a, b => by rw [List.cons_append, spCells, spCells_app a b, spCells, List.append_assoc]
theorem spCells_at : ∀ (l : List SpL) (k j : Nat) (f : SpL), l[k]? = some f → j < 5 → (spCells l)[k * 5 + j]? = (spArr f.1 f.2).toList[j]?
  | [], k, j, f, h, _ => by simp at h
  | x :: l, 0, j, f, h, hj => by
    simp at h
    subst h
    rw [spCells, Nat.zero_mul, Nat.zero_add, List.getElem?_append_left (show j < (spArr x.1 x.2).toList.length from hj)]
  | x :: l, k + 1, j, f, h, hj => by
    rw [List.getElem?_cons_succ] at h
    have ih := spCells_at l k j f h hj
    have e : (spArr x.1 x.2).toList.length = 5 := rfl
    rw [spCells, List.getElem?_append_right (by omega), show (k + 1) * 5 + j - (spArr x.1 x.2).toList.length = k * 5 + j from by omega]
    exact ih
theorem info_step : (Tryd.prog.info? 25).map (fun i => (i.zero, i.size, i.bytes)) = some (some (.agg spZero), 5, 96) := by kernel_rfl
/-- a slice that owns its row holds these steps, where their slices lie below B -/
theorem own_steps {w : World} {base B : Nat} {v : Value} {L : List SpL} (h : w.ownsRow base 25 5 v L.length (spCells L)) (hB : w.heap.size ≤ B) (hI : ∀ (k : Nat) (x : SpL), L[k]? = some x → SpIn w B x.1 x.2) : ∃ A c, v = .slice A L.length c ∧ L.length ≤ c ∧ Spx w B A L := by
  rcases h.2 with ⟨rfl, hn⟩ | ⟨g, cap, cur, rfl, hb, hg, hnc, hcm, hcs, htake⟩
  · obtain rfl : L = [] := List.eq_nil_of_length_eq_zero hn
    exact ⟨none, 0, rfl, Nat.le_refl _, Spx.nil _ _ _⟩
  · refine ⟨.some ⟨g, 0, none⟩, cap, rfl, hnc, fun k f hk => ⟨_, rfl, ?_⟩⟩
    have hlt : k < L.length := (List.getElem?_eq_some_iff.1 hk).1
    have hcell : ∀ j, j < 5 → w.cell? ⟨g, k * 5 + j, none⟩ = (spArr f.1 f.2).toList[j]? := fun j hj => by
      rw [cell_of_row w g _ cur _ (0, 0) hg, ← spCells_at L k j f hk hj, ← htake, List.getElem?_take_of_lt (by omega)]
      simp
    rw [zero_add]
    exact ⟨Nat.lt_of_lt_of_le (Array.getElem?_eq_some_iff.1 hg).1 hB, hcell 0 (by omega), hcell 1 (by omega), hcell 2 (by omega), hcell 3 (by omega), hcell 4 (by omega), hI k f hk⟩
/-- sizes that memory bears -/
def SzL (L : List SpL) : Prop := ∀ x ∈ L, SpSz x.1
/-- the steps themselves -/
def plS (L : List SpL) : List Sp := L.map (·.1)
theorem plS_len (L : List SpL) : (plS L).length = L.length := List.length_map ..
theorem plS_drop (L : List SpL) (k : Nat) : plS (L.drop k) = (plS L).drop k := List.map_drop ..
theorem plS_take (L : List SpL) (k : Nat) : plS (L.take k) = (plS L).take k := List.map_take ..
end Go.Proofs.YtbpmgpbmeganoaaDoor

/- Where a replay goes wrong, each beginning of it goes well up to there, and wrong alike from there on: plain. -/
namespace Go.Proofs.YtbpmgpbmeganoaaDoor

theorem spGo_nil (K : List ByteArray) (need : Int) (i : Nat) (cur : List Rf) : spGo K need i cur [] = (cur, 0, 0) := rfl
theorem spGo_cons (K : List ByteArray) (need : Int) (i : Nat) (cur : List Rf) (s : Sp) (l : List Sp) : spGo K need i cur (s :: l) =
    if spCheck K need i s ≠ 0 then ([], (i : Int), spCheck K need i s) else if (setR cur s.ref s.old s.new).2 ≠ 0 then ([], (i : Int), (setR cur s.ref s.old s.new).2)
    else spGo K need (i + 1) (setR cur s.ref s.old s.new).1 l := rfl
/-- what one step does to the refs -/
def spApply (K : List ByteArray) (need : Int) (i : Int) (L : List Rf) (s : Sp) : List Rf × Int :=
  if spCheck K need i s ≠ 0 then ([], spCheck K need i s) else setR L s.ref s.old s.new
theorem spGo_apply (K : List ByteArray) (need : Int) (i : Nat) (cur : List Rf) (s : Sp) (l : List Sp) : spGo K need i cur (s :: l) =
    if (spApply K need i cur s).2 ≠ 0 then ([], (i : Int), (spApply K need i cur s).2) else spGo K need (i + 1) (spApply K need i cur s).1 l := by
  rw [spGo_cons]
  unfold spApply
  by_cases h : spCheck K need i s ≠ 0
  · rw [if_pos h, if_pos h, if_pos h]
  · rw [if_neg h, if_neg h]
/-- a replay that goes well: each beginning goes well -/
theorem spGo_well (K : List ByteArray) (need : Int) : ∀ (L : List Sp) (i : Nat) (cur : List Rf) (n : Nat), (spGo K need i cur L).2.2 = 0 →
    (spGo K need i cur L).2.1 = 0 ∧ (spGo K need i cur (L.take n)).2 = (0, 0)
  | [], i, cur, n, _ => by simp [spGo_nil]
  | s :: l, i, cur, n, h => by
    rw [spGo_apply] at h ⊢
    split at h
    · rename_i h2
      exact absurd h h2
    · rename_i h2
      rw [if_neg h2]
      refine ⟨(spGo_well K need l _ _ 0 h).1, ?_⟩
      cases n with
      | zero => simp [spGo_nil]
      | succ n =>
        rw [List.take_succ_cons, spGo_apply, if_neg h2]
        exact (spGo_well K need l _ _ n h).2
/-- a replay that goes wrong -/
theorem spGo_wrong (K : List ByteArray) (need : Int) : ∀ (L : List Sp) (i : Nat) (cur : List Rf) (n : Nat), (spGo K need i cur L).2.2 ≠ 0 →
    (i : Int) ≤ (spGo K need i cur L).2.1 ∧ (spGo K need i cur L).1 = [] ∧ ((i : Int) + n ≤ (spGo K need i cur L).2.1 → (spGo K need i cur (L.take n)).2.2 = 0) ∧
      ((spGo K need i cur L).2.1 < (i : Int) + n → spGo K need i cur (L.take n) = spGo K need i cur L)
  | [], i, cur, n, h => absurd rfl h
  | s :: l, i, cur, n, h => by
    rw [spGo_apply] at h ⊢
    by_cases h2 : (spApply K need i cur s).2 ≠ 0
    · rw [if_pos h2]
      refine ⟨Int.le_refl _, rfl, fun h3 => ?_, fun h3 => ?_⟩
      · obtain rfl : n = 0 := by have h4 : (i : Int) + n ≤ i := h3; omega
        rfl
      · cases n with
        | zero => have h4 : (i : Int) < i + (0 : Nat) := h3; omega
        | succ n => rw [List.take_succ_cons, spGo_apply, if_pos h2]
    · rw [if_neg h2] at h ⊢
      cases n with
      | zero =>
        obtain ⟨h3, h4, h5, h6⟩ := spGo_wrong K need l _ _ 0 h
        exact ⟨by omega, h4, fun _ => rfl, fun h7 => by omega⟩
      | succ n =>
        obtain ⟨h3, h4, h5, h6⟩ := spGo_wrong K need l _ _ n h
        rw [List.take_succ_cons, spGo_apply, if_neg h2]
        exact ⟨by omega, h4, fun h7 => h5 (by omega), fun h7 => h6 (by omega)⟩
/-- the refs of a replay are few -/
theorem spReplay_long {K : List ByteArray} {need : Int} {L : List Sp} (h : 200 < L.length) : spReplay K need L = ([], 0, 6) := if_pos h
theorem spReplay_go {K : List ByteArray} {need : Int} {L : List Sp} (h : ¬ 200 < L.length) : spReplay K need L = spGo K need 0 [] L := if_neg h
/-- how a replay and that of a beginning stand to one another -/
theorem parts_cases (K : List ByteArray) (need : Int) (L : List Sp) (m : Nat) :
    (200 < L.length ∧ spReplay K need L = ([], 0, 6)) ∨ (L.length ≤ 200 ∧ (spReplay K need L).2 = (0, 0) ∧ (spReplay K need (L.take m)).2 = (0, 0)) ∨
      (L.length ≤ 200 ∧ (spReplay K need L).2.2 ≠ 0 ∧ (spReplay K need L).1 = [] ∧ (m : Int) ≤ (spReplay K need L).2.1 ∧ (spReplay K need (L.take m)).2.2 = 0) ∨
      (L.length ≤ 200 ∧ (spReplay K need L).2.2 ≠ 0 ∧ (spReplay K need L).1 = [] ∧ (spReplay K need L).2.1 < (m : Int) ∧ spReplay K need (L.take m) = spReplay K need L) := by
  by_cases h : 200 < L.length
  · exact .inl ⟨h, spReplay_long h⟩
  have h2 : ¬ 200 < (L.take m).length := by rw [List.length_take]; omega
  rw [spReplay_go h, spReplay_go h2]
  by_cases he : (spGo K need 0 [] L).2.2 = 0
  · obtain ⟨h3, h4⟩ := spGo_well K need L 0 [] m he
    exact .inr (.inl ⟨by omega, Prod.ext h3 he, h4⟩)
  · obtain ⟨h3, h4, h5, h6⟩ := spGo_wrong K need L 0 [] m he
    by_cases hm : (m : Int) ≤ (spGo K need 0 [] L).2.1
    · exact .inr (.inr (.inl ⟨by omega, he, h4, hm, h5 (by omega)⟩))
    · exact .inr (.inr (.inr ⟨by omega, he, h4, by omega, h6 (by omega)⟩))
end Go.Proofs.YtbpmgpbmeganoaaDoor
