/- Texts in one: RfGood, RfSet, RfRep, RfSets. -/
import Derived.Test.YtenjnaebhbmfiaaDoorRfIter
import Derived.Test.YtenjnaebhbmfiaaDoorRfFind
import Derived.Test.YtenjnaebhbmfiaaDoorRfConcat
import Derived.Test.YtenjnaebhbmfiaaDoorDkGood
import Derived.DataElems
/- refs.Good, Get: contracts. -/
namespace Go.Proofs.YtenjnaebhbmfiaaDoor
open Go.RowKit

/-- where Good stands -/
def RfGdRel (L : List Rf) (w : World) (i : Value) (wr : World) : Prop :=
  ∃ k : Nat, k ≤ L.length ∧ i = .int .i64 (k : Int) ∧ Below w.heap.size w wr ∧
    ∃ b, goodLR ⟨#[]⟩ L = goodLR b (L.drop k) ∧ (k = 0 ∧ b = ⟨#[]⟩ ∨ ∃ m f, k = m + 1 ∧ L[m]? = some f ∧ b = f.name)
end Go.Proofs.YtenjnaebhbmfiaaDoor

/- refs.Get, isIdOrEmpty, replace, Set: contracts. -/
namespace Go.Proofs.YtenjnaebhbmfiaaDoor
open Go.RowKit

theorem hasR_some {L : List Rf} {b n : ByteArray} (hr : rrs b L) (h : hasR n L = true) : ∃ x, L[rlow n L]? = some x ∧ x.name = n ∧ getRf n L = some x ∧ rlow n L < L.length := by
  have hg := getR_low n L b hr
  unfold hasR at h
  cases hx : L[rlow n L]? with
  | none => rw [hx] at hg; rw [hg] at h; cases h
  | some x =>
    rw [hx] at hg
    simp only at hg
    by_cases e : x.name = n
    · rw [if_pos e] at hg
      exact ⟨x, rfl, e, hg, (List.getElem?_eq_some_iff.1 hx).1⟩
    · rw [if_neg e] at hg
      rw [hg] at h
      cases h
end Go.Proofs.YtenjnaebhbmfiaaDoor

/- refs.replace: its contract. -/
namespace Go.Proofs.YtenjnaebhbmfiaaDoor
open Go.RowKit

theorem Rfs.drop {w : World} {B : Nat} {ad : Addr} {L : List Rf} (h : Rfs w B (some ad) L) (k : Nat) : Rfs w B (some (ad.add (k * 2))) (L.drop k) := fun j x hx => by
  rw [List.getElem?_drop] at hx
  obtain ⟨a, e, hb, h0, h1⟩ := h (k + j) x hx
  cases e
  refine ⟨_, rfl, ?_⟩
  rw [Addr.add_add, show k * 2 + j * 2 = (k + j) * 2 from by omega]
  exact ⟨hb, h0, h1⟩
theorem Rfs.take {w : World} {B : Nat} {A : Option Addr} {L : List Rf} (h : Rfs w B A L) (k : Nat) : Rfs w B A (L.take k) := fun j x hx => by
  rw [List.getElem?_take] at hx
  split at hx
  · exact h j x hx
  · cases hx
theorem Rfs.rest {w : World} {B : Nat} {ad : Addr} {L : List Rf} (h : Rfs w B (some ad) L) (k c : Nat) (hc : L.length ≤ c) : Rfs w B (if c = k then some ad else some (ad.add (k * 2))) (L.drop k) := by
  by_cases e : c = k
  · rw [List.drop_of_length_le (by omega)]
    exact Rfs.nil _ _ _
  · rw [if_neg e]
    exact h.drop k
theorem own_less {w : World} {base B : Nat} {e : TypeId} {size : Nat} {v : Value} {n : Nat} {xs : List Value} (h : w.ownsRow base e size v n xs) (hb : B ≤ base) : w.ownsRow B e size v n xs := by
  refine ⟨h.1, ?_⟩
  rcases h.2 with hn | ⟨g, cap, cur, hv, hbs, rest⟩
  · exact .inl hn
  · exact .inr ⟨g, cap, cur, hv, Nat.le_trans hb hbs, rest⟩
end Go.Proofs.YtenjnaebhbmfiaaDoor

/- refs.Set: its contract. -/
namespace Go.Proofs.YtenjnaebhbmfiaaDoor
open Go.RowKit

/-- what a Set leaves -/
def SrEnd (w : World) (r : List Rf × Int) (e : Ending) (w' : World) : Prop :=
  ∃ A c, e = .returned (.tuple #[.slice A r.1.length c, .int .i64 r.2]) ∧ Rfs w' w'.heap.size A r.1 ∧ r.1.length ≤ c ∧ Below w.heap.size w w'
theorem sr_no (w w' : World) (z : Int) (b : Below w.heap.size w w') : SrEnd w ([], z) (.returned (.tuple #[.slice none 0 0, .int .i64 z])) w' := ⟨none, 0, rfl, Rfs.nil _ _ _, Nat.le_refl _, b⟩
end Go.Proofs.YtenjnaebhbmfiaaDoor
