/- Texts in one: RfGood, RfSet. -/
import Derived.Test.YtchpgngphgjmnaaDoorRfIter
import Derived.Test.YtchpgngphgjmnaaDoorRfFind
import Derived.Test.YtchpgngphgjmnaaDoorRfConcat
import Derived.Test.YtchpgngphgjmnaaDoorDkGood
/- refs.Good, Get: contracts. -/
namespace Go.Proofs.YtchpgngphgjmnaaDoor
open Go.RowKit

/-- where Good stands -/
def RfGdRel (L : List Rf) (w : World) (i : Value) (wr : World) : Prop :=
  ∃ k : Nat, k ≤ L.length ∧ i = .int .i64 (k : Int) ∧ Below w.heap.size w wr ∧
    ∃ b, goodLR ⟨#[]⟩ L = goodLR b (L.drop k) ∧ (k = 0 ∧ b = ⟨#[]⟩ ∨ ∃ m f, k = m + 1 ∧ L[m]? = some f ∧ b = f.name)
end Go.Proofs.YtchpgngphgjmnaaDoor

/- refs.Get, isIdOrEmpty, replace, Set: contracts. -/
namespace Go.Proofs.YtchpgngphgjmnaaDoor
open Go.RowKit

theorem hasR_some {L : List Rf} {b n : ByteArray} (hr : rrs b L) (h : hasR n L = true) : ∃ x, L[rlow n L]? = some x ∧ x.name = n ∧ getRf n L = some x ∧ rlow n L < L.length := by
  have hg := getR_low n L b hr
  unfold hasR at h
  cases hx : L[rlow n L]? with
  | none => rw [hx] at hg; rw [hg] at h; cases h
  | some x =>
    rw [hx] at hg
    simp only at hg
    by_cases e : x.name = n
    · rw [if_pos e] at hg
      exact ⟨x, rfl, e, hg, (List.getElem?_eq_some_iff.1 hx).1⟩
    · rw [if_neg e] at hg
      rw [hg] at h
      cases h
end Go.Proofs.YtchpgngphgjmnaaDoor
