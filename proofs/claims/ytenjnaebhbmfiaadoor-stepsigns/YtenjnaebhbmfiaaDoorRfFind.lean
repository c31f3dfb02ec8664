/- Texts in one: DkFind, RfFind. -/
import Derived.Test.YtenjnaebhbmfiaaDoorDkGood
import Derived.Lib.Bytealg
import Derived.Laws.Externs
import Derived.Test.YtenjnaebhbmfiaaDoorRfMem
/- disk.find and what it calls: contracts. -/
namespace Go.Proofs.YtenjnaebhbmfiaaDoor
open Go.RowKit

theorem cmp_less : ∀ a b : List UInt8, Lib.compareBytes a b < 0 ↔ Op.bytesLess a b = true
  | [], [] => by simp [Lib.compareBytes, Op.bytesLess]
  | [], _ :: _ => by simp [Lib.compareBytes, Op.bytesLess]
  | _ :: _, [] => by simp [Lib.compareBytes, Op.bytesLess]
  | a :: x, b :: y => by
    have ih := cmp_less x y
    simp only [Lib.compareBytes, Op.bytesLess, Bool.or_eq_true, Bool.and_eq_true, decide_eq_true_eq, beq_iff_eq]
    by_cases h : a < b
    · simp [h]
    · by_cases h2 : b < a
      · have : ¬ a = b := fun e => by rw [e] at h2; exact absurd h2 (by rw [UInt8.lt_iff_toNat_lt]; omega)
        simp [h, h2, this]
      · have e : a = b := UInt8.toNat_inj.1 (by rw [UInt8.lt_iff_toNat_lt] at h h2; omega)
        subst e
        simp [h, ih]
theorem cmp_zero : ∀ a b : List UInt8, Lib.compareBytes a b = 0 ↔ a = b
  | [], [] => by simp [Lib.compareBytes]
  | [], _ :: _ => by simp [Lib.compareBytes]
  | _ :: _, [] => by simp [Lib.compareBytes]
  | a :: x, b :: y => by
    have ih := cmp_zero x y
    simp only [Lib.compareBytes, List.cons.injEq]
    by_cases h : a < b
    · have : ¬ a = b := fun e => by rw [e] at h; exact absurd h (by rw [UInt8.lt_iff_toNat_lt]; omega)
      simp [h, this]
    · by_cases h2 : b < a
      · have : ¬ a = b := fun e => by rw [e] at h2; exact absurd h2 (by rw [UInt8.lt_iff_toNat_lt]; omega)
        simp [h, h2, this]
      · have e : a = b := UInt8.toNat_inj.1 (by rw [UInt8.lt_iff_toNat_lt] at h h2; omega)
        subst e
        simp [h, ih]
def cmpB (a b : ByteArray) : Int := Lib.compareBytes a.data.toList b.data.toList
theorem cmpB_less (a b : ByteArray) : cmpB a b < 0 ↔ ltB a b = true := by
  unfold cmpB ltB
  rw [toList_data, toList_data]
  exact cmp_less _ _
theorem cmpB_zero (a b : ByteArray) : cmpB a b = 0 ↔ a = b := by
  unfold cmpB
  rw [cmp_zero]
  exact ⟨bytes_eq, fun h => by rw [h]⟩
/-- where the search stands -/
def DkBsRel (L : List Fl) (n : ByteArray) (w : World) (i j : Value) (wr : World) : Prop :=
  ∃ a b : Nat, i = .int .i64 (a : Int) ∧ j = .int .i64 (b : Int) ∧ a ≤ low n L ∧ low n L ≤ b ∧ b ≤ L.length ∧ Below w.heap.size w wr
def hasN (n : ByteArray) (L : List Fl) : Bool := (getF n L).isSome
end Go.Proofs.YtenjnaebhbmfiaaDoor

/- refs.find and what it calls: contracts (out of DkFind). -/
namespace Go.Proofs.YtenjnaebhbmfiaaDoor
open Go.RowKit

/-- where the search stands -/
def RfBsRel (L : List Rf) (n : ByteArray) (w : World) (i j : Value) (wr : World) : Prop :=
  ∃ a b : Nat, i = .int .i64 (a : Int) ∧ j = .int .i64 (b : Int) ∧ a ≤ rlow n L ∧ rlow n L ≤ b ∧ b ≤ L.length ∧ Below w.heap.size w wr
def hasR (n : ByteArray) (L : List Rf) : Bool := (getRf n L).isSome
end Go.Proofs.YtenjnaebhbmfiaaDoor
