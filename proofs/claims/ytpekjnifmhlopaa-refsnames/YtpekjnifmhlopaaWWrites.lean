/- law.WireWrites: the walk. -/
import Derived.Test.YtpekjnifmhlopaaWDone
import Derived.Test.YtpekjnifmhlopaaWLaw
namespace Go.Proofs.Ytpekjnifmhlopaa
open Go.RowKit

/-- a put of a writer: its kind, its number, its text -/
abbrev PutT := Int × Int × ByteArray
/-- the puts that a slice holds -/
def PutsIn (w : World) (B : Nat) (A : Option Addr) (L : List PutT) : Prop :=
  ∀ k x, L[k]? = some x → ∃ ad, A = some ad ∧ (ad.add (k * 3)).block < B ∧ w.cell? (ad.add (k * 3)) = some (.int .i64 x.1) ∧
    w.cell? ⟨(ad.add (k * 3)).block, (ad.add (k * 3)).off + 1, none⟩ = some (.int .i64 x.2.1) ∧ w.cell? ⟨(ad.add (k * 3)).block, (ad.add (k * 3)).off + 2, none⟩ = some (.string x.2.2)

theorem append_empty (x : ByteArray) : x ++ (⟨#[]⟩ : ByteArray) = x := by
  apply ByteArray.ext
  simp
theorem cat_app (ps : List ByteArray) (x : ByteArray) : bs (cat ps) ++ x = bs (cat (x :: ps)) := by
  apply bytes_eq
  rw [append_list, bs_list, bs_list]
  rfl
/-- how many bytes puts may come to -/
def wt : List PutT → Nat
  | [] => 0
  | x :: l => x.2.2.size + 16 + wt l
theorem wt_append (a b : List PutT) : wt (a ++ b) = wt a + wt b := by
  induction a with
  | nil => simp [wt]
  | cons x a ih => rw [List.cons_append, wt, ih, wt]; omega
theorem wt_take (L : List PutT) (k : Nat) (h : k < L.length) : wt (L.take (k + 1)) = wt (L.take k) + (L[k].2.2.size + 16) := by
  rw [List.take_succ_eq_append_getElem h, wt_append]; rfl
theorem wt_le (L : List PutT) (k : Nat) : wt (L.take k) ≤ wt L := by
  have h := wt_append (L.take k) (L.drop k)
  rw [List.take_append_drop] at h
  omega
end Go.Proofs.Ytpekjnifmhlopaa
