/- More plain mathematics of blocks: no program is named here. -/
import Derived.Test.YtgffbdkngnpfpaaDoorBytes
import Derived.Test.YtgffbdkngnpfpaaDoorSha
namespace Go.Proofs.YtgffbdkngnpfpaaDoor

theorem blocks_append_n (n : Nat) : ∀ (hs : List UInt32) (l1 l2 : List UInt8), l1.length ≤ n → l1.length % 64 = 0 → blocks hs (l1 ++ l2) = blocks (blocks hs l1) l2 := by
  induction n with
  | zero =>
    intro hs l1 l2 h _
    have : l1 = [] := List.eq_nil_of_length_eq_zero (by omega)
    subst this
    rw [blocks_end hs [] (by simp)]; rfl
  | succ n ih =>
    intro hs l1 l2 h hm
    by_cases h0 : l1.length = 0
    · have : l1 = [] := List.eq_nil_of_length_eq_zero h0
      subst this
      rw [blocks_end hs [] (by simp)]; rfl
    · have h64 : 64 ≤ l1.length := by omega
      rw [blocks_step hs (l1 ++ l2) (by simp; omega), blocks_step hs l1 h64]
      have e1 : (l1 ++ l2).take 64 = l1.take 64 := List.take_append_of_le_length h64
      have e2 : (l1 ++ l2).drop 64 = l1.drop 64 ++ l2 := List.drop_append_of_le_length h64
      rw [e1, e2]
      exact ih _ _ _ (by simp; omega) (by simp; omega)
theorem blocks_append (hs : List UInt32) (l1 l2 : List UInt8) (h : l1.length % 64 = 0) : blocks hs (l1 ++ l2) = blocks (blocks hs l1) l2 := blocks_append_n l1.length hs l1 l2 (Nat.le_refl _) h

/-- how many bytes the whole blocks hold -/
def whole (n : Nat) : Nat := n - n % 64
theorem whole_mod (n : Nat) : whole n % 64 = 0 := by unfold whole; omega
theorem whole_le (n : Nat) : whole n ≤ n := by unfold whole; omega
/-- what is left behind the whole blocks changes nothing -/
theorem blocks_whole (hs : List UInt32) (l : List UInt8) : blocks hs l = blocks hs (l.take (whole l.length)) := by
  have hl := whole_le l.length
  conv => lhs; rw [← List.take_append_drop (whole l.length) l]
  rw [blocks_append _ _ _ (by rw [List.length_take, Nat.min_eq_left hl]; exact whole_mod _)]
  rw [blocks_end _ (l.drop _) (by simp [whole]; omega)]

/-- the state behind bytes: the whole blocks, what is left -/
def restOf (l : List UInt8) : List UInt8 := l.drop (whole l.length)
theorem restOf_length (l : List UInt8) : (restOf l).length = l.length % 64 := by unfold restOf; simp [whole]; omega
theorem restOf_short (l : List UInt8) (h : l.length < 64) : restOf l = l := by
  have : whole l.length = 0 := by unfold whole; omega
  rw [restOf, this]; rfl
theorem restOf_append (l1 l2 : List UInt8) (h : l1.length % 64 = 0) : restOf (l1 ++ l2) = restOf l2 := by
  have e : whole (l1 ++ l2).length = l1.length + whole l2.length := by simp [whole]; omega
  rw [restOf, e, List.drop_append, restOf]
  simp [List.drop_eq_nil_of_le]
/-- adding twice -/
theorem blocks_restOf (hs : List UInt32) (l1 l2 : List UInt8) : blocks hs (l1 ++ l2) = blocks (blocks hs l1) (restOf l1 ++ l2) ∧ restOf (l1 ++ l2) = restOf (restOf l1 ++ l2) := by
  have hl := whole_le l1.length
  have hm : (l1.take (whole l1.length)).length % 64 = 0 := by rw [List.length_take, Nat.min_eq_left hl]; exact whole_mod _
  have e : l1 ++ l2 = l1.take (whole l1.length) ++ (restOf l1 ++ l2) := by
    rw [restOf, ← List.append_assoc, List.take_append_drop]
  constructor
  · rw [e, blocks_append _ _ _ hm, ← blocks_whole]
  · rw [e, restOf_append _ _ hm]

end Go.Proofs.YtgffbdkngnpfpaaDoor
