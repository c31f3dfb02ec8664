/- Plain mathematics of the document's own reckoning: a ring of sixteen words; the choice and the majority in other words. No program is named here. -/
import Derived.Test.YtbpmgpbmeganoaaDoorShb
namespace Go.Proofs.YtbpmgpbmeganoaaDoor

theorem sched_keep (l : List UInt8) (n : Nat) : ∀ d i, i < n + 16 → (schedTo l (n + d)).getD i 0 = (schedTo l n).getD i 0 := by
  intro d
  induction d with
  | zero => intro i _; rfl
  | succ d ih =>
    intro i hi
    rw [← Nat.add_assoc, schedTo, List.getD_eq_getElem?_getD, List.getElem?_set_ne (by omega), ← List.getD_eq_getElem?_getD]
    exact ih i hi
theorem sched_rec (l : List UInt8) (n : Nat) (h : n < 48) : (schedTo l 48).getD (n + 16) 0 =
    (schedTo l 48).getD n 0 + sig0 ((schedTo l 48).getD (n + 1) 0) + (schedTo l 48).getD (n + 9) 0 + sig1 ((schedTo l 48).getD (n + 14) 0) := by
  have k := fun i hi => sched_keep l n (48 - n) i hi
  have k1 := sched_keep l (n + 1) (48 - (n + 1)) (n + 16) (by omega)
  rw [show n + (48 - n) = 48 from by omega] at k
  rw [show n + 1 + (48 - (n + 1)) = 48 from by omega] at k1
  rw [k n (by omega), k (n + 1) (by omega), k (n + 9) (by omega), k (n + 14) (by omega), k1, schedTo, List.getD_eq_getElem?_getD, List.getElem?_set_self (by rw [schedTo_length]; omega)]
  rfl

/-- which word lies at place j of the ring, m words having been taken in -/
def idx (m j : Nat) : Nat := m - 1 - (m - 1 - j) % 16
def ring (S : List UInt32) (m : Nat) : List UInt32 := (List.range 16).map fun j => S.getD (idx m j) 0
theorem ring_length (S : List UInt32) (m : Nat) : (ring S m).length = 16 := by simp [ring]
theorem ring_at (S : List UInt32) (m j : Nat) (h : j < 16) : (ring S m).getD j 0 = S.getD (idx m j) 0 := by
  simp [ring, h]
theorem ring_first (S : List UInt32) (h : S.length = 64) : ring S 16 = S.take 16 := by
  apply List.ext_getElem?
  intro j
  by_cases hj : j < 16
  · have e : idx 16 j = j := by unfold idx; omega
    simp [ring, hj, e]
    rw [List.getElem?_eq_getElem (by omega)]
    rfl
  · rw [List.getElem?_eq_none (by rw [ring_length]; omega), List.getElem?_eq_none (by simp; omega)]
theorem ring_own (S : List UInt32) (i : Nat) (h : 16 ≤ i) : (ring S i).getD (i % 16) 0 = S.getD (i - 16) 0 := by
  rw [ring_at _ _ _ (by omega)]; congr 1; unfold idx; omega
theorem ring_1 (S : List UInt32) (i : Nat) (h : 16 ≤ i) : (ring S i).getD ((i + 1) % 16) 0 = S.getD (i - 15) 0 := by
  rw [ring_at _ _ _ (by omega)]; congr 1; unfold idx; omega
theorem ring_9 (S : List UInt32) (i : Nat) (h : 16 ≤ i) : (ring S i).getD ((i + 9) % 16) 0 = S.getD (i - 7) 0 := by
  rw [ring_at _ _ _ (by omega)]; congr 1; unfold idx; omega
theorem ring_14 (S : List UInt32) (i : Nat) (h : 16 ≤ i) : (ring S i).getD ((i + 14) % 16) 0 = S.getD (i - 2) 0 := by
  rw [ring_at _ _ _ (by omega)]; congr 1; unfold idx; omega
theorem ring_next (S : List UInt32) (i : Nat) (h : 16 ≤ i) : (ring S i).set (i % 16) (S.getD i 0) = ring S (i + 1) := by
  apply List.ext_getElem?
  intro j
  rw [List.getElem?_set, ring_length]
  by_cases hj : j < 16
  · by_cases e : i % 16 = j
    · subst e
      have e2 : idx (i + 1) (i % 16) = i := by unfold idx; omega
      simp [ring, hj, e2]
    · have e2 : idx (i + 1) j = idx i j := by unfold idx; omega
      simp [ring, hj, e, e2]
  · rw [if_neg (by omega), List.getElem?_eq_none (by rw [ring_length]; omega), List.getElem?_eq_none (by rw [ring_length]; omega)]
theorem ring_new (S : List UInt32) (i : Nat) : (ring S (i + 1)).getD (i % 16) 0 = S.getD i 0 ∨ i < 16 := by
  by_cases h : i < 16
  · exact .inr h
  · rw [ring_at _ _ _ (by omega)]; left; congr 1; unfold idx; omega

theorem choice_eq (e f g : UInt32) : g ^^^ (e &&& (f ^^^ g)) = (e &&& f) ^^^ (~~~e &&& g) := by
  apply UInt32.toBitVec_inj.1
  apply BitVec.eq_of_getLsbD_eq
  intro i hi
  simp only [UInt32.toBitVec_xor, UInt32.toBitVec_and, UInt32.toBitVec_not, BitVec.getLsbD_xor, BitVec.getLsbD_and, BitVec.getLsbD_not, hi, decide_true, Bool.true_and]
  generalize e.toBitVec.getLsbD i = a
  generalize f.toBitVec.getLsbD i = b
  generalize g.toBitVec.getLsbD i = c
  cases a <;> cases b <;> cases c <;> rfl
theorem major_eq (a b c : UInt32) : (a &&& b) ||| (c &&& (a ||| b)) = (a &&& b) ^^^ (a &&& c) ^^^ (b &&& c) := by
  apply UInt32.toBitVec_inj.1
  apply BitVec.eq_of_getLsbD_eq
  intro i hi
  simp only [UInt32.toBitVec_xor, UInt32.toBitVec_and, UInt32.toBitVec_or, BitVec.getLsbD_xor, BitVec.getLsbD_and, BitVec.getLsbD_or]
  generalize a.toBitVec.getLsbD i = x
  generalize b.toBitVec.getLsbD i = y
  generalize c.toBitVec.getLsbD i = z
  cases x <;> cases y <;> cases z <;> rfl
/-- the round in the document's own words -/
theorem round_ref (k w : UInt32) (s : H8) :
    s.h + (rotr s.e 6 ^^^ rotr s.e 11 ^^^ rotr s.e 25) + (s.g ^^^ (s.e &&& (s.f ^^^ s.g))) + k + w = rx k w s ∧
    rx k w s + (rotr s.a 2 ^^^ rotr s.a 13 ^^^ rotr s.a 22) + ((s.a &&& s.b) ||| (s.c &&& (s.a ||| s.b))) = (round k w s).a := by
  constructor
  · rw [choice_eq]; rfl
  · rw [major_eq, UInt32.add_assoc]; rfl
end Go.Proofs.YtbpmgpbmeganoaaDoor
