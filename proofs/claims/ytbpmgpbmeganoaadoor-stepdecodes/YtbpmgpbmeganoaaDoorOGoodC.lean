/- object.Good: its contract. -/
import Derived.Test.YtbpmgpbmeganoaaDoorOStray
import Derived.Deep.Cut
namespace Go.Proofs.YtbpmgpbmeganoaaDoor
open Go.RowKit

theorem kindB_cases {k : Int} (h : kindB k = true) : k = 1 ∨ k = 2 ∨ k = 3 ∨ k = 4 := by
  unfold kindB at h
  simp only [Bool.or_eq_true, beq_iff_eq] at h
  omega
theorem max_three (a b c : Nat) : decide ((4096 : Int) < (if (if a < b then (b : Int) else a) < c then (c : Int) else if a < b then (b : Int) else a)) = (decide (4096 < a) || decide (4096 < b) || decide (4096 < c)) := by
  rw [Bool.eq_iff_iff]
  simp only [Bool.or_eq_true, decide_eq_true_eq]
  split <;> split <;> omega
end Go.Proofs.YtbpmgpbmeganoaaDoor
