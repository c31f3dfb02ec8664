/- Merkle: the same tree seen from below, by the bits of a place and of the last place: plain. -/
import Derived.Test.YtejapjmlofekfaaDoorRefMath
namespace Go.Proofs.YtejapjmlofekfaaDoor
open Go.RowKit

/-- which sums stand on the left, from below, by the place and the last place -/
def sidesU (a z : Nat) : List Bool :=
  if h : z = 0 then [] else if a % 2 = 1 then true :: sidesU (a / 2) (z / 2) else if a = z then sidesU (a / 2) (z / 2) else false :: sidesU (a / 2) (z / 2)
termination_by z
theorem sidesU_end (a : Nat) : sidesU a 0 = [] := by rw [sidesU, dif_pos rfl]
theorem sidesU_odd {a z : Nat} (h : 0 < z) (ha : a % 2 = 1) : sidesU a z = true :: sidesU (a / 2) (z / 2) := by rw [sidesU, dif_neg (by omega), if_pos ha]
theorem sidesU_is {a : Nat} (h : 0 < a) (ha : a % 2 = 0) : sidesU a a = sidesU (a / 2) (a / 2) := by rw [sidesU, dif_neg (by omega), if_neg (by omega), if_pos rfl]
theorem sidesU_ev {a z : Nat} (h : 0 < z) (ha : a % 2 = 0) (hz : a ≠ z) : sidesU a z = false :: sidesU (a / 2) (z / 2) := by rw [sidesU, dif_neg (by omega), if_neg (by omega), if_neg hz]
theorem sidesU_lo : ∀ (j a z : Nat), a < 2 ^ j → 2 ^ j ≤ z → z < 2 ^ (j + 1) → sidesU a z = sidesU a (2 ^ j - 1) ++ [false]
  | 0, a, z, h1, h2, h3 => by
    obtain rfl : a = 0 := by omega
    obtain rfl : z = 1 := by omega
    rw [sidesU_ev (by omega) (by omega) (by omega), sidesU_end]; rfl
  | j + 1, a, z, h1, h2, h3 => by
    have hp := Nat.two_pow_pos j
    rw [Nat.pow_succ] at h1 h2
    rw [Nat.pow_succ] at h3
    have e : (2 ^ (j + 1) - 1) / 2 = 2 ^ j - 1 := by rw [Nat.pow_succ]; omega
    have ih := sidesU_lo j (a / 2) (z / 2) (by omega) (by omega) (by rw [Nat.pow_succ] at *; omega)
    by_cases ha : a % 2 = 1
    · rw [sidesU_odd (by omega) ha, sidesU_odd (a := a) (z := 2 ^ (j + 1) - 1) (by rw [Nat.pow_succ]; omega) ha, e, ih]; rfl
    · rw [sidesU_ev (by omega) (by omega) (by omega), sidesU_ev (a := a) (z := 2 ^ (j + 1) - 1) (by rw [Nat.pow_succ]; omega) (by omega) (by rw [Nat.pow_succ]; omega), e, ih]; rfl
theorem sidesU_hi : ∀ (j a z : Nat), 2 ^ j ≤ a → a ≤ z → z < 2 ^ (j + 1) → sidesU a z = sidesU (a - 2 ^ j) (z - 2 ^ j) ++ [true]
  | 0, a, z, h1, h2, h3 => by
    obtain rfl : a = 1 := by omega
    obtain rfl : z = 1 := by omega
    rw [sidesU_odd (by omega) (by omega), sidesU_end]; rfl
  | j + 1, a, z, h1, h2, h3 => by
    have hp := Nat.two_pow_pos j
    rw [Nat.pow_succ] at h1
    rw [Nat.pow_succ] at h3
    have e : (a - 2 ^ (j + 1)) / 2 = a / 2 - 2 ^ j := by rw [Nat.pow_succ]; omega
    have e2 : (z - 2 ^ (j + 1)) / 2 = z / 2 - 2 ^ j := by rw [Nat.pow_succ]; omega
    have ih := sidesU_hi j (a / 2) (z / 2) (by omega) (by omega) (by rw [Nat.pow_succ] at *; omega)
    by_cases ha : a % 2 = 1
    · rw [sidesU_odd (by omega) ha, sidesU_odd (a := a - 2 ^ (j + 1)) (by rw [Nat.pow_succ]; omega) (by rw [Nat.pow_succ]; omega), e, e2, ih]; rfl
    · by_cases haz : a = z
      · subst haz
        rw [sidesU_is (by omega) (by omega), ih]
        by_cases h0 : a - 2 ^ (j + 1) = 0
        · rw [h0]
          have : a / 2 - 2 ^ j = 0 := by rw [← e, h0]
          rw [this]
        · rw [sidesU_is (a := a - 2 ^ (j + 1)) (by omega) (by rw [Nat.pow_succ]; omega), e]
      · rw [sidesU_ev (by omega) (by omega) haz, sidesU_ev (a := a - 2 ^ (j + 1)) (by rw [Nat.pow_succ]; omega) (by rw [Nat.pow_succ]; omega) (by rw [Nat.pow_succ]; omega), e, e2, ih]; rfl
theorem sidesN_up : ∀ (N n i : Nat), n ≤ N → i < n → sidesN n i = sidesU i (n - 1)
  | 0, n, i, h, hi => by omega
  | N + 1, n, i, h, hi => by
    by_cases h2 : n < 2
    · rw [sidesN_one h2, show n - 1 = 0 from by omega, sidesU_end]
    · have h3 : 2 ≤ n := by omega
      have a := spl_lt h3
      have a0 := spl_pos n
      have a2 := spl_two h3
      by_cases hk : i < spl n
      · rw [sidesN_lo h3 hk, sidesN_up N _ i (by omega) hk]
        unfold spl at *
        rw [sidesU_lo (n - 1).log2 i (n - 1) hk (by omega) (by rw [Nat.pow_succ]; omega)]
      · rw [sidesN_hi h3 (by omega), sidesN_up N _ (i - spl n) (by omega) (by omega)]
        unfold spl at *
        rw [sidesU_hi (n - 1).log2 i (n - 1) (by omega) (by omega) (by rw [Nat.pow_succ]; omega)]
        congr 2; omega
/-- halved while the place is odd -/
def oddS (a z : Nat) : Nat × Nat := if h : a % 2 = 1 then oddS (a / 2) (z / 2) else (a, z)
termination_by a
theorem oddS_yes {a : Nat} (h : a % 2 = 1) (z : Nat) : oddS a z = oddS (a / 2) (z / 2) := by rw [oddS, dif_pos h]
theorem oddS_no {a : Nat} (h : a % 2 = 0) (z : Nat) : oddS a z = (a, z) := by rw [oddS, dif_neg (by omega)]
theorem oddS_le : ∀ (N a z : Nat), a ≤ N → a < z → (oddS a z).1 < (oddS a z).2 ∧ (oddS a z).1 % 2 = 0 ∧ (oddS a z).1 ≤ a ∧ (oddS a z).2 ≤ z
  | N, a, z, h, hz => by
    by_cases ha : a % 2 = 1
    · rw [oddS_yes ha]
      match N, h with
      | 0, h => omega
      | N + 1, h =>
        have := oddS_le N (a / 2) (z / 2) (by omega) (by omega)
        omega
    · rw [oddS_no (by omega)]
      exact ⟨hz, by show a % 2 = 0; omega, Nat.le_refl _, Nat.le_refl _⟩
def sidesO (a z : Nat) : List Bool := sidesU (oddS a z).1 (oddS a z).2
theorem sidesO_odd {a : Nat} (h : a % 2 = 1) (z : Nat) : sidesO a z = sidesO (a / 2) (z / 2) := by unfold sidesO; rw [oddS_yes h]
theorem sidesO_ev {a : Nat} (h : a % 2 = 0) (z : Nat) : sidesO a z = sidesU a z := by unfold sidesO; rw [oddS_no h]
theorem sidesO_full : ∀ (j z : Nat), 2 ^ j ≤ z → z < 2 ^ (j + 1) → sidesO (2 ^ j - 1) z = [false]
  | 0, z, h1, h2 => by
    obtain rfl : z = 1 := by omega
    rw [sidesO_ev (by omega), sidesU_ev (by omega) (by omega) (by omega), sidesU_end]
  | j + 1, z, h1, h2 => by
    have hp := Nat.two_pow_pos j
    rw [Nat.pow_succ] at h1 h2
    have e : (2 ^ (j + 1) - 1) / 2 = 2 ^ j - 1 := by rw [Nat.pow_succ]; omega
    rw [sidesO_odd (by rw [Nat.pow_succ]; omega), e]
    exact sidesO_full j (z / 2) (by omega) (by omega)
theorem sidesO_lo : ∀ (j a z : Nat), a + 1 < 2 ^ j → 2 ^ j ≤ z → z < 2 ^ (j + 1) → sidesO a z = sidesO a (2 ^ j - 1) ++ [false]
  | 0, a, z, h1, h2, h3 => by omega
  | j + 1, a, z, h1, h2, h3 => by
    by_cases ha : a % 2 = 1
    · have hp := Nat.two_pow_pos j
      rw [Nat.pow_succ] at h1 h2
      rw [Nat.pow_succ] at h3
      have e : (2 ^ (j + 1) - 1) / 2 = 2 ^ j - 1 := by rw [Nat.pow_succ]; omega
      rw [sidesO_odd ha, sidesO_odd ha, e]
      exact sidesO_lo j (a / 2) (z / 2) (by omega) (by omega) (by rw [Nat.pow_succ] at *; omega)
    · rw [sidesO_ev (by omega), sidesO_ev (by omega)]
      exact sidesU_lo (j + 1) a z (by omega) h2 h3
theorem sidesO_hi : ∀ (j a z : Nat), 2 ^ j ≤ a → a < z → z < 2 ^ (j + 1) → sidesO a z = sidesO (a - 2 ^ j) (z - 2 ^ j) ++ [true]
  | 0, a, z, h1, h2, h3 => by omega
  | j + 1, a, z, h1, h2, h3 => by
    by_cases ha : a % 2 = 1
    · have hp := Nat.two_pow_pos j
      rw [Nat.pow_succ] at h1
      rw [Nat.pow_succ] at h3
      have e : (a - 2 ^ (j + 1)) / 2 = a / 2 - 2 ^ j := by rw [Nat.pow_succ]; omega
      have e2 : (z - 2 ^ (j + 1)) / 2 = z / 2 - 2 ^ j := by rw [Nat.pow_succ]; omega
      rw [sidesO_odd ha, sidesO_odd (a := a - 2 ^ (j + 1)) (by rw [Nat.pow_succ]; omega), e, e2]
      exact sidesO_hi j (a / 2) (z / 2) (by omega) (by omega) (by rw [Nat.pow_succ] at *; omega)
    · rw [sidesO_ev (by omega), sidesO_ev (a := a - 2 ^ (j + 1)) (by rw [Nat.pow_succ]; omega)]
      exact sidesU_hi (j + 1) a z h1 (by omega) h3
theorem sidesM_up : ∀ (N m n : Nat), n ≤ N → 0 < m → m < n → sidesM m n = sidesO (m - 1) (n - 1)
  | 0, m, n, h, h0, hm => by omega
  | N + 1, m, n, h, h0, hm => by
    have h3 : 2 ≤ n := by omega
    have a := spl_lt h3
    have a0 := spl_pos n
    have a2 := spl_two h3
    by_cases hk : m ≤ spl n
    · rw [sidesM_lo hm h0 hk]
      by_cases he : m = spl n
      · rw [sidesM_all (by omega), he]
        unfold spl at *
        rw [sidesO_full (n - 1).log2 (n - 1) (by omega) (by rw [Nat.pow_succ]; omega)]; rfl
      · rw [sidesM_up N m (spl n) (by omega) h0 (by omega)]
        unfold spl at *
        rw [sidesO_lo (n - 1).log2 (m - 1) (n - 1) (by omega) (by omega) (by rw [Nat.pow_succ]; omega)]
    · rw [sidesM_hi hm h0 (by omega), sidesM_up N (m - spl n) (n - spl n) (by omega) (by omega) (by omega)]
      unfold spl at *
      rw [sidesO_hi (n - 1).log2 (m - 1) (n - 1) (by omega) (by omega) (by rw [Nat.pow_succ]; omega)]
      congr 2 <;> omega
theorem sidesU_has : ∀ (N a z : Nat), z ≤ N → a ≤ z → (sidesU a z).contains true = decide (0 < a)
  | 0, a, z, h, hz => by
    obtain rfl : z = 0 := by omega
    obtain rfl : a = 0 := by omega
    rw [sidesU_end]; rfl
  | N + 1, a, z, h, hz => by
    by_cases h0 : z = 0
    · subst h0
      obtain rfl : a = 0 := by omega
      rw [sidesU_end]; rfl
    · have ih := sidesU_has N (a / 2) (z / 2) (by omega) (by omega)
      by_cases ha : a % 2 = 1
      · rw [sidesU_odd (by omega) ha, decide_eq_true (show 0 < a by omega)]
        simp
      · by_cases haz : a = z
        · subst haz
          rw [sidesU_is (by omega) (by omega), ih]
          congr 1
          apply propext; omega
        · rw [sidesU_ev (by omega) (by omega) haz, List.contains_cons, ih]
          simp only [beq_false, Bool.not_true, Bool.false_or]
          congr 1
          apply propext; omega
theorem proofN_up {m n : Nat} (h0 : 0 < m) (hm : m < n) : proofN m n = (sidesO (m - 1) (n - 1)).length + if 0 < (oddS (m - 1) (n - 1)).1 then 1 else 0 := by
  have hl := oddS_le (m - 1) (m - 1) (n - 1) (Nat.le_refl _) (by omega)
  unfold proofN
  rw [sidesM_up n m n (Nat.le_refl _) h0 hm]
  unfold sidesO
  rw [sidesU_has _ _ _ (Nat.le_refl _) (Nat.le_of_lt hl.1)]
  simp only [decide_eq_true_eq]
/-- halved while the place is even and not the first -/
def evS (a z : Nat) : Nat × Nat := if h : a % 2 = 0 ∧ 0 < a then evS (a / 2) (z / 2) else (a, z)
termination_by a
theorem evS_yes {a : Nat} (h : a % 2 = 0) (h0 : 0 < a) (z : Nat) : evS a z = evS (a / 2) (z / 2) := by rw [evS, dif_pos ⟨h, h0⟩]
theorem evS_no {a : Nat} (h : a % 2 = 1 ∨ a = 0) (z : Nat) : evS a z = (a, z) := by rw [evS, dif_neg (by omega)]
theorem evS_le : ∀ (N a z : Nat), a ≤ N → a ≤ z → (evS a z).1 ≤ (evS a z).2 ∧ (evS a z).1 ≤ a ∧ (evS a z).2 ≤ z
  | N, a, z, h, hz => by
    by_cases ha : a % 2 = 0 ∧ 0 < a
    · rw [evS_yes ha.1 ha.2]
      match N, h with
      | 0, h => omega
      | N + 1, h =>
        have := evS_le N (a / 2) (z / 2) (by omega) (by omega)
        omega
    · rw [evS_no (by omega)]
      exact ⟨hz, Nat.le_refl _, Nat.le_refl _⟩
theorem sidesU_same : ∀ (N a : Nat), a ≤ N → 0 < a → sidesU a a = true :: sidesU ((evS a a).1 / 2) ((evS a a).2 / 2)
  | 0, a, h, h0 => by omega
  | N + 1, a, h, h0 => by
    by_cases ha : a % 2 = 1
    · rw [evS_no (.inl ha), sidesU_odd h0 ha]
    · rw [evS_yes (by omega) h0, sidesU_is h0 (by omega)]
      exact sidesU_same N (a / 2) (by omega) (by omega)
theorem sidesU_left {a z : Nat} (hz : 0 < z) (h : a % 2 = 1 ∨ a = z) : sidesU a z = true :: sidesU ((evS a z).1 / 2) ((evS a z).2 / 2) := by
  by_cases ha : a % 2 = 1
  · rw [evS_no (.inl ha), sidesU_odd hz ha]
  · obtain rfl : a = z := by omega
    exact sidesU_same a a (Nat.le_refl _) hz
theorem sidesU_none {a z : Nat} (hz : 0 < z) (h : a ≤ z) : sidesU a z ≠ [] := by
  by_cases ha : a % 2 = 1 ∨ a = z
  · rw [sidesU_left hz ha]; simp
  · rw [sidesU_ev hz (by omega) (by omega)]; simp
end Go.Proofs.YtejapjmlofekfaaDoor
