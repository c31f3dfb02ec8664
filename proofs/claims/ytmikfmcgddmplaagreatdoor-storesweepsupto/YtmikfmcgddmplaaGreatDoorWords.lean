/- Plain mathematics of 32-bit words: no program is named here. -/
import Derived.WalkKit
namespace Go.Proofs.YtmikfmcgddmplaaGreatDoor
open Go.RowKit

/-- A word as the walk holds it. -/
def wd (x : UInt32) : Int := (x.toNat : Int)
theorem wd_nonneg (x : UInt32) : 0 ≤ wd x := by unfold wd; omega
theorem wd_lt (x : UInt32) : wd x < 4294967296 := by
  unfold wd; have := x.toNat_lt; omega
theorem wd_toNat (x : UInt32) : (wd x).toNat = x.toNat := by unfold wd; omega
theorem wd_inj {x y : UInt32} (h : wd x = wd y) : x = y := by
  unfold wd at h; apply UInt32.toNat_inj.1; omega
theorem wd_ofNat (n : Nat) : wd (UInt32.ofNat n) = (n : Int) % 4294967296 := by
  unfold wd; rw [UInt32.toNat_ofNat']; omega
theorem wd_of (x : UInt32) (n : Nat) (h : x.toNat = n) : wd x = (n : Int) := by unfold wd; rw [h]

theorem wd_xor (x y : UInt32) : bits .xor .u32 (wd x) (wd y) = wd (x ^^^ y) := by
  rw [u32_xor _ _ (wd_nonneg _) (wd_lt _) (wd_nonneg _) (wd_lt _), wd_toNat, wd_toNat]; simp [wd]
theorem wd_and (x y : UInt32) : bits .and .u32 (wd x) (wd y) = wd (x &&& y) := by
  rw [u32_and _ _ (wd_nonneg _) (wd_lt _) (wd_nonneg _) (wd_lt _), wd_toNat, wd_toNat]; simp [wd]
theorem wd_or (x y : UInt32) : bits .or .u32 (wd x) (wd y) = wd (x ||| y) := by
  rw [u32_or _ _ (wd_nonneg _) (wd_lt _) (wd_nonneg _) (wd_lt _), wd_toNat, wd_toNat]; simp [wd]
theorem wd_not (x : UInt32) : bits .xor .u32 4294967295 (wd x) = wd (~~~x) := by
  have h : (4294967295 : Int) = wd 4294967295 := rfl
  rw [h, wd_xor]; congr 1
theorem wd_not' (x : UInt32) : bits .xor .u32 (if IntKind.u32.signed = true then -1 else IntKind.u32.max) (wd x) = wd (~~~x) := wd_not x
theorem wd_add (x y : UInt32) : IntKind.u32.wrap (wd x + wd y) = wd (x + y) := by
  rw [IntKind.wrap_u32']; unfold wd; rw [UInt32.toNat_add]; omega

/-- to the right, in a ring of 32 -/
def rotr (x : UInt32) (n : Nat) : UInt32 := UInt32.ofNat (x.toNat * 2 ^ (32 - n) % 4294967296 + x.toNat / 2 ^ n)
def shr (x : UInt32) (n : Nat) : UInt32 := UInt32.ofNat (x.toNat / 2 ^ n)

theorem shr_toNat (x : UInt32) (n : Nat) : (shr x n).toNat = x.toNat / 2 ^ n := by
  unfold shr
  rw [UInt32.toNat_ofNat', Nat.mod_eq_of_lt]
  have := x.toNat_lt
  exact Nat.lt_of_le_of_lt (Nat.div_le_self _ _) this
theorem wd_shr (x : UInt32) (n : Nat) : wd x / 2 ^ n = wd (shr x n) := by
  unfold wd; rw [shr_toNat]; simp

theorem wd_shr3 (x : UInt32) : wd x / 8 = wd (shr x 3) := wd_shr x 3
theorem wd_shr10 (x : UInt32) : wd x / 1024 = wd (shr x 10) := wd_shr x 10

theorem rot_parts (a n : Nat) (ha : a < 4294967296) (h1 : 1 ≤ n) (h2 : n ≤ 31) :
    a * 2 ^ (32 - n) % 4294967296 % 2 ^ (32 - n) = 0 ∧ a / 2 ^ n < 2 ^ (32 - n) := by
  have e : (4294967296 : Nat) = 2 ^ (32 - n) * 2 ^ n := by rw [← Nat.pow_add, Nat.sub_add_cancel (by omega)]
  constructor
  · rw [e, Nat.mod_mul_right_mod]; simp
  · rw [Nat.div_lt_iff_lt_mul (Nat.two_pow_pos _)]; rw [← e]; exact ha

theorem rotr_toNat (x : UInt32) (n : Nat) (h1 : 1 ≤ n) (h2 : n ≤ 31) : (rotr x n).toNat = x.toNat * 2 ^ (32 - n) % 4294967296 + x.toNat / 2 ^ n := by
  have hx := x.toNat_lt
  obtain ⟨p1, p2⟩ := rot_parts x.toNat n hx h1 h2
  unfold rotr
  rw [UInt32.toNat_ofNat', Nat.mod_eq_of_lt]
  have h3 : x.toNat * 2 ^ (32 - n) % 4294967296 < 4294967296 := Nat.mod_lt _ (by decide)
  have e : (4294967296 : Nat) = 2 ^ (32 - n) * 2 ^ n := by rw [← Nat.pow_add, Nat.sub_add_cancel (by omega)]
  obtain ⟨q, hq⟩ := Nat.dvd_of_mod_eq_zero p1
  rw [hq] at h3 ⊢
  rw [e] at h3
  have hlt : q < 2 ^ n := Nat.lt_of_mul_lt_mul_left h3
  have : 2 ^ (32 - n) * q + 2 ^ (32 - n) ≤ 2 ^ (32 - n) * 2 ^ n := by
    rw [← Nat.mul_succ]; exact Nat.mul_le_mul_left _ hlt
  rw [show (2 : Nat) ^ 32 = 2 ^ (32 - n) * 2 ^ n from e]
  omega

/-- what a call of RotateLeft32 reckons -/
theorem wd_rot (x : UInt32) (n : Nat) (h1 : 1 ≤ n) (h2 : n ≤ 31) :
    bits .or .u32 (IntKind.u32.wrap (wd x * 2 ^ (32 - n))) (wd x / 2 ^ n) = wd (rotr x n) := by
  have hx := x.toNat_lt
  obtain ⟨p1, p2⟩ := rot_parts x.toNat n hx h1 h2
  have e1 : IntKind.u32.wrap (wd x * 2 ^ (32 - n)) = ((x.toNat * 2 ^ (32 - n) % 4294967296 : Nat) : Int) := by
    rw [IntKind.wrap_u32']; unfold wd; simp
  have e2 : wd x / 2 ^ n = ((x.toNat / 2 ^ n : Nat) : Int) := by unfold wd; simp
  rw [e1, e2, u32_or_nat _ _ (Nat.mod_lt _ (by decide)) (Nat.lt_of_le_of_lt (Nat.div_le_self _ _) hx), nat_join _ _ _ p1 p2, wd, rotr_toNat x n h1 h2]

/-- what the document's own rotation reckons (a sum in the place of the or) -/
theorem wd_rot_sum (x : UInt32) (n : Nat) (h1 : 1 ≤ n) (h2 : n ≤ 31) :
    IntKind.u32.wrap (IntKind.u32.wrap (wd x * 2 ^ (32 - n)) + wd x / 2 ^ n) = wd (rotr x n) := by
  have hx := x.toNat_lt
  have e1 : IntKind.u32.wrap (wd x * 2 ^ (32 - n)) = ((x.toNat * 2 ^ (32 - n) % 4294967296 : Nat) : Int) := by
    rw [IntKind.wrap_u32']; unfold wd; simp
  have e2 : wd x / 2 ^ n = ((x.toNat / 2 ^ n : Nat) : Int) := by unfold wd; simp
  have hr := rotr_toNat x n h1 h2
  have hl := (rotr x n).toNat_lt
  rw [e1, e2, IntKind.wrap_u32', wd, hr]
  rw [hr] at hl
  omega

end Go.Proofs.YtmikfmcgddmplaaGreatDoor
