/- wire.Get, wire.GetText: their contracts. -/
import Derived.Test.YtnijnphalhfabaaWPut
import Derived.IntWalk
namespace Go.Proofs.Ytnijnphalhfabaa
open Go.RowKit

/-- what Get answers -/
def GR : Option (Nat × Nat) → Ending → Prop
  | some (n, k), e => e = .returned (.tuple #[.int .i64 (n : Int), .int .i64 (k : Int), .int .i64 0])
  | none, e => e = .returned (.tuple #[.int .i64 0, .int .i64 0, .int .i64 2])

/-- before byte k: all were 128 or more -/
def GRel (s : ByteArray) (n i : Value) : Prop :=
  ∃ k : Nat, k ≤ s.size ∧ k ≤ 9 ∧ i = .int .i64 (k : Int) ∧ n = .int .i64 (val (s.data.toList.take k) : Int) ∧ ∀ x ∈ s.data.toList.take k, 128 ≤ x.toNat

theorem take_snoc (s : ByteArray) (k : Nat) (h : k < s.size) : s.data.toList.take (k + 1) = s.data.toList.take k ++ [s[k]] := by
  rw [List.take_succ_eq_append_getElem (by simpa using h)]; rfl
theorem got_at (s : ByteArray) (k : Nat) (h : k < s.size) (h9 : k < 9) (ho : ∀ x ∈ s.data.toList.take k, 128 ≤ x.toNat) (hb : s[k].toNat < 128) :
    got s.data.toList = if (0 < k ∧ s[k].toNat = 0) ∨ 4611686018427387904 ≤ val (s.data.toList.take (k + 1)) then none else some (val (s.data.toList.take (k + 1)), k + 1) := by
  have he := ended_snoc _ _ ho hb
  rw [← take_snoc s k h] at he
  have hl : (s.data.toList.take (k + 1)).length = k + 1 := by rw [List.length_take]; have : s.data.toList.length = s.size := rfl; omega
  have hlast : lastOf (s.data.toList.take (k + 1)) = s[k].toNat := by rw [take_snoc s k h, lastOf_snoc]
  have e : s.data.toList.take 9 = s.data.toList.take (k + 1) ++ (s.data.toList.take 9).drop (k + 1) := by
    have := (List.take_append_drop (k + 1) (s.data.toList.take 9)).symm
    rw [List.take_take, Nat.min_eq_left (by omega)] at this
    exact this
  unfold got
  rw [e, lead_ended _ _ he]
  simp only
  rw [hl, hlast]
  simp only [Nat.lt_add_left_iff_pos]
theorem got_open (s : ByteArray) (k : Nat) (h : k = s.size ∨ k = 9) (hk : k ≤ s.size) (ho : ∀ x ∈ s.data.toList.take k, 128 ≤ x.toNat) (h9 : k ≤ 9) : got s.data.toList = none := by
  have e : s.data.toList.take 9 = s.data.toList.take k := by
    rcases h with rfl | rfl
    · have hl : s.data.toList.length = s.size := rfl
      rw [List.take_of_length_le (by omega), List.take_of_length_le (by omega)]
    · rfl
  unfold got
  rw [e, lead_open _ ho]

theorem i64_or_nat (a b : Nat) (ha : a < 9223372036854775808) (hb : b < 9223372036854775808) : bits .or .i64 (a : Int) (b : Int) = ((a ||| b : Nat) : Int) := by
  have hx : a ||| b < 2 ^ 63 := Nat.or_lt_two_pow (by omega) (by omega)
  show IntKind.i64.wrap ((BitVec.ofInt 64 (a : Int) ||| BitVec.ofInt 64 (b : Int)).toNat : Int) = _
  rw [BitVec.toNat_or, ofInt_u64 a (by omega), ofInt_u64 b (by omega), IntKind.wrap_i64]
  omega
theorem low_seven (b : UInt8) : bits .and .u8 (b.toNat : Int) 127 = ((b.toNat % 128 : Nat) : Int) := by
  have key : ∀ k : Fin 256, bits .and .u8 ((k.val : Nat) : Int) 127 = ((k.val % 128 : Nat) : Int) := by decide +kernel
  exact key ⟨b.toNat, b.toNat_lt⟩
theorem pow_seven (k : Nat) : (128 : Nat) ^ k = 2 ^ (7 * k) := by rw [Nat.pow_mul]
/-- the low seven bits of a byte, lifted by 7k, joined to what is below -/
theorem join_bits (b : UInt8) (k v : Nat) (hk : k < 9) (hv : v < 128 ^ k) :
    bits .or .i64 (v : Int) (wrap64 (wrap64 (bits .and .u8 (b.toNat : Int) 127) * 2 ^ (7 * k))) = ((v + b.toNat % 128 * 128 ^ k : Nat) : Int) := by
  have hp : (128 : Nat) ^ k ≤ 72057594037927936 := by
    have : (128 : Nat) ^ k ≤ 128 ^ 8 := Nat.pow_le_pow_right (by decide) (by omega)
    omega
  have hm : b.toNat % 128 < 128 := Nat.mod_lt _ (by decide)
  have hx : b.toNat % 128 * 128 ^ k < 9223372036854775808 := by
    have : b.toNat % 128 * 128 ^ k ≤ 127 * 72057594037927936 := Nat.mul_le_mul (by omega) hp
    omega
  rw [low_seven, IntWalk.wrap64_in ((b.toNat % 128 : Nat) : Int) (by omega)]
  have e : ((b.toNat % 128 : Nat) : Int) * 2 ^ (7 * k) = ((b.toNat % 128 * 128 ^ k : Nat) : Int) := by
    rw [pow_seven]; simp
  rw [e, IntWalk.wrap64_in ((b.toNat % 128 * 128 ^ k : Nat) : Int) (by omega), i64_or_nat _ _ (by omega) hx, Nat.or_comm, nat_join (7 * k) _ _ (by rw [pow_seven]; simp) (by rw [← pow_seven]; exact hv), Nat.add_comm]

theorem GR_none {e : Ending} (h : e = .returned (.tuple #[.int .i64 0, .int .i64 0, .int .i64 2])) {g : Option (Nat × Nat)} (hg : g = none) : GR g e := by rw [hg]; exact h
theorem GR_some {e : Ending} {n k : Nat} (h : e = .returned (.tuple #[.int .i64 (n : Int), .int .i64 (k : Int), .int .i64 0])) {g : Option (Nat × Nat)} (hg : g = some (n, k)) : GR g e := by rw [hg]; exact h

end Go.Proofs.Ytnijnphalhfabaa
