/- wire.Get, wire.GetText: their contracts. -/
import Derived.Test.YtpblkhdmfmmjmaaWPut
import Derived.IntWalk
namespace Go.Proofs.Ytpblkhdmfmmjmaa
open Go.RowKit

/-- what Get answers -/
def GR : Option (Nat × Nat) → Ending → Prop
  | some (n, k), e => e = .returned (.tuple #[.int .i64 (n : Int), .int .i64 (k : Int), .int .i64 0])
  | none, e => e = .returned (.tuple #[.int .i64 0, .int .i64 0, .int .i64 2])

/-- before byte k: all were 128 or more -/
def GRel (s : ByteArray) (n i : Value) : Prop :=
  ∃ k : Nat, k ≤ s.size ∧ k ≤ 9 ∧ i = .int .i64 (k : Int) ∧ n = .int .i64 (val (s.data.toList.take k) : Int) ∧ ∀ x ∈ s.data.toList.take k, 128 ≤ x.toNat

theorem take_snoc (s : ByteArray) (k : Nat) (h : k < s.size) : s.data.toList.take (k + 1) = s.data.toList.take k ++ [s[k]] := by
  rw [List.take_succ_eq_append_getElem (by simpa using h)]; rfl
theorem got_at (s : ByteArray) (k : Nat) (h : k < s.size) (h9 : k < 9) (ho : ∀ x ∈ s.data.toList.take k, 128 ≤ x.toNat) (hb : s[k].toNat < 128) :
    got s.data.toList = if (0 < k ∧ s[k].toNat = 0) ∨ 4611686018427387904 ≤ val (s.data.toList.take (k + 1)) then none else some (val (s.data.toList.take (k + 1)), k + 1) := by
  have he := ended_snoc _ _ ho hb
  rw [← take_snoc s k h] at he
  have hl : (s.data.toList.take (k + 1)).length = k + 1 := by rw [List.length_take]; have : s.data.toList.length = s.size := rfl; omega
  have hlast : lastOf (s.data.toList.take (k + 1)) = s[k].toNat := by rw [take_snoc s k h, lastOf_snoc]
  have e : s.data.toList.take 9 = s.data.toList.take (k + 1) ++ (s.data.toList.take 9).drop (k + 1) := by
    have := (List.take_append_drop (k + 1) (s.data.toList.take 9)).symm
    rw [List.take_take, Nat.min_eq_left (by omega)] at this
    exact this
  unfold got
  rw [e, lead_ended _ _ he]
  simp only
  rw [hl, hlast]
  simp only [Nat.lt_add_left_iff_pos]
theorem got_open (s : ByteArray) (k : Nat) (h : k = s.size ∨ k = 9) (hk : k ≤ s.size) (ho : ∀ x ∈ s.data.toList.take k, 128 ≤ x.toNat) (h9 : k ≤ 9) : got s.data.toList = none := by
  have e : s.data.toList.take 9 = s.data.toList.take k := by
    rcases h with rfl | rfl
    · have hl : s.data.toList.length = s.size := rfl
      rw [List.take_of_length_le (by omega), List.take_of_length_le (by omega)]
    · rfl
  unfold got
  rw [e, lead_open _ ho]

theorem i64_or_nat (a b : Nat) (ha : a < 9223372036854775808) (hb : b < 9223372036854775808) : bits .or .i64 (a : Int) (b : Int) = ((a ||| b : Nat) : Int) := by
  have hx : a ||| b < 2 ^ 63 := Nat.or_lt_two_pow (by omega) (by omega)
  show IntKind.i64.wrap ((BitVec.ofInt 64 (a : Int) ||| BitVec.ofInt 64 (b : Int)).toNat : Int) = _
  rw [BitVec.toNat_or, ofInt_u64 a (by omega), ofInt_u64 b (by omega), IntKind.wrap_i64]
  omega
theorem low_seven (b : UInt8) : bits .and .u8 (b.toNat : Int) 127 = ((b.toNat % 128 : Nat) : Int) := by
  have key : ∀ k : Fin 256, bits .and .u8 ((k.val : Nat) : Int) 127 = ((k.val % 128 : Nat) : Int) := by decide +kernel
  exact key ⟨b.toNat, b.toNat_lt⟩
theorem pow_seven (k : Nat) : (128 : Nat) ^ k = 2 ^ (7 * k) := by rw [Nat.pow_mul]
/-- the low seven bits of a byte, lifted by 7k, joined to what is below -/
theorem join_bits (b : UInt8) (k v : Nat) (hk : k < 9) (hv : v < 128 ^ k) :
    bits .or .i64 (v : Int) (wrap64 (wrap64 (bits .and .u8 (b.toNat : Int) 127) * 2 ^ (7 * k))) = ((v + b.toNat % 128 * 128 ^ k : Nat) : Int) := by
  have hp : (128 : Nat) ^ k ≤ 72057594037927936 := by
    have : (128 : Nat) ^ k ≤ 128 ^ 8 := Nat.pow_le_pow_right (by decide) (by omega)
    omega
  have hm : b.toNat % 128 < 128 := Nat.mod_lt _ (by decide)
  have hx : b.toNat % 128 * 128 ^ k < 9223372036854775808 := by
    have : b.toNat % 128 * 128 ^ k ≤ 127 * 72057594037927936 := Nat.mul_le_mul (by omega) hp
    omega
  rw [low_seven, IntWalk.wrap64_in ((b.toNat % 128 : Nat) : Int) (by omega)]
  have e : ((b.toNat % 128 : Nat) : Int) * 2 ^ (7 * k) = ((b.toNat % 128 * 128 ^ k : Nat) : Int) := by
    rw [pow_seven]; simp
  rw [e, IntWalk.wrap64_in ((b.toNat % 128 * 128 ^ k : Nat) : Int) (by omega), i64_or_nat _ _ (by omega) hx, Nat.or_comm, nat_join (7 * k) _ _ (by rw [pow_seven]; simp) (by rw [← pow_seven]; exact hv), Nat.add_comm]

theorem GR_none {e : Ending} (h : e = .returned (.tuple #[.int .i64 0, .int .i64 0, .int .i64 2])) {g : Option (Nat × Nat)} (hg : g = none) : GR g e := by rw [hg]; exact h
theorem GR_some {e : Ending} {n k : Nat} (h : e = .returned (.tuple #[.int .i64 (n : Int), .int .i64 (k : Int), .int .i64 0])) {g : Option (Nat × Nat)} (hg : g = some (n, k)) : GR g e := by rw [hg]; exact h

set_option maxRecDepth 100000 in
set_option maxHeartbeats 1000000 in
theorem Get_any (s : ByteArray) (hs : s.size ≤ 281474976710656) (w : World) :
    Calls Try.prog 25 #[.string s] w fun e w' => GR (got s.data.toList) e ∧ w = w' := by
  go_enter Try.func25, Try.ntmps25
  go_wp2_with fail
  all_goals
    go_loop [5, 11] (fun n i => GRel s n i) (fun _ i => 9 - (intOf i).toNat)
    case atStart => exact ⟨0, by omega, by omega, rfl, rfl, fun x hx => by simp at hx⟩
    case round =>
      obtain ⟨k, hk, hk9, rfl, rfl, ho⟩ := hrel
      have HO := Lib.hid ho
      clear ho
      by_cases hlt : k < 9 ∧ k < s.size
      · obtain ⟨h9, hlt⟩ := hlt
        have h1 : (k : Int) < 9 := by omega
        have h2 : (k : Int) < s.size := by omega
        have hb := s[k].toNat_lt
        have hv := val_lt (s.data.toList.take k)
        rw [List.length_take, Nat.min_eq_left (show k ≤ s.data.toList.length from hk)] at hv
        have hj := join_bits s[k] k _ h9 hv
        have HV : Hid (val (s.data.toList.take (k + 1)) = val (s.data.toList.take k) + s[k].toNat % 128 * 128 ^ k) := by
          show _ = _
          rw [take_snoc s k hlt, val_snoc, List.length_take, Nat.min_eq_left (show k ≤ s.data.toList.length from hk)]
        rw [← HV.out] at hj
        clear hv
        by_cases hg : 128 ≤ s[k].toNat
        · generalize val (s.data.toList.take k) = v at *
          generalize hv2 : val (s.data.toList.take (k + 1)) = v2 at *
          have HV2 := Lib.hid hv2
          clear HV hv2
          go_wp2_with fail
          refine ⟨⟨k + 1, hlt, h9, by go_num, by rw [HV2.out], ?_⟩, by simp [intOf]; omega⟩
          intro x hx
          rw [take_snoc s k hlt, List.mem_append, List.mem_singleton] at hx
          rcases hx with hx | rfl
          · exact HO.out x hx
          · exact hg
        · have HG := Lib.hid (got_at s k hlt h9 HO.out (by omega))
          generalize val (s.data.toList.take k) = v at *
          generalize val (s.data.toList.take (k + 1)) = v2 at *
          clear HV
          clear HO hk hk9
          have hg' : ¬ (128 ≤ (s[k].toNat : Int)) := by omega
          by_cases hbig : 4611686018427387904 ≤ v2
          · have hbig' : 4611686018427387904 ≤ (v2 : Int) := by omega
            have HG2 : Hid (got s.data.toList = none) := by show _ = _; rw [HG.out, if_pos (.inr hbig)]
            clear HG hbig
            by_cases h0 : 0 < k
            · have h0' : (0 : Int) < k := by omega
              by_cases hz : s[k].toNat = 0
              · have hz' : ((s[k].toNat : Int) == 0) = true := by rw [beq_iff_eq]; omega
                clear hz
                go_wp2_with fail
                go_ret3
                exact ⟨GR_none rfl HG2.out, rfl⟩
              · have hz' : ((s[k].toNat : Int) == 0) = false := by rw [beq_eq_false_iff_ne]; omega
                clear hz
                go_wp2_with fail
                go_ret3
                exact ⟨GR_none rfl HG2.out, rfl⟩
            · have h0' : ¬ ((0 : Int) < k) := by omega
              go_wp2_with fail
              go_ret3
              exact ⟨GR_none rfl HG2.out, rfl⟩
          · have hbig' : ¬ (4611686018427387904 ≤ (v2 : Int)) := by omega
            by_cases h0 : 0 < k
            · have h0' : (0 : Int) < k := by omega
              by_cases hz : s[k].toNat = 0
              · have hz' : ((s[k].toNat : Int) == 0) = true := by rw [beq_iff_eq]; omega
                have HG2 : Hid (got s.data.toList = none) := by show _ = _; rw [HG.out, if_pos (.inl ⟨h0, hz⟩)]
                clear hz HG
                go_wp2_with fail
                go_ret3
                exact ⟨GR_none rfl HG2.out, rfl⟩
              · have hz' : ((s[k].toNat : Int) == 0) = false := by rw [beq_eq_false_iff_ne]; omega
                have HG2 : Hid (got s.data.toList = some (v2, k + 1)) := by show _ = _; rw [HG.out, if_neg (by omega)]
                clear hz HG hbig
                go_wp2_with fail
                go_ret3
                exact ⟨GR_some (by go_num) HG2.out, rfl⟩
            · have h0' : ¬ ((0 : Int) < k) := by omega
              have HG2 : Hid (got s.data.toList = some (v2, k + 1)) := by show _ = _; rw [HG.out, if_neg (by omega)]
              clear HG hbig
              go_wp2_with fail
              go_ret3
              exact ⟨GR_some (by go_num) HG2.out, rfl⟩
      · have HG := Lib.hid (got_open s k (by omega) hk HO.out hk9)
        clear HO
        rcases (show k = 9 ∨ k = s.size by omega) with rfl | rfl
        all_goals first
          | (exfalso; omega)
          | (go_wp2_with fail
             go_ret3
             exact ⟨GR_none rfl HG.out, rfl⟩)
end Go.Proofs.Ytpblkhdmfmmjmaa
