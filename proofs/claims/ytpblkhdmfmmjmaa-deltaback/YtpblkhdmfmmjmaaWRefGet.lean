/- ref.Get, ref.GetText: their contracts. -/
import Derived.Test.YtpblkhdmfmmjmaaWRef
namespace Go.Proofs.Ytpblkhdmfmmjmaa
open Go.RowKit

theorem last_num (n : Nat) (h : 1 < (num n).length) : lastOf (num n) ≠ 0 := by
  rcases (num_ended n).2.1 with h1 | h1
  · omega
  · exact h1
def RGRel (s : ByteArray) (w : World) (n p i : Value) (wr : World) : Prop :=
  ∃ k : Nat, k ≤ s.size ∧ k ≤ 8 ∧ i = .int .i64 (k : Int) ∧ p = .int .i64 ((128 ^ k : Nat) : Int) ∧ n = .int .i64 (val (s.data.toList.take k) : Int) ∧ (∀ x ∈ s.data.toList.take k, 128 ≤ x.toNat) ∧ Below w.heap.size w wr

theorem sum_groups (v b p v2 : Nat) (hp : p ≤ 72057594037927936) (hv : v < p) (h : v2 = v + b % 128 * p) :
    wrap64 ((v : Int) + wrap64 ((b : Int) % 128 * (p : Int))) = (v2 : Int) := by
  have hx : b % 128 * p ≤ 127 * 72057594037927936 := Nat.mul_le_mul (by omega) hp
  have e : (b : Int) % 128 * (p : Int) = ((b % 128 * p : Nat) : Int) := by simp
  rw [e, IntWalk.wrap64_in ((b % 128 * p : Nat) : Int) (by omega), IntWalk.wrap64_in _ (by omega), h]
  omega
/-- what Number makes of what was read is what stands there, just where the last byte is not idle -/
theorem same_bytes (s : ByteArray) (k : Nat) (h : k < s.size) (ho : ∀ x ∈ s.data.toList.take k, 128 ≤ x.toNat) (hb : s[k].toNat < 128) :
    if 0 < k ∧ s[k].toNat = 0 then ((bs (num (val (s.data.toList.take (k + 1))))).toList == (s.extract 0 (k + 1)).toList) = false else bs (num (val (s.data.toList.take (k + 1)))) = s.extract 0 (k + 1) := by
  have he := ended_snoc _ _ ho hb
  rw [← take_snoc s k h] at he
  have hl : (s.data.toList.take (k + 1)).length = k + 1 := by rw [List.length_take]; have : s.data.toList.length = s.size := rfl; omega
  have hlast : lastOf (s.data.toList.take (k + 1)) = s[k].toNat := by rw [take_snoc s k h, lastOf_snoc]
  split
  · rename_i hc
    rw [beq_eq_false_iff_ne]
    intro e
    rw [ByteArray.toList_eq, ByteArray.toList_eq, bs_list, extract_drop, List.drop_zero, Nat.sub_zero] at e
    have h1 := last_num (val (s.data.toList.take (k + 1))) (by rw [e, hl]; omega)
    rw [e, hlast] at h1
    exact h1 hc.2
  · rename_i hc
    rw [(val_ended _ he (by rw [hl, hlast]; omega)).1, bs_extract]

set_option maxRecDepth 100000 in
set_option maxHeartbeats 1000000 in
theorem RefGet_any (s : ByteArray) (hs : s.size ≤ 281474976710656) (w : World) :
    Calls Try.prog 28 #[.string s] w fun e w' => GR (got s.data.toList) e ∧ Below w.heap.size w w' := by
  go_enter Try.func28, Try.ntmps28
  go_wp2_with fail
  go_loopw [5, 6, 7] (fun n p i wr => RGRel s w n p i wr) (fun _ _ i _ => 9 - (intOf i).toNat)
  case atStart => exact ⟨0, by omega, by omega, rfl, rfl, rfl, (fun x hx => by simp at hx), Below.refl _ _⟩
  case round =>
    obtain ⟨k, hk, hk8, rfl, rfl, rfl, ho, hB⟩ := hrel
    have HO := Lib.hid ho
    clear ho
    by_cases hlt : k < s.size
    · have h1 : (k : Int) < 9 := by omega
      have h2 : (k : Int) < s.size := by omega
      have hb := s[k].toNat_lt
      have hv := val_lt (s.data.toList.take k)
      rw [List.length_take, Nat.min_eq_left (show k ≤ s.data.toList.length from hk)] at hv
      have hp : (128 : Nat) ^ k ≤ 72057594037927936 := by
        have : (128 : Nat) ^ k ≤ 128 ^ 8 := Nat.pow_le_pow_right (by decide) (by omega)
        omega
      have hp7 : k < 8 → (128 : Nat) ^ k ≤ 562949953421312 := fun h => by
        have : (128 : Nat) ^ k ≤ 128 ^ 7 := Nat.pow_le_pow_right (by decide) (by omega)
        omega
      have hp8 : k = 8 → (128 : Nat) ^ k = 72057594037927936 := fun h => by subst h; rfl
      have HPS : Hid ((128 : Nat) ^ (k + 1) = 128 ^ k * 128) := by show _ = _; rw [Nat.pow_succ]
      have hv2 : val (s.data.toList.take (k + 1)) = val (s.data.toList.take k) + s[k].toNat % 128 * 128 ^ k := by
        rw [take_snoc s k hlt, val_snoc, List.length_take, Nat.min_eq_left (show k ≤ s.data.toList.length from hk)]
      have hj := sum_groups _ _ _ _ hp hv hv2
      by_cases hg : 128 ≤ s[k].toNat
      · have HG : Hid (k = 8 → got s.data.toList = none) := fun h8 => got_open s 9 (.inr rfl) (by omega) (by
          rw [show 9 = k + 1 from by omega, take_snoc s k hlt]
          intro x hx
          rw [List.mem_append, List.mem_singleton] at hx
          rcases hx with hx | rfl
          · exact HO.out x hx
          · exact hg) (by omega)
        have hg' : 128 ≤ (s[k].toNat : Int) := by omega
        clear hv2 hv
        generalize val (s.data.toList.take k) = v at *
        generalize hV2 : val (s.data.toList.take (k + 1)) = v2 at *
        have HV2 := Lib.hid hV2
        clear hV2
        by_cases h8 : k = 8
        · have HG2 := Lib.hid (HG.out h8)
          have h8' : ((k : Int) == 8) = true := by rw [beq_iff_eq]; omega
          have hg2 : 64 ≤ (s[k].toNat : Int) := by omega
          clear hp8 hp7 HG h8 HPS
          generalize (128 : Nat) ^ k = p at *
          go_wp2_with fail
          go_ret3
          exact ⟨GR_none rfl HG2.out, hB⟩
        · have hp' := hp7 (by omega)
          have h8' : ((k : Int) == 8) = false := by rw [beq_eq_false_iff_ne]; omega
          have h8'' : (k : Int) < 8 := by omega
          have hk7 : k < 8 := by omega
          clear hp8 hp7 HG h8 hp
          generalize hP : (128 : Nat) ^ k = p at *
          have HP := Lib.hid hP
          clear hP
          go_wp2_with fail
          refine ⟨⟨k + 1, hlt, hk7, by go_num, by rw [HPS.out]; go_num, by rw [HV2.out, hj], ?_, hB⟩, by simp [intOf]; omega⟩
          intro x hx
          rw [take_snoc s k hlt, List.mem_append, List.mem_singleton] at hx
          rcases hx with hx | rfl
          · exact HO.out x hx
          · exact hg
      · have hg' : (s[k].toNat : Int) < 128 := by omega
        have HG := Lib.hid (got_at s k hlt (by omega) HO.out (by omega))
        have HS := Lib.hid (same_bytes s k hlt HO.out (by omega))
        have hmod : s[k].toNat % 128 = s[k].toNat := by omega
        rw [hmod] at hv2
        clear hmod
        by_cases h8 : k = 8 ∧ 64 ≤ s[k].toNat
        · obtain ⟨e8, h64⟩ := h8
          have hpe := hp8 e8
          have hbig : 4611686018427387904 ≤ val (s.data.toList.take (k + 1)) := by
            rw [hv2, hpe]; omega
          have HG2 : Hid (got s.data.toList = none) := by show _ = _; rw [HG.out, if_pos (.inr hbig)]
          have h8' : ((k : Int) == 8) = true := by rw [beq_iff_eq]; omega
          have hg2 : 64 ≤ (s[k].toNat : Int) := by omega
          clear HG HS hp8 hp7 hbig hpe hv2 HPS hv e8 h64
          generalize val (s.data.toList.take k) = v at *
          generalize val (s.data.toList.take (k + 1)) = v2 at *
          generalize (128 : Nat) ^ k = p at *
          go_wp2_with fail
          go_ret3
          exact ⟨GR_none rfl HG2.out, hB⟩
        · have hsmall : val (s.data.toList.take (k + 1)) < 4611686018427387904 := by
            rw [hv2]
            by_cases e8 : k = 8
            · rw [hp8 e8] at hv ⊢
              omega
            · have h7 := hp7 (by omega)
              have hx : s[k].toNat * 128 ^ k ≤ 127 * 562949953421312 := Nat.mul_le_mul (by omega) h7
              omega
          have h8' : ((k : Int) == 8) = false ∨ (((k : Int) == 8) = true ∧ ¬ (64 ≤ (s[k].toNat : Int))) := by
            by_cases e : k = 8
            · exact .inr ⟨by rw [beq_iff_eq]; omega, by omega⟩
            · exact .inl (by rw [beq_eq_false_iff_ne]; omega)
          have HN := Lib.hid (RefNumber_yes _ hsmall)
          have w1 : IntKind.i64.wrap ((k : Int) + 1) = (k : Int) + 1 := IntWalk.i64_in _ (by omega)
          have w2 : ((k : Int) + 1).toNat = k + 1 := by omega
          have w3 : (k : Int) + 1 ≤ s.size := by omega
          have w4 : 0 ≤ (k : Int) + 1 := by omega
          have W1 := Lib.hid w1
          have W2 := Lib.hid w2
          clear w1 w2 hp8 hp7 HPS hv hv2 h8
          by_cases hz : 0 < k ∧ s[k].toNat = 0
          · have hne := HS.out
            rw [if_pos hz] at hne
            have HG2 : Hid (got s.data.toList = none) := by show _ = _; rw [HG.out, if_pos (.inl hz)]
            have HNE := Lib.hid hne
            clear HG HS hz hsmall hne HO
            generalize val (s.data.toList.take k) = v at *
            generalize val (s.data.toList.take (k + 1)) = v2 at *
            generalize (128 : Nat) ^ k = p at *
            generalize bs (num v2) = x at *
            rcases h8' with h8' | ⟨h8', h8''⟩
            all_goals
              go_wp2_with fail
              try rw [hj]
              clear hp hj
              have w1 := W1.out
              have w2 := W2.out
              have hne := HNE.out
              go_region_with (first
                | (go_at_call 31
                   (with_reducible refine (HN.out _).mono ?_)
                   rintro e w5 ⟨rfl, b5⟩))
              all_goals
                clear w1 w2 hne
                go_wp2_with fail
                go_ret3
                exact ⟨GR_none rfl HG2.out, (hB.drew).trans (b5.mono (by have := hB.size; simpa using this))⟩
          · have heq := HS.out
            rw [if_neg hz] at heq
            have HG2 : Hid (got s.data.toList = some (val (s.data.toList.take (k + 1)), k + 1)) := by show _ = _; rw [HG.out, if_neg (by omega)]
            rw [heq] at HN
            clear HG HS hz hsmall heq HO
            generalize val (s.data.toList.take k) = v at *
            generalize val (s.data.toList.take (k + 1)) = v2 at *
            generalize (128 : Nat) ^ k = p at *
            rcases h8' with h8' | ⟨h8', h8''⟩
            all_goals
              go_wp2_with fail
              try rw [hj]
              clear hp hj
              have w1 := W1.out
              have w2 := W2.out
              go_region_with (first
                | (go_at_call 31
                   (with_reducible refine (HN.out _).mono ?_)
                   rintro e w5 ⟨rfl, b5⟩))
              all_goals
                clear w1 w2
                go_wp2_with fail
                go_ret3
                exact ⟨GR_some (by go_num) HG2.out, (hB.drew).trans (b5.mono (by have := hB.size; simpa using this))⟩
    · have HG := Lib.hid (got_open s k (by omega) hk HO.out (by omega))
      have h2 : ¬ (k : Int) < s.size := by omega
      clear HO
      generalize (128 : Nat) ^ k = p at *
      go_wp2_with fail
      go_ret3
      exact ⟨GR_none rfl HG.out, hB⟩
end Go.Proofs.Ytpblkhdmfmmjmaa
