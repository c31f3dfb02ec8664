/- Texts in one: WPut, WGet, WText, WBase, Rdn. -/
import Derived.Test.YtmikfmcgddmplaaGreatDoorProg
import Derived.Test.YtmikfmcgddmplaaGreatDoorBytes
import Derived.Test.YtmikfmcgddmplaaGreatDoorWNum
import Derived.IntWalk
/- wire.numberBytes, wire.Put, wire.PutText: their contracts. -/
namespace Go.Proofs.YtmikfmcgddmplaaGreatDoor
open Go.RowKit

theorem group_byte (m : Nat) : bits .or .u8 ((m : Int) % 256) 128 = ((UInt8.ofNat (m % 128 + 128)).toNat : Int) := by
  have key : ∀ k : Fin 256, bits .or .u8 ((k.val : Nat) : Int) 128 = ((UInt8.ofNat (k.val % 128 + 128)).toNat : Int) := by decide +kernel
  have h := key ⟨m % 256, Nat.mod_lt _ (by decide)⟩
  have e : (m : Int) % 256 = ((m % 256 : Nat) : Int) := by omega
  rw [e, h]
  simp only
  rw [show m % 256 % 128 = m % 128 from by omega]
theorem last_byte (m : Nat) : IntKind.u8.wrap (m : Int) = ((UInt8.ofNat m).toNat : Int) := by
  rw [IntKind.wrap_u8', UInt8.toNat_ofNat']; omega

def NBRel (n base : Nat) (w : World) (t0 t3 : Value) (wr : World) : Prop :=
  ∃ (m : Nat) (done : List UInt8), m < 4611686018427387904 ∧ num n = done ++ num m ∧ t0 = .int .i64 (m : Int) ∧ t3 = .slice (some ⟨base, 0, none⟩) done.length 9 ∧
    wr.ownsRow base 5 1 (.slice (some ⟨base, 0, none⟩) done.length 9) done.length (done.map bv) ∧ Below base w wr

end Go.Proofs.YtmikfmcgddmplaaGreatDoor

/- wire.Get, wire.GetText: their contracts. -/
namespace Go.Proofs.YtmikfmcgddmplaaGreatDoor
open Go.RowKit

/-- what Get answers -/
def GR : Option (Nat × Nat) → Ending → Prop
  | some (n, k), e => e = .returned (.tuple #[.int .i64 (n : Int), .int .i64 (k : Int), .int .i64 0])
  | none, e => e = .returned (.tuple #[.int .i64 0, .int .i64 0, .int .i64 2])

/-- before byte k: all were 128 or more -/
def GRel (s : ByteArray) (n i : Value) : Prop :=
  ∃ k : Nat, k ≤ s.size ∧ k ≤ 9 ∧ i = .int .i64 (k : Int) ∧ n = .int .i64 (val (s.data.toList.take k) : Int) ∧ ∀ x ∈ s.data.toList.take k, 128 ≤ x.toNat

theorem take_snoc (s : ByteArray) (k : Nat) (h : k < s.size) : s.data.toList.take (k + 1) = s.data.toList.take k ++ [s[k]] := by
  rw [List.take_succ_eq_append_getElem (by simpa using h)]; rfl
theorem got_at (s : ByteArray) (k : Nat) (h : k < s.size) (h9 : k < 9) (ho : ∀ x ∈ s.data.toList.take k, 128 ≤ x.toNat) (hb : s[k].toNat < 128) :
    got s.data.toList = if (0 < k ∧ s[k].toNat = 0) ∨ 4611686018427387904 ≤ val (s.data.toList.take (k + 1)) then none else some (val (s.data.toList.take (k + 1)), k + 1) := by
  have he := ended_snoc _ _ ho hb
  rw [← take_snoc s k h] at he
  have hl : (s.data.toList.take (k + 1)).length = k + 1 := by rw [List.length_take]; have : s.data.toList.length = s.size := rfl; omega
  have hlast : lastOf (s.data.toList.take (k + 1)) = s[k].toNat := by rw [take_snoc s k h, lastOf_snoc]
  have e : s.data.toList.take 9 = s.data.toList.take (k + 1) ++ (s.data.toList.take 9).drop (k + 1) := by
    have := (List.take_append_drop (k + 1) (s.data.toList.take 9)).symm
    rw [List.take_take, Nat.min_eq_left (by omega)] at this
    exact this
  unfold got
  rw [e, lead_ended _ _ he]
  simp only
  rw [hl, hlast]
  simp only [Nat.lt_add_left_iff_pos]
theorem got_open (s : ByteArray) (k : Nat) (h : k = s.size ∨ k = 9) (hk : k ≤ s.size) (ho : ∀ x ∈ s.data.toList.take k, 128 ≤ x.toNat) (h9 : k ≤ 9) : got s.data.toList = none := by
  have e : s.data.toList.take 9 = s.data.toList.take k := by
    rcases h with rfl | rfl
    · have hl : s.data.toList.length = s.size := rfl
      rw [List.take_of_length_le (by omega), List.take_of_length_le (by omega)]
    · rfl
  unfold got
  rw [e, lead_open _ ho]

theorem i64_or_nat (a b : Nat) (ha : a < 9223372036854775808) (hb : b < 9223372036854775808) : bits .or .i64 (a : Int) (b : Int) = ((a ||| b : Nat) : Int) := by
  have hx : a ||| b < 2 ^ 63 := Nat.or_lt_two_pow (by omega) (by omega)
  show IntKind.i64.wrap ((BitVec.ofInt 64 (a : Int) ||| BitVec.ofInt 64 (b : Int)).toNat : Int) = _
  rw [BitVec.toNat_or, ofInt_u64 a (by omega), ofInt_u64 b (by omega), IntKind.wrap_i64]
  omega
theorem low_seven (b : UInt8) : bits .and .u8 (b.toNat : Int) 127 = ((b.toNat % 128 : Nat) : Int) := by
  have key : ∀ k : Fin 256, bits .and .u8 ((k.val : Nat) : Int) 127 = ((k.val % 128 : Nat) : Int) := by decide +kernel
  exact key ⟨b.toNat, b.toNat_lt⟩
theorem pow_seven (k : Nat) : (128 : Nat) ^ k = 2 ^ (7 * k) := by rw [Nat.pow_mul]
/-- the low seven bits of a byte, lifted by 7k, joined to what is below -/
theorem join_bits (b : UInt8) (k v : Nat) (hk : k < 9) (hv : v < 128 ^ k) :
    bits .or .i64 (v : Int) (wrap64 (wrap64 (bits .and .u8 (b.toNat : Int) 127) * 2 ^ (7 * k))) = ((v + b.toNat % 128 * 128 ^ k : Nat) : Int) := by
  have hp : (128 : Nat) ^ k ≤ 72057594037927936 := by
    have : (128 : Nat) ^ k ≤ 128 ^ 8 := Nat.pow_le_pow_right (by decide) (by omega)
    omega
  have hm : b.toNat % 128 < 128 := Nat.mod_lt _ (by decide)
  have hx : b.toNat % 128 * 128 ^ k < 9223372036854775808 := by
    have : b.toNat % 128 * 128 ^ k ≤ 127 * 72057594037927936 := Nat.mul_le_mul (by omega) hp
    omega
  rw [low_seven, IntWalk.wrap64_in ((b.toNat % 128 : Nat) : Int) (by omega)]
  have e : ((b.toNat % 128 : Nat) : Int) * 2 ^ (7 * k) = ((b.toNat % 128 * 128 ^ k : Nat) : Int) := by
    rw [pow_seven]; simp
  rw [e, IntWalk.wrap64_in ((b.toNat % 128 * 128 ^ k : Nat) : Int) (by omega), i64_or_nat _ _ (by omega) hx, Nat.or_comm, nat_join (7 * k) _ _ (by rw [pow_seven]; simp) (by rw [← pow_seven]; exact hv), Nat.add_comm]

theorem GR_none {e : Ending} (h : e = .returned (.tuple #[.int .i64 0, .int .i64 0, .int .i64 2])) {g : Option (Nat × Nat)} (hg : g = none) : GR g e := by rw [hg]; exact h
theorem GR_some {e : Ending} {n k : Nat} (h : e = .returned (.tuple #[.int .i64 (n : Int), .int .i64 (k : Int), .int .i64 0])) {g : Option (Nat × Nat)} (hg : g = some (n, k)) : GR g e := by rw [hg]; exact h

set_option maxRecDepth 100000 in
set_option maxHeartbeats 1000000 in
theorem Get_any (s : ByteArray) (hs : s.size ≤ 281474976710656) (w : World) :
    Calls Tryz.prog 108 #[.string s] w fun e w' => GR (got s.data.toList) e ∧ w = w' := by
  go_enter Tryz.func108, Tryz.ntmps108
  go_wp2_with fail
  all_goals
    go_loop [5, 11] (fun n i => GRel s n i) (fun _ i => 9 - (intOf i).toNat)
    case atStart => exact ⟨0, by omega, by omega, rfl, rfl, fun x hx => by simp at hx⟩
    case round =>
      obtain ⟨k, hk, hk9, rfl, rfl, ho⟩ := hrel
      have HO := Lib.hid ho
      clear ho
      by_cases hlt : k < 9 ∧ k < s.size
      · obtain ⟨h9, hlt⟩ := hlt
        have h1 : (k : Int) < 9 := by omega
        have h2 : (k : Int) < s.size := by omega
        have hb := s[k].toNat_lt
        have hv := val_lt (s.data.toList.take k)
        rw [List.length_take, Nat.min_eq_left (show k ≤ s.data.toList.length from hk)] at hv
        have hj := join_bits s[k] k _ h9 hv
        have HV : Hid (val (s.data.toList.take (k + 1)) = val (s.data.toList.take k) + s[k].toNat % 128 * 128 ^ k) := by
          show _ = _
          rw [take_snoc s k hlt, val_snoc, List.length_take, Nat.min_eq_left (show k ≤ s.data.toList.length from hk)]
        rw [← HV.out] at hj
        clear hv
        by_cases hg : 128 ≤ s[k].toNat
        · generalize val (s.data.toList.take k) = v at *
          generalize hv2 : val (s.data.toList.take (k + 1)) = v2 at *
          have HV2 := Lib.hid hv2
          clear HV hv2
          go_wp2_with fail
          refine ⟨⟨k + 1, hlt, h9, by go_num, by rw [HV2.out], ?_⟩, by simp [intOf]; omega⟩
          intro x hx
          rw [take_snoc s k hlt, List.mem_append, List.mem_singleton] at hx
          rcases hx with hx | rfl
          · exact HO.out x hx
          · exact hg
        · have HG := Lib.hid (got_at s k hlt h9 HO.out (by omega))
          generalize val (s.data.toList.take k) = v at *
          generalize val (s.data.toList.take (k + 1)) = v2 at *
          clear HV
          clear HO hk hk9
          have hg' : ¬ (128 ≤ (s[k].toNat : Int)) := by omega
          by_cases hbig : 4611686018427387904 ≤ v2
          · have hbig' : 4611686018427387904 ≤ (v2 : Int) := by omega
            have HG2 : Hid (got s.data.toList = none) := by show _ = _; rw [HG.out, if_pos (.inr hbig)]
            clear HG hbig
            by_cases h0 : 0 < k
            · have h0' : (0 : Int) < k := by omega
              by_cases hz : s[k].toNat = 0
              · have hz' : ((s[k].toNat : Int) == 0) = true := by rw [beq_iff_eq]; omega
                clear hz
                go_wp2_with fail
                go_ret3
                exact ⟨GR_none rfl HG2.out, rfl⟩
              · have hz' : ((s[k].toNat : Int) == 0) = false := by rw [beq_eq_false_iff_ne]; omega
                clear hz
                go_wp2_with fail
                go_ret3
                exact ⟨GR_none rfl HG2.out, rfl⟩
            · have h0' : ¬ ((0 : Int) < k) := by omega
              go_wp2_with fail
              go_ret3
              exact ⟨GR_none rfl HG2.out, rfl⟩
          · have hbig' : ¬ (4611686018427387904 ≤ (v2 : Int)) := by omega
            by_cases h0 : 0 < k
            · have h0' : (0 : Int) < k := by omega
              by_cases hz : s[k].toNat = 0
              · have hz' : ((s[k].toNat : Int) == 0) = true := by rw [beq_iff_eq]; omega
                have HG2 : Hid (got s.data.toList = none) := by show _ = _; rw [HG.out, if_pos (.inl ⟨h0, hz⟩)]
                clear hz HG
                go_wp2_with fail
                go_ret3
                exact ⟨GR_none rfl HG2.out, rfl⟩
              · have hz' : ((s[k].toNat : Int) == 0) = false := by rw [beq_eq_false_iff_ne]; omega
                have HG2 : Hid (got s.data.toList = some (v2, k + 1)) := by show _ = _; rw [HG.out, if_neg (by omega)]
                clear hz HG hbig
                go_wp2_with fail
                go_ret3
                exact ⟨GR_some (by go_num) HG2.out, rfl⟩
            · have h0' : ¬ ((0 : Int) < k) := by omega
              have HG2 : Hid (got s.data.toList = some (v2, k + 1)) := by show _ = _; rw [HG.out, if_neg (by omega)]
              clear HG hbig
              go_wp2_with fail
              go_ret3
              exact ⟨GR_some (by go_num) HG2.out, rfl⟩
      · have HG := Lib.hid (got_open s k (by omega) hk HO.out hk9)
        clear HO
        rcases (show k = 9 ∨ k = s.size by omega) with rfl | rfl
        all_goals first
          | (exfalso; omega)
          | (go_wp2_with fail
             go_ret3
             exact ⟨GR_none rfl HG.out, rfl⟩)
end Go.Proofs.YtmikfmcgddmplaaGreatDoor

/- wire.GetText: its contract. -/
namespace Go.Proofs.YtmikfmcgddmplaaGreatDoor
open Go.RowKit

def GetIs (s : ByteArray) (n k : Nat) (e : Int) : Prop := ∀ W, Calls Tryz.prog 108 #[.string s] W fun x w' => x = .returned (.tuple #[.int .i64 (n : Int), .int .i64 (k : Int), .int .i64 e]) ∧ W = w'
theorem getIs_some (s : ByteArray) (hs : s.size ≤ 281474976710656) (n k : Nat) (h : got s.data.toList = some (n, k)) : GetIs s n k 0 := fun W => by
  have q := Get_any s hs W
  rw [h] at q
  exact q
theorem getIs_none (s : ByteArray) (hs : s.size ≤ 281474976710656) (h : got s.data.toList = none) : GetIs s 0 0 2 := fun W => by
  have q := Get_any s hs W
  rw [h] at q
  exact q
def TextIs (s r : ByteArray) (k : Nat) (e : Int) : Prop := ∀ W, Calls Tryz.prog 142 #[.string s] W fun x w' => x = .returned (.tuple #[.string r, .int .i64 (k : Int), .int .i64 e]) ∧ W = w'

set_option maxRecDepth 100000 in
theorem text_none (s : ByteArray) (hs : s.size ≤ 281474976710656) (h : got s.data.toList = none) : TextIs s ⟨#[]⟩ 0 2 := fun w => by
  have C := getIs_none s hs h
  clear h
  go_enter Tryz.func142, Tryz.ntmps142
  go_wp2_with fail
  have c1 := C w
  (with_reducible refine c1.mono ?_)
  clear c1
  rintro e w1 ⟨rfl, rfl⟩
  go_wp2_with fail
  go_ret3
  exact ⟨rfl, rfl⟩
set_option maxRecDepth 100000 in
theorem text_long (s : ByteArray) (hs : s.size ≤ 281474976710656) (n k : Nat) (h : got s.data.toList = some (n, k)) (hn : 4096 < n) : TextIs s ⟨#[]⟩ 0 1 := fun w => by
  have C := getIs_some s hs n k h
  have hb := got_some _ _ _ h
  have hn1 : (4096 : Int) < n := by omega
  clear h
  go_enter Tryz.func142, Tryz.ntmps142
  go_wp2_with fail
  have c1 := C w
  (with_reducible refine c1.mono ?_)
  clear c1
  rintro e w1 ⟨rfl, rfl⟩
  go_wp2_with fail
  go_ret3
  exact ⟨rfl, rfl⟩
set_option maxRecDepth 100000 in
theorem text_short (s : ByteArray) (hs : s.size ≤ 281474976710656) (n k : Nat) (h : got s.data.toList = some (n, k)) (hn : n ≤ 4096) (hl : s.size < k + n) : TextIs s ⟨#[]⟩ 0 2 := fun w => by
  have C := getIs_some s hs n k h
  have hk : k ≤ 9 := (got_some _ _ _ h).2.2.2.1
  have hn1 : ¬ ((4096 : Int) < n) := by omega
  have hn2 : ((s.size : Int) - k) < n := by omega
  clear h
  go_enter Tryz.func142, Tryz.ntmps142
  go_wp2_with fail
  have c1 := C w
  (with_reducible refine c1.mono ?_)
  clear c1
  rintro e w1 ⟨rfl, rfl⟩
  go_wp2_with fail
  go_ret3
  exact ⟨rfl, rfl⟩
set_option maxRecDepth 100000 in
theorem text_yes (s : ByteArray) (hs : s.size ≤ 281474976710656) (n k : Nat) (h : got s.data.toList = some (n, k)) (hn : n ≤ 4096) (hl : k + n ≤ s.size) : TextIs s (s.extract k (k + n)) (k + n) 0 := fun w => by
  have C := getIs_some s hs n k h
  have hk : k ≤ 9 := (got_some _ _ _ h).2.2.2.1
  have hn1 : ¬ ((4096 : Int) < n) := by omega
  have hn2 : ¬ ((s.size : Int) - k) < n := by omega
  clear h
  go_enter Tryz.func142, Tryz.ntmps142
  go_wp2_with fail
  have c1 := C w
  (with_reducible refine c1.mono ?_)
  clear c1
  rintro e w1 ⟨rfl, rfl⟩
  go_wp2_with fail
  go_ret3
  exact ⟨rfl, rfl⟩
end Go.Proofs.YtmikfmcgddmplaaGreatDoor

/- Put and PutText, as callers use them; texts cut and joined. -/
namespace Go.Proofs.YtmikfmcgddmplaaGreatDoor
open Go.RowKit

theorem empty_append (x : ByteArray) : (⟨#[]⟩ : ByteArray) ++ x = x := by
  apply ByteArray.ext
  simp
theorem extract_drop (s : ByteArray) (a b : Nat) : (s.extract a b).data.toList = (s.data.toList.drop a).take (b - a) := by
  rw [ByteArray.data_extract, Array.toList_extract]
theorem bs_extract (s : ByteArray) (k : Nat) : bs (s.data.toList.take k) = s.extract 0 k := by
  apply ByteArray.ext
  apply Array.ext'
  rw [extract_drop, bs_list]
  simp

theorem bytes_eq {a b : ByteArray} (h : a.data.toList = b.data.toList) : a = b := by
  apply ByteArray.ext
  apply Array.ext'
  exact h
theorem list_len (a : ByteArray) : a.data.toList.length = a.size := rfl
theorem extract_tail (b x : ByteArray) : (b ++ x).extract b.size (b ++ x).size = x := by
  apply bytes_eq
  rw [extract_drop, append_list, ByteArray.size_append, ← list_len b, List.drop_left', Nat.add_sub_cancel_left, ← list_len x, List.take_length]
  rfl
theorem extract_head (b x : ByteArray) : (b ++ x).extract 0 b.size = b := by
  apply bytes_eq
  rw [extract_drop, append_list, List.drop_zero, Nat.sub_zero, ← list_len b, List.take_left']
  rfl
end Go.Proofs.YtmikfmcgddmplaaGreatDoor

/- A number read off a list of bytes; parts of a text. -/
namespace Go.Proofs.YtmikfmcgddmplaaGreatDoor
open Go.RowKit

def rdNum (l : List UInt8) : Option (Nat × List UInt8) :=
  match got l with
  | none => none
  | some (n, k) => some (n, l.drop k)
theorem toList_data (s : ByteArray) : s.toList = s.data.toList := by
  first | exact ByteArray.toList_eq s | simp
theorem bs_drop (l : List UInt8) (k : Nat) : (bs l).extract k (bs l).size = bs (l.drop k) := by
  apply bytes_eq
  rw [extract_drop, bs_list, bs_list, bs_size, List.take_of_length_le (by rw [List.length_drop]; omega)]
theorem bs_mid (l : List UInt8) (k n : Nat) : (bs l).extract k (k + n) = bs ((l.drop k).take n) := by
  apply bytes_eq
  rw [extract_drop, bs_list, bs_list, show k + n - k = n from by omega]
theorem bs_head (l : List UInt8) (n : Nat) : (bs l).extract 0 n = bs (l.take n) := by
  have := bs_mid l 0 n
  simpa using this
theorem rdNum_lt {l r : List UInt8} {n : Nat} (h : rdNum l = some (n, r)) : n < 4611686018427387904 := by
  unfold rdNum at h
  cases hg : got l with
  | none => simp [hg] at h
  | some y =>
    obtain ⟨m, k⟩ := y
    simp only [hg, Option.some.injEq, Prod.mk.injEq] at h
    have hk := got_some l m k hg
    omega
theorem rdNum_num (n : Nat) (h : n < 4611686018427387904) (r : List UInt8) : rdNum (num n ++ r) = some (n, r) := by
  unfold rdNum
  rw [got_num n h r]
  simp only
  rw [List.drop_left']
  rfl
end Go.Proofs.YtmikfmcgddmplaaGreatDoor
