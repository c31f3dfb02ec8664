/- Texts in one: WPut, WGet, WText, WBase, Rdn, DkSpec, DkMath, RfMath, RfSpec. -/
import Derived.Test.YtenjnaebhbmfiaaDoorProg
import Derived.Test.YtenjnaebhbmfiaaDoorWNum
import Derived.Test.YtenjnaebhbmfiaaDoorInf
import Derived.IntWalk
/- wire.numberBytes, wire.Put, wire.PutText: their contracts. -/
namespace Go.Proofs.YtenjnaebhbmfiaaDoor
open Go.RowKit

theorem group_byte (m : Nat) : bits .or .u8 ((m : Int) % 256) 128 = ((UInt8.ofNat (m % 128 + 128)).toNat : Int) := by
  have key : ∀ k : Fin 256, bits .or .u8 ((k.val : Nat) : Int) 128 = ((UInt8.ofNat (k.val % 128 + 128)).toNat : Int) := by decide +kernel
  have h := key ⟨m % 256, Nat.mod_lt _ (by decide)⟩
  have e : (m : Int) % 256 = ((m % 256 : Nat) : Int) := by omega
  rw [e, h]
  simp only
  rw [show m % 256 % 128 = m % 128 from by omega]
theorem last_byte (m : Nat) : IntKind.u8.wrap (m : Int) = ((UInt8.ofNat m).toNat : Int) := by
  rw [IntKind.wrap_u8', UInt8.toNat_ofNat']; omega

def NBRel (n base : Nat) (w : World) (t0 t3 : Value) (wr : World) : Prop :=
  ∃ (m : Nat) (done : List UInt8), m < 4611686018427387904 ∧ num n = done ++ num m ∧ t0 = .int .i64 (m : Int) ∧ t3 = .slice (some ⟨base, 0, none⟩) done.length 9 ∧
    wr.ownsRow base 5 1 (.slice (some ⟨base, 0, none⟩) done.length 9) done.length (done.map bv) ∧ Below base w wr

set_option maxRecDepth 100000 in
set_option maxHeartbeats 1000000 in
theorem numberBytes_any (n : Nat) (h : n < 4611686018427387904) (w : World) :
    Calls Tryd.prog 59 #[.int .i64 (n : Int)] w
      fun e w' => e = .returned (.string (bs (num n))) ∧ Below w.heap.size w w' := by
  obtain ⟨i, hi, hz0, hz1, hz2⟩ := info_parts info_u8
  have Hi := Lib.hid hi
  have Hz0 := Lib.hid hz0
  have Hz1 := Lib.hid hz1
  have Hz2 := Lib.hid hz2
  clear hi hz0 hz1 hz2
  have HL := Lib.hid (num_len9 n h)
  go_enter Tryd.func59, Tryd.ntmps59
  go_wp2_with (at_make; refine wpList_make_own _ rfl _ _ 56 rfl w.heap.size 5 i _ 1 Tryd.underlying56 Hi.out Hz0.out Hz1.out _ _ _ 9 rfl rfl (by omega) (by rw [Hz2.out]; omega) (by unfold maxLen; omega) (Nat.le_refl _) ?_)
  intro w1 hown hgrow
  have hb0 : Below w.heap.size w w1 := (Below.refl _ _).grown hgrow (Nat.le_refl _) (by intro k hk; cases hk)
  go_wp2_with fail
  go_loopw [0, 3] (fun t0 t3 wr => NBRel n w.heap.size w t0 t3 wr) (fun t0 _ _ => (intOf t0).toNat)
  case atStart => exact ⟨n, [], h, rfl, rfl, rfl, hown, hb0⟩
  case round =>
    clear hown hgrow hb0
    obtain ⟨m, done, hm, hN, rfl, rfl, hO, hB⟩ := hrel
    have HN := Lib.hid hN
    clear hN
    have hlen : done.length + 1 ≤ 9 := by
      have h1 := HL.out
      have h2 := num_pos m
      rw [HN.out, List.length_append] at h1
      omega
    by_cases hlt : m < 128
    · have hb2 := last_byte m
      have HN2 : Hid (num n = done ++ [UInt8.ofNat m]) := by show _ = _; rw [HN.out, num_small m hlt]
      clear HN
      generalize UInt8.ofNat m = bb at *
      go_wp2_with (at_builtin; refine wpList_append_fits _ rfl _ _ 56 rfl w.heap.size 5 i 1 Tryd.underlying56 Hi.out Hz1.out w.heap.size _ _ (done.map bv) rfl (World.ownsRow.alloc hO _) ⟨wr.heap.size, 0, none⟩ 1 1 [.int .u8 (bb.toNat : Int)] rfl rfl (new_cells wr [.int .u8 (bb.toNat : Int)] 5) (bytes_one [bb]) (by omega) ?_)
      intro w2 hown hgrow
      have hO2 : w2.ownsRow w.heap.size 5 1 (.slice (some ⟨w.heap.size, 0, none⟩) (done ++ [bb]).length 9) (done ++ [bb]).length ((done ++ [bb]).map bv) := by
        rw [List.length_append, List.map_append]; exact hown
      have hb := run_bytes_own (P := Tryd.prog) hO2
      rw [← run_convert_bytes_string w2 56 9 5 _ _ _ Tryd.underlying56 Tryd.underlying5 Tryd.underlying9] at hb
      rw [List.length_append] at hb
      simp only [List.length_cons, List.length_nil, Nat.zero_add] at hb
      have hB2 : Below w.heap.size w w2 := (hB.alloc hB.size _).grown hgrow (by simp; have := hB.size; omega) (by intro k hk; cases hk; exact Nat.le_refl _)
      clear hO hO2 hown hgrow hB
      go_wp2_with fail
      go_ret
      exact ⟨by rw [HN2.out]; rfl, hB2⟩
    · have hb2 := group_byte m
      have HN2 : Hid (num n = (done ++ [UInt8.ofNat (m % 128 + 128)]) ++ num (m / 128)) := by show _ = _; rw [HN.out, num_great m (by omega)]; simp
      clear HN
      generalize UInt8.ofNat (m % 128 + 128) = bb at *
      go_wp2_with (at_builtin; refine wpList_append_fits _ rfl _ _ 56 rfl w.heap.size 5 i 1 Tryd.underlying56 Hi.out Hz1.out w.heap.size _ _ (done.map bv) rfl (World.ownsRow.alloc hO _) ⟨wr.heap.size, 0, none⟩ 1 1 [.int .u8 (bb.toNat : Int)] rfl rfl (new_cells wr [.int .u8 (bb.toNat : Int)] 5) (bytes_one [bb]) (by omega) ?_)
      intro w2 hown hgrow
      have hB2 : Below w.heap.size w w2 := (hB.alloc hB.size _).grown hgrow (by simp; have := hB.size; omega) (by intro k hk; cases hk; exact Nat.le_refl _)
      go_wp2_with fail
      refine ⟨⟨m / 128, done ++ [bb], by omega, HN2.out, by go_num, ?_, ?_, hB2⟩, by simp [intOf]; omega⟩
      · rw [List.length_append]; rfl
      · rw [List.length_append, List.map_append]; exact hown

set_option maxRecDepth 100000 in
/-- Put at a number in its range -/
theorem Put_yes (b : ByteArray) (hb : b.size ≤ 281474976710656) (n : Nat) (h : n < 4611686018427387904) (w : World) :
    Calls Tryd.prog 51 #[.string b, .int .i64 (n : Int)] w fun e w' => e = .returned (.tuple #[.string (b ++ bs (num n)), .int .i64 0]) ∧ Below w.heap.size w w' := by
  have h1 : ¬ ((n : Int) < 0) := by omega
  have h2 : ¬ (4611686018427387904 ≤ (n : Int)) := by omega
  have hx : (bs (num n)).size ≤ 9 := by rw [bs_size]; exact num_len9 n h
  have C := numberBytes_any n h
  generalize bs (num n) = x at *
  have HC := Lib.hid C
  clear C
  go_enter Tryd.func51, Tryd.ntmps51
  go_wp2_with fail
  (with_reducible refine (HC.out _).mono ?_)
  rintro e w1 ⟨rfl, b1⟩
  go_wp2_with fail
  go_ret2
  exact ⟨rfl, b1⟩
/-- Put at a number out of its range -/
theorem Put_no (b : ByteArray) (n : Int) (h : n < 0 ∨ 4611686018427387904 ≤ n) (w : World) :
    Calls Tryd.prog 51 #[.string b, .int .i64 n] w fun e w' => e = .returned (.tuple #[.string ⟨#[]⟩, .int .i64 3]) ∧ w = w' := by
  rcases h with h | h
  · go_enter Tryd.func51, Tryd.ntmps51
    go_wp2_with fail
    go_ret2
    exact ⟨rfl, rfl⟩
  · have h1 : ¬ (n < 0) := by omega
    go_enter Tryd.func51, Tryd.ntmps51
    go_wp2_with fail
    go_ret2
    exact ⟨rfl, rfl⟩

set_option maxRecDepth 100000 in
/-- PutText at a text that isn't too long -/
theorem PutText_yes (b s : ByteArray) (hb : b.size ≤ 281474976710656) (h : s.size ≤ 4096) (w : World) :
    Calls Tryd.prog 60 #[.string b, .string s] w fun e w' => e = .returned (.tuple #[.string (b ++ bs (num s.size) ++ s), .int .i64 0]) ∧ Below w.heap.size w w' := by
  have hx : (bs (num s.size)).size ≤ 9 := by rw [bs_size]; exact num_len9 _ (by omega)
  have C := numberBytes_any s.size (by omega)
  generalize bs (num s.size) = x at *
  have HC := Lib.hid C
  clear C
  have hy : (b ++ x).size ≤ 281474976710665 := by rw [ByteArray.size_append]; omega
  go_enter Tryd.func60, Tryd.ntmps60
  go_wp2_with fail
  (with_reducible refine (HC.out _).mono ?_)
  rintro e w1 ⟨rfl, b1⟩
  go_wp2_with fail
  go_ret2
  exact ⟨rfl, b1⟩
theorem PutText_no (b s : ByteArray) (h : 4096 < s.size) (w : World) :
    Calls Tryd.prog 60 #[.string b, .string s] w fun e w' => e = .returned (.tuple #[.string ⟨#[]⟩, .int .i64 1]) ∧ w = w' := by
  go_enter Tryd.func60, Tryd.ntmps60
  go_wp2_with fail
  go_ret2
  exact ⟨rfl, rfl⟩
end Go.Proofs.YtenjnaebhbmfiaaDoor

/- wire.Get, wire.GetText: their contracts. -/
namespace Go.Proofs.YtenjnaebhbmfiaaDoor
open Go.RowKit

/-- what Get answers -/
def GR : Option (Nat × Nat) → Ending → Prop
  | some (n, k), e => e = .returned (.tuple #[.int .i64 (n : Int), .int .i64 (k : Int), .int .i64 0])
  | none, e => e = .returned (.tuple #[.int .i64 0, .int .i64 0, .int .i64 2])

/-- before byte k: all were 128 or more -/
def GRel (s : ByteArray) (n i : Value) : Prop :=
  ∃ k : Nat, k ≤ s.size ∧ k ≤ 9 ∧ i = .int .i64 (k : Int) ∧ n = .int .i64 (val (s.data.toList.take k) : Int) ∧ ∀ x ∈ s.data.toList.take k, 128 ≤ x.toNat

theorem take_snoc (s : ByteArray) (k : Nat) (h : k < s.size) : s.data.toList.take (k + 1) = s.data.toList.take k ++ [s[k]] := by
  rw [List.take_succ_eq_append_getElem (by simpa using h)]; rfl
theorem got_at (s : ByteArray) (k : Nat) (h : k < s.size) (h9 : k < 9) (ho : ∀ x ∈ s.data.toList.take k, 128 ≤ x.toNat) (hb : s[k].toNat < 128) :
    got s.data.toList = if (0 < k ∧ s[k].toNat = 0) ∨ 4611686018427387904 ≤ val (s.data.toList.take (k + 1)) then none else some (val (s.data.toList.take (k + 1)), k + 1) := by
  have he := ended_snoc _ _ ho hb
  rw [← take_snoc s k h] at he
  have hl : (s.data.toList.take (k + 1)).length = k + 1 := by rw [List.length_take]; have : s.data.toList.length = s.size := rfl; omega
  have hlast : lastOf (s.data.toList.take (k + 1)) = s[k].toNat := by rw [take_snoc s k h, lastOf_snoc]
  have e : s.data.toList.take 9 = s.data.toList.take (k + 1) ++ (s.data.toList.take 9).drop (k + 1) := by
    have := (List.take_append_drop (k + 1) (s.data.toList.take 9)).symm
    rw [List.take_take, Nat.min_eq_left (by omega)] at this
    exact this
  unfold got
  rw [e, lead_ended _ _ he]
  simp only
  rw [hl, hlast]
  simp only [Nat.lt_add_left_iff_pos]
theorem got_open (s : ByteArray) (k : Nat) (h : k = s.size ∨ k = 9) (hk : k ≤ s.size) (ho : ∀ x ∈ s.data.toList.take k, 128 ≤ x.toNat) (h9 : k ≤ 9) : got s.data.toList = none := by
  have e : s.data.toList.take 9 = s.data.toList.take k := by
    rcases h with rfl | rfl
    · have hl : s.data.toList.length = s.size := rfl
      rw [List.take_of_length_le (by omega), List.take_of_length_le (by omega)]
    · rfl
  unfold got
  rw [e, lead_open _ ho]

theorem i64_or_nat (a b : Nat) (ha : a < 9223372036854775808) (hb : b < 9223372036854775808) : bits .or .i64 (a : Int) (b : Int) = ((a ||| b : Nat) : Int) := by
  have hx : a ||| b < 2 ^ 63 := Nat.or_lt_two_pow (by omega) (by omega)
  show IntKind.i64.wrap ((BitVec.ofInt 64 (a : Int) ||| BitVec.ofInt 64 (b : Int)).toNat : Int) = _
  rw [BitVec.toNat_or, ofInt_u64 a (by omega), ofInt_u64 b (by omega), IntKind.wrap_i64]
  omega
theorem low_seven (b : UInt8) : bits .and .u8 (b.toNat : Int) 127 = ((b.toNat % 128 : Nat) : Int) := by
  have key : ∀ k : Fin 256, bits .and .u8 ((k.val : Nat) : Int) 127 = ((k.val % 128 : Nat) : Int) := by decide +kernel
  exact key ⟨b.toNat, b.toNat_lt⟩
theorem pow_seven (k : Nat) : (128 : Nat) ^ k = 2 ^ (7 * k) := by rw [Nat.pow_mul]
/-- the low seven bits of a byte, lifted by 7k, joined to what is below -/
theorem join_bits (b : UInt8) (k v : Nat) (hk : k < 9) (hv : v < 128 ^ k) :
    bits .or .i64 (v : Int) (wrap64 (wrap64 (bits .and .u8 (b.toNat : Int) 127) * 2 ^ (7 * k))) = ((v + b.toNat % 128 * 128 ^ k : Nat) : Int) := by
  have hp : (128 : Nat) ^ k ≤ 72057594037927936 := by
    have : (128 : Nat) ^ k ≤ 128 ^ 8 := Nat.pow_le_pow_right (by decide) (by omega)
    omega
  have hm : b.toNat % 128 < 128 := Nat.mod_lt _ (by decide)
  have hx : b.toNat % 128 * 128 ^ k < 9223372036854775808 := by
    have : b.toNat % 128 * 128 ^ k ≤ 127 * 72057594037927936 := Nat.mul_le_mul (by omega) hp
    omega
  rw [low_seven, IntWalk.wrap64_in ((b.toNat % 128 : Nat) : Int) (by omega)]
  have e : ((b.toNat % 128 : Nat) : Int) * 2 ^ (7 * k) = ((b.toNat % 128 * 128 ^ k : Nat) : Int) := by
    rw [pow_seven]; simp
  rw [e, IntWalk.wrap64_in ((b.toNat % 128 * 128 ^ k : Nat) : Int) (by omega), i64_or_nat _ _ (by omega) hx, Nat.or_comm, nat_join (7 * k) _ _ (by rw [pow_seven]; simp) (by rw [← pow_seven]; exact hv), Nat.add_comm]

theorem GR_none {e : Ending} (h : e = .returned (.tuple #[.int .i64 0, .int .i64 0, .int .i64 2])) {g : Option (Nat × Nat)} (hg : g = none) : GR g e := by rw [hg]; exact h
theorem GR_some {e : Ending} {n k : Nat} (h : e = .returned (.tuple #[.int .i64 (n : Int), .int .i64 (k : Int), .int .i64 0])) {g : Option (Nat × Nat)} (hg : g = some (n, k)) : GR g e := by rw [hg]; exact h

end Go.Proofs.YtenjnaebhbmfiaaDoor

/- wire.GetText: its contract. -/
namespace Go.Proofs.YtenjnaebhbmfiaaDoor
open Go.RowKit

end Go.Proofs.YtenjnaebhbmfiaaDoor

/- Put and PutText, as callers use them; texts cut and joined. -/
namespace Go.Proofs.YtenjnaebhbmfiaaDoor
open Go.RowKit

def PutIs (b : ByteArray) (n : Int) (r : ByteArray) (e : Int) : Prop := ∀ W, Calls Tryd.prog 51 #[.string b, .int .i64 n] W fun x w' => x = .returned (.tuple #[.string r, .int .i64 e]) ∧ Below W.heap.size W w'
theorem putIs_yes (b : ByteArray) (hb : b.size ≤ 281474976710656) (n : Nat) (h : n < 4611686018427387904) : PutIs b (n : Int) (b ++ bs (num n)) 0 := fun W => Put_yes b hb n h W
theorem putIs_no (b : ByteArray) (n : Int) (h : n < 0 ∨ 4611686018427387904 ≤ n) : PutIs b n ⟨#[]⟩ 3 := fun W =>
  (Put_no b n h W).mono fun _ _ ⟨h1, h2⟩ => ⟨h1, by subst h2; exact Below.refl _ _⟩
theorem empty_append (x : ByteArray) : (⟨#[]⟩ : ByteArray) ++ x = x := by
  apply ByteArray.ext
  simp
theorem extract_drop (s : ByteArray) (a b : Nat) : (s.extract a b).data.toList = (s.data.toList.drop a).take (b - a) := by
  rw [ByteArray.data_extract, Array.toList_extract]
theorem bs_extract (s : ByteArray) (k : Nat) : bs (s.data.toList.take k) = s.extract 0 k := by
  apply ByteArray.ext
  apply Array.ext'
  rw [extract_drop, bs_list]
  simp

def PutTextIs (b t r : ByteArray) (e : Int) : Prop := ∀ W, Calls Tryd.prog 60 #[.string b, .string t] W fun x w' => x = .returned (.tuple #[.string r, .int .i64 e]) ∧ Below W.heap.size W w'
theorem putTextIs_yes (b t : ByteArray) (hb : b.size ≤ 281474976710656) (h : t.size ≤ 4096) : PutTextIs b t (b ++ bs (num t.size) ++ t) 0 := fun W => PutText_yes b t hb h W
theorem putTextIs_no (b t : ByteArray) (h : 4096 < t.size) : PutTextIs b t ⟨#[]⟩ 1 := fun W =>
  (PutText_no b t h W).mono fun _ _ ⟨h1, h2⟩ => ⟨h1, by subst h2; exact Below.refl _ _⟩

theorem bytes_eq {a b : ByteArray} (h : a.data.toList = b.data.toList) : a = b := by
  apply ByteArray.ext
  apply Array.ext'
  exact h
theorem list_len (a : ByteArray) : a.data.toList.length = a.size := rfl
theorem extract_tail (b x : ByteArray) : (b ++ x).extract b.size (b ++ x).size = x := by
  apply bytes_eq
  rw [extract_drop, append_list, ByteArray.size_append, ← list_len b, List.drop_left', Nat.add_sub_cancel_left, ← list_len x, List.take_length]
  rfl
theorem extract_head (b x : ByteArray) : (b ++ x).extract 0 b.size = b := by
  apply bytes_eq
  rw [extract_drop, append_list, List.drop_zero, Nat.sub_zero, ← list_len b, List.take_left']
  rfl
end Go.Proofs.YtenjnaebhbmfiaaDoor

/- A number read off a list of bytes; parts of a text. -/
namespace Go.Proofs.YtenjnaebhbmfiaaDoor
open Go.RowKit

def rdNum (l : List UInt8) : Option (Nat × List UInt8) :=
  match got l with
  | none => none
  | some (n, k) => some (n, l.drop k)
theorem toList_data (s : ByteArray) : s.toList = s.data.toList := by
  first | exact ByteArray.toList_eq s | simp
theorem bs_drop (l : List UInt8) (k : Nat) : (bs l).extract k (bs l).size = bs (l.drop k) := by
  apply bytes_eq
  rw [extract_drop, bs_list, bs_list, bs_size, List.take_of_length_le (by rw [List.length_drop]; omega)]
theorem bs_mid (l : List UInt8) (k n : Nat) : (bs l).extract k (k + n) = bs ((l.drop k).take n) := by
  apply bytes_eq
  rw [extract_drop, bs_list, bs_list, show k + n - k = n from by omega]
theorem bs_head (l : List UInt8) (n : Nat) : (bs l).extract 0 n = bs (l.take n) := by
  have := bs_mid l 0 n
  simpa using this
theorem rdNum_lt {l r : List UInt8} {n : Nat} (h : rdNum l = some (n, r)) : n < 4611686018427387904 := by
  unfold rdNum at h
  cases hg : got l with
  | none => simp [hg] at h
  | some y =>
    obtain ⟨m, k⟩ := y
    simp only [hg, Option.some.injEq, Prod.mk.injEq] at h
    have hk := got_some l m k hg
    omega
theorem rdNum_num (n : Nat) (h : n < 4611686018427387904) (r : List UInt8) : rdNum (num n ++ r) = some (n, r) := by
  unfold rdNum
  rw [got_num n h r]
  simp only
  rw [List.drop_left']
  rfl
end Go.Proofs.YtenjnaebhbmfiaaDoor

/- Disks: plain definitions: what the steps of package disk do. -/
namespace Go.Proofs.YtenjnaebhbmfiaaDoor
open Go.RowKit

def ltB (a b : ByteArray) : Bool := Op.bytesLess a.toList b.toList
def sameB (a b : ByteArray) : Bool := a.toList == b.toList
theorem sameB_iff (a b : ByteArray) : sameB a b = true ↔ a = b := by
  unfold sameB
  rw [beq_iff_eq, toList_data, toList_data]
  exact ⟨bytes_eq, fun h => by rw [h]⟩
theorem less_irr : ∀ l : List UInt8, Op.bytesLess l l = false
  | [] => rfl
  | a :: l => by
    rw [Op.bytesLess, less_irr l]
    simp
theorem less_trans : ∀ a b c : List UInt8, Op.bytesLess a b = true → Op.bytesLess b c = true → Op.bytesLess a c = true
  | [], [], _, h, _ => by simp [Op.bytesLess] at h
  | [], _ :: _, [], _, h => by simp [Op.bytesLess] at h
  | [], _ :: _, _ :: _, _, _ => by simp [Op.bytesLess]
  | _ :: _, [], _, h, _ => by simp [Op.bytesLess] at h
  | _ :: _, _ :: _, [], _, h => by simp [Op.bytesLess] at h
  | a :: x, b :: y, c :: z, h1, h2 => by
    have ih := less_trans x y z
    simp only [Op.bytesLess, Bool.or_eq_true, Bool.and_eq_true, decide_eq_true_eq, beq_iff_eq] at h1 h2 ⊢
    rcases h1 with h1 | ⟨rfl, h1⟩
    · rcases h2 with h2 | ⟨rfl, h2⟩
      · exact .inl (UInt8.lt_trans h1 h2)
      · exact .inl h1
    · rcases h2 with h2 | ⟨rfl, h2⟩
      · exact .inl h2
      · exact .inr ⟨rfl, ih h1 h2⟩
theorem less_tri : ∀ a b : List UInt8, Op.bytesLess a b = true ∨ a = b ∨ Op.bytesLess b a = true
  | [], [] => .inr (.inl rfl)
  | [], _ :: _ => .inl (by simp [Op.bytesLess])
  | _ :: _, [] => .inr (.inr (by simp [Op.bytesLess]))
  | a :: x, b :: y => by
    have ih := less_tri x y
    simp only [Op.bytesLess, Bool.or_eq_true, Bool.and_eq_true, decide_eq_true_eq, beq_iff_eq]
    by_cases e : a = b
    · subst e
      rcases ih with h | rfl | h
      · exact .inl (.inr ⟨rfl, h⟩)
      · exact .inr (.inl rfl)
      · exact .inr (.inr (.inr ⟨rfl, h⟩))
    · by_cases h : a < b
      · exact .inl (.inl h)
      · exact .inr (.inr (.inl (by
          rw [UInt8.lt_iff_toNat_lt] at h ⊢
          have : a.toNat ≠ b.toNat := fun q => e (UInt8.toNat_inj.1 q)
          omega)))
theorem ltB_irr (a : ByteArray) : ltB a a = false := less_irr _
theorem ltB_trans {a b c : ByteArray} (h1 : ltB a b = true) (h2 : ltB b c = true) : ltB a c = true := less_trans _ _ _ h1 h2
theorem ltB_tri (a b : ByteArray) : ltB a b = true ∨ a = b ∨ ltB b a = true := by
  rcases less_tri a.toList b.toList with h | h | h
  · exact .inl h
  · exact .inr (.inl (by rw [toList_data, toList_data] at h; exact bytes_eq h))
  · exact .inr (.inr h)
theorem ltB_ne {a b : ByteArray} (h : ltB a b = true) : a ≠ b := fun e => by rw [e, ltB_irr] at h; cases h
theorem ltB_asym {a b : ByteArray} (h : ltB a b = true) : ltB b a = false := by
  cases hb : ltB b a with
  | false => rfl
  | true => have := ltB_trans h hb; rw [ltB_irr] at this; cases this

/-- a file -/
structure Fl where
  name : ByteArray
  safe : ByteArray
  tail : ByteArray
  deriving DecidableEq
/-- a disk -/
structure Dk where
  files : List Fl
  fuse : Int
  deriving DecidableEq
def inName (c : UInt8) : Bool := (decide (97 ≤ c.toNat) && decide (c.toNat ≤ 122)) || (decide (48 ≤ c.toNat) && decide (c.toNat ≤ 57)) || decide (c.toNat = 46) || decide (c.toNat = 45)
def named (s : ByteArray) : Bool := decide (1 ≤ s.size) && decide (s.size ≤ 80) && s.data.toList.all inName
def fits (f : Fl) : Bool := decide (f.safe.size + f.tail.size ≤ 1048576)
def goodL : ByteArray → List Fl → Bool
  | _, [] => true
  | b, f :: l => named f.name && fits f && ltB b f.name && goodL f.name l
def goodD (L : List Fl) : Bool := decide (L.length ≤ 400) && goodL ⟨#[]⟩ L
/-- where the first file stands whose name is this or comes behind it -/
def low (n : ByteArray) : List Fl → Nat
  | [] => 0
  | f :: l => if ltB f.name n then low n l + 1 else 0
def getF (n : ByteArray) (L : List Fl) : Option Fl := L.find? fun f => decide (f.name = n)
def del (n : ByteArray) (L : List Fl) : List Fl := L.filter fun f => !decide (f.name = n)
/-- the files with one more, or another in its place -/
def putL (f : Fl) : List Fl → List Fl
  | [] => [f]
  | x :: l => if ltB x.name f.name then x :: putL f l else if x.name = f.name then f :: l else f :: x :: l
def wrP (L : List Fl) (n s : ByteArray) : Except Int (List Fl) :=
  if !named n then .error 2 else match getF n L with
  | none => if 400 ≤ L.length then .error 6 else if 1048576 < s.size then .error 1 else .ok (putL ⟨n, ⟨#[]⟩, s⟩ L)
  | some f => if 1048576 < f.safe.size + f.tail.size + s.size then .error 1 else .ok (putL ⟨n, f.safe, f.tail ++ s⟩ L)
def syP (L : List Fl) (n : ByteArray) : Except Int (List Fl) := match getF n L with
  | none => .error 7
  | some f => .ok (putL ⟨n, f.safe ++ f.tail, ⟨#[]⟩⟩ L)
def rnP (L : List Fl) (n m : ByteArray) : Except Int (List Fl) := if !named m then .error 2 else match getF n L with
  | none => .error 7
  | some f => .ok (putL ⟨m, f.safe, f.tail⟩ (del n L))
def rmP (L : List Fl) (n : ByteArray) : Except Int (List Fl) := match getF n L with
  | none => .error 7
  | some _ => .ok (del n L)
def burnt (z : Int) : Int := if 0 < z then z - 1 else z
/-- a step, whose change is r -/
def stepP (d : Dk) (r : Except Int (List Fl)) : Dk × Int :=
  if !goodD d.files then (d, 3) else if d.fuse = 0 then (d, 12) else match r with
  | .error e => (d, e)
  | .ok L => (⟨L, burnt d.fuse⟩, 0)
def readD (d : Dk) (n : ByteArray) : ByteArray × Int := if !goodD d.files then (⟨#[]⟩, 3) else match getF n d.files with
  | none => (⟨#[]⟩, 7)
  | some f => (f.safe ++ f.tail, 0)
def crashF (k : Nat) (f : Fl) : Fl := ⟨f.name, f.safe ++ f.tail.extract 0 (min k f.tail.size), ⟨#[]⟩⟩
def crashD (d : Dk) (k : Int) : Dk × Int := if !goodD d.files || decide (k < 0) then (d, 3) else (⟨d.files.map (crashF k.toNat), -1⟩, 0)
/-- a disk and an error; the next step, if there is none -/
def thenD (r : Dk × Int) (f : Dk → Dk × Int) : Dk × Int := if r.2 ≠ 0 then r else f r.1
def newN (n : ByteArray) : ByteArray := n ++ ⟨#[46, 110, 101, 119]⟩
def saveD (d : Dk) (n s : ByteArray) : Dk × Int :=
  if !goodD d.files then (d, 3) else if !named n || !named (newN n) then (d, 2) else
  thenD (thenD (thenD (if (getF (newN n) d.files).isSome then stepP d (rmP d.files (newN n)) else (d, 0)) fun d => stepP d (wrP d.files (newN n) s)) fun d => stepP d (syP d.files (newN n))) fun d => stepP d (rnP d.files (newN n) n)
end Go.Proofs.YtenjnaebhbmfiaaDoor

/- Disks: what the plain steps keep. -/
namespace Go.Proofs.YtenjnaebhbmfiaaDoor
open Go.RowKit

/-- names that rise, all behind b -/
def ris : ByteArray → List Fl → Prop
  | _, [] => True
  | b, f :: l => ltB b f.name = true ∧ ris f.name l
theorem goodL_iff : ∀ (L : List Fl) (b : ByteArray), goodL b L = true ↔ ris b L ∧ ∀ f ∈ L, named f.name = true ∧ fits f = true
  | [], b => by simp [goodL, ris]
  | f :: l, b => by
    rw [goodL, ris, Bool.and_eq_true, Bool.and_eq_true, Bool.and_eq_true, goodL_iff l]
    constructor
    · rintro ⟨⟨⟨h1, h2⟩, h3⟩, h4, h5⟩
      refine ⟨⟨h3, h4⟩, fun g hg => ?_⟩
      rcases List.mem_cons.1 hg with rfl | hg
      · exact ⟨h1, h2⟩
      · exact h5 g hg
    · rintro ⟨⟨h3, h4⟩, h5⟩
      have h6 := h5 f List.mem_cons_self
      exact ⟨⟨⟨h6.1, h6.2⟩, h3⟩, h4, fun g hg => h5 g (List.mem_cons_of_mem _ hg)⟩
theorem goodD_iff (L : List Fl) : goodD L = true ↔ L.length ≤ 400 ∧ ris ⟨#[]⟩ L ∧ ∀ f ∈ L, named f.name = true ∧ fits f = true := by
  unfold goodD
  rw [Bool.and_eq_true, goodL_iff, decide_eq_true_iff]
theorem ris_lt : ∀ {L : List Fl} {b : ByteArray}, ris b L → ∀ f ∈ L, ltB b f.name = true
  | g :: l, b, h, f, hf => by
    rcases List.mem_cons.1 hf with rfl | hf
    · exact h.1
    · exact ltB_trans h.1 (ris_lt h.2 f hf)
theorem ris_weak : ∀ {L : List Fl} {a b : ByteArray}, ltB a b = true → ris b L → ris a L
  | [], _, _, _, _ => trivial
  | _ :: _, _, _, h, k => ⟨ltB_trans h k.1, k.2⟩
theorem ris_app : ∀ {L M : List Fl} {b : ByteArray}, ris b (L ++ M) → ris b L
  | [], _, _, _ => trivial
  | _ :: _, _, _, h => ⟨h.1, ris_app h.2⟩
theorem ltB_le {a b c : ByteArray} (h : ltB a b = false) (k : ltB a c = true) : b ≠ c → ltB b c = true := fun hne => by
  rcases ltB_tri a b with h1 | rfl | h1
  · rw [h1] at h; cases h
  · exact k
  · exact ltB_trans h1 k
theorem low_le (n : ByteArray) : ∀ L : List Fl, low n L ≤ L.length
  | [] => Nat.le_refl _
  | f :: l => by
    have := low_le n l
    unfold low
    split
    · simp; omega
    · simp
/-- ahead of where a name would stand, all names are ahead of it; there and behind it none is -/
theorem low_split (n : ByteArray) : ∀ (L : List Fl) (b : ByteArray), ris b L → ∀ (k : Nat) (f : Fl), L[k]? = some f → (ltB f.name n = true ↔ k < low n L)
  | [], _, _, k, f, hk => by simp at hk
  | g :: l, b, h, k, f, hk => by
    unfold low
    cases k with
    | zero =>
      simp at hk
      subst hk
      cases hg : ltB g.name n <;> simp
    | succ k =>
      rw [List.getElem?_cons_succ] at hk
      have ih := low_split n l g.name h.2 k f hk
      cases hg : ltB g.name n with
      | true => simp [ih]
      | false =>
        simp only [Bool.false_eq_true, if_false, Nat.not_lt_zero, iff_false, Bool.not_eq_true]
        have h1 := ris_lt h.2 f (List.mem_of_getElem? hk)
        cases hf : ltB f.name n with
        | false => rfl
        | true => rw [ltB_trans h1 hf] at hg; cases hg
theorem getF_low (n : ByteArray) : ∀ (L : List Fl) (b : ByteArray), ris b L → getF n L = match L[low n L]? with
    | none => none
    | some f => if f.name = n then some f else none
  | [], _, _ => rfl
  | g :: l, b, h => by
    have ih := getF_low n l g.name h.2
    unfold getF at ih ⊢
    unfold low
    rw [List.find?_cons]
    cases hg : ltB g.name n with
    | true =>
      have hne : ¬ g.name = n := ltB_ne hg
      simp only [hne, decide_false, if_true, List.getElem?_cons_succ]
      exact ih
    | false =>
      by_cases e : g.name = n
      · simp [e]
      · simp only [e, decide_false, Bool.false_eq_true, if_false, List.getElem?_cons_zero]
        rw [List.find?_eq_none]
        intro f hf
        have h1 := ris_lt h.2 f hf
        rcases ltB_tri n g.name with h2 | h2 | h2
        · have := ltB_ne (ltB_trans h2 h1)
          rw [decide_eq_true_eq]
          exact fun q => this q.symm
        · exact absurd h2.symm e
        · rw [h2] at hg; cases hg
theorem getF_name {n : ByteArray} {L : List Fl} {f : Fl} (h : getF n L = some f) : f.name = n ∧ f ∈ L := by
  unfold getF at h
  have h1 := List.find?_some h
  simp only [decide_eq_true_eq] at h1
  exact ⟨h1, List.mem_of_find?_eq_some h⟩
theorem putL_cut (f : Fl) : ∀ (L : List Fl) (b : ByteArray), ris b L → putL f L = L.take (low f.name L) ++ f :: L.drop (low f.name L + if (getF f.name L).isSome then 1 else 0)
  | [], _, _ => rfl
  | g :: l, b, h => by
    have ih := putL_cut f l g.name h.2
    have hg := getF_low f.name (g :: l) b h
    have hg2 := getF_low f.name l g.name h.2
    unfold putL
    unfold low at hg ⊢
    cases hl : ltB g.name f.name with
    | true =>
      simp only [hl, if_true, List.getElem?_cons_succ] at hg
      rw [← hg2] at hg
      rw [hg]
      simp only [if_true, List.take_succ_cons, List.cons_append]
      rw [ih]
      congr 2
      rw [show low f.name l + 1 + (if (getF f.name l).isSome = true then 1 else 0) = (low f.name l + if (getF f.name l).isSome = true then 1 else 0) + 1 from by omega, List.drop_succ_cons]
    | false =>
      simp only [hl, Bool.false_eq_true, if_false, List.getElem?_cons_zero] at hg
      rw [hg]
      by_cases e : g.name = f.name
      · simp [e]
      · simp [e]
theorem del_cut (n : ByteArray) : ∀ (L : List Fl) (b : ByteArray), ris b L → (getF n L).isSome = true → del n L = L.take (low n L) ++ L.drop (low n L + 1)
  | [], _, _, h => by cases h
  | g :: l, b, h, hs => by
    have ih := del_cut n l g.name h.2
    have hg := getF_low n (g :: l) b h
    have hg2 := getF_low n l g.name h.2
    unfold del at ih ⊢
    unfold low at hg ⊢
    rw [List.filter_cons]
    cases hl : ltB g.name n with
    | true =>
      simp only [hl, if_true, List.getElem?_cons_succ] at hg
      rw [← hg2] at hg
      rw [hg] at hs
      have hne : ¬ g.name = n := ltB_ne hl
      simp only [hne, decide_false, Bool.not_false, if_true, List.take_succ_cons, List.cons_append, List.drop_succ_cons]
      rw [ih hs]
    | false =>
      simp only [hl, Bool.false_eq_true, if_false, List.getElem?_cons_zero] at hg
      by_cases e : g.name = n
      · simp only [e, decide_true, Bool.not_true, Bool.false_eq_true, if_false, List.take_zero, List.nil_append, Nat.zero_add, List.drop_succ_cons, List.drop_zero]
        rw [List.filter_eq_self]
        intro f hf
        have := ltB_ne (ris_lt h.2 f hf)
        have hn : ¬ f.name = n := fun q => this (e.trans q.symm)
        simp [hn]
      · rw [if_neg e] at hg
        rw [hg] at hs
        cases hs
theorem getF_put (n : ByteArray) (f : Fl) : ∀ (L : List Fl) (b : ByteArray), ris b L → getF n (putL f L) = if f.name = n then some f else getF n L
  | [], _, _ => by
    unfold putL getF
    by_cases e : f.name = n <;> simp [e]
  | g :: l, b, h => by
    have ih := getF_put n f l g.name h.2
    unfold putL
    unfold getF at ih ⊢
    cases hl : ltB g.name f.name with
    | true =>
      simp only [if_true, List.find?_cons]
      by_cases e : g.name = n
      · have hne : ¬ f.name = n := fun q => ltB_ne hl (e.trans q.symm)
        simp [e, hne]
      · simp only [e, decide_false]
        exact ih
    | false =>
      simp only [Bool.false_eq_true, if_false]
      by_cases e : g.name = f.name
      · rw [if_pos e]
        simp only [List.find?_cons, e]
        by_cases q : f.name = n <;> simp [q]
      · rw [if_neg e]
        simp only [List.find?_cons]
        by_cases q : f.name = n <;> simp [q]
theorem getF_del (n m : ByteArray) (L : List Fl) : getF n (del m L) = if m = n then none else getF n L := by
  unfold getF del
  rw [List.find?_filter]
  by_cases e : m = n
  · subst e
    rw [if_pos rfl, List.find?_eq_none]
    intro f _
    by_cases q : f.name = m <;> simp [q]
  · rw [if_neg e]
    congr 1
    funext f
    by_cases q : f.name = n
    · have : ¬ n = m := fun h => e h.symm
      simp [q, this]
    · simp [q]
theorem put_ris (f : Fl) : ∀ (L : List Fl) (b : ByteArray), ris b L → ltB b f.name = true → ris b (putL f L)
  | [], _, _, h => ⟨h, trivial⟩
  | g :: l, b, h, hb => by
    unfold putL
    cases hl : ltB g.name f.name with
    | true => exact ⟨h.1, put_ris f l g.name h.2 hl⟩
    | false =>
      simp only [Bool.false_eq_true, if_false]
      by_cases e : g.name = f.name
      · rw [if_pos e]
        exact ⟨hb, by rw [← e]; exact h.2⟩
      · rw [if_neg e]
        refine ⟨hb, ?_, h.2⟩
        rcases ltB_tri g.name f.name with h1 | h1 | h1
        · rw [h1] at hl; cases hl
        · exact absurd h1 e
        · exact h1
theorem put_mem (f g : Fl) : ∀ L : List Fl, g ∈ putL f L → g = f ∨ g ∈ L
  | [], h => .inl (by simpa [putL] using h)
  | x :: l, h => by
    unfold putL at h
    split at h
    · rcases List.mem_cons.1 h with rfl | h
      · exact .inr List.mem_cons_self
      · rcases put_mem f g l h with h | h
        · exact .inl h
        · exact .inr (List.mem_cons_of_mem _ h)
    · split at h
      · rcases List.mem_cons.1 h with rfl | h
        · exact .inl rfl
        · exact .inr (List.mem_cons_of_mem _ h)
      · rcases List.mem_cons.1 h with rfl | h
        · exact .inl rfl
        · exact .inr h
theorem del_ris (n : ByteArray) : ∀ (L : List Fl) (b : ByteArray), ris b L → ris b (del n L)
  | [], _, _ => trivial
  | g :: l, b, h => by
    have ih := del_ris n l g.name h.2
    unfold del at ih ⊢
    rw [List.filter_cons]
    split
    · exact ⟨h.1, ih⟩
    · exact ris_weak h.1 ih
theorem empty_lt {s : ByteArray} (h : named s = true) : ltB ⟨#[]⟩ s = true := by
  unfold named at h
  rw [Bool.and_eq_true, Bool.and_eq_true, decide_eq_true_iff] at h
  have h1 : 1 ≤ s.data.toList.length := h.1.1
  unfold ltB
  rw [toList_data, toList_data]
  cases hs : s.data.toList with
  | nil => rw [hs] at h1; simp at h1
  | cons a l => rfl
theorem put_len (f : Fl) (L : List Fl) (b : ByteArray) (h : ris b L) : (putL f L).length = L.length + if (getF f.name L).isSome then 0 else 1 := by
  have hle := low_le f.name L
  have hg := getF_low f.name L b h
  rw [putL_cut f L b h, List.length_append, List.length_take, List.length_cons, List.length_drop]
  cases hf : getF f.name L with
  | none => simp; omega
  | some x =>
    rw [hf] at hg
    have : low f.name L < L.length := by
      rcases Nat.lt_or_ge (low f.name L) L.length with h1 | h1
      · exact h1
      · rw [List.getElem?_eq_none h1] at hg; cases hg
    simp
    omega
theorem good_put {f : Fl} {L : List Fl} (h : goodD L = true) (hn : named f.name = true) (hf : fits f = true) (hl : (getF f.name L).isSome = true ∨ L.length < 400) : goodD (putL f L) = true := by
  obtain ⟨h1, h2, h3⟩ := (goodD_iff L).1 h
  refine (goodD_iff _).2 ⟨?_, put_ris f L _ h2 (empty_lt hn), fun g hg => ?_⟩
  · rw [put_len f L _ h2]
    rcases hl with hl | hl
    · simp [hl]; omega
    · split <;> omega
  · rcases put_mem f g L hg with rfl | hg
    · exact ⟨hn, hf⟩
    · exact h3 g hg
theorem good_del {n : ByteArray} {L : List Fl} (h : goodD L = true) : goodD (del n L) = true := by
  obtain ⟨h1, h2, h3⟩ := (goodD_iff L).1 h
  exact (goodD_iff _).2 ⟨Nat.le_trans (List.length_filter_le _ _) h1, del_ris n L _ h2, fun g hg => h3 g ((List.mem_filter.1 hg).1)⟩
theorem fits_get {n : ByteArray} {L : List Fl} {f : Fl} (h : goodD L = true) (k : getF n L = some f) : named n = true ∧ fits f = true := by
  obtain ⟨h1, h2⟩ := getF_name k
  have := ((goodD_iff L).1 h).2.2 f h2
  rw [h1] at this
  exact this
end Go.Proofs.YtenjnaebhbmfiaaDoor

/- Lists of refs by names, plain: made out of DkMath (wip/tools/genrf.py). -/
namespace Go.Proofs.YtenjnaebhbmfiaaDoor
open Go.RowKit

/-- a ref -/
structure Rf where
  name : ByteArray
  id : ByteArray
  deriving DecidableEq
def rrs : ByteArray → List Rf → Prop
  | _, [] => True
  | b, f :: l => ltB b f.name = true ∧ rrs f.name l
def rlow (n : ByteArray) : List Rf → Nat
  | [] => 0
  | f :: l => if ltB f.name n then rlow n l + 1 else 0
def getRf (n : ByteArray) (L : List Rf) : Option Rf := L.find? fun f => decide (f.name = n)
def putR (f : Rf) : List Rf → List Rf
  | [] => [f]
  | x :: l => if ltB x.name f.name then x :: putR f l else if x.name = f.name then f :: l else f :: x :: l
def delR (n : ByteArray) (L : List Rf) : List Rf := L.filter fun f => !decide (f.name = n)
theorem rrs_lt : ∀ {L : List Rf} {b : ByteArray}, rrs b L → ∀ f ∈ L, ltB b f.name = true
  | g :: l, b, h, f, hf => by
    rcases List.mem_cons.1 hf with rfl | hf
    · exact h.1
    · exact ltB_trans h.1 (rrs_lt h.2 f hf)
theorem rrs_weak : ∀ {L : List Rf} {a b : ByteArray}, ltB a b = true → rrs b L → rrs a L
  | [], _, _, _, _ => trivial
  | _ :: _, _, _, h, k => ⟨ltB_trans h k.1, k.2⟩
theorem rrs_app : ∀ {L M : List Rf} {b : ByteArray}, rrs b (L ++ M) → rrs b L
  | [], _, _, _ => trivial
  | _ :: _, _, _, h => ⟨h.1, rrs_app h.2⟩
theorem rlow_le (n : ByteArray) : ∀ L : List Rf, rlow n L ≤ L.length
  | [] => Nat.le_refl _
  | f :: l => by
    have := rlow_le n l
    unfold rlow
    split
    · simp; omega
    · simp
theorem rlow_split (n : ByteArray) : ∀ (L : List Rf) (b : ByteArray), rrs b L → ∀ (k : Nat) (f : Rf), L[k]? = some f → (ltB f.name n = true ↔ k < rlow n L)
  | [], _, _, k, f, hk => by simp at hk
  | g :: l, b, h, k, f, hk => by
    unfold rlow
    cases k with
    | zero =>
      simp at hk
      subst hk
      cases hg : ltB g.name n <;> simp
    | succ k =>
      rw [List.getElem?_cons_succ] at hk
      have ih := rlow_split n l g.name h.2 k f hk
      cases hg : ltB g.name n with
      | true => simp [ih]
      | false =>
        simp only [Bool.false_eq_true, if_false, Nat.not_lt_zero, iff_false, Bool.not_eq_true]
        have h1 := rrs_lt h.2 f (List.mem_of_getElem? hk)
        cases hf : ltB f.name n with
        | false => rfl
        | true => rw [ltB_trans h1 hf] at hg; cases hg
theorem getR_low (n : ByteArray) : ∀ (L : List Rf) (b : ByteArray), rrs b L → getRf n L = match L[rlow n L]? with
    | none => none
    | some f => if f.name = n then some f else none
  | [], _, _ => rfl
  | g :: l, b, h => by
    have ih := getR_low n l g.name h.2
    unfold getRf at ih ⊢
    unfold rlow
    rw [List.find?_cons]
    cases hg : ltB g.name n with
    | true =>
      have hne : ¬ g.name = n := ltB_ne hg
      simp only [hne, decide_false, if_true, List.getElem?_cons_succ]
      exact ih
    | false =>
      by_cases e : g.name = n
      · simp [e]
      · simp only [e, decide_false, Bool.false_eq_true, if_false, List.getElem?_cons_zero]
        rw [List.find?_eq_none]
        intro f hf
        have h1 := rrs_lt h.2 f hf
        rcases ltB_tri n g.name with h2 | h2 | h2
        · have := ltB_ne (ltB_trans h2 h1)
          rw [decide_eq_true_eq]
          exact fun q => this q.symm
        · exact absurd h2.symm e
        · rw [h2] at hg; cases hg
theorem getR_name {n : ByteArray} {L : List Rf} {f : Rf} (h : getRf n L = some f) : f.name = n ∧ f ∈ L := by
  unfold getRf at h
  have h1 := List.find?_some h
  simp only [decide_eq_true_eq] at h1
  exact ⟨h1, List.mem_of_find?_eq_some h⟩
theorem putR_cut (f : Rf) : ∀ (L : List Rf) (b : ByteArray), rrs b L → putR f L = L.take (rlow f.name L) ++ f :: L.drop (rlow f.name L + if (getRf f.name L).isSome then 1 else 0)
  | [], _, _ => rfl
  | g :: l, b, h => by
    have ih := putR_cut f l g.name h.2
    have hg := getR_low f.name (g :: l) b h
    have hg2 := getR_low f.name l g.name h.2
    unfold putR
    unfold rlow at hg ⊢
    cases hl : ltB g.name f.name with
    | true =>
      simp only [hl, if_true, List.getElem?_cons_succ] at hg
      rw [← hg2] at hg
      rw [hg]
      simp only [if_true, List.take_succ_cons, List.cons_append]
      rw [ih]
      congr 2
      rw [show rlow f.name l + 1 + (if (getRf f.name l).isSome = true then 1 else 0) = (rlow f.name l + if (getRf f.name l).isSome = true then 1 else 0) + 1 from by omega, List.drop_succ_cons]
    | false =>
      simp only [hl, Bool.false_eq_true, if_false, List.getElem?_cons_zero] at hg
      rw [hg]
      by_cases e : g.name = f.name
      · simp [e]
      · simp [e]
theorem delR_cut (n : ByteArray) : ∀ (L : List Rf) (b : ByteArray), rrs b L → (getRf n L).isSome = true → delR n L = L.take (rlow n L) ++ L.drop (rlow n L + 1)
  | [], _, _, h => by cases h
  | g :: l, b, h, hs => by
    have ih := delR_cut n l g.name h.2
    have hg := getR_low n (g :: l) b h
    have hg2 := getR_low n l g.name h.2
    unfold delR at ih ⊢
    unfold rlow at hg ⊢
    rw [List.filter_cons]
    cases hl : ltB g.name n with
    | true =>
      simp only [hl, if_true, List.getElem?_cons_succ] at hg
      rw [← hg2] at hg
      rw [hg] at hs
      have hne : ¬ g.name = n := ltB_ne hl
      simp only [hne, decide_false, Bool.not_false, if_true, List.take_succ_cons, List.cons_append, List.drop_succ_cons]
      rw [ih hs]
    | false =>
      simp only [hl, Bool.false_eq_true, if_false, List.getElem?_cons_zero] at hg
      by_cases e : g.name = n
      · simp only [e, decide_true, Bool.not_true, Bool.false_eq_true, if_false, List.take_zero, List.nil_append, Nat.zero_add, List.drop_succ_cons, List.drop_zero]
        rw [List.filter_eq_self]
        intro f hf
        have := ltB_ne (rrs_lt h.2 f hf)
        have hn : ¬ f.name = n := fun q => this (e.trans q.symm)
        simp [hn]
      · rw [if_neg e] at hg
        rw [hg] at hs
        cases hs
theorem getR_put (n : ByteArray) (f : Rf) : ∀ (L : List Rf) (b : ByteArray), rrs b L → getRf n (putR f L) = if f.name = n then some f else getRf n L
  | [], _, _ => by
    unfold putR getRf
    by_cases e : f.name = n <;> simp [e]
  | g :: l, b, h => by
    have ih := getR_put n f l g.name h.2
    unfold putR
    unfold getRf at ih ⊢
    cases hl : ltB g.name f.name with
    | true =>
      simp only [if_true, List.find?_cons]
      by_cases e : g.name = n
      · have hne : ¬ f.name = n := fun q => ltB_ne hl (e.trans q.symm)
        simp [e, hne]
      · simp only [e, decide_false]
        exact ih
    | false =>
      simp only [Bool.false_eq_true, if_false]
      by_cases e : g.name = f.name
      · rw [if_pos e]
        simp only [List.find?_cons, e]
        by_cases q : f.name = n <;> simp [q]
      · rw [if_neg e]
        simp only [List.find?_cons]
        by_cases q : f.name = n <;> simp [q]
theorem getR_del (n m : ByteArray) (L : List Rf) : getRf n (delR m L) = if m = n then none else getRf n L := by
  unfold getRf delR
  rw [List.find?_filter]
  by_cases e : m = n
  · subst e
    rw [if_pos rfl, List.find?_eq_none]
    intro f _
    by_cases q : f.name = m <;> simp [q]
  · rw [if_neg e]
    congr 1
    funext f
    by_cases q : f.name = n
    · have : ¬ n = m := fun h => e h.symm
      simp [q, this]
    · simp [q]
theorem putR_rrs (f : Rf) : ∀ (L : List Rf) (b : ByteArray), rrs b L → ltB b f.name = true → rrs b (putR f L)
  | [], _, _, h => ⟨h, trivial⟩
  | g :: l, b, h, hb => by
    unfold putR
    cases hl : ltB g.name f.name with
    | true => exact ⟨h.1, putR_rrs f l g.name h.2 hl⟩
    | false =>
      simp only [Bool.false_eq_true, if_false]
      by_cases e : g.name = f.name
      · rw [if_pos e]
        exact ⟨hb, by rw [← e]; exact h.2⟩
      · rw [if_neg e]
        refine ⟨hb, ?_, h.2⟩
        rcases ltB_tri g.name f.name with h1 | h1 | h1
        · rw [h1] at hl; cases hl
        · exact absurd h1 e
        · exact h1
theorem putR_mem (f g : Rf) : ∀ L : List Rf, g ∈ putR f L → g = f ∨ g ∈ L
  | [], h => .inl (by simpa [putR] using h)
  | x :: l, h => by
    unfold putR at h
    split at h
    · rcases List.mem_cons.1 h with rfl | h
      · exact .inr List.mem_cons_self
      · rcases putR_mem f g l h with h | h
        · exact .inl h
        · exact .inr (List.mem_cons_of_mem _ h)
    · split at h
      · rcases List.mem_cons.1 h with rfl | h
        · exact .inl rfl
        · exact .inr (List.mem_cons_of_mem _ h)
      · rcases List.mem_cons.1 h with rfl | h
        · exact .inl rfl
        · exact .inr h
theorem delR_rrs (n : ByteArray) : ∀ (L : List Rf) (b : ByteArray), rrs b L → rrs b (delR n L)
  | [], _, _ => trivial
  | g :: l, b, h => by
    have ih := delR_rrs n l g.name h.2
    unfold delR at ih ⊢
    rw [List.filter_cons]
    split
    · exact ⟨h.1, ih⟩
    · exact rrs_weak h.1 ih
theorem putR_len (f : Rf) (L : List Rf) (b : ByteArray) (h : rrs b L) : (putR f L).length = L.length + if (getRf f.name L).isSome then 0 else 1 := by
  have hle := rlow_le f.name L
  have hg := getR_low f.name L b h
  rw [putR_cut f L b h, List.length_append, List.length_take, List.length_cons, List.length_drop]
  cases hf : getRf f.name L with
  | none => simp; omega
  | some x =>
    rw [hf] at hg
    have : rlow f.name L < L.length := by
      rcases Nat.lt_or_ge (rlow f.name L) L.length with h1 | h1
      · exact h1
      · rw [List.getElem?_eq_none h1] at hg; cases hg
    simp
    omega
end Go.Proofs.YtenjnaebhbmfiaaDoor

/- What package refs answers, plain. -/
namespace Go.Proofs.YtenjnaebhbmfiaaDoor
open Go.RowKit

def inP (c : UInt8) : Bool := (decide (97 ≤ c.toNat) && decide (c.toNat ≤ 122)) || (decide (48 ≤ c.toNat) && decide (c.toNat ≤ 57)) || decide (c.toNat = 45) || decide (c.toNat = 95)
def okP (l : List UInt8) : Bool := !l.isEmpty && l.all inP
/-- what stands before, between and behind the slashes -/
def splitP : List UInt8 → List UInt8 → List (List UInt8)
  | acc, [] => [acc]
  | acc, c :: r => if c.toNat = 47 then acc :: splitP [] r else splitP (acc ++ [c]) r
def namedR (s : ByteArray) : Bool := decide (s.size ≤ 60) && (splitP [] s.data.toList).all okP
/-- the same, byte by byte, of a text with a slash behind it: p bytes of a piece have come -/
def walkP : Nat → List UInt8 → Bool
  | _, [] => true
  | p, c :: r => if c.toNat = 47 then (if p = 0 then false else walkP 0 r) else if inP c then walkP (p + 1) r else false
theorem split_bad : ∀ (l acc : List UInt8), acc.all inP = false → (splitP acc l).all okP = false
  | [], acc, h => by
    unfold splitP okP
    simp [h]
  | c :: r, acc, h => by
    have ih := split_bad r (acc ++ [c]) (by rw [List.all_append, h]; rfl)
    unfold splitP
    split
    · have : okP acc = false := by unfold okP; rw [h, Bool.and_false]
      rw [List.all_cons, this, Bool.false_and]
    · exact ih
theorem walk_split : ∀ (l acc : List UInt8), acc.all inP = true → walkP acc.length (l ++ [47]) = (splitP acc l).all okP
  | [], acc, h => by
    cases acc with
    | nil => decide
    | cons a acc => simp [walkP, splitP, okP, h]
  | c :: r, acc, h => by
    rw [List.cons_append, walkP, splitP]
    by_cases e : c.toNat = 47
    · rw [if_pos e, if_pos e, List.all_cons]
      cases acc with
      | nil => simp [okP]
      | cons a acc =>
        have h2 := walk_split r [] rfl
        have h3 : okP (a :: acc) = true := by unfold okP; rw [h]; rfl
        rw [h3, Bool.true_and, if_neg (by simp)]
        exact h2
    · rw [if_neg e, if_neg e]
      cases hc : inP c with
      | true =>
        have h2 := walk_split r (acc ++ [c]) (by rw [List.all_append, h]; simp [hc])
        rw [List.length_append] at h2
        exact h2
      | false =>
        rw [split_bad r (acc ++ [c]) (by rw [List.all_append, h]; simp [hc])]
        rfl
theorem named_walk (s : ByteArray) : namedR s = (walkP 0 (s.data.toList ++ [47]) && decide (s.size ≤ 60)) := by
  unfold namedR
  rw [Bool.and_comm]
  congr 1
  exact (walk_split _ [] rfl).symm
theorem walkP_zero_nil : walkP 0 [47] = false := by decide
def isId (s : ByteArray) : Bool := decide (s.size = 0) || decide (s.size = 32)
def goodLR : ByteArray → List Rf → Bool
  | _, [] => true
  | b, f :: l => namedR f.name && decide (f.id.size = 32) && ltB b f.name && goodLR f.name l
def goodR (L : List Rf) : Bool := decide (L.length ≤ 32) && goodLR ⟨#[]⟩ L
def idAt (n : ByteArray) (L : List Rf) : ByteArray := match getRf n L with
  | none => ⟨#[]⟩
  | some f => f.id
def changed (L : List Rf) (n i : ByteArray) : List Rf := if i.size = 0 then delR n L else putR ⟨n, i⟩ L
/-- what Set answers -/
def setR (L : List Rf) (n o i : ByteArray) : List Rf × Int :=
  if !goodR L then ([], 3) else if !namedR n || !isId o || !isId i then ([], 2) else if idAt n L ≠ o then ([], 9) else if 32 < (changed L n i).length then ([], 6) else (changed L n i, 0)
theorem named_ne {s : ByteArray} (h : namedR s = true) : 1 ≤ s.size := by
  rcases Nat.eq_zero_or_pos s.size with e | e
  · have : s.data.toList = [] := List.eq_nil_of_length_eq_zero e
    unfold namedR at h
    rw [this] at h
    simp [splitP, okP] at h
  · exact e
theorem named_le {s : ByteArray} (h : namedR s = true) : s.size ≤ 60 := by
  unfold namedR at h
  rw [Bool.and_eq_true, decide_eq_true_iff] at h
  exact h.1
theorem empty_ltR {s : ByteArray} (h : 1 ≤ s.size) : ltB ⟨#[]⟩ s = true := by
  have h1 : 1 ≤ s.data.toList.length := h
  unfold ltB
  rw [toList_data, toList_data]
  cases hs : s.data.toList with
  | nil => rw [hs] at h1; simp at h1
  | cons a l => rfl
theorem goodLR_iff : ∀ (L : List Rf) (b : ByteArray), goodLR b L = true ↔ rrs b L ∧ ∀ f ∈ L, namedR f.name = true ∧ f.id.size = 32
  | [], b => by simp [goodLR, rrs]
  | f :: l, b => by
    rw [goodLR, rrs, Bool.and_eq_true, Bool.and_eq_true, Bool.and_eq_true, goodLR_iff l, decide_eq_true_iff]
    constructor
    · rintro ⟨⟨⟨h1, h2⟩, h3⟩, h4, h5⟩
      refine ⟨⟨h3, h4⟩, fun g hg => ?_⟩
      rcases List.mem_cons.1 hg with rfl | hg
      · exact ⟨h1, h2⟩
      · exact h5 g hg
    · rintro ⟨⟨h3, h4⟩, h5⟩
      have h6 := h5 f List.mem_cons_self
      exact ⟨⟨⟨h6.1, h6.2⟩, h3⟩, h4, fun g hg => h5 g (List.mem_cons_of_mem _ hg)⟩
theorem goodR_iff (L : List Rf) : goodR L = true ↔ L.length ≤ 32 ∧ rrs ⟨#[]⟩ L ∧ ∀ f ∈ L, namedR f.name = true ∧ f.id.size = 32 := by
  unfold goodR
  rw [Bool.and_eq_true, goodLR_iff, decide_eq_true_iff]
end Go.Proofs.YtenjnaebhbmfiaaDoor
