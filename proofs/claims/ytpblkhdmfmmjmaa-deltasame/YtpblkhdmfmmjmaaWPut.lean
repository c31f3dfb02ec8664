/- wire.numberBytes, wire.Put, wire.PutText: their contracts. -/
import Derived.Test.YtpblkhdmfmmjmaaProg
import Derived.Test.YtpblkhdmfmmjmaaBytes
import Derived.Test.YtpblkhdmfmmjmaaInf
import Derived.Test.YtpblkhdmfmmjmaaWNum
namespace Go.Proofs.Ytpblkhdmfmmjmaa
open Go.RowKit

theorem group_byte (m : Nat) : bits .or .u8 ((m : Int) % 256) 128 = ((UInt8.ofNat (m % 128 + 128)).toNat : Int) := by
  have key : ∀ k : Fin 256, bits .or .u8 ((k.val : Nat) : Int) 128 = ((UInt8.ofNat (k.val % 128 + 128)).toNat : Int) := by decide +kernel
  have h := key ⟨m % 256, Nat.mod_lt _ (by decide)⟩
  have e : (m : Int) % 256 = ((m % 256 : Nat) : Int) := by omega
  rw [e, h]
  simp only
  rw [show m % 256 % 128 = m % 128 from by omega]
theorem last_byte (m : Nat) : IntKind.u8.wrap (m : Int) = ((UInt8.ofNat m).toNat : Int) := by
  rw [IntKind.wrap_u8', UInt8.toNat_ofNat']; omega

def NBRel (n base : Nat) (w : World) (t0 t3 : Value) (wr : World) : Prop :=
  ∃ (m : Nat) (done : List UInt8), m < 4611686018427387904 ∧ num n = done ++ num m ∧ t0 = .int .i64 (m : Int) ∧ t3 = .slice (some ⟨base, 0, none⟩) done.length 9 ∧
    wr.ownsRow base 5 1 (.slice (some ⟨base, 0, none⟩) done.length 9) done.length (done.map bv) ∧ Below base w wr

set_option maxRecDepth 100000 in
set_option maxHeartbeats 1000000 in
theorem numberBytes_any (n : Nat) (h : n < 4611686018427387904) (w : World) :
    Calls Try.prog 32 #[.int .i64 (n : Int)] w
      fun e w' => e = .returned (.string (bs (num n))) ∧ Below w.heap.size w w' := by
  obtain ⟨i, hi, hz0, hz1, hz2⟩ := info_parts info_u8
  have Hi := Lib.hid hi
  have Hz0 := Lib.hid hz0
  have Hz1 := Lib.hid hz1
  have Hz2 := Lib.hid hz2
  clear hi hz0 hz1 hz2
  have HL := Lib.hid (num_len9 n h)
  go_enter Try.func32, Try.ntmps32
  go_wp2_with (at_make; refine wpList_make_own _ rfl _ _ 32 rfl w.heap.size 5 i _ 1 Try.underlying32 Hi.out Hz0.out Hz1.out _ _ _ 9 rfl rfl (by omega) (by rw [Hz2.out]; omega) (by unfold maxLen; omega) (Nat.le_refl _) ?_)
  intro w1 hown hgrow
  have hb0 : Below w.heap.size w w1 := (Below.refl _ _).grown hgrow (Nat.le_refl _) (by intro k hk; cases hk)
  go_wp2_with fail
  go_loopw [0, 3] (fun t0 t3 wr => NBRel n w.heap.size w t0 t3 wr) (fun t0 _ _ => (intOf t0).toNat)
  case atStart => exact ⟨n, [], h, rfl, rfl, rfl, hown, hb0⟩
  case round =>
    clear hown hgrow hb0
    obtain ⟨m, done, hm, hN, rfl, rfl, hO, hB⟩ := hrel
    have HN := Lib.hid hN
    clear hN
    have hlen : done.length + 1 ≤ 9 := by
      have h1 := HL.out
      have h2 := num_pos m
      rw [HN.out, List.length_append] at h1
      omega
    by_cases hlt : m < 128
    · have hb2 := last_byte m
      have HN2 : Hid (num n = done ++ [UInt8.ofNat m]) := by show _ = _; rw [HN.out, num_small m hlt]
      clear HN
      generalize UInt8.ofNat m = bb at *
      go_wp2_with (at_builtin; refine wpList_append_fits _ rfl _ _ 32 rfl w.heap.size 5 i 1 Try.underlying32 Hi.out Hz1.out w.heap.size _ _ (done.map bv) rfl (World.ownsRow.alloc hO _) ⟨wr.heap.size, 0, none⟩ 1 1 [.int .u8 (bb.toNat : Int)] rfl rfl (new_cells wr [.int .u8 (bb.toNat : Int)] 5) (bytes_one [bb]) (by omega) ?_)
      intro w2 hown hgrow
      have hO2 : w2.ownsRow w.heap.size 5 1 (.slice (some ⟨w.heap.size, 0, none⟩) (done ++ [bb]).length 9) (done ++ [bb]).length ((done ++ [bb]).map bv) := by
        rw [List.length_append, List.map_append]; exact hown
      have hb := run_bytes_own (P := Try.prog) hO2
      rw [← run_convert_bytes_string w2 32 9 5 _ _ _ Try.underlying32 Try.underlying5 Try.underlying9] at hb
      rw [List.length_append] at hb
      simp only [List.length_cons, List.length_nil, Nat.zero_add] at hb
      have hB2 : Below w.heap.size w w2 := (hB.alloc hB.size _).grown hgrow (by simp; have := hB.size; omega) (by intro k hk; cases hk; exact Nat.le_refl _)
      clear hO hO2 hown hgrow hB
      go_wp2_with fail
      go_ret
      exact ⟨by rw [HN2.out]; rfl, hB2⟩
    · have hb2 := group_byte m
      have HN2 : Hid (num n = (done ++ [UInt8.ofNat (m % 128 + 128)]) ++ num (m / 128)) := by show _ = _; rw [HN.out, num_great m (by omega)]; simp
      clear HN
      generalize UInt8.ofNat (m % 128 + 128) = bb at *
      go_wp2_with (at_builtin; refine wpList_append_fits _ rfl _ _ 32 rfl w.heap.size 5 i 1 Try.underlying32 Hi.out Hz1.out w.heap.size _ _ (done.map bv) rfl (World.ownsRow.alloc hO _) ⟨wr.heap.size, 0, none⟩ 1 1 [.int .u8 (bb.toNat : Int)] rfl rfl (new_cells wr [.int .u8 (bb.toNat : Int)] 5) (bytes_one [bb]) (by omega) ?_)
      intro w2 hown hgrow
      have hB2 : Below w.heap.size w w2 := (hB.alloc hB.size _).grown hgrow (by simp; have := hB.size; omega) (by intro k hk; cases hk; exact Nat.le_refl _)
      go_wp2_with fail
      refine ⟨⟨m / 128, done ++ [bb], by omega, HN2.out, by go_num, ?_, ?_, hB2⟩, by simp [intOf]; omega⟩
      · rw [List.length_append]; rfl
      · rw [List.length_append, List.map_append]; exact hown

set_option maxRecDepth 100000 in
/-- Put at a number in its range -/
theorem Put_yes (b : ByteArray) (hb : b.size ≤ 281474976710656) (n : Nat) (h : n < 4611686018427387904) (w : World) :
    Calls Try.prog 30 #[.string b, .int .i64 (n : Int)] w fun e w' => e = .returned (.tuple #[.string (b ++ bs (num n)), .int .i64 0]) ∧ Below w.heap.size w w' := by
  have h1 : ¬ ((n : Int) < 0) := by omega
  have h2 : ¬ (4611686018427387904 ≤ (n : Int)) := by omega
  have hx : (bs (num n)).size ≤ 9 := by rw [bs_size]; exact num_len9 n h
  have C := numberBytes_any n h
  generalize bs (num n) = x at *
  have HC := Lib.hid C
  clear C
  go_enter Try.func30, Try.ntmps30
  go_wp2_with fail
  (with_reducible refine (HC.out _).mono ?_)
  rintro e w1 ⟨rfl, b1⟩
  go_wp2_with fail
  go_ret2
  exact ⟨rfl, b1⟩
/-- Put at a number out of its range -/
theorem Put_no (b : ByteArray) (n : Int) (h : n < 0 ∨ 4611686018427387904 ≤ n) (w : World) :
    Calls Try.prog 30 #[.string b, .int .i64 n] w fun e w' => e = .returned (.tuple #[.string ⟨#[]⟩, .int .i64 3]) ∧ w = w' := by
  rcases h with h | h
  · go_enter Try.func30, Try.ntmps30
    go_wp2_with fail
    go_ret2
    exact ⟨rfl, rfl⟩
  · have h1 : ¬ (n < 0) := by omega
    go_enter Try.func30, Try.ntmps30
    go_wp2_with fail
    go_ret2
    exact ⟨rfl, rfl⟩

end Go.Proofs.Ytpblkhdmfmmjmaa
