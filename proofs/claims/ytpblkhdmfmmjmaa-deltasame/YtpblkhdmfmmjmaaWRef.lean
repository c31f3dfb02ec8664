/- ref.Number, ref.Text: their contracts. -/
import Derived.Test.YtpblkhdmfmmjmaaWBase
import Derived.Deep.RegionWith
namespace Go.Proofs.Ytpblkhdmfmmjmaa
open Go.RowKit

theorem conv_one (x : UInt8) (W : World) : (convert 32 9 (.slice (some ⟨W.heap.size, 0, none⟩) 1 1)).run Try.prog (W.alloc (.cells #[.int .u8 (x.toNat : Int)] 5)) = .ok (.string (bs [x])) (W.alloc (.cells #[.int .u8 (x.toNat : Int)] 5)) := by
  rw [run_convert_bytes_string _ 32 9 5 _ _ _ Try.underlying32 Try.underlying5 Try.underlying9]
  exact run_bytes (P := Try.prog) (Arr.new W 5 #[.int .u8 (x.toNat : Int)]) [x] rfl 1
theorem conv_one_drew (x : UInt8) (W : World) : (convert 32 9 (.slice (some ⟨W.heap.size, 0, none⟩) 1 1)).run Try.prog (W.alloc (.cells #[.int .u8 (x.toNat : Int)] 5)).drew = .ok (.string (bs [x])) (W.alloc (.cells #[.int .u8 (x.toNat : Int)] 5)).drew := by
  rw [run_convert_bytes_string _ 32 9 5 _ _ _ Try.underlying32 Try.underlying5 Try.underlying9]
  exact run_bytes (P := Try.prog) (Arr.new W 5 #[.int .u8 (x.toNat : Int)]).drew [x] rfl 1
theorem conv_kept {x : UInt8} {w w2 : World} {bx : ByteArray} (hb : Below (w.alloc (.cells #[.int .u8 (x.toNat : Int)] 5)).drew.heap.size (w.alloc (.cells #[.int .u8 (x.toNat : Int)] 5)).drew w2) (hx : bs [x] = bx) :
    (convert 32 9 (.slice (some ⟨w.heap.size, 0, none⟩) 1 1)).run Try.prog w2 = .ok (.string bx) w2 := by
  subst hx
  rw [run_convert_bytes_string _ 32 9 5 _ _ _ Try.underlying32 Try.underlying5 Try.underlying9]
  exact run_bytes (P := Try.prog) ((Arr.new w 5 #[.int .u8 (x.toNat : Int)]).drew.below hb (by simp)) [x] rfl 1

set_option maxRecDepth 100000 in
set_option maxHeartbeats 1000000 in
theorem RefNumber_small (n : Nat) (h : n < 128) (w : World) :
    Calls Try.prog 31 #[.int .i64 (n : Int)] w fun e w' => e = .returned (.string (bs (num n))) ∧ Below w.heap.size w w' := by
  have HN := Lib.hid (num_small n h)
  have h1 : ¬ ((n : Int) < 0) := by omega
  have h2 : ¬ (4611686018427387904 ≤ (n : Int)) := by omega
  have h3 : (n : Int) < 128 := by omega
  have hb2 := last_byte n
  generalize UInt8.ofNat n = x at *
  have hc := conv_one x w
  go_enter Try.func31, Try.ntmps31
  go_wp2_with fail
  go_ret
  exact ⟨by rw [HN.out]; rfl, (Below.refl _ _).alloc (Nat.le_refl _) _⟩

set_option maxRecDepth 100000 in
set_option maxHeartbeats 1000000 in
theorem RefNumber_great (n : Nat) (h : 128 ≤ n) (h62 : n < 4611686018427387904)
    (ih : ∀ w, Calls Try.prog 31 #[.int .i64 ((n / 128 : Nat) : Int)] w fun e w' => e = .returned (.string (bs (num (n / 128)))) ∧ Below w.heap.size w w') (w : World) :
    Calls Try.prog 31 #[.int .i64 (n : Int)] w fun e w' => e = .returned (.string (bs (num n))) ∧ Below w.heap.size w w' := by
  have HN : Hid (bs (num n) = bs [UInt8.ofNat (n % 128 + 128)] ++ bs (num (n / 128))) := by
    show _ = _
    rw [num_great n h]
    apply ByteArray.ext
    simp [bs]
  have h1 : ¬ ((n : Int) < 0) := by omega
  have h2 : ¬ (4611686018427387904 ≤ (n : Int)) := by omega
  have h3 : ¬ (n : Int) < 128 := by omega
  have hb2 : IntKind.u8.wrap (IntKind.i64.wrap ((n : Int).tmod 128 + 128)) = ((UInt8.ofNat (n % 128 + 128)).toNat : Int) := by
    rw [Int.tmod_eq_emod_of_nonneg (by omega), IntWalk.i64_in _ (by omega), IntKind.wrap_u8', UInt8.toNat_ofNat']; omega
  have hb3 : IntKind.i64.wrap ((n : Int) / 128) = (n : Int) / 128 := IntWalk.i64_in _ (by omega)
  have hl : (bs (num (n / 128))).size ≤ 9 := by rw [bs_size]; exact num_len9 _ (by omega)
  have hl1 : (bs [UInt8.ofNat (n % 128 + 128)]).size = 1 := bs_size _
  have hdiv : ((n / 128 : Nat) : Int) = (n : Int) / 128 := by omega
  rw [hdiv] at ih
  generalize UInt8.ofNat (n % 128 + 128) = x at *
  generalize bs (num (n / 128)) = y at *
  have HI := Lib.hid ih
  have HL1 := Lib.hid hl1
  have hl2 : (bs [x]).size ≤ 1 := by omega
  clear ih hl1 hdiv
  generalize hbx : bs [x] = bx at *
  have hc : ∀ W : World, (convert 32 9 (.slice (some ⟨W.heap.size, 0, none⟩) 1 1)).run Try.prog (W.alloc (.cells #[.int .u8 (x.toNat : Int)] 5)) = .ok (.string bx) (W.alloc (.cells #[.int .u8 (x.toNat : Int)] 5)) := fun W => by rw [← hbx]; exact conv_one x W
  have hcd : ∀ W : World, (convert 32 9 (.slice (some ⟨W.heap.size, 0, none⟩) 1 1)).run Try.prog (W.alloc (.cells #[.int .u8 (x.toNat : Int)] 5)).drew = .ok (.string bx) (W.alloc (.cells #[.int .u8 (x.toNat : Int)] 5)).drew := fun W => by rw [← hbx]; exact conv_one_drew x W
  have HX := Lib.hid hbx
  clear hbx
  go_enter Try.func31, Try.ntmps31
  go_wp2_with fail
  clear h1 h2 h3 h62 h
  go_region_with (first
    | (go_at_call 31
       (with_reducible refine (HI.out _).mono ?_)
       rintro e w2 ⟨rfl, b2⟩
       have hc2 := conv_kept b2 HX.out)
    | (go_at_call 31
       (with_reducible refine (HI.out _).mono ?_)
       rintro e w2 ⟨rfl, b2⟩))
  all_goals
    go_wp2_with fail
    go_ret
    refine ⟨by rw [HN.out]; rfl, ?_⟩
    first
      | exact (((Below.refl _ _).alloc (Nat.le_refl _) _).drew).trans (b2.mono (by simp))
      | (have b3 : Below w.heap.size w w2 := (Below.refl _ w).drew.trans b2
         exact b3.alloc b3.size _)

/-- ref.Number at a number in its range -/
theorem RefNumber_yes (n : Nat) : n < 4611686018427387904 → ∀ w : World,
    Calls Try.prog 31 #[.int .i64 (n : Int)] w fun e w' => e = .returned (.string (bs (num n))) ∧ Below w.heap.size w w' := by
  induction n using num.induct with
  | case1 n h => exact fun _ w => RefNumber_small n h w
  | case2 n h ih => exact fun h62 w => RefNumber_great n (by omega) h62 (ih (by omega)) w
theorem RefNumber_no (n : Int) (h : n < 0 ∨ 4611686018427387904 ≤ n) (w : World) :
    Calls Try.prog 31 #[.int .i64 n] w fun e w' => e = .returned (.string ⟨#[]⟩) ∧ w = w' := by
  rcases h with h | h
  · go_enter Try.func31, Try.ntmps31
    go_wp2_with fail
    go_ret
    exact ⟨rfl, rfl⟩
  · have h1 : ¬ (n < 0) := by omega
    go_enter Try.func31, Try.ntmps31
    go_wp2_with fail
    go_ret
    exact ⟨rfl, rfl⟩

def NumberIs (n : Int) (r : ByteArray) : Prop := ∀ W, Calls Try.prog 31 #[.int .i64 n] W fun x w' => x = .returned (.string r) ∧ Below W.heap.size W w'
theorem numberIs_yes (n : Nat) (h : n < 4611686018427387904) : NumberIs (n : Int) (bs (num n)) := fun W => RefNumber_yes n h W
theorem numberIs_no (n : Int) (h : n < 0 ∨ 4611686018427387904 ≤ n) : NumberIs n ⟨#[]⟩ := fun W =>
  (RefNumber_no n h W).mono fun _ _ ⟨h1, h2⟩ => ⟨h1, by subst h2; exact Below.refl _ _⟩
theorem num_full (n : Nat) : (bs (num n)).toList.isEmpty = false := by
  have hp := num_pos n
  rw [ByteArray.toList_eq, bs_list]
  cases hq : num n with
  | nil => rw [hq] at hp; simp at hp
  | cons => rfl
end Go.Proofs.Ytpblkhdmfmmjmaa
