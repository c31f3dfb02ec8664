/- Texts in one: MkSplit, WDone. -/
import Derived.Test.YtlokfeoihnlkkaaDoorMkBase
import Derived.Shelf.Small.Bits
import Derived.Test.YtlokfeoihnlkkaaDoorWWrite
import Derived.BigQuiet
import Derived.Deep.QuietTactic
/- Merkle: bits.Len laid at this program; split: its contract. -/
namespace Go.Proofs.YtlokfeoihnlkkaaDoor
open Go.RowKit

def lenRen : Go.Shelf.Ren := ⟨fun
  | 125 => 31
  | 128 => 37
  | 129 => 38
  | n => n, fun
  | 3 => 3
  | 4 => 4
  | 5 => 5
  | 9 => 9
  | 46 => 48
  | 51 => 37
  | 53 => 51
  | n => n, fun n => n⟩
set_option maxRecDepth 100000 in
theorem lenLays : Go.Proofs.Lays.n125 Tryd.prog lenRen := {
  mixed := by kernel_rfl
  f125 := by kernel_rfl
  f128 := by kernel_rfl
  f129 := by kernel_rfl
  t3 := by kernel_rfl
  a3 := fun w => by kernel_rfl
  z3 := fun w => by kernel_rfl
  v3 := fun w => by kernel_rfl
  t4 := by kernel_rfl
  a4 := fun w => by kernel_rfl
  z4 := fun w => by kernel_rfl
  v4 := fun w => by kernel_rfl
  t5 := by kernel_rfl
  a5 := fun w => by kernel_rfl
  z5 := fun w => by kernel_rfl
  v5 := fun w => by kernel_rfl
  t9 := by kernel_rfl
  a9 := fun w => by kernel_rfl
  z9 := fun w => by kernel_rfl
  v9 := fun w => by kernel_rfl
  t46 := by kernel_rfl
  a46 := fun w => by kernel_rfl
  z46 := fun w => by kernel_rfl
  v46 := fun w => by kernel_rfl
  t51 := by kernel_rfl
  a51 := fun w => by kernel_rfl
  z51 := fun w => by kernel_rfl
  v51 := fun w => by kernel_rfl
  t53 := by kernel_rfl
  a53 := fun w => by kernel_rfl
  z53 := fun w => by kernel_rfl
  v53 := fun w => by kernel_rfl
}
theorem len_aux : ∀ (f x : Nat), x < 2 ^ f → x ≠ 0 → Go.Lib.bitLenAux f x = Nat.log2 x + 1
  | 0, x, h, h0 => by simp at h; omega
  | f + 1, x, h, h0 => by
    rw [Nat.pow_succ] at h
    unfold Go.Lib.bitLenAux
    rw [if_neg h0]
    by_cases h1 : x < 2
    · obtain rfl : x = 1 := by omega
      have : Go.Lib.bitLenAux f (1 / 2) = 0 := by cases f <;> rfl
      rw [this]; rfl
    · rw [len_aux f (x / 2) (by omega) (by omega), Nat.log2_def x, if_pos (by omega)]
      omega
theorem len_log {n : Nat} (h0 : n ≠ 0) (h : n < 18446744073709551616) : Go.Lib.bitLen n = Nat.log2 n + 1 := len_aux 64 n h h0
theorem len_any (n : Nat) (h0 : n ≠ 0) (h : n < 18446744073709551616) (w : World) :
    Calls Tryd.prog 31 #[.int .u64 (n : Int)] w fun e w' => e = .returned (.int .i64 ((Nat.log2 n + 1 : Nat) : Int)) ∧ w' = w := by
  have q := Go.Proofs.Any.bits_Len lenLays (n : Int) w (by omega) (by omega)
  rw [show ((n : Int)).toNat = n from by omega, len_log h0 h] at q
  exact q
set_option maxRecDepth 100000 in
theorem split_any (n : Nat) (h2 : 2 ≤ n) (hn : n ≤ 4611686018427387904) (w : World) :
    Calls Tryd.prog 16 #[.int .i64 (n : Int)] w fun e w' => e = .returned (.int .i64 ((spl n : Nat) : Int)) ∧ w' = w := by
  have hl : Nat.log2 (n - 1) < 62 := (Nat.pow_lt_pow_iff_right (a := 2) (by decide)).1 (Nat.lt_of_le_of_lt (Nat.log2_self_le (n := n - 1) (by omega)) (by omega))
  have q := len_any (n - 1) (by omega) (by omega) w
  rw [show ((n - 1 : Nat) : Int) = (n : Int) - 1 from by omega] at q
  have hs : spl n = 2 ^ Nat.log2 (n - 1) := rfl
  have hlt := spl_lt h2
  have HS := Lib.hid hs
  rw [hs] at hlt
  clear hs
  generalize Nat.log2 (n - 1) = k at *
  go_enter Tryd.func16, Tryd.ntmps16
  go_wp2_with fail
  refine q.mono ?_
  rintro _ _ ⟨rfl, rfl⟩
  clear q
  go_wp2_with fail
  go_ret
  refine ⟨?_, rfl⟩
  have e : ((2 : Int) ^ k) = ((2 ^ k : Nat) : Int) := by simp
  have e2 : wrap64 ((2 : Int) ^ k) = ((2 ^ k : Nat) : Int) := by
    rw [e]
    clear e HS
    generalize 2 ^ k = m at *
    exact IntWalk.wrap64_in _ (by omega)
  rw [HS.out, ← e2]
  rfl
end Go.Proofs.YtlokfeoihnlkkaaDoor

/- (*wire.Writer).Done: its contract. -/
namespace Go.Proofs.YtlokfeoihnlkkaaDoor
open Go.RowKit

theorem copied (z x tail : List UInt8) (o : Nat) (h : z.length = o + x.length) :
    (((barr (z ++ tail)).toList.take o ++ Lib.byteCells x) ++ (barr (z ++ tail)).toList.drop (o + x.length)).toArray = barr (z.take o ++ x ++ tail) := by
  have e1 : (barr (z ++ tail)).toList = (z ++ tail).map bv := rfl
  have e2 : Lib.byteCells x = x.map bv := rfl
  rw [e1, e2, ← List.map_take, ← List.map_drop, ← List.map_append, ← List.map_append, List.take_append_of_le_length (by omega), List.drop_append, List.drop_eq_nil_of_le (by omega), List.nil_append, show o + x.length - z.length = 0 from by omega, List.drop_zero]
  rfl

theorem gb_row {w : World} (g : Nat) (cs : Array Value) : w.grownBy (w.setRow g cs) (some g) :=
  ⟨rfl, rfl, rfl, by simp [World.setRow], fun k _ hr => by
    simp only [World.setRow, Array.getElem?_modify]
    rw [if_neg (fun e => hr (by rw [e]))]⟩

end Go.Proofs.YtlokfeoihnlkkaaDoor
