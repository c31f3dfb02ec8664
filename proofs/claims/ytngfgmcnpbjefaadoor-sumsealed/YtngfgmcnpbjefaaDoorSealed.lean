/- keep.SumSealed: the walk. -/
import Derived.Test.YtngfgmcnpbjefaaDoorSeal
namespace Go.Proofs.YtngfgmcnpbjefaaDoor
open Go.RowKit

theorem padK_nought (l : List UInt8) (h : l.length < 64) : padK (l ++ [0]) = padK l := by
  unfold padK
  rw [List.append_assoc]
  congr 1
  rw [List.length_append, show 64 - l.length = (64 - (l.length + 1)) + 1 from by omega, List.replicate_succ]
  rfl
theorem sealOf_sha (k b : List UInt8) (h : 64 < k.length) : sealOf (sha k) b = sealOf k b := by
  have e1 : keyOfL k = sha k := by unfold keyOfL; rw [if_pos h]
  have e2 : keyOfL (sha k) = sha k := by unfold keyOfL; rw [if_neg (by rw [sha_length]; omega)]
  unfold sealOf
  rw [e1, e2]
theorem sealOf_nought (k b : List UInt8) (h : k.length < 64) : sealOf (k ++ [0]) b = sealOf k b := by
  have e1 : keyOfL k = k := by unfold keyOfL; rw [if_neg (by omega)]
  have e2 : keyOfL (k ++ [0]) = k ++ [0] := by unfold keyOfL; rw [if_neg (by simp; omega)]
  unfold sealOf mk
  rw [e1, e2, padK_nought k h]
theorem sealOf_length (k b : List UInt8) : (sealOf k b).length = 32 := sha_length _

/-- what a call of Seal comes to -/
def SealIs (k b s : ByteArray) : Prop := ∀ W, Tab W → Calls Tryd.prog 22 #[.string k, .string b] W fun x w' => x = .returned (.string s) ∧ Below W.heap.size W w'

set_option maxRecDepth 100000 in
set_option maxHeartbeats 1000000 in
theorem Sealed_long (key b s long : ByteArray) (hk : 64 < key.size) (hk2 : key.size < 1152921504606846976) (hs : s.size = 32) (C1 : SealIs key b s) (C2 : SealIs long b s) (hq : long = bs (sha key.data.toList)) (w : World) (ht : Tab w) :
    Calls Tryd.prog 9 #[.string key, .string b] w fun e w' => e = .returned (.bool true) ∧ Below w.heap.size w w' := by
  have q0 : ∀ W, Tab W → Calls Tryd.prog 11 #[.string key] W fun e w' => e = .returned (.string long) ∧ Below W.heap.size W w' := fun W hT => by rw [hq]; exact Sum_any key hk2 W hT
  have Q0 := Lib.hid q0
  clear q0 hq
  go_enter Tryd.func9, Tryd.ntmps9
  go_wp2_with fail
  have c1 := C1 _ ht
  (with_reducible refine c1.mono ?_)
  clear c1
  rintro e w1 ⟨rfl, b1⟩
  have t1 := ht.below b1 ht.1
  go_wp2_with fail
  (with_reducible refine (Q0.out _ t1).mono ?_)
  rintro e w2 ⟨rfl, b2⟩
  have t2 := t1.below b2 t1.1
  go_wp2_with fail
  have c1 := C2 _ t2
  (with_reducible refine c1.mono ?_)
  clear c1
  rintro e w3 ⟨rfl, b3⟩
  have t3 := t2.below b3 t2.1
  go_wp2_with fail
  (with_reducible refine (abc_any _ t3).mono ?_)
  rintro e w4 ⟨rfl, b4⟩
  go_wp2_with fail
  go_ret
  have B2 := b1.trans (b2.mono b1.size)
  have B3 := B2.trans (b3.mono B2.size)
  exact ⟨rfl, B3.trans (b4.mono B3.size)⟩

set_option maxRecDepth 100000 in
set_option maxHeartbeats 1000000 in
theorem Sealed_block (key b s : ByteArray) (hk : key.size ≤ 64) (hk2 : 64 ≤ key.size) (hs : s.size = 32) (C1 : SealIs key b s) (w : World) (ht : Tab w) :
    Calls Tryd.prog 9 #[.string key, .string b] w fun e w' => e = .returned (.bool true) ∧ Below w.heap.size w w' := by
  go_enter Tryd.func9, Tryd.ntmps9
  go_wp2_with fail
  have c1 := C1 _ ht
  (with_reducible refine c1.mono ?_)
  clear c1
  rintro e w1 ⟨rfl, b1⟩
  have t1 := ht.below b1 ht.1
  go_wp2_with fail
  have c1 := C1 _ t1
  (with_reducible refine c1.mono ?_)
  clear c1
  rintro e w2 ⟨rfl, b2⟩
  have t2 := t1.below b2 t1.1
  go_wp2_with fail
  (with_reducible refine (abc_any _ t2).mono ?_)
  rintro e w3 ⟨rfl, b3⟩
  go_wp2_with fail
  go_ret
  have B2 := b1.trans (b2.mono b1.size)
  exact ⟨rfl, B2.trans (b3.mono B2.size)⟩

set_option maxRecDepth 100000 in
set_option maxHeartbeats 1000000 in
theorem Sealed_short (key b s : ByteArray) (hk : key.size < 64) (hs : s.size = 32) (C1 : SealIs key b s) (C2 : SealIs (key ++ ⟨#[0]⟩) b s) (w : World) (ht : Tab w) :
    Calls Tryd.prog 9 #[.string key, .string b] w fun e w' => e = .returned (.bool true) ∧ Below w.heap.size w w' := by
  have hsum : ¬ (9223372036854775807 < key.size + 1) := by omega
  go_enter Tryd.func9, Tryd.ntmps9
  go_wp2_with fail
  have c1 := C1 _ ht
  (with_reducible refine c1.mono ?_)
  clear c1
  rintro e w1 ⟨rfl, b1⟩
  have t1 := ht.below b1 ht.1
  go_wp2_with fail
  have c1 := C1 _ t1
  (with_reducible refine c1.mono ?_)
  clear c1
  rintro e w2 ⟨rfl, b2⟩
  have t2 := t1.below b2 t1.1
  go_wp2_with fail
  have c1 := C2 _ t2
  (with_reducible refine c1.mono ?_)
  clear c1
  rintro e w3 ⟨rfl, b3⟩
  have t3 := t2.below b3 t2.1
  go_wp2_with fail
  (with_reducible refine (abc_any _ t3).mono ?_)
  rintro e w4 ⟨rfl, b4⟩
  go_wp2_with fail
  go_ret
  have B2 := b1.trans (b2.mono b1.size)
  have B3 := B2.trans (b3.mono B2.size)
  exact ⟨rfl, B3.trans (b4.mono B3.size)⟩

theorem SumSealed_any (key b : ByteArray) (hk : key.size ≤ 140737488355328) (hb : b.size ≤ 140737488355328) (w : World) (ht : Tab w) :
    Calls Tryd.prog 9 #[.string key, .string b] w fun e w' => e = .returned (.bool true) ∧ Below w.heap.size w w' := by
  have C1 : SealIs key b (bs (sealOf key.data.toList b.data.toList)) := fun W hT => Seal_any key b hk hb W hT
  have hs : (bs (sealOf key.data.toList b.data.toList)).size = 32 := by rw [bs_size, sealOf_length]
  by_cases h1 : 64 < key.size
  · have C2 : SealIs (bs (sha key.data.toList)) b (bs (sealOf key.data.toList b.data.toList)) := fun W hT => by
      have q := Seal_any (bs (sha key.data.toList)) b (by rw [bs_size, sha_length]; omega) hb W hT
      rw [bs_list, sealOf_sha key.data.toList b.data.toList h1] at q
      exact q
    exact Sealed_long key b _ _ h1 (by omega) hs C1 C2 rfl w ht
  · by_cases h2 : 64 ≤ key.size
    · exact Sealed_block key b _ (by omega) h2 hs C1 w ht
    · have C2 : SealIs (key ++ ⟨#[0]⟩) b (bs (sealOf key.data.toList b.data.toList)) := fun W hT => by
        have q := Seal_any (key ++ ⟨#[0]⟩) b (by rw [ByteArray.size_append]; show key.size + 1 ≤ _; omega) hb W hT
        rw [append_list, show (ByteArray.mk #[0]).data.toList = [0] from rfl, sealOf_nought key.data.toList b.data.toList (by show key.size < 64; omega)] at q
        exact q
      exact Sealed_short key b _ (by omega) hs C1 C2 w ht
end Go.Proofs.YtngfgmcnpbjefaaDoor
