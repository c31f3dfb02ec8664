/- sum.sumOfTwo and sum.Seal: their contracts. -/
import Derived.Test.YtngfgmcnpbjefaaDoorParts
import Derived.Test.YtngfgmcnpbjefaaDoorMask
namespace Go.Proofs.YtngfgmcnpbjefaaDoor
open Go.RowKit

theorem stA_rest (l : List UInt8) : (restOf l).length < 64 := by rw [restOf_length]; exact Nat.mod_lt _ (by omega)
theorem absorb_A (l : List UInt8) (b : ByteArray) (h : l.length + b.size < 1152921504606846976) (w : World) (ht : Tab w) :
    Calls Tryd.prog 30 #[.agg (stA l), .string b] w fun e w' => e = .returned (.agg (stA (l ++ b.data.toList))) ∧ Below w.heap.size w w' := by
  have q := absorb_any (blocks startH l) (blocks_len8 _ _ rfl) (bs (restOf l)) b l.length h (by rw [bs_size]; exact stA_rest l) w ht
  obtain ⟨e1, e2⟩ := blocks_restOf startH l b.data.toList
  rw [bs_list, ← e1, ← e2] at q
  have e3 : sarr (blocks startH (l ++ b.data.toList)) (bs (restOf (l ++ b.data.toList))) ((l.length + b.size : Nat) : Int) = stA (l ++ b.data.toList) := by
    unfold stA; rw [List.length_append]; rfl
  rw [e3] at q
  exact q
theorem finish_A (l : List UInt8) (h : l.length < 1152921504606846976) (w : World) (ht : Tab w) :
    Calls Tryd.prog 29 #[.agg (stA l)] w fun e w' => e = .returned (.string (bs (sha l))) ∧ Below w.heap.size w w' := by
  have q := finish_any (blocks startH l) (blocks_len8 _ _ rfl) (bs (restOf l)) l.length h (by rw [bs_size]; exact stA_rest l) w ht
  rw [bs_list] at q
  exact q

set_option maxHeartbeats 1000000 in
theorem sumOfTwo_any (a b : ByteArray) (h : a.size + b.size < 1152921504606846976) (w : World) (ht : Tab w) :
    Calls Tryd.prog 34 #[.string a, .string b] w fun e w' => e = .returned (.string (bs (sha (a.data.toList ++ b.data.toList)))) ∧ Below w.heap.size w w' := by
  obtain ⟨la, hla⟩ : ∃ la, la = a.data.toList := ⟨_, rfl⟩
  obtain ⟨lab, hlab⟩ : ∃ lab, lab = la ++ b.data.toList := ⟨_, rfl⟩
  have h1 : la.length + b.size < 1152921504606846976 := by rw [hla]; exact h
  have h2 : lab.length < 1152921504606846976 := by rw [hlab, List.length_append]; exact h1
  have A1 : ∀ W, Tab W → Calls Tryd.prog 30 #[.agg (stA []), .string a] W fun e w' => e = .returned (.agg (stA la)) ∧ Below W.heap.size W w' := fun W hT => by rw [hla]; exact absorb_A [] a (by simp; omega) W hT
  have A2 : ∀ W, Tab W → Calls Tryd.prog 30 #[.agg (stA la), .string b] W fun e w' => e = .returned (.agg (stA lab)) ∧ Below W.heap.size W w' := fun W hT => by rw [hlab]; exact absorb_A la b h1 W hT
  have A3 : ∀ W, Tab W → Calls Tryd.prog 29 #[.agg (stA lab)] W fun e w' => e = .returned (.string (bs (sha lab))) ∧ Below W.heap.size W w' := fun W hT => finish_A lab h2 W hT
  rw [← hla, ← hlab]
  have H1 := Lib.hid A1
  have H2 := Lib.hid A2
  have H3 := Lib.hid A3
  clear A1 A2 A3 hla hlab h1 h2
  go_enter Tryd.func34, Tryd.ntmps34
  go_wp2_with fail
  (with_reducible refine (Begin_A _).mono ?_)
  rintro e w1 ⟨rfl, b1⟩
  have t1 := ht.below b1 ht.1
  go_wp2_with fail
  (with_reducible refine (H1.out _ t1).mono ?_)
  rintro e w2 ⟨rfl, b2⟩
  have t2 := t1.below b2 t1.1
  go_wp2_with fail
  (with_reducible refine (H2.out _ t2).mono ?_)
  rintro e w3 ⟨rfl, b3⟩
  have t3 := t2.below b3 t2.1
  go_wp2_with fail
  (with_reducible refine (H3.out _ t3).mono ?_)
  rintro e w4 ⟨rfl, b4⟩
  go_wp2_with fail
  go_ret
  have B2 := b1.trans (b2.mono b1.size)
  have B3 := B2.trans (b3.mono B2.size)
  exact ⟨rfl, B3.trans (b4.mono B3.size)⟩

/-- the key as it is used -/
def keyOfL (l : List UInt8) : List UInt8 := if 64 < l.length then sha l else l
theorem keyOfL_le (l : List UInt8) : (keyOfL l).length ≤ 64 := by
  unfold keyOfL
  split
  · rw [sha_length]; omega
  · omega
def sealOf (key b : List UInt8) : List UInt8 := sha (mk (keyOfL key) 92 ++ sha (mk (keyOfL key) 54 ++ b))
theorem mk_length (l : List UInt8) (m : UInt8) (h : l.length ≤ 64) : (mk l m).length = 64 := by unfold mk; rw [List.length_map, padK_length _ h]

set_option maxHeartbeats 1000000 in
/-- behind the key's own digest -/
theorem Seal_short (key b : ByteArray) (hk : key.size ≤ 64) (hb : b.size ≤ 140737488355328) (w : World) (ht : Tab w) :
    Calls Tryd.prog 22 #[.string key, .string b] w fun e w' => e = .returned (.string (bs (sha (mk key.data.toList 92 ++ sha (mk key.data.toList 54 ++ b.data.toList))))) ∧ Below w.heap.size w w' := by
  have m1 : ∀ W, Calls Tryd.prog 35 #[.string key, .int .u8 54] W fun e w' => e = .returned (.string (bs (mk key.data.toList 54))) ∧ Below W.heap.size W w' := fun W => maskedKey_any key hk 54 54 rfl W
  have m2 : ∀ W, Calls Tryd.prog 35 #[.string key, .int .u8 92] W fun e w' => e = .returned (.string (bs (mk key.data.toList 92))) ∧ Below W.heap.size W w' := fun W => maskedKey_any key hk 92 92 rfl W
  have l1 : (mk key.data.toList 54).length = 64 := mk_length _ _ hk
  have l2 : (mk key.data.toList 92).length = 64 := mk_length _ _ hk
  generalize mk key.data.toList 54 = k1 at *
  generalize mk key.data.toList 92 = k2 at *
  have s1 : ∀ W, Tab W → Calls Tryd.prog 34 #[.string (bs k1), .string b] W fun e w' => e = .returned (.string (bs (sha (k1 ++ b.data.toList)))) ∧ Below W.heap.size W w' := fun W hT => by
    have := sumOfTwo_any (bs k1) b (by rw [bs_size]; omega) W hT
    rw [bs_list] at this; exact this
  have ls := sha_length (k1 ++ b.data.toList)
  generalize sha (k1 ++ b.data.toList) = inner at *
  have s2 : ∀ W, Tab W → Calls Tryd.prog 34 #[.string (bs k2), .string (bs inner)] W fun e w' => e = .returned (.string (bs (sha (k2 ++ inner)))) ∧ Below W.heap.size W w' := fun W hT => by
    have := sumOfTwo_any (bs k2) (bs inner) (by rw [bs_size, bs_size]; omega) W hT
    rw [bs_list, bs_list] at this; exact this
  generalize sha (k2 ++ inner) = outer at *
  have M1 := Lib.hid m1
  have M2 := Lib.hid m2
  have S1 := Lib.hid s1
  have S2 := Lib.hid s2
  clear m1 m2 s1 s2 l1 l2 ls
  go_enter Tryd.func22, Tryd.ntmps22
  go_wp2_with fail
  (with_reducible refine (M1.out _).mono ?_)
  rintro e w1 ⟨rfl, b1⟩
  have t1 := ht.below b1 ht.1
  go_wp2_with fail
  (with_reducible refine (S1.out _ t1).mono ?_)
  rintro e w2 ⟨rfl, b2⟩
  have t2 := t1.below b2 t1.1
  go_wp2_with fail
  (with_reducible refine (M2.out _).mono ?_)
  rintro e w3 ⟨rfl, b3⟩
  have t3 := t2.below b3 t2.1
  go_wp2_with fail
  (with_reducible refine (S2.out _ t3).mono ?_)
  rintro e w4 ⟨rfl, b4⟩
  go_wp2_with fail
  go_ret
  have B2 := b1.trans (b2.mono b1.size)
  have B3 := B2.trans (b3.mono B2.size)
  exact ⟨rfl, B3.trans (b4.mono B3.size)⟩

set_option maxHeartbeats 1000000 in
/-- a long key -/
theorem Seal_long (ky key b : ByteArray) (hl : 64 < ky.size) (hm : ky.size < 1152921504606846976) (hq : key = bs (sha ky.data.toList)) (hk : key.size ≤ 64) (hb : b.size ≤ 140737488355328) (w : World) (ht : Tab w) :
    Calls Tryd.prog 22 #[.string ky, .string b] w fun e w' => e = .returned (.string (bs (sha (mk key.data.toList 92 ++ sha (mk key.data.toList 54 ++ b.data.toList))))) ∧ Below w.heap.size w w' := by
  have m1 : ∀ W, Calls Tryd.prog 35 #[.string key, .int .u8 54] W fun e w' => e = .returned (.string (bs (mk key.data.toList 54))) ∧ Below W.heap.size W w' := fun W => maskedKey_any key hk 54 54 rfl W
  have m2 : ∀ W, Calls Tryd.prog 35 #[.string key, .int .u8 92] W fun e w' => e = .returned (.string (bs (mk key.data.toList 92))) ∧ Below W.heap.size W w' := fun W => maskedKey_any key hk 92 92 rfl W
  have l1 : (mk key.data.toList 54).length = 64 := mk_length _ _ hk
  have l2 : (mk key.data.toList 92).length = 64 := mk_length _ _ hk
  generalize mk key.data.toList 54 = k1 at *
  generalize mk key.data.toList 92 = k2 at *
  have s1 : ∀ W, Tab W → Calls Tryd.prog 34 #[.string (bs k1), .string b] W fun e w' => e = .returned (.string (bs (sha (k1 ++ b.data.toList)))) ∧ Below W.heap.size W w' := fun W hT => by
    have := sumOfTwo_any (bs k1) b (by rw [bs_size]; omega) W hT
    rw [bs_list] at this; exact this
  have ls := sha_length (k1 ++ b.data.toList)
  generalize sha (k1 ++ b.data.toList) = inner at *
  have s2 : ∀ W, Tab W → Calls Tryd.prog 34 #[.string (bs k2), .string (bs inner)] W fun e w' => e = .returned (.string (bs (sha (k2 ++ inner)))) ∧ Below W.heap.size W w' := fun W hT => by
    have := sumOfTwo_any (bs k2) (bs inner) (by rw [bs_size, bs_size]; omega) W hT
    rw [bs_list, bs_list] at this; exact this
  generalize sha (k2 ++ inner) = outer at *
  have M1 := Lib.hid m1
  have M2 := Lib.hid m2
  have S1 := Lib.hid s1
  have S2 := Lib.hid s2
  clear m1 m2 s1 s2 l1 l2 ls
  have q0 : ∀ W, Tab W → Calls Tryd.prog 11 #[.string ky] W fun e w' => e = .returned (.string key) ∧ Below W.heap.size W w' := fun W hT => by rw [hq]; exact Sum_any ky hm W hT
  have Q0 := Lib.hid q0
  clear q0 hq hk hm
  go_enter Tryd.func22, Tryd.ntmps22
  go_wp2_with fail
  (with_reducible refine (Q0.out _ ht).mono ?_)
  rintro e w0 ⟨rfl, b0⟩
  have t0 := ht.below b0 ht.1
  go_wp2_with fail
  (with_reducible refine (M1.out _).mono ?_)
  rintro e w1 ⟨rfl, b1⟩
  have t1 := t0.below b1 t0.1
  go_wp2_with fail
  (with_reducible refine (S1.out _ t1).mono ?_)
  rintro e w2 ⟨rfl, b2⟩
  have t2 := t1.below b2 t1.1
  go_wp2_with fail
  (with_reducible refine (M2.out _).mono ?_)
  rintro e w3 ⟨rfl, b3⟩
  have t3 := t2.below b3 t2.1
  go_wp2_with fail
  (with_reducible refine (S2.out _ t3).mono ?_)
  rintro e w4 ⟨rfl, b4⟩
  go_wp2_with fail
  go_ret
  have B1 := b0.trans (b1.mono b0.size)
  have B2 := B1.trans (b2.mono B1.size)
  have B3 := B2.trans (b3.mono B2.size)
  exact ⟨rfl, B3.trans (b4.mono B3.size)⟩

theorem Seal_any (key b : ByteArray) (hk : key.size ≤ 140737488355328) (hb : b.size ≤ 140737488355328) (w : World) (ht : Tab w) :
    Calls Tryd.prog 22 #[.string key, .string b] w fun e w' => e = .returned (.string (bs (sealOf key.data.toList b.data.toList))) ∧ Below w.heap.size w w' := by
  have hl : key.data.toList.length = key.size := rfl
  by_cases h : 64 < key.size
  · have e : keyOfL key.data.toList = sha key.data.toList := by unfold keyOfL; rw [if_pos (by rw [hl]; exact h)]
    have q := Seal_long key (bs (sha key.data.toList)) b h (by omega) rfl (by rw [bs_size, sha_length]; omega) hb w ht
    rw [bs_list] at q
    unfold sealOf
    rw [e]
    exact q
  · have e : keyOfL key.data.toList = key.data.toList := by unfold keyOfL; rw [if_neg (by rw [hl]; exact h)]
    unfold sealOf
    rw [e]
    exact Seal_short key b (by omega) hb w ht
end Go.Proofs.YtngfgmcnpbjefaaDoor
