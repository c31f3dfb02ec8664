/- Texts in one: Mask, Seal. -/
import Derived.Test.YtbpmgpbmeganoaaDoorParts
import Derived.Lib.BufferWrite
import Derived.Lib.SlBuf
/- sum.maskedKey: its contract. -/
namespace Go.Proofs.YtbpmgpbmeganoaaDoor
open Go.RowKit

/-- a key, made up to a block by noughts -/
def padK (l : List UInt8) : List UInt8 := l ++ List.replicate (64 - l.length) 0
theorem padK_length (l : List UInt8) (h : l.length ≤ 64) : (padK l).length = 64 := by simp [padK]; omega
def xorTo (l : List UInt8) (m : UInt8) : Nat → List UInt8
  | 0 => l
  | n + 1 => (xorTo l m n).set n (l.getD n 0 ^^^ m)
theorem xorTo_length (l : List UInt8) (m : UInt8) (n : Nat) : (xorTo l m n).length = l.length := by
  induction n with
  | zero => rfl
  | succ n ih => simp [xorTo, ih]
theorem xorTo_at (l : List UInt8) (m : UInt8) (n i : Nat) : (xorTo l m n)[i]? = if i < n then (l[i]?).map (· ^^^ m) else l[i]? := by
  induction n with
  | zero => simp [xorTo]
  | succ n ih =>
    rw [xorTo, List.getElem?_set, ih, xorTo_length]
    by_cases h : n = i
    · subst h
      by_cases hl : n < l.length
      · simp [hl]
      · simp [hl]
    · by_cases h2 : i < n
      · simp [h, h2, show i < n + 1 by omega]
      · simp [h, h2, show ¬ i < n + 1 by omega]
theorem xorTo_ge (l : List UInt8) (m : UInt8) (n i : Nat) (h : n ≤ i) : (xorTo l m n).getD i 0 = l.getD i 0 := by
  rw [List.getD_eq_getElem?_getD, xorTo_at, if_neg (by omega), List.getD_eq_getElem?_getD]
theorem xorTo_all (l : List UInt8) (m : UInt8) : xorTo l m l.length = l.map (· ^^^ m) := by
  apply List.ext_getElem?
  intro i
  rw [xorTo_at, List.getElem?_map]
  by_cases h : i < l.length
  · rw [if_pos h]
  · rw [if_neg h, List.getElem?_eq_none (by omega)]; rfl
/-- the key's block under a mask -/
def mk (l : List UInt8) (m : UInt8) : List UInt8 := (padK l).map (· ^^^ m)

theorem u8_xor_of (a m : UInt8) (c : Int) (hc : c = (m.toNat : Int)) : bits .xor .u8 (a.toNat : Int) c = ((a ^^^ m).toNat : Int) := by
  have h1 := a.toNat_lt
  have h2 := m.toNat_lt
  subst hc
  rw [u8_xor_nat _ _ h1 h2]
  simp

def MRel (l : List UInt8) (m : UInt8) (w : World) (i : Value) (wr : World) : Prop :=
  ∃ k : Nat, k ≤ 64 ∧ i = .int .i64 k ∧ Arr wr w.heap.size 122 (barr (xorTo (padK l) m k)) ∧ Below w.heap.size w wr

theorem pad_cells (key : ByteArray) : ((barr (List.replicate 64 0)).toList.take 0 ++ Lib.byteCells key.data.toList ++ (barr (List.replicate 64 0)).toList.drop (0 + key.size)).toArray = barr (padK key.data.toList) := by
  have e : (barr (List.replicate 64 0)).toList = List.replicate 64 (bv 0) := by unfold barr; rw [List.map_replicate]
  rw [e, Nat.zero_add, List.drop_replicate, List.take_zero, List.nil_append]
  unfold barr padK
  rw [List.map_append, List.map_replicate]
  rfl

set_option maxRecDepth 100000 in
set_option maxHeartbeats 1000000 in
theorem maskedKey_any (key : ByteArray) (hk : key.size ≤ 64) (m : UInt8) (c : Int) (hc : c = (m.toNat : Int)) (w : World) :
    Calls Tryd.prog 68 #[.string key, .int .u8 c] w
      fun e w' => e = .returned (.string (bs (mk key.data.toList m))) ∧ Below w.heap.size w w' := by
  have Hc := Lib.hid hc
  clear hc
  have hcopy : (Builtin.copy_ #[93, 9] 3 #[.slice (some ⟨w.heap.size, 0, none⟩) 64 64, .string key]).run Tryd.prog (w.alloc (.cells (barr (List.replicate 64 0)) 122)) =
      .ok (goInt key.size) ((w.alloc (.cells (barr (List.replicate 64 0)) 122)).setRow w.heap.size (barr (padK key.data.toList))) := by
    have h := Lib.run_copy_row_string (P := Tryd.prog) (w.alloc (.cells (barr (List.replicate 64 0)) 122)) 93 9 3 5 w.heap.size 0 64 64 key (barr (List.replicate 64 0)) 122 Tryd.underlying93 (by kernel_rfl) (Arr.new w _ _) hk (by rw [barr_size]; simpa using hk)
    rw [h]
    congr 2
    exact pad_cells key
  have Hcopy := Lib.hid hcopy
  clear hcopy
  go_enter Tryd.func68, Tryd.ntmps68
  go_wp2_with (refine Lib.wpList_copy_run _ rfl _ _ 93 9 rfl (.slice (some ⟨w.heap.size, 0, none⟩) 64 64) (.string key) rfl rfl Hcopy.out ?_)
  clear Hcopy
  go_loopw [10] (fun i wr => MRel key.data.toList m w i wr) (fun i _ => 64 - (intOf i).toNat)
  case atStart => exact ⟨0, by omega, rfl, (Arr.new w _ _).row _, below_setRow ((Below.refl _ _).alloc (Nat.le_refl _) _) (Nat.le_refl _) _⟩
  case round =>
    obtain ⟨k, hkk, rfl, hA, hB⟩ := hrel
    have hpl : (padK key.data.toList).length = 64 := padK_length _ hk
    have hxl := xorTo_length (padK key.data.toList) m k
    by_cases hlt : k < 64
    · have hc : wr.cell? ⟨w.heap.size, k, none⟩ = some (.int .u8 (((padK key.data.toList).getD k 0).toNat : Int)) := by
        rw [hA.cell k, barr_at _ _ (by rw [hxl, hpl]; exact hlt), xorTo_ge _ _ _ _ (Nat.le_refl _)]
      have hf : wr.frozen? ⟨w.heap.size, k, none⟩ = false := hA.free k
      have hi : (k : Int) < 64 := by omega
      have hx := u8_xor_of ((padK key.data.toList).getD k 0) m c Hc.out
      have hput := hA.put k (.int .u8 (((padK key.data.toList).getD k 0 ^^^ m).toNat : Int))
      rw [barr_set] at hput
      have HP := Lib.hid hput
      clear hpl hxl hput
      generalize ((padK key.data.toList).getD k 0 ^^^ m).toNat = y at *
      generalize ((padK key.data.toList).getD k 0).toNat = x at *
      go_wp2
      exact ⟨⟨k + 1, by omega, by go_num, HP.out, hB.setCell (Nat.le_refl _) _⟩, by simp [intOf]; omega⟩
    · obtain rfl : k = 64 := by omega
      have hE : xorTo (padK key.data.toList) m 64 = mk key.data.toList m := by
        rw [← hpl, xorTo_all]; rfl
      rw [hE] at hA
      have hd : (mk key.data.toList m).length = 64 := by unfold mk; rw [List.length_map, hpl]
      have hb := run_bytes (P := Tryd.prog) hA (mk key.data.toList m) (by rw [barr]; exact List.take_of_length_le (by simp)) 64
      rw [hd, ← run_convert_bytes_string wr 93 9 5 _ _ _ Tryd.underlying93 Tryd.underlying5 Tryd.underlying9] at hb
      clear hd hE hpl hxl hlt hkk
      generalize hD : mk key.data.toList m = D at *
      have HD := Lib.hid hD
      clear hD
      go_wp2
      go_ret
      exact ⟨by rw [HD.out]; rfl, hB⟩
end Go.Proofs.YtbpmgpbmeganoaaDoor

/- sum.sumOfTwo and sum.Seal: their contracts. -/
namespace Go.Proofs.YtbpmgpbmeganoaaDoor
open Go.RowKit

theorem stA_rest (l : List UInt8) : (restOf l).length < 64 := by rw [restOf_length]; exact Nat.mod_lt _ (by omega)
theorem absorb_A (l : List UInt8) (b : ByteArray) (h : l.length + b.size < 1152921504606846976) (w : World) (ht : Tab w) :
    Calls Tryd.prog 90 #[.agg (stA l), .string b] w fun e w' => e = .returned (.agg (stA (l ++ b.data.toList))) ∧ Below w.heap.size w w' := by
  have q := absorb_any (blocks startH l) (blocks_len8 _ _ rfl) (bs (restOf l)) b l.length h (by rw [bs_size]; exact stA_rest l) w ht
  obtain ⟨e1, e2⟩ := blocks_restOf startH l b.data.toList
  rw [bs_list, ← e1, ← e2] at q
  have e3 : sarr (blocks startH (l ++ b.data.toList)) (bs (restOf (l ++ b.data.toList))) ((l.length + b.size : Nat) : Int) = stA (l ++ b.data.toList) := by
    unfold stA; rw [List.length_append]; rfl
  rw [e3] at q
  exact q
theorem finish_A (l : List UInt8) (h : l.length < 1152921504606846976) (w : World) (ht : Tab w) :
    Calls Tryd.prog 89 #[.agg (stA l)] w fun e w' => e = .returned (.string (bs (sha l))) ∧ Below w.heap.size w w' := by
  have q := finish_any (blocks startH l) (blocks_len8 _ _ rfl) (bs (restOf l)) l.length h (by rw [bs_size]; exact stA_rest l) w ht
  rw [bs_list] at q
  exact q

set_option maxHeartbeats 1000000 in
theorem sumOfTwo_any (a b : ByteArray) (h : a.size + b.size < 1152921504606846976) (w : World) (ht : Tab w) :
    Calls Tryd.prog 67 #[.string a, .string b] w fun e w' => e = .returned (.string (bs (sha (a.data.toList ++ b.data.toList)))) ∧ Below w.heap.size w w' := by
  obtain ⟨la, hla⟩ : ∃ la, la = a.data.toList := ⟨_, rfl⟩
  obtain ⟨lab, hlab⟩ : ∃ lab, lab = la ++ b.data.toList := ⟨_, rfl⟩
  have h1 : la.length + b.size < 1152921504606846976 := by rw [hla]; exact h
  have h2 : lab.length < 1152921504606846976 := by rw [hlab, List.length_append]; exact h1
  have A1 : ∀ W, Tab W → Calls Tryd.prog 90 #[.agg (stA []), .string a] W fun e w' => e = .returned (.agg (stA la)) ∧ Below W.heap.size W w' := fun W hT => by rw [hla]; exact absorb_A [] a (by simp; omega) W hT
  have A2 : ∀ W, Tab W → Calls Tryd.prog 90 #[.agg (stA la), .string b] W fun e w' => e = .returned (.agg (stA lab)) ∧ Below W.heap.size W w' := fun W hT => by rw [hlab]; exact absorb_A la b h1 W hT
  have A3 : ∀ W, Tab W → Calls Tryd.prog 89 #[.agg (stA lab)] W fun e w' => e = .returned (.string (bs (sha lab))) ∧ Below W.heap.size W w' := fun W hT => finish_A lab h2 W hT
  rw [← hla, ← hlab]
  have H1 := Lib.hid A1
  have H2 := Lib.hid A2
  have H3 := Lib.hid A3
  clear A1 A2 A3 hla hlab h1 h2
  go_enter Tryd.func67, Tryd.ntmps67
  go_wp2_with fail
  (with_reducible refine (Begin_A _).mono ?_)
  rintro e w1 ⟨rfl, b1⟩
  have t1 := ht.below b1 ht.1
  go_wp2_with fail
  (with_reducible refine (H1.out _ t1).mono ?_)
  rintro e w2 ⟨rfl, b2⟩
  have t2 := t1.below b2 t1.1
  go_wp2_with fail
  (with_reducible refine (H2.out _ t2).mono ?_)
  rintro e w3 ⟨rfl, b3⟩
  have t3 := t2.below b3 t2.1
  go_wp2_with fail
  (with_reducible refine (H3.out _ t3).mono ?_)
  rintro e w4 ⟨rfl, b4⟩
  go_wp2_with fail
  go_ret
  have B2 := b1.trans (b2.mono b1.size)
  have B3 := B2.trans (b3.mono B2.size)
  exact ⟨rfl, B3.trans (b4.mono B3.size)⟩

/-- the key as it is used -/
def keyOfL (l : List UInt8) : List UInt8 := if 64 < l.length then sha l else l
theorem keyOfL_le (l : List UInt8) : (keyOfL l).length ≤ 64 := by
  unfold keyOfL
  split
  · rw [sha_length]; omega
  · omega
def sealOf (key b : List UInt8) : List UInt8 := sha (mk (keyOfL key) 92 ++ sha (mk (keyOfL key) 54 ++ b))
theorem mk_length (l : List UInt8) (m : UInt8) (h : l.length ≤ 64) : (mk l m).length = 64 := by unfold mk; rw [List.length_map, padK_length _ h]

set_option maxHeartbeats 1000000 in
/-- behind the key's own digest -/
theorem Seal_short (key b : ByteArray) (hk : key.size ≤ 64) (hb : b.size ≤ 140737488355328) (w : World) (ht : Tab w) :
    Calls Tryd.prog 35 #[.string key, .string b] w fun e w' => e = .returned (.string (bs (sha (mk key.data.toList 92 ++ sha (mk key.data.toList 54 ++ b.data.toList))))) ∧ Below w.heap.size w w' := by
  have m1 : ∀ W, Calls Tryd.prog 68 #[.string key, .int .u8 54] W fun e w' => e = .returned (.string (bs (mk key.data.toList 54))) ∧ Below W.heap.size W w' := fun W => maskedKey_any key hk 54 54 rfl W
  have m2 : ∀ W, Calls Tryd.prog 68 #[.string key, .int .u8 92] W fun e w' => e = .returned (.string (bs (mk key.data.toList 92))) ∧ Below W.heap.size W w' := fun W => maskedKey_any key hk 92 92 rfl W
  have l1 : (mk key.data.toList 54).length = 64 := mk_length _ _ hk
  have l2 : (mk key.data.toList 92).length = 64 := mk_length _ _ hk
  generalize mk key.data.toList 54 = k1 at *
  generalize mk key.data.toList 92 = k2 at *
  have s1 : ∀ W, Tab W → Calls Tryd.prog 67 #[.string (bs k1), .string b] W fun e w' => e = .returned (.string (bs (sha (k1 ++ b.data.toList)))) ∧ Below W.heap.size W w' := fun W hT => by
    have := sumOfTwo_any (bs k1) b (by rw [bs_size]; omega) W hT
    rw [bs_list] at this; exact this
  have ls := sha_length (k1 ++ b.data.toList)
  generalize sha (k1 ++ b.data.toList) = inner at *
  have s2 : ∀ W, Tab W → Calls Tryd.prog 67 #[.string (bs k2), .string (bs inner)] W fun e w' => e = .returned (.string (bs (sha (k2 ++ inner)))) ∧ Below W.heap.size W w' := fun W hT => by
    have := sumOfTwo_any (bs k2) (bs inner) (by rw [bs_size, bs_size]; omega) W hT
    rw [bs_list, bs_list] at this; exact this
  generalize sha (k2 ++ inner) = outer at *
  have M1 := Lib.hid m1
  have M2 := Lib.hid m2
  have S1 := Lib.hid s1
  have S2 := Lib.hid s2
  clear m1 m2 s1 s2 l1 l2 ls
  go_enter Tryd.func35, Tryd.ntmps35
  go_wp2_with fail
  (with_reducible refine (M1.out _).mono ?_)
  rintro e w1 ⟨rfl, b1⟩
  have t1 := ht.below b1 ht.1
  go_wp2_with fail
  (with_reducible refine (S1.out _ t1).mono ?_)
  rintro e w2 ⟨rfl, b2⟩
  have t2 := t1.below b2 t1.1
  go_wp2_with fail
  (with_reducible refine (M2.out _).mono ?_)
  rintro e w3 ⟨rfl, b3⟩
  have t3 := t2.below b3 t2.1
  go_wp2_with fail
  (with_reducible refine (S2.out _ t3).mono ?_)
  rintro e w4 ⟨rfl, b4⟩
  go_wp2_with fail
  go_ret
  have B2 := b1.trans (b2.mono b1.size)
  have B3 := B2.trans (b3.mono B2.size)
  exact ⟨rfl, B3.trans (b4.mono B3.size)⟩

set_option maxHeartbeats 1000000 in
/-- a long key -/
theorem Seal_long (ky key b : ByteArray) (hl : 64 < ky.size) (hm : ky.size < 1152921504606846976) (hq : key = bs (sha ky.data.toList)) (hk : key.size ≤ 64) (hb : b.size ≤ 140737488355328) (w : World) (ht : Tab w) :
    Calls Tryd.prog 35 #[.string ky, .string b] w fun e w' => e = .returned (.string (bs (sha (mk key.data.toList 92 ++ sha (mk key.data.toList 54 ++ b.data.toList))))) ∧ Below w.heap.size w w' := by
  have m1 : ∀ W, Calls Tryd.prog 68 #[.string key, .int .u8 54] W fun e w' => e = .returned (.string (bs (mk key.data.toList 54))) ∧ Below W.heap.size W w' := fun W => maskedKey_any key hk 54 54 rfl W
  have m2 : ∀ W, Calls Tryd.prog 68 #[.string key, .int .u8 92] W fun e w' => e = .returned (.string (bs (mk key.data.toList 92))) ∧ Below W.heap.size W w' := fun W => maskedKey_any key hk 92 92 rfl W
  have l1 : (mk key.data.toList 54).length = 64 := mk_length _ _ hk
  have l2 : (mk key.data.toList 92).length = 64 := mk_length _ _ hk
  generalize mk key.data.toList 54 = k1 at *
  generalize mk key.data.toList 92 = k2 at *
  have s1 : ∀ W, Tab W → Calls Tryd.prog 67 #[.string (bs k1), .string b] W fun e w' => e = .returned (.string (bs (sha (k1 ++ b.data.toList)))) ∧ Below W.heap.size W w' := fun W hT => by
    have := sumOfTwo_any (bs k1) b (by rw [bs_size]; omega) W hT
    rw [bs_list] at this; exact this
  have ls := sha_length (k1 ++ b.data.toList)
  generalize sha (k1 ++ b.data.toList) = inner at *
  have s2 : ∀ W, Tab W → Calls Tryd.prog 67 #[.string (bs k2), .string (bs inner)] W fun e w' => e = .returned (.string (bs (sha (k2 ++ inner)))) ∧ Below W.heap.size W w' := fun W hT => by
    have := sumOfTwo_any (bs k2) (bs inner) (by rw [bs_size, bs_size]; omega) W hT
    rw [bs_list, bs_list] at this; exact this
  generalize sha (k2 ++ inner) = outer at *
  have M1 := Lib.hid m1
  have M2 := Lib.hid m2
  have S1 := Lib.hid s1
  have S2 := Lib.hid s2
  clear m1 m2 s1 s2 l1 l2 ls
  have q0 : ∀ W, Tab W → Calls Tryd.prog 66 #[.string ky] W fun e w' => e = .returned (.string key) ∧ Below W.heap.size W w' := fun W hT => by rw [hq]; exact Sum_any ky hm W hT
  have Q0 := Lib.hid q0
  clear q0 hq hk hm
  go_enter Tryd.func35, Tryd.ntmps35
  go_wp2_with fail
  (with_reducible refine (Q0.out _ ht).mono ?_)
  rintro e w0 ⟨rfl, b0⟩
  have t0 := ht.below b0 ht.1
  go_wp2_with fail
  (with_reducible refine (M1.out _).mono ?_)
  rintro e w1 ⟨rfl, b1⟩
  have t1 := t0.below b1 t0.1
  go_wp2_with fail
  (with_reducible refine (S1.out _ t1).mono ?_)
  rintro e w2 ⟨rfl, b2⟩
  have t2 := t1.below b2 t1.1
  go_wp2_with fail
  (with_reducible refine (M2.out _).mono ?_)
  rintro e w3 ⟨rfl, b3⟩
  have t3 := t2.below b3 t2.1
  go_wp2_with fail
  (with_reducible refine (S2.out _ t3).mono ?_)
  rintro e w4 ⟨rfl, b4⟩
  go_wp2_with fail
  go_ret
  have B1 := b0.trans (b1.mono b0.size)
  have B2 := B1.trans (b2.mono B1.size)
  have B3 := B2.trans (b3.mono B2.size)
  exact ⟨rfl, B3.trans (b4.mono B3.size)⟩

theorem Seal_any (key b : ByteArray) (hk : key.size ≤ 140737488355328) (hb : b.size ≤ 140737488355328) (w : World) (ht : Tab w) :
    Calls Tryd.prog 35 #[.string key, .string b] w fun e w' => e = .returned (.string (bs (sealOf key.data.toList b.data.toList))) ∧ Below w.heap.size w w' := by
  have hl : key.data.toList.length = key.size := rfl
  by_cases h : 64 < key.size
  · have e : keyOfL key.data.toList = sha key.data.toList := by unfold keyOfL; rw [if_pos (by rw [hl]; exact h)]
    have q := Seal_long key (bs (sha key.data.toList)) b h (by omega) rfl (by rw [bs_size, sha_length]; omega) hb w ht
    rw [bs_list] at q
    unfold sealOf
    rw [e]
    exact q
  · have e : keyOfL key.data.toList = key.data.toList := by unfold keyOfL; rw [if_neg (by rw [hl]; exact h)]
    unfold sealOf
    rw [e]
    exact Seal_short key b (by omega) hb w ht
end Go.Proofs.YtbpmgpbmeganoaaDoor
