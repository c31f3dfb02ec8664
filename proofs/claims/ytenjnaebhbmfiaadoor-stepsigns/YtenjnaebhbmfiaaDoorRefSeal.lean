/- ref.Seal and its closure: their contracts. -/
import Derived.Test.YtenjnaebhbmfiaaDoorRefSum
import Derived.Test.YtenjnaebhbmfiaaDoorSeal
namespace Go.Proofs.YtenjnaebhbmfiaaDoor
open Go.RowKit

/-- block g starts with these bytes, none of them frozen -/
def FB (w : World) (g : Nat) (l : List UInt8) : Prop := ∃ cs t fz, w.heap[g]? = some (.cells cs t fz) ∧ l.length ≤ fz.1 ∧ cs.toList.take l.length = l.map bv
theorem FB.cell {w : World} {g : Nat} {l : List UInt8} (h : FB w g l) (j : Nat) (hj : j < l.length) : w.cell? ⟨g, j, none⟩ = some (.int .u8 ((l.getD j 0).toNat : Int)) := by
  obtain ⟨cs, t, fz, h1, h2, h3⟩ := h
  rw [cell_of_row w g j cs t fz h1]
  have e : cs[j]? = (cs.toList.take l.length)[j]? := by rw [List.getElem?_take_of_lt hj]; simp
  rw [e, h3]
  simp [bv, hj]
theorem FB.free {w : World} {g : Nat} {l : List UInt8} (h : FB w g l) (j : Nat) (hj : j < l.length) : w.frozen? ⟨g, j, none⟩ = false := by
  obtain ⟨cs, t, fz, h1, h2, h3⟩ := h
  have : ¬ (fz.1 ≤ j) := by omega
  simp [World.frozen?, h1, this]
theorem FB.put {w : World} {g : Nat} {l : List UInt8} (h : FB w g l) (j : Nat) (x : UInt8) : FB (w.setCell ⟨g, j, none⟩ (.int .u8 (x.toNat : Int))) g (l.set j x) := by
  obtain ⟨cs, t, fz, h1, h2, h3⟩ := h
  refine ⟨cs.setIfInBounds j (.int .u8 (x.toNat : Int)), t, fz, by simp [World.setCell, Array.getElem?_modify, h1], by simpa using h2, ?_⟩
  rw [List.length_set, Array.toList_setIfInBounds, List.take_set, h3, List.map_set]
  rfl
theorem run_bytesF {P : Program} {w : World} {g : Nat} {l : List UInt8} (h : FB w g l) (c : Nat) :
    (Conv.bytesToString (.slice (some ⟨g, 0, none⟩) l.length c)).run P w = .ok (.string (bs l)) w := by
  have hload : (loadCells ⟨g, 0, none⟩ l.length).run P w = .ok ((l.map fun b => (b.toNat : Int)).map (Value.int .u8)).toArray w := by
    have := run_loadCells_list (P := P) w ⟨g, 0, none⟩ (l.map bv) (fun j v hv => by
      have hadd : (⟨g, 0, none⟩ : Addr).add j = ⟨g, j, none⟩ := by unfold Addr.add; split <;> simp_all
      have hj : j < l.length := by
        have := (List.getElem?_eq_some_iff.1 hv).1
        simpa using this
      rw [hadd, h.cell j hj, ← hv]
      simp [bv, hj])
    have e : (l.map fun b => (b.toNat : Int)).map (Value.int .u8) = l.map bv := by rw [List.map_map]; rfl
    rw [e]
    simpa using this
  rw [run_bytesToString w _ _ _ _ hload, foldl_push]
  simp [bs]
theorem conv_own (s : ByteArray) (w : World) : ∃ W1 cap, (convert 9 56 (.string s)).run Tryd.prog w = .ok (.slice (some ⟨w.heap.size, 0, none⟩) s.size cap) W1 ∧
    FB W1 w.heap.size s.data.toList ∧ Below w.heap.size w W1 := by
  refine ⟨_, _, Lib.run_convert_string_bytes w 9 56 5 s Tryd.underlying9 Tryd.underlying56 Tryd.underlying5, ?_,
    ⟨rfl, rfl, rfl, by rw [Lib.bytesWorld_size]; omega, fun k hk => Lib.bytesWorld_at_old w 5 s k hk⟩⟩
  refine ⟨_, _, _, Lib.bytesWorld_at_new w 5 s, ?_, ?_⟩
  · simp [Lib.bytesCells]
  · simp [Lib.bytesCells]; intro a _; rfl

def zk (k : ByteArray) : Nat → ByteArray
  | 0 => k
  | n + 1 => zk k n ++ ⟨#[0]⟩
theorem zk_list (k : ByteArray) (n : Nat) : (zk k n).data.toList = k.data.toList ++ List.replicate n 0 := by
  induction n with
  | zero => simp [zk]
  | succ n ih => rw [zk, append_list, ih, List.replicate_succ']; simp
theorem zk_size (k : ByteArray) (n : Nat) : (zk k n).size = k.size + n := by
  induction n with
  | zero => rfl
  | succ n ih => rw [zk, ByteArray.size_append, ih]; rfl
def KRel (k : ByteArray) (w wr : World) : Prop := ∃ n, n ≤ 64 - k.size ∧ Arr wr w.heap.size 9 #[.string (zk k n)] ∧ Below w.heap.size w wr

def XRel (l : List UInt8) (m : UInt8) (w : World) (i : Value) (wr : World) : Prop :=
  ∃ j : Nat, j ≤ 64 ∧ i = .int .i64 j ∧ FB wr w.heap.size (xorTo l m j) ∧ Below w.heap.size w wr

set_option maxHeartbeats 1000000 in
theorem masked_ref (g : Nat) (k : ByteArray) (hk : k.size = 64) (m : UInt8) (c : Int) (hc : c = (m.toNat : Int)) (w : World) (hg : w.cell? ⟨g, 0, none⟩ = some (.string k)) :
    Calls Tryd.prog 34 #[.int .u8 c, .pointer (some ⟨g, 0, none⟩)] w
      fun e w' => e = .returned (.string (bs (k.data.toList.map (· ^^^ m)))) ∧ Below w.heap.size w w' := by
  obtain ⟨W1, cap, hcv, hF, hB⟩ := conv_own k w
  rw [hk] at hcv
  have Hc := Lib.hid hc
  have hl : k.data.toList.length = 64 := hk
  have HE : Hid (xorTo k.data.toList m 64 = k.data.toList.map (· ^^^ m)) := by show _ = _; rw [← hl, xorTo_all]
  have HL := Lib.hid hl
  clear hc hl hk
  generalize k.data.toList = l at *
  go_enter Tryd.func34, Tryd.ntmps34
  go_wp2_with fail
  go_loopw [10] (fun i wr => XRel l m w i wr) (fun i _ => 64 - (intOf i).toNat)
  case atStart => exact ⟨0, by omega, rfl, hF, hB⟩
  case round =>
    clear hcv hF hB W1 hg
    obtain ⟨j, hj, rfl, hF, hB⟩ := hrel
    have hxl := xorTo_length l m j
    by_cases hlt : j < 64
    · have hc0 := hF.cell j (by rw [hxl, HL.out]; exact hlt)
      rw [xorTo_ge _ _ _ _ (Nat.le_refl _)] at hc0
      have hf := hF.free j (by rw [hxl, HL.out]; exact hlt)
      have hi : (j : Int) < 64 := by omega
      have hx := u8_xor_of (l.getD j 0) m c Hc.out
      have hput := hF.put j (l.getD j 0 ^^^ m)
      have HP := Lib.hid hput
      clear hxl hput
      generalize (l.getD j 0 ^^^ m).toNat = y at *
      generalize (l.getD j 0).toNat = x at *
      go_wp2_with fail
      exact ⟨⟨j + 1, by omega, by go_num, HP.out, hB.setCell (Nat.le_refl _) _⟩, by simp [intOf]; omega⟩
    · obtain rfl : j = 64 := by omega
      have hb := run_bytesF (P := Tryd.prog) hF cap
      rw [hxl, HL.out, HE.out, ← run_convert_bytes_string wr 56 9 5 _ _ _ Tryd.underlying56 Tryd.underlying5 Tryd.underlying9] at hb
      clear hxl hlt hj
      generalize hD : l.map (· ^^^ m) = D at *
      have HD := Lib.hid hD
      clear hD
      go_wp2_with fail
      go_ret
      exact ⟨by rw [HD.out]; rfl, hB⟩

def szAt (g : Nat) (w : World) : Nat := match w.cell? ⟨g, 0, none⟩ with | some (.string s) => 64 - s.size | _ => 0
theorem szAt_of {g : Nat} {w : World} {s : ByteArray} (h : w.cell? ⟨g, 0, none⟩ = some (.string s)) : szAt g w = 64 - s.size := by unfold szAt; rw [h]

def SIs (s d : ByteArray) : Prop := ∀ W, Calls Tryd.prog 33 #[.string s] W fun e w' => e = .returned (.string d) ∧ Below W.heap.size W w'

set_option maxHeartbeats 1000000 in
theorem RefSeal_any (key b : ByteArray) (hk : key.size ≤ 140737488355328) (hb : b.size ≤ 140737488355328) (w : World) :
    Calls Tryd.prog 17 #[.string key, .string b] w fun e w' => e = .returned (.string (bs (sealOf key.data.toList b.data.toList))) ∧ Below w.heap.size w w' := by
  have hK : (bs (keyOfL key.data.toList)).size ≤ 64 := by rw [bs_size]; exact keyOfL_le _
  have hway : (64 < key.size ∧ SIs key (bs (keyOfL key.data.toList))) ∨ (key.size ≤ 64 ∧ bs (keyOfL key.data.toList) = key) := by
    unfold keyOfL
    by_cases h : 64 < key.size
    · rw [if_pos (by exact h)]
      exact .inl ⟨h, fun W => RefSum_any key (by omega) W⟩
    · rw [if_neg (by exact h), bs_of]
      exact .inr ⟨by omega, rfl⟩
  have hm : ∀ (m : UInt8) (c : Int), c = (m.toNat : Int) → ∀ k : ByteArray, k.size = 64 → k.data.toList = padK (bs (keyOfL key.data.toList)).data.toList → ∀ W : World, W.cell? ⟨w.heap.size, 0, none⟩ = some (.string k) →
      Calls Tryd.prog 34 #[.int .u8 c, .pointer (some ⟨w.heap.size, 0, none⟩)] W fun e w' => e = .returned (.string (bs (mk (keyOfL key.data.toList) m))) ∧ Below W.heap.size W w' := by
    intro m c hc k h1 h2 W hW
    have q := masked_ref w.heap.size k h1 m c hc W hW
    rw [h2, bs_list] at q
    exact q
  have m1 := hm 54 54 rfl
  have m2 := hm 92 92 rfl
  clear hm
  unfold sealOf
  have l1 : (mk (keyOfL key.data.toList) 54).length = 64 := mk_length _ _ (keyOfL_le _)
  have l2 : (mk (keyOfL key.data.toList) 92).length = 64 := mk_length _ _ (keyOfL_le _)
  generalize mk (keyOfL key.data.toList) 54 = k1 at *
  generalize mk (keyOfL key.data.toList) 92 = k2 at *
  have s1 : SIs (bs k1 ++ b) (bs (sha (k1 ++ b.data.toList))) := fun W => by
    have q := RefSum_any (bs k1 ++ b) (by rw [ByteArray.size_append, bs_size]; omega) W
    rw [append_list, bs_list] at q
    exact q
  have ls := sha_length (k1 ++ b.data.toList)
  generalize sha (k1 ++ b.data.toList) = inner at *
  have s2 : SIs (bs k2 ++ bs inner) (bs (sha (k2 ++ inner))) := fun W => by
    have q := RefSum_any (bs k2 ++ bs inner) (by rw [ByteArray.size_append, bs_size, bs_size]; omega) W
    rw [append_list, bs_list, bs_list] at q
    exact q
  generalize sha (k2 ++ inner) = outer at *
  have S1 := Lib.hid s1
  have S2 := Lib.hid s2
  clear s1 s2
  generalize bs (keyOfL key.data.toList) = K at *
  rcases hway with ⟨h, S0⟩ | ⟨h, rfl⟩
  · go_enter Tryd.func17, Tryd.ntmps17
    go_wp2_with fail
    have c1 := S0 (w.alloc (.cells #[.string key] 9))
    (with_reducible refine c1.mono ?_)
    clear c1
    rintro e w0 ⟨rfl, b0⟩
    have A0 : Arr w0 w.heap.size 9 #[.string key] := (Arr.new w 9 #[.string key]).below b0 (by simp)
    have B0 : Below w.heap.size w w0 := ((Below.refl _ _).alloc (Nat.le_refl _) _).trans (b0.mono (by simp))
    have c0 : w0.cell? ⟨w.heap.size, 0, none⟩ = some (.string key) := A0.cell 0
    have f0 : w0.frozen? ⟨w.heap.size, 0, none⟩ = false := A0.free 0
    go_wp2_with fail
    refine wp_forget (KRel K w) ⟨0, Nat.zero_le _, A0.put 0 _, B0.setCell (Nat.le_refl _) _⟩ ?_
    clear A0 B0 c0 f0 b0 w0
    intro W hW0
    go_loopw [11] (fun _ wr => KRel K w wr) (fun _ wr => szAt w.heap.size wr)
    case atStart => exact hW0
    case round =>
      clear hW0 W
      obtain ⟨n, hn, hA, hB⟩ := hrel
      have hc : wr.cell? ⟨w.heap.size, 0, none⟩ = some (.string (zk K n)) := hA.cell 0
      have hf : wr.frozen? ⟨w.heap.size, 0, none⟩ = false := hA.free 0
      have hz := zk_size K n
      by_cases hlt : n < 64 - K.size
      · have hi : ((zk K n).size : Int) < 64 := by omega
        have hput := hA.put 0 (.string (zk K (n + 1)))
        have HE : Hid (zk K (n + 1) = zk K n ++ ⟨#[0]⟩) := rfl
        have HZ := Lib.hid hz
        have HP := Lib.hid hput
        clear hz hput
        have HM := Lib.hid (szAt_of hc)
        generalize zk K n = k at *
        go_wp2_with fail
        rw [HE.out] at HP
        refine ⟨⟨n + 1, by omega, by rw [HE.out]; exact HP.out, hB.setCell (Nat.le_refl _) _⟩, ?_⟩
        have q := (szAt_of (HP.out.cell 0))
        rw [HM.out]
        rw [q, ByteArray.size_append]
        show 64 - (k.size + 1) < _
        have z := HZ.out
        omega
      · obtain rfl : n = 64 - K.size := by omega
        have hlist : (zk K (64 - K.size)).data.toList = padK K.data.toList := by rw [zk_list]; rfl
        have hsz : (zk K (64 - K.size)).size = 64 := by omega
        have hi : ¬((zk K (64 - K.size)).size : Int) < 64 := by omega
        have M1 := Lib.hid (m1 _ hsz hlist)
        have M2 := Lib.hid (m2 _ hsz hlist)
        clear m1 m2 hlist hn hlt hz
        generalize zk K (64 - K.size) = k at *
        have o1 : ¬ (9223372036854775807 < (bs k1).size + b.size) := by rw [bs_size]; omega
        have o2 : ¬ (9223372036854775807 < (bs k2).size + (bs inner).size) := by rw [bs_size, bs_size]; omega
        go_wp2_with fail
        have c1 := M2.out wr hc
        (with_reducible refine c1.mono ?_)
        clear c1
        rintro e w1 ⟨rfl, b1⟩
        have B1 := hB.trans (b1.mono hB.size)
        have hc1 : w1.cell? ⟨w.heap.size, 0, none⟩ = some (.string k) := (hA.below b1 hA.lt).cell 0
        clear hc hf
        go_wp2_with fail
        have c1 := M1.out w1 hc1
        (with_reducible refine c1.mono ?_)
        clear c1
        rintro e w2 ⟨rfl, b2⟩
        have B2 := B1.trans (b2.mono B1.size)
        go_wp2_with fail
        have c1 := S1.out w2
        (with_reducible refine c1.mono ?_)
        clear c1
        rintro e w3 ⟨rfl, b3⟩
        have B3 := B2.trans (b3.mono B2.size)
        go_wp2_with fail
        have c1 := S2.out w3
        (with_reducible refine c1.mono ?_)
        clear c1
        rintro e w4 ⟨rfl, b4⟩
        go_wp2_with fail
        go_ret
        exact ⟨rfl, B3.trans (b4.mono B3.size)⟩
  · clear hk
    go_enter Tryd.func17, Tryd.ntmps17
    go_wp2_with fail
    refine wp_forget (KRel K w) ⟨0, Nat.zero_le _, Arr.new _ _ _, (Below.refl _ _).alloc (Nat.le_refl _) _⟩ ?_
    intro W hW0
    go_loopw [11] (fun _ wr => KRel K w wr) (fun _ wr => szAt w.heap.size wr)
    case atStart => exact hW0
    case round =>
      clear hW0 W
      obtain ⟨n, hn, hA, hB⟩ := hrel
      have hc : wr.cell? ⟨w.heap.size, 0, none⟩ = some (.string (zk K n)) := hA.cell 0
      have hf : wr.frozen? ⟨w.heap.size, 0, none⟩ = false := hA.free 0
      have hz := zk_size K n
      by_cases hlt : n < 64 - K.size
      · have hi : ((zk K n).size : Int) < 64 := by omega
        have hput := hA.put 0 (.string (zk K (n + 1)))
        have HE : Hid (zk K (n + 1) = zk K n ++ ⟨#[0]⟩) := rfl
        have HZ := Lib.hid hz
        have HP := Lib.hid hput
        clear hz hput
        have HM := Lib.hid (szAt_of hc)
        generalize zk K n = k at *
        go_wp2_with fail
        rw [HE.out] at HP
        refine ⟨⟨n + 1, by omega, by rw [HE.out]; exact HP.out, hB.setCell (Nat.le_refl _) _⟩, ?_⟩
        have q := (szAt_of (HP.out.cell 0))
        rw [HM.out]
        rw [q, ByteArray.size_append]
        show 64 - (k.size + 1) < _
        have z := HZ.out
        omega
      · obtain rfl : n = 64 - K.size := by omega
        have hlist : (zk K (64 - K.size)).data.toList = padK K.data.toList := by rw [zk_list]; rfl
        have hsz : (zk K (64 - K.size)).size = 64 := by omega
        have hi : ¬((zk K (64 - K.size)).size : Int) < 64 := by omega
        have M1 := Lib.hid (m1 _ hsz hlist)
        have M2 := Lib.hid (m2 _ hsz hlist)
        clear m1 m2 hlist hn hlt hz
        generalize zk K (64 - K.size) = k at *
        have o1 : ¬ (9223372036854775807 < (bs k1).size + b.size) := by rw [bs_size]; omega
        have o2 : ¬ (9223372036854775807 < (bs k2).size + (bs inner).size) := by rw [bs_size, bs_size]; omega
        go_wp2_with fail
        have c1 := M2.out wr hc
        (with_reducible refine c1.mono ?_)
        clear c1
        rintro e w1 ⟨rfl, b1⟩
        have B1 := hB.trans (b1.mono hB.size)
        have hc1 : w1.cell? ⟨w.heap.size, 0, none⟩ = some (.string k) := (hA.below b1 hA.lt).cell 0
        clear hc hf
        go_wp2_with fail
        have c1 := M1.out w1 hc1
        (with_reducible refine c1.mono ?_)
        clear c1
        rintro e w2 ⟨rfl, b2⟩
        have B2 := B1.trans (b2.mono B1.size)
        go_wp2_with fail
        have c1 := S1.out w2
        (with_reducible refine c1.mono ?_)
        clear c1
        rintro e w3 ⟨rfl, b3⟩
        have B3 := B2.trans (b3.mono B2.size)
        go_wp2_with fail
        have c1 := S2.out w3
        (with_reducible refine c1.mono ?_)
        clear c1
        rintro e w4 ⟨rfl, b4⟩
        go_wp2_with fail
        go_ret
        exact ⟨rfl, B3.trans (b4.mono B3.size)⟩
end Go.Proofs.YtenjnaebhbmfiaaDoor
