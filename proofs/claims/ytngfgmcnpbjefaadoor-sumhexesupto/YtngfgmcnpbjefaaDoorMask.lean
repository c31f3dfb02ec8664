/- sum.maskedKey: its contract. -/
import Derived.Test.YtngfgmcnpbjefaaDoorTests
import Derived.Lib.BufferWrite
import Derived.Lib.SlBuf
namespace Go.Proofs.YtngfgmcnpbjefaaDoor
open Go.RowKit

/-- a key, made up to a block by noughts -/
def padK (l : List UInt8) : List UInt8 := l ++ List.replicate (64 - l.length) 0
theorem padK_length (l : List UInt8) (h : l.length ≤ 64) : (padK l).length = 64 := by simp [padK]; omega
def xorTo (l : List UInt8) (m : UInt8) : Nat → List UInt8
  | 0 => l
  | n + 1 => (xorTo l m n).set n (l.getD n 0 ^^^ m)
theorem xorTo_length (l : List UInt8) (m : UInt8) (n : Nat) : (xorTo l m n).length = l.length := by
  induction n with
  | zero => rfl
  | succ n ih => simp [xorTo, ih]
theorem xorTo_at (l : List UInt8) (m : UInt8) (n i : Nat) : (xorTo l m n)[i]? = if i < n then (l[i]?).map (· ^^^ m) else l[i]? := by
  induction n with
  | zero => simp [xorTo]
  | succ n ih =>
    rw [xorTo, List.getElem?_set, ih, xorTo_length]
    by_cases h : n = i
    · subst h
      by_cases hl : n < l.length
      · simp [hl]
      · simp [hl]
    · by_cases h2 : i < n
      · simp [h, h2, show i < n + 1 by omega]
      · simp [h, h2, show ¬ i < n + 1 by omega]
theorem xorTo_ge (l : List UInt8) (m : UInt8) (n i : Nat) (h : n ≤ i) : (xorTo l m n).getD i 0 = l.getD i 0 := by
  rw [List.getD_eq_getElem?_getD, xorTo_at, if_neg (by omega), List.getD_eq_getElem?_getD]
theorem xorTo_all (l : List UInt8) (m : UInt8) : xorTo l m l.length = l.map (· ^^^ m) := by
  apply List.ext_getElem?
  intro i
  rw [xorTo_at, List.getElem?_map]
  by_cases h : i < l.length
  · rw [if_pos h]
  · rw [if_neg h, List.getElem?_eq_none (by omega)]; rfl
/-- the key's block under a mask -/
def mk (l : List UInt8) (m : UInt8) : List UInt8 := (padK l).map (· ^^^ m)

theorem u8_xor_of (a m : UInt8) (c : Int) (hc : c = (m.toNat : Int)) : bits .xor .u8 (a.toNat : Int) c = ((a ^^^ m).toNat : Int) := by
  have h1 := a.toNat_lt
  have h2 := m.toNat_lt
  subst hc
  rw [u8_xor_nat _ _ h1 h2]
  simp

def MRel (l : List UInt8) (m : UInt8) (w : World) (i : Value) (wr : World) : Prop :=
  ∃ k : Nat, k ≤ 64 ∧ i = .int .i64 k ∧ Arr wr w.heap.size 56 (barr (xorTo (padK l) m k)) ∧ Below w.heap.size w wr

theorem pad_cells (key : ByteArray) : ((barr (List.replicate 64 0)).toList.take 0 ++ Lib.byteCells key.data.toList ++ (barr (List.replicate 64 0)).toList.drop (0 + key.size)).toArray = barr (padK key.data.toList) := by
  have e : (barr (List.replicate 64 0)).toList = List.replicate 64 (bv 0) := by unfold barr; rw [List.map_replicate]
  rw [e, Nat.zero_add, List.drop_replicate, List.take_zero, List.nil_append]
  unfold barr padK
  rw [List.map_append, List.map_replicate]
  rfl

set_option maxRecDepth 100000 in
set_option maxHeartbeats 1000000 in
theorem maskedKey_any (key : ByteArray) (hk : key.size ≤ 64) (m : UInt8) (c : Int) (hc : c = (m.toNat : Int)) (w : World) :
    Calls Tryd.prog 35 #[.string key, .int .u8 c] w
      fun e w' => e = .returned (.string (bs (mk key.data.toList m))) ∧ Below w.heap.size w w' := by
  have Hc := Lib.hid hc
  clear hc
  have hcopy : (Builtin.copy_ #[49, 9] 3 #[.slice (some ⟨w.heap.size, 0, none⟩) 64 64, .string key]).run Tryd.prog (w.alloc (.cells (barr (List.replicate 64 0)) 56)) =
      .ok (goInt key.size) ((w.alloc (.cells (barr (List.replicate 64 0)) 56)).setRow w.heap.size (barr (padK key.data.toList))) := by
    have h := Lib.run_copy_row_string (P := Tryd.prog) (w.alloc (.cells (barr (List.replicate 64 0)) 56)) 49 9 3 5 w.heap.size 0 64 64 key (barr (List.replicate 64 0)) 56 Tryd.underlying49 (by kernel_rfl) (Arr.new w _ _) hk (by rw [barr_size]; simpa using hk)
    rw [h]
    congr 2
    exact pad_cells key
  have Hcopy := Lib.hid hcopy
  clear hcopy
  go_enter Tryd.func35, Tryd.ntmps35
  go_wp2_with (refine Lib.wpList_copy_run _ rfl _ _ 49 9 rfl (.slice (some ⟨w.heap.size, 0, none⟩) 64 64) (.string key) rfl rfl Hcopy.out ?_)
  clear Hcopy
  go_loopw [10] (fun i wr => MRel key.data.toList m w i wr) (fun i _ => 64 - (intOf i).toNat)
  case atStart => exact ⟨0, by omega, rfl, (Arr.new w _ _).row _, below_setRow ((Below.refl _ _).alloc (Nat.le_refl _) _) (Nat.le_refl _) _⟩
  case round =>
    obtain ⟨k, hkk, rfl, hA, hB⟩ := hrel
    have hpl : (padK key.data.toList).length = 64 := padK_length _ hk
    have hxl := xorTo_length (padK key.data.toList) m k
    by_cases hlt : k < 64
    · have hc : wr.cell? ⟨w.heap.size, k, none⟩ = some (.int .u8 (((padK key.data.toList).getD k 0).toNat : Int)) := by
        rw [hA.cell k, barr_at _ _ (by rw [hxl, hpl]; exact hlt), xorTo_ge _ _ _ _ (Nat.le_refl _)]
      have hf : wr.frozen? ⟨w.heap.size, k, none⟩ = false := hA.free k
      have hi : (k : Int) < 64 := by omega
      have hx := u8_xor_of ((padK key.data.toList).getD k 0) m c Hc.out
      have hput := hA.put k (.int .u8 (((padK key.data.toList).getD k 0 ^^^ m).toNat : Int))
      rw [barr_set] at hput
      have HP := Lib.hid hput
      clear hpl hxl hput
      generalize ((padK key.data.toList).getD k 0 ^^^ m).toNat = y at *
      generalize ((padK key.data.toList).getD k 0).toNat = x at *
      go_wp2
      exact ⟨⟨k + 1, by omega, by go_num, HP.out, hB.setCell (Nat.le_refl _) _⟩, by simp [intOf]; omega⟩
    · obtain rfl : k = 64 := by omega
      have hE : xorTo (padK key.data.toList) m 64 = mk key.data.toList m := by
        rw [← hpl, xorTo_all]; rfl
      rw [hE] at hA
      have hd : (mk key.data.toList m).length = 64 := by unfold mk; rw [List.length_map, hpl]
      have hb := run_bytes (P := Tryd.prog) hA (mk key.data.toList m) (by rw [barr]; exact List.take_of_length_le (by simp)) 64
      rw [hd, ← run_convert_bytes_string wr 49 9 5 _ _ _ Tryd.underlying49 Tryd.underlying5 Tryd.underlying9] at hb
      clear hd hE hpl hxl hlt hkk
      generalize hD : mk key.data.toList m = D at *
      have HD := Lib.hid hD
      clear hD
      go_wp2
      go_ret
      exact ⟨by rw [HD.out]; rfl, hB⟩
end Go.Proofs.YtngfgmcnpbjefaaDoor
