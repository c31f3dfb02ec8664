/- disk.inNames, Named, size, content, burnt: their contracts. -/
import Derived.Test.YtnijnphalhfabaaDkMem
import Derived.Deep.Cut
import Derived.Deep.RegionWith
import Derived.Deep.RegionLaw
import Derived.StillTailTactics
namespace Go.Proofs.Ytnijnphalhfabaa
open Go.RowKit

set_option maxRecDepth 100000 in
theorem inNames_any (c : UInt8) (w : World) : Calls Try.prog 47 #[.int .u8 (c.toNat : Int)] w fun e w' => e = .returned (.bool (inName c)) ∧ w' = w := by
  have hI : inName c = ((decide ((97 : Int) ≤ c.toNat) && decide ((c.toNat : Int) ≤ 122)) || (decide ((48 : Int) ≤ c.toNat) && decide ((c.toNat : Int) ≤ 57)) || ((c.toNat : Int) == 46) || ((c.toNat : Int) == 45)) := by
    have e1 : decide ((97 : Int) ≤ c.toNat) = decide (97 ≤ c.toNat) := decide_eq_decide.2 (by omega)
    have e2 : decide ((c.toNat : Int) ≤ 122) = decide (c.toNat ≤ 122) := decide_eq_decide.2 (by omega)
    have e3 : decide ((48 : Int) ≤ c.toNat) = decide (48 ≤ c.toNat) := decide_eq_decide.2 (by omega)
    have e4 : decide ((c.toNat : Int) ≤ 57) = decide (c.toNat ≤ 57) := decide_eq_decide.2 (by omega)
    have e5 : ((c.toNat : Int) == 46) = decide (c.toNat = 46) := by rw [show ((c.toNat : Int) == 46) = decide ((c.toNat : Int) = 46) from rfl]; exact decide_eq_decide.2 (by omega)
    have e6 : ((c.toNat : Int) == 45) = decide (c.toNat = 45) := by rw [show ((c.toNat : Int) == 45) = decide ((c.toNat : Int) = 45) from rfl]; exact decide_eq_decide.2 (by omega)
    rw [e1, e2, e3, e4, e5, e6]
    rfl
  have HI := Lib.hid hI
  clear hI
  generalize (c.toNat : Int) = z at *
  go_enter Try.func47, Try.ntmps47
  by_cases h1 : 97 ≤ z
  · by_cases h2 : z ≤ 122
    · go_wp2_with fail
      go_ret
      exact ⟨by rw [HI.out]; simp [h1, h2], rfl⟩
    · by_cases h3 : 48 ≤ z
      · by_cases h4 : z ≤ 57
        · omega
        · go_wp2_with fail
          go_ret
          exact ⟨by rw [HI.out]; simp [show ¬ z ≤ 122 by omega, show ¬ z ≤ 57 by omega], rfl⟩
      · omega
  · by_cases h3 : 48 ≤ z
    · by_cases h4 : z ≤ 57
      · go_wp2_with fail
        go_ret
        exact ⟨by rw [HI.out]; simp [h3, h4], rfl⟩
      · go_wp2_with fail
        go_ret
        exact ⟨by rw [HI.out]; simp [show ¬ (97 : Int) ≤ z by omega, show ¬ z ≤ 57 by omega], rfl⟩
    · by_cases h5 : z = 46
      · subst h5
        go_wp2_with fail
        go_ret
        exact ⟨by rw [HI.out]; rfl, rfl⟩
      · have h5' : (z == 46) = false := by rw [beq_eq_false_iff_ne]; exact h5
        go_wp2_with fail
        go_ret
        exact ⟨by rw [HI.out]; simp [show ¬ (97 : Int) ≤ z by omega, show ¬ (48 : Int) ≤ z by omega, h5], rfl⟩
def NmRel (s : ByteArray) (w : World) (i : Value) (wr : World) : Prop :=
  ∃ k : Nat, k ≤ s.size ∧ i = .int .i64 (k : Int) ∧ (s.data.toList.take k).all inName = true ∧ wr = w
set_option maxRecDepth 100000 in
theorem Named_any (s : ByteArray) (w : World) : Calls Try.prog 32 #[.string s] w fun e w' => e = .returned (.bool (named s)) ∧ w' = w := by
  have hz : s.data.toList.length = s.size := rfl
  have hN : named s = (decide (1 ≤ s.size) && decide (s.size ≤ 80) && s.data.toList.all inName) := rfl
  have HN := Lib.hid hN
  clear hN
  generalize named s = N at *
  by_cases h1 : s.size < 1
  · have hi : (s.size : Int) < 1 := by omega
    go_enter Try.func32, Try.ntmps32
    go_wp2_with fail
    go_ret
    exact ⟨by rw [HN.out]; simp [show ¬ 1 ≤ s.size by omega], rfl⟩
  have hi : ¬ (s.size : Int) < 1 := by omega
  by_cases h2 : 80 < s.size
  · have hi2 : (80 : Int) < s.size := by omega
    go_enter Try.func32, Try.ntmps32
    go_wp2_with fail
    go_ret
    exact ⟨by rw [HN.out]; simp [show ¬ s.size ≤ 80 by omega], rfl⟩
  have hi2 : ¬ (80 : Int) < s.size := by omega
  go_enter Try.func32, Try.ntmps32
  go_wp2_with fail
  go_loopw [14] (fun i wr => NmRel s w i wr) (fun i _ => s.size - (intOf i).toNat)
  case atStart => exact ⟨0, Nat.zero_le _, rfl, by simp, rfl⟩
  case round =>
    obtain ⟨k, hk, rfl, ha, rfl⟩ := hrel
    by_cases hlt : k < s.size
    · have hj : (k : Int) < s.size := by omega
      have C := Lib.hid (inNames_any s[k] wr)
      have hx : s.data.toList[k]? = some s[k] := by
        rw [List.getElem?_eq_getElem (by omega)]
        rfl
      have HT : Hid (s.data.toList.take (k + 1) = s.data.toList.take k ++ [s[k]]) := by
        obtain ⟨hk', e⟩ := List.getElem?_eq_some_iff.1 hx
        show _ = _
        rw [List.take_succ_eq_append_getElem hk', e]
      have HM : Hid (s[k] ∈ s.data.toList) := List.mem_of_getElem? hx
      clear hx
      cases hb : inName s[k]
      · rw [hb] at C
        have HB := Lib.hid hb
        clear hb
        go_wp2_with fail
        (with_reducible refine C.out.mono ?_)
        rintro _ _ ⟨rfl, rfl⟩
        go_wp2_with fail
        go_ret
        refine ⟨?_, rfl⟩
        rw [HN.out]
        have : s.data.toList.all inName = false := by
          rw [List.all_eq_false]
          exact ⟨_, HM.out, by rw [HB.out]; simp⟩
        rw [this, Bool.and_false]
        rfl
      · rw [hb] at C
        have HA : Hid ((s.data.toList.take (k + 1)).all inName = true) := by
          show _ = _
          rw [HT.out, List.all_append, ha]
          simp [hb]
        clear hb HT HM ha
        go_wp2_with fail
        (with_reducible refine C.out.mono ?_)
        rintro _ _ ⟨rfl, rfl⟩
        go_wp2_with fail
        go_roundw
        case rel => exact ⟨k + 1, hlt, by rw [Int.natCast_add]; rfl, HA.out, (by first | rfl | trivial)⟩
        case measure => simp [intOf]; omega
    · obtain rfl : k = s.size := by omega
      have hj : ¬ (s.size : Int) < s.size := by omega
      rw [← hz, List.take_length] at ha
      go_wp2_with fail
      go_ret
      exact ⟨by rw [HN.out, ha]; simp [show 1 ≤ s.size by omega, show s.size ≤ 80 by omega], rfl⟩
set_option maxRecDepth 100000 in
theorem size_any (f : Fl) (h1 : f.safe.size ≤ 140737488355328) (h2 : f.tail.size ≤ 140737488355328) (w : World) : Calls Try.prog 35 #[.agg (flArr f)] w fun e w' => e = .returned (.int .i64 ((f.safe.size + f.tail.size : Nat) : Int)) ∧ Below w.heap.size w w' := by
  have A0 : Arr (w.alloc (.cells (flArr f) 50)) w.heap.size 50 (flArr f) := Arr.new _ _ _
  have b0 : Below w.heap.size w (w.alloc (.cells (flArr f) 50)) := (Below.refl _ _).alloc (Nat.le_refl _) _
  go_enter Try.func35, Try.ntmps35
  go_upto_region 1 with fail
  refine wp_forget (fun V => Arr V w.heap.size 50 (flArr f) ∧ Below w.heap.size w V) (by exact ⟨A0, b0⟩) ?_
  clear A0 b0
  rintro V ⟨A0, b0⟩
  have c1 : V.cell? ⟨w.heap.size, 1, none⟩ = some (.string f.safe) := A0.cell 1
  have c2 : V.cell? ⟨w.heap.size, 2, none⟩ = some (.string f.tail) := A0.cell 2
  go_wp2_with fail
  go_ret
  exact ⟨by rw [Int.natCast_add]; rfl, b0⟩
set_option maxRecDepth 100000 in
theorem content_any (f : Fl) (h1 : f.safe.size ≤ 140737488355328) (h2 : f.tail.size ≤ 140737488355328) (w : World) : Calls Try.prog 37 #[.agg (flArr f)] w fun e w' => e = .returned (.string (f.safe ++ f.tail)) ∧ Below w.heap.size w w' := by
  have A0 : Arr (w.alloc (.cells (flArr f) 50)) w.heap.size 50 (flArr f) := Arr.new _ _ _
  have b0 : Below w.heap.size w (w.alloc (.cells (flArr f) 50)) := (Below.refl _ _).alloc (Nat.le_refl _) _
  go_enter Try.func37, Try.ntmps37
  go_upto_region 1 with fail
  refine wp_forget (fun V => Arr V w.heap.size 50 (flArr f) ∧ Below w.heap.size w V) (by exact ⟨A0, b0⟩) ?_
  clear A0 b0
  rintro V ⟨A0, b0⟩
  have c1 : V.cell? ⟨w.heap.size, 1, none⟩ = some (.string f.safe) := A0.cell 1
  have c2 : V.cell? ⟨w.heap.size, 2, none⟩ = some (.string f.tail) := A0.cell 2
  go_wp2_with fail
  go_ret
  exact ⟨rfl, b0⟩
set_option maxRecDepth 100000 in
theorem burnt_any (z : Int) (h : z ≤ 9223372036854775807) (w : World) : Calls Try.prog 46 #[.int .i64 z] w fun e w' => e = .returned (.int .i64 (burnt z)) ∧ w' = w := by
  by_cases h1 : 0 < z
  · have hb : burnt z = z - 1 := if_pos h1
    have HB := Lib.hid hb
    clear hb
    go_enter Try.func46, Try.ntmps46
    go_wp2_with fail
    go_ret
    exact ⟨by rw [HB.out]; rfl, rfl⟩
  · have hb : burnt z = z := if_neg h1
    have HB := Lib.hid hb
    clear hb
    go_enter Try.func46, Try.ntmps46
    go_wp2_with fail
    go_ret
    exact ⟨by rw [HB.out]; rfl, rfl⟩
end Go.Proofs.Ytnijnphalhfabaa
