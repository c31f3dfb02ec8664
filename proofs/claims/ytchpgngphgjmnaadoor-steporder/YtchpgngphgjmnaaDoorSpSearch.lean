/- slices.BinarySearch at rising numbers: its contract. -/
import Derived.Test.YtchpgngphgjmnaaDoorSpMath
namespace Go.Proofs.YtchpgngphgjmnaaDoor
open Go.RowKit

theorem cNaN_any (x : Int) (w : World) : Calls Tryd.prog 57 #[.int .i64 x] w fun e w' => e = .returned (.bool false) ∧ w' = w := by
  go_enter Tryd.func57, Tryd.ntmps57
  go_wp2_with fail
  go_ret
  exact ⟨by simp, rfl⟩
theorem sNaN_any (x : Int) (w : World) : Calls Tryd.prog 46 #[.int .i64 x] w fun e w' => e = .returned (.bool false) ∧ w' = w := by
  go_enter Tryd.func46, Tryd.ntmps46
  go_wp2_with fail
  go_ret
  exact ⟨by simp, rfl⟩
theorem lessI_any (x y : Int) (w : World) : Calls Tryd.prog 45 #[.int .i64 x, .int .i64 y] w fun e w' => e = .returned (.bool (decide (x < y))) ∧ w' = w := by
  go_enter Tryd.func45, Tryd.ntmps45
  go_wp2_with fail
  (with_reducible refine (cNaN_any x w).mono ?_)
  rintro _ _ ⟨rfl, rfl⟩
  go_wp2_with fail
  go_ret
  exact ⟨rfl, rfl⟩
def IbRel (N : List Int) (x : Int) (w : World) (i j : Value) (wr : World) : Prop :=
  ∃ a b : Nat, i = .int .i64 (a : Int) ∧ j = .int .i64 (b : Int) ∧ a ≤ lowI x N ∧ lowI x N ≤ b ∧ b ≤ N.length ∧ w = wr
set_option maxRecDepth 100000 in
set_option maxHeartbeats 1000000 in
theorem intSearch_any (N : List Int) (x : Int) (A : Option Addr) (c : Nat) (w : World) (hP : NumsA w w.heap.size A N) (hl : N.length ≤ 100000) (hr : risI (-1) N) :
    Calls Tryd.prog 30 #[.slice A N.length c, .int .i64 x] w fun e w' => e = .returned (.tuple #[.int .i64 (lowI x N : Int), .bool (decide (x ∈ N))]) ∧ w' = w := by
  have hle := lowI_le x N
  have HG := Lib.hid (lowI_mem x N _ hr)
  have HS := Lib.hid (lowI_split x N _ hr)
  have h1 : Hid (IbRel N x w (.int .i64 0) (.int .i64 (N.length : Int)) w) := ⟨0, N.length, rfl, rfl, Nat.zero_le _, hle, Nat.le_refl _, rfl⟩
  have hlw : lowI x N ≤ 100000 := by omega
  go_enter Tryd.func30, Tryd.ntmps30
  go_wp2_with fail
  go_loopw [7, 8] (fun i j wr => IbRel N x w i j wr) (fun i j _ => (intOf j - intOf i).toNat)
  case atStart => exact h1.out
  case round =>
    clear h1
    obtain ⟨a, b, rfl, rfl, ha, hb, hbl, rfl⟩ := hrel
    by_cases hlt : a < b
    · have hj : (a : Int) < b := by omega
      have hml : (a + b) / 2 < N.length := by omega
      have hmi : ((a : Int) + b) / 2 < N.length := by omega
      have hx : N[(a + b) / 2]? = some N[(a + b) / 2] := List.getElem?_eq_getElem hml
      obtain ⟨ad, rfl, hbk, h0⟩ := hP _ _ hx
      have hsx := HS.out _ _ hx
      clear hx
      generalize N[(a + b) / 2] = y at *
      have C := Lib.hid (lessI_any y x w)
      go_wp2_with fail
      (with_reducible refine C.out.mono ?_)
      clear C h0
      rintro _ w2 ⟨rfl, rfl⟩
      by_cases hz : y < x
      · have hlo := hsx.1 hz
        clear hsx
        go_wp2_with fail
        go_roundw
        case rel => exact ⟨(a + b) / 2 + 1, b, by congr 1, rfl, by omega, hb, hbl, rfl⟩
        case measure => simp [intOf]; omega
      · have hlo : ¬ (a + b) / 2 < lowI x N := fun h => hz (hsx.2 h)
        clear hsx
        go_wp2_with fail
        go_roundw
        case rel => exact ⟨a, (a + b) / 2, rfl, by congr 1, ha, by omega, by omega, rfl⟩
        case measure => simp [intOf]; omega
    · have ea : a = lowI x N := by omega
      have eb : b = lowI x N := by omega
      subst eb
      rw [ea]
      have hj : ¬ (lowI x N : Int) < lowI x N := by omega
      clear hlt ea ha hb hbl
      have CN := Lib.hid (fun z => sNaN_any z w)
      cases hx : N[lowI x N]? with
      | none =>
        have hge := List.getElem?_eq_none_iff.1 hx
        have hj2 : ¬ (lowI x N : Int) < N.length := by omega
        have HN : Hid (decide (x ∈ N) = false) := by show _ = _; rw [decide_eq_false_iff_not, HG.out, hx]; simp
        clear HG HS hx
        go_wp2_with fail
        go_ret2
        exact ⟨by rw [HN.out]; rfl, rfl⟩
      | some y =>
        obtain ⟨hlt, _⟩ := List.getElem?_eq_some_iff.1 hx
        have hj2 : (lowI x N : Int) < N.length := by omega
        obtain ⟨ad, rfl, hbk, h0⟩ := hP _ _ hx
        have HN : Hid (decide (x ∈ N) = (y == x)) := by
          show _ = _
          by_cases e : y = x
          · rw [decide_eq_true (HG.out.2 (by rw [hx, e])), e]; simp
          · rw [decide_eq_false (fun h => e (by have := HG.out.1 h; rw [hx] at this; exact Option.some.inj this))]
            symm
            rw [beq_eq_false_iff_ne]; exact e
        clear HG HS hx
        by_cases hz : y = x
        · subst hz
          go_wp2_with fail
          go_ret2
          exact ⟨by rw [HN.out, beq_self_eq_true]; rfl, rfl⟩
        · have hz' : (y == x) = false := by rw [beq_eq_false_iff_ne]; exact hz
          go_wp2_with fail
          (with_reducible refine (CN.out y).mono ?_)
          rintro _ _ ⟨rfl, rfl⟩
          go_wp2_with fail
          go_ret2
          exact ⟨by rw [HN.out, hz']; rfl, rfl⟩
end Go.Proofs.YtchpgngphgjmnaaDoor
