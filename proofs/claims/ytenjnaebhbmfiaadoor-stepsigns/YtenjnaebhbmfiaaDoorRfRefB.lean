/- Texts in one: RfRefA, RfRefB. -/
import Derived.Test.YtenjnaebhbmfiaaDoorRfSets
import Derived.Test.YtenjnaebhbmfiaaDoorDkRefA
/- ref.RefName: its contract. -/
namespace Go.Proofs.YtenjnaebhbmfiaaDoor
open Go.RowKit

theorem inP_int (c : UInt8) : inP c = ((decide ((97 : Int) ≤ c.toNat) && decide ((c.toNat : Int) ≤ 122)) || (decide ((48 : Int) ≤ c.toNat) && decide ((c.toNat : Int) ≤ 57)) || ((c.toNat : Int) == 45) || ((c.toNat : Int) == 95)) := by
  have e1 : decide ((97 : Int) ≤ c.toNat) = decide (97 ≤ c.toNat) := decide_eq_decide.2 (by omega)
  have e2 : decide ((c.toNat : Int) ≤ 122) = decide (c.toNat ≤ 122) := decide_eq_decide.2 (by omega)
  have e3 : decide ((48 : Int) ≤ c.toNat) = decide (48 ≤ c.toNat) := decide_eq_decide.2 (by omega)
  have e4 : decide ((c.toNat : Int) ≤ 57) = decide (c.toNat ≤ 57) := decide_eq_decide.2 (by omega)
  have e5 : ((c.toNat : Int) == 45) = decide (c.toNat = 45) := by rw [show ((c.toNat : Int) == 45) = decide ((c.toNat : Int) = 45) from rfl]; exact decide_eq_decide.2 (by omega)
  have e6 : ((c.toNat : Int) == 95) = decide (c.toNat = 95) := by rw [show ((c.toNat : Int) == 95) = decide ((c.toNat : Int) = 95) from rfl]; exact decide_eq_decide.2 (by omega)
  rw [e1, e2, e3, e4, e5, e6]
  rfl
def RnRel (t : ByteArray) (W : World) (p i : Value) (wr : World) : Prop :=
  ∃ m k : Nat, m ≤ k ∧ k ≤ t.size ∧ p = .int .i64 (m : Int) ∧ i = .int .i64 (k : Int) ∧ walkP 0 t.data.toList = walkP m (t.data.toList.drop k) ∧ W = wr
set_option maxRecDepth 100000 in
set_option maxHeartbeats 1000000 in
theorem RefNameR_any (s : ByteArray) (hs : s.size ≤ 140737488355330) (w : World) : Calls Tryd.prog 29 #[.string s] w fun e w' => e = .returned (.bool (namedR s)) ∧ Below w.heap.size w w' := by
  have hN : namedR s = (walkP 0 (s ++ ⟨#[47]⟩).data.toList && decide (s.size ≤ 60)) := by
    rw [named_walk, append_list]
  have ht : (s ++ ⟨#[47]⟩ : ByteArray).size = s.size + 1 := by rw [ByteArray.size_append]; rfl
  obtain ⟨cap, W, hcv, hcell, hB⟩ := conv_name (s ++ ⟨#[47]⟩) w
  have HN := Lib.hid hN
  have HT := Lib.hid ht
  have HC := Lib.hid hcell
  have hb1 : (s.size : Int) + 1 ≤ 9223372036854775807 := by omega
  have hb2 : s.size + 1 ≤ 9223372036854775807 := by omega
  clear hN ht hcell
  go_enter Tryd.func29, Tryd.ntmps29
  go_wp2_with fail
  clear hcv hb1 hb2
  have hts : (s ++ ⟨#[47]⟩ : ByteArray).size ≤ 140737488355331 := by rw [HT.out]; omega
  generalize (s ++ ⟨#[47]⟩ : ByteArray) = t at *
  have h0 : Hid (RnRel t W (.int .i64 0) (.int .i64 0) W) := ⟨0, 0, Nat.le_refl _, Nat.zero_le _, rfl, rfl, by rw [List.drop_zero], rfl⟩
  go_loopw [3, 10] (fun p i wr => RnRel t W p i wr) (fun _ i _ => t.size - (intOf i).toNat)
  case atStart => exact h0.out
  case round =>
    clear h0
    obtain ⟨m, k, hmk, hk, rfl, rfl, hw, rfl⟩ := hrel
    by_cases hlt : k < t.size
    · have hj : (k : Int) < (s.size : Int) + 1 := by have := HT.out; omega
      have g0 := HC.out k hlt
      rw [drop_at t k hlt, walkP] at hw
      by_cases he : t[k].toNat = 47
      · rw [if_pos he] at hw
        have hz : (t[k].toNat : Int) = 47 := by omega
        rw [hz] at g0
        by_cases hm : m = 0
        · subst hm
          rw [if_pos rfl] at hw
          have hf : Hid (namedR s = false) := by show _ = _; rw [HN.out, hw]; rfl
          clear hw he hz
          go_wp2_with fail
          go_ret
          exact ⟨by rw [hf.out]; rfl, hB⟩
        · rw [if_neg hm] at hw
          have hm2 : ((m : Int) == 0) = false := by rw [beq_eq_false_iff_ne]; omega
          have HW := Lib.hid hw
          clear hw he hz
          go_wp2_with fail
          go_roundw
          case rel => exact ⟨0, k + 1, Nat.zero_le _, hlt, rfl, by rw [Int.natCast_add]; rfl, HW.out, rfl⟩
          case measure => simp [intOf]; omega
      · rw [if_neg he] at hw
        have hz : ¬ (t[k].toNat : Int) = 47 := by omega
        have HI := Lib.hid (inP_int t[k])
        have HYes : Hid (inP t[k] = true → RnRel t W (.int .i64 ((m : Int) + 1)) (.int .i64 ((k : Int) + 1)) W) := fun hb => by
          rw [hb] at hw
          exact ⟨m + 1, k + 1, by omega, hlt, rfl, rfl, hw, rfl⟩
        have HNo : Hid (inP t[k] = false → namedR s = false) := fun hb => by
          rw [hb] at hw
          rw [HN.out, hw]
          rfl
        have hmb : (m : Int) ≤ 140737488355331 := by omega
        clear hw he
        generalize inP t[k] = I at *
        generalize (t[k].toNat : Int) = z at *
        have hz' : (z == 47) = false := by rw [beq_eq_false_iff_ne]; exact hz
        clear hz
        by_cases h1 : 97 ≤ z
        · by_cases h2 : z ≤ 122
          · have hy := Lib.hid (HYes.out (by rw [HI.out]; simp [h1, h2]))
            clear HYes HNo HI
            go_wp2_with fail
            go_roundw
            case rel => exact hy.out
            case measure => simp [intOf]; omega
          · have h5 : (z == 45) = false := by rw [beq_eq_false_iff_ne]; omega
            have h3 : 48 ≤ z := by omega
            have h4 : ¬ z ≤ 57 := by omega
            have h6 : (z == 95) = false := by rw [beq_eq_false_iff_ne]; omega
            have hno := Lib.hid (HNo.out (by rw [HI.out, h5, h6]; simp [h2, h4]))
            clear HYes HNo HI
            go_wp2_with fail
            go_ret
            exact ⟨by rw [hno.out]; rfl, hB⟩
        · by_cases h3 : 48 ≤ z
          · by_cases h4 : z ≤ 57
            · have hy := Lib.hid (HYes.out (by rw [HI.out]; simp [h3, h4]))
              clear HYes HNo HI
              go_wp2_with fail
              go_roundw
              case rel => exact hy.out
              case measure => simp [intOf]; omega
            · by_cases h6 : z = 95
              · have hy := Lib.hid (HYes.out (by rw [HI.out]; simp [h6]))
                subst h6
                clear HYes HNo HI h1
                go_wp2_with fail
                go_roundw
                case rel => exact hy.out
                case measure => simp [intOf]; omega
              · have h5' : (z == 45) = false := by rw [beq_eq_false_iff_ne]; omega
                have h6' : (z == 95) = false := by rw [beq_eq_false_iff_ne]; exact h6
                have hno := Lib.hid (HNo.out (by rw [HI.out, h5', h6']; simp [h1, h4]))
                clear HYes HNo HI h6
                go_wp2_with fail
                go_ret
                exact ⟨by rw [hno.out]; rfl, hB⟩
          · by_cases h5 : z = 45
            · have hy := Lib.hid (HYes.out (by rw [HI.out]; simp [h5]))
              subst h5
              clear HYes HNo HI
              go_wp2_with fail
              go_roundw
              case rel => exact hy.out
              case measure => simp [intOf]; omega
            · have h5' : (z == 45) = false := by rw [beq_eq_false_iff_ne]; exact h5
              have h6' : (z == 95) = false := by rw [beq_eq_false_iff_ne]; omega
              have hno := Lib.hid (HNo.out (by rw [HI.out, h5', h6']; simp [h1, h3]))
              clear HYes HNo HI h5
              go_wp2_with fail
              go_ret
              exact ⟨by rw [hno.out]; rfl, hB⟩
    · obtain rfl : k = t.size := by omega
      have hj : ¬ ((t.size : Nat) : Int) < (s.size : Int) + 1 := by have := HT.out; omega
      rw [show t.data.toList.drop t.size = [] from List.drop_length] at hw
      have HN2 : Hid (namedR s = decide (s.size ≤ 60)) := by show _ = _; rw [HN.out, hw]; rfl
      clear HN hw
      by_cases h1 : s.size ≤ 60
      · have i1 : (s.size : Int) ≤ 60 := by omega
        go_wp2_with fail
        go_ret
        exact ⟨by rw [HN2.out, decide_eq_true h1]; rfl, hB⟩
      · have i1 : ¬ (s.size : Int) ≤ 60 := by omega
        go_wp2_with fail
        go_ret
        exact ⟨by rw [HN2.out, decide_eq_false h1]; rfl, hB⟩
end Go.Proofs.YtenjnaebhbmfiaaDoor

/- ref.GoodRefs, GetRef, maybe: their contracts. -/
namespace Go.Proofs.YtenjnaebhbmfiaaDoor
open Go.RowKit

theorem leq_no {a b : ByteArray} (h : Op.bytesLess b.toList a.toList = true) : Op.bytesLess a.toList b.toList = false ∧ (a.toList == b.toList) = false := by
  have h1 : ltB b a = true := h
  refine ⟨ltB_asym h1, ?_⟩
  cases hq : (a.toList == b.toList) with
  | false => rfl
  | true => exact absurd ((sameB_iff a b).1 hq).symm (ltB_ne h1)
theorem leq_yes {a b : ByteArray} (h : Op.bytesLess b.toList a.toList = false) (h2 : Op.bytesLess a.toList b.toList = false) : (a.toList == b.toList) = true := by
  rcases ltB_tri a b with k | k | k
  · rw [show ltB a b = false from h2] at k; cases k
  · exact (sameB_iff a b).2 k
  · rw [show ltB b a = false from h] at k; cases k
def GrRel (L : List Rf) (w : World) (b i : Value) (wr : World) : Prop :=
  ∃ (k : Nat) (n : ByteArray), k ≤ L.length ∧ b = .string n ∧ i = .int .i64 (k : Int) ∧ Below w.heap.size w wr ∧ goodLR ⟨#[]⟩ L = goodLR n (L.drop k)
def GtRel (L : List Rf) (n : ByteArray) (w : World) (i : Value) (wr : World) : Prop :=
  ∃ k : Nat, k ≤ L.length ∧ i = .int .i64 (k : Int) ∧ Below w.heap.size w wr ∧ idAt n L = idAt n (L.drop k)
theorem maybe_any (s : ByteArray) (w : World) : Calls Tryd.prog 30 #[.string s] w fun e w' => e = .returned (.bool (isId s)) ∧ w' = w := by
  by_cases h0 : s.size = 0
  · have HI : Hid (isId s = true) := by show _ = _; unfold isId; rw [decide_eq_true h0]; rfl
    have hi : (((s.size : Nat) : Int) == 0) = true := by rw [h0]; rfl
    go_enter Tryd.func30, Tryd.ntmps30
    go_wp2_with fail
    go_ret
    exact ⟨by rw [HI.out]; rfl, rfl⟩
  · have hj : (((s.size : Nat) : Int) == 0) = false := by rw [beq_eq_false_iff_ne]; omega
    by_cases h32 : s.size = 32
    · have HI : Hid (isId s = true) := by show _ = _; unfold isId; rw [decide_eq_true h32, Bool.or_true]
      have hi : (((s.size : Nat) : Int) == 32) = true := by rw [h32]; rfl
      go_enter Tryd.func30, Tryd.ntmps30
      go_wp2_with fail
      go_ret
      exact ⟨by rw [HI.out]; rfl, rfl⟩
    · have HI : Hid (isId s = false) := by show _ = _; unfold isId; rw [decide_eq_false h32, decide_eq_false h0]; rfl
      have hi : (((s.size : Nat) : Int) == 32) = false := by rw [beq_eq_false_iff_ne]; omega
      go_enter Tryd.func30, Tryd.ntmps30
      go_wp2_with fail
      go_ret
      exact ⟨by rw [HI.out]; rfl, rfl⟩
end Go.Proofs.YtenjnaebhbmfiaaDoor
