/- Package object: what is wrong with an object: the parts of Good. -/
import Derived.Test.YtgffbdkngnpfpaaOMem
import Derived.Test.YtgffbdkngnpfpaaWDone
namespace Go.Proofs.Ytgffbdkngnpfpaa
open Go.RowKit

theorem isKind_any (k : Int) (w : World) : Calls Try.prog 25 #[.int .i64 k] w fun e w' => e = .returned (.bool (kindB k)) ∧ w = w' := by
  unfold kindB
  cases h1 : k == 1 <;> cases h2 : k == 2 <;> cases h3 : k == 3
  all_goals
    go_enter Try.func25, Try.ntmps25
    go_wp2_with fail
    go_ret
    refine ⟨?_, rfl⟩
    first | rfl | (simp_all; done)
theorem isId_any (s : ByteArray) (w : World) : Calls Try.prog 29 #[.string s] w fun e w' => e = .returned (.bool (idB s)) ∧ w = w' := by
  go_enter Try.func29, Try.ntmps29
  go_wp2_with fail
  go_ret
  refine ⟨?_, rfl⟩
  unfold idB
  rw [← cast_eq]
  rfl
set_option maxRecDepth 100000 in
theorem goodName_any (s : ByteArray) (w : World) : Calls Try.prog 46 #[.string s] w fun e w' => e = .returned (.bool (nameB s)) ∧ Below w.heap.size w w' := by
  obtain ⟨B, hB⟩ : ∃ B, B = nameB s := ⟨_, rfl⟩
  rw [← hB]
  unfold nameB nilB eqB at hB
  rw [show (⟨#[46]⟩ : ByteArray).toList = [46] from by rw [toList_data], show (⟨#[46, 46]⟩ : ByteArray).toList = [46, 46] from by rw [toList_data], show (⟨#[]⟩ : ByteArray).toList = [] from by rw [toList_data]] at hB
  cases h0 : s.toList.isEmpty
  case true =>
    obtain rfl : B = false := by rw [hB, List.isEmpty_iff.1 h0]; simp
    clear hB
    go_enter Try.func46, Try.ntmps46
    go_wp2_with fail
    go_ret
    exact ⟨rfl, Below.refl _ _⟩
  by_cases h1 : 60 < s.size
  · have h2 : (60 : Int) < s.size := by omega
    obtain rfl : B = false := by rw [hB, decide_eq_true h1]; simp
    clear hB
    go_enter Try.func46, Try.ntmps46
    go_wp2_with fail
    go_ret
    exact ⟨rfl, Below.refl _ _⟩
  have h2 : ¬ (60 : Int) < s.size := by omega
  cases h3 : s.toList == [46]
  case true =>
    obtain rfl : B = false := by rw [hB, h3]; simp
    clear hB
    go_enter Try.func46, Try.ntmps46
    go_wp2_with fail
    go_ret
    exact ⟨rfl, Below.refl _ _⟩
  cases h4 : s.toList == [46, 46]
  case true =>
    obtain rfl : B = false := by rw [hB, h4]; simp
    clear hB
    go_enter Try.func46, Try.ntmps46
    go_wp2_with fail
    go_ret
    exact ⟨rfl, Below.refl _ _⟩
  have hB2 : Hid (B = !hasBarred s) := by
    show _ = _
    rw [hB, h3, h4, decide_eq_false h1, beq_eq_false_iff_ne.2 (fun e => by rw [e] at h0; cases h0)]
    simp
  clear hB
  have C := Lib.hid (barred_any s)
  generalize hasBarred s = z at *
  go_enter Try.func46, Try.ntmps46
  go_wp2_with fail
  (with_reducible refine (C.out w).mono ?_)
  rintro _ w1 ⟨rfl, b1⟩
  go_wp2_with fail
  go_ret
  exact ⟨by rw [hB2.out]; rfl, b1⟩

def IxRel (T : List ByteArray) (x : ByteArray) (i : Value) : Prop := ∃ k : Nat, k ≤ T.length ∧ i = .int .i64 (k : Int) ∧ (T.take k).any (eqB x) = false
set_option maxRecDepth 100000 in
theorem Index_any (T : List ByteArray) (hl : T.length ≤ 4) (A : Option Addr) (c : Nat) (x : ByteArray) (w : World) (hP : Txs w w.heap.size A T) :
    Calls Try.prog 59 #[.slice A T.length c, .string x] w fun e w' => (∃ n : Int, e = .returned (.int .i64 n) ∧ decide (0 ≤ n) = T.any (eqB x)) ∧ Below w.heap.size w w' := by
  go_enter Try.func59, Try.ntmps59
  go_wp2_with fail
  go_loopw [8] (fun i wr => IxRel T x i ∧ Below w.heap.size w wr) (fun i _ => T.length - (intOf i).toNat)
  case atStart => exact ⟨⟨0, Nat.zero_le _, rfl, rfl⟩, Below.refl _ _⟩
  case round =>
    obtain ⟨⟨k, hk, rfl, hno⟩, hB⟩ := hrel
    by_cases hlt : k < T.length
    · obtain ⟨ad, rfl, hbl, h0⟩ := hP k T[k] (List.getElem?_eq_getElem hlt)
      have g0 := (hB.cell hbl).trans h0
      have e1 : Hid (T.take (k + 1) = T.take k ++ [T[k]]) := List.take_succ_eq_append_getElem hlt
      have hin : T[k] ∈ T := List.getElem_mem hlt
      have hi : (k : Int) < T.length := by omega
      clear h0 hP
      generalize T[k] = y at *
      cases hq : x.toList == y.toList
      case true =>
        have hyes : Hid (T.any (eqB x) = true) := by show _ = _; rw [List.any_eq_true]; exact ⟨y, hin, hq⟩
        clear hno hin
        go_wp2_with fail
        go_ret
        exact ⟨⟨_, rfl, by rw [hyes.out]; simp⟩, hB⟩
      have hno2 : Hid ((T.take (k + 1)).any (eqB x) = false) := by show _ = _; rw [e1.out, List.any_append, hno]; simp [eqB, hq]
      clear hno hin
      go_wp2_with fail
      refine ⟨⟨⟨k + 1, hlt, by go_num, hno2.out⟩, hB⟩, by simp [intOf]; omega⟩
    · obtain rfl : k = T.length := by omega
      rw [List.take_length] at hno
      have Hno := Lib.hid hno
      have hi : ¬ (T.length : Int) < T.length := by omega
      clear hP hno
      go_wp2_with fail
      go_ret
      exact ⟨⟨_, rfl, by rw [Hno.out]; rfl⟩, hB⟩
theorem Contains_any (T : List ByteArray) (hl : T.length ≤ 4) (A : Option Addr) (c : Nat) (x : ByteArray) (w : World) (hP : Txs w w.heap.size A T) :
    Calls Try.prog 47 #[.slice A T.length c, .string x] w fun e w' => e = .returned (.bool (T.any (eqB x))) ∧ Below w.heap.size w w' := by
  have C := Lib.hid (Index_any T hl A c x w hP)
  clear hP
  go_enter Try.func47, Try.ntmps47
  go_wp2_with fail
  (with_reducible refine C.out.mono ?_)
  rintro _ w1 ⟨⟨n, rfl, hn⟩, b1⟩
  have Hn := Lib.hid hn
  clear hn
  go_wp2_with fail
  go_ret
  exact ⟨by rw [← Hn.out]; rfl, b1⟩
end Go.Proofs.Ytgffbdkngnpfpaa
