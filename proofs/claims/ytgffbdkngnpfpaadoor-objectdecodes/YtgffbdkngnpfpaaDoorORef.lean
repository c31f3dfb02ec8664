/- ref.between, ref.entryName: their contracts. -/
import Derived.Test.YtgffbdkngnpfpaaDoorOMath
import Derived.Laws.IdiomStrings
namespace Go.Proofs.YtgffbdkngnpfpaaDoor
open Go.RowKit

theorem conv_bytes (s : ByteArray) (w : World) : ∃ cap W, (convert 9 88 (.string s)).run Tryd.prog w = .ok (.slice (some ⟨w.heap.size, 0, none⟩) s.size cap) W ∧
    (∀ k, k < s.size → W.cell? ⟨w.heap.size, k, none⟩ = some (.int .u8 (byteAt s k : Int))) ∧ Below w.heap.size w W := by
  refine ⟨_, _, run_bytes_of_string w 9 88 5 s Tryd.underlying9 Tryd.underlying88 Tryd.underlying5, fun k hk => ?_, (Below.refl _ _).drew.alloc (by simp) _⟩
  have hh : (w.drew.alloc (.cells (bytesRow s (grownCap w s.size 0 5)) 5 ((bytesRow s (grownCap w s.size 0 5)).size, (bytesRow s (grownCap w s.size 0 5)).size + 1))).heap[w.heap.size]? = some (.cells (bytesRow s (grownCap w s.size 0 5)) 5 ((bytesRow s (grownCap w s.size 0 5)).size, (bytesRow s (grownCap w s.size 0 5)).size + 1)) := heap_alloc_new w.drew _
  rw [cell_of_row _ _ k _ _ _ hh]
  have hk' : k < s.data.toList.length := hk
  rw [bytesRow_at s _ k hk]
  unfold byteAt
  rw [List.getD_eq_getElem?_getD, List.getElem?_eq_getElem hk']
  rfl
def btwn (lo hi : Nat) (s : ByteArray) : Bool := !hasB (fun b => decide (b < lo) || decide (hi < b)) s
set_option maxRecDepth 100000 in
theorem between_any (s : ByteArray) (lo hi : Nat) (hs : s.size ≤ 281474976710656) (w : World) :
    Calls Tryd.prog 53 #[.string s, .int .u8 (lo : Int), .int .u8 (hi : Int)] w fun e w' => e = .returned (.bool (btwn lo hi s)) ∧ Below w.heap.size w w' := by
  obtain ⟨cap, W, hcv, hcell, hB⟩ := conv_bytes s w
  have HC := Lib.hid hcell
  clear hcell
  unfold btwn
  generalize hp : (fun b => decide (b < lo) || decide (hi < b)) = p at *
  have HP : Hid (∀ b, p b = (decide (b < lo) || decide (hi < b))) := fun b => by rw [← hp]
  clear hp
  go_enter Tryd.func53, Tryd.ntmps53
  go_wp2_with fail
  go_loopw [12] (fun i wr => wr = W ∧ ∃ k : Nat, k ≤ s.size ∧ i = .int .i64 (k : Int) ∧ ∀ j, j < k → p (byteAt s j) = false) (fun i _ => s.size - (intOf i).toNat)
  case atStart => exact ⟨rfl, 0, Nat.zero_le _, rfl, fun j h => by omega⟩
  case round =>
    obtain ⟨rfl, k, hk, rfl, hno⟩ := hrel
    have HNo := Lib.hid hno
    clear hno
    by_cases hlt : k < s.size
    · have g0 := HC.out k hlt
      have hi2 : (k : Int) < s.size := by omega
      have hb := HP.out (byteAt s k)
      have HN2 : Hid (p (byteAt s k) = false → ∀ j, j < k + 1 → p (byteAt s j) = false) := fun h j hj => by
        rcases Nat.lt_or_ge j k with q | q
        · exact HNo.out j q
        · rw [show j = k from by omega]; exact h
      have HY : Hid (p (byteAt s k) = true → hasB p s = true) := fun h => hasB_yes p s k hlt h
      clear HNo
      generalize byteAt s k = x at *
      by_cases h1 : (x : Int) < lo
      · have hy := HY.out (by rw [hb, decide_eq_true (by omega : x < lo)]; rfl)
        have HY2 := Lib.hid hy
        clear hy HN2 HY hb
        go_wp2_with fail
        go_ret
        exact ⟨by rw [HY2.out]; rfl, hB⟩
      · by_cases h2 : (hi : Int) < x
        · have hy := HY.out (by rw [hb, decide_eq_true (by omega : hi < x)]; simp)
          have HY2 := Lib.hid hy
          clear hy HN2 HY hb
          go_wp2_with fail
          go_ret
          exact ⟨by rw [HY2.out]; rfl, hB⟩
        · have HN3 := Lib.hid (HN2.out (by rw [hb, decide_eq_false (by omega : ¬ x < lo), decide_eq_false (by omega : ¬ hi < x)]; rfl))
          clear HN2 HY hb
          go_wp2_with fail
          refine ⟨⟨trivial, k + 1, hlt, by go_num, HN3.out⟩, by simp [intOf]; omega⟩
    · obtain rfl : k = s.size := by omega
      have hi2 : ¬ (s.size : Int) < s.size := by omega
      have hnone := Lib.hid (hasB_no p s HNo.out)
      clear HNo HC HP
      go_wp2_with fail
      go_ret
      exact ⟨by rw [hnone.out]; rfl, hB⟩

def slashP (x : Nat) : Bool := x == 47
theorem barred_parts (s : ByteArray) : hasBarred s = (hasB (fun b => decide (b < 33) || decide (126 < b)) s || hasB slashP s) := by
  unfold hasBarred hasB barredP slashP
  induction s.data.toList with
  | nil => rfl
  | cons b l ih =>
    simp only [List.any_cons, ih]
    generalize decide (b.toNat < 33) = a1
    generalize decide (126 < b.toNat) = a2
    generalize (b.toNat == 47) = a3
    generalize (l.any fun b => decide (b.toNat < 33) || decide (126 < b.toNat)) = a4
    generalize (l.any fun b => b.toNat == 47) = a5
    cases a1 <;> cases a2 <;> cases a3 <;> cases a4 <;> cases a5 <;> rfl
set_option maxRecDepth 100000 in
set_option maxHeartbeats 1000000 in
theorem entryName_any (s : ByteArray) (hs : s.size ≤ 281474976710656) (w : World) :
    Calls Tryd.prog 52 #[.string s] w fun e w' => e = .returned (.bool (nameB s)) ∧ Below w.heap.size w w' := by
  obtain ⟨cap, W, hcv, hcell, hB⟩ := conv_bytes s w
  have HC := Lib.hid hcell
  obtain ⟨R, hR⟩ : ∃ R, R = nameB s := ⟨_, rfl⟩
  rw [← hR]
  unfold nameB nilB eqB at hR
  rw [barred_parts, show (⟨#[46]⟩ : ByteArray).toList = [46] from by rw [toList_data], show (⟨#[46, 46]⟩ : ByteArray).toList = [46, 46] from by rw [toList_data], show (⟨#[]⟩ : ByteArray).toList = [] from by rw [toList_data]] at hR
  have HR := Lib.hid hR
  have CB : Hid (∀ w, Calls Tryd.prog 53 #[.string s, .int .u8 33, .int .u8 126] w fun e w' => e = .returned (.bool (!hasB (fun b => decide (b < 33) || decide (126 < b)) s)) ∧ Below w.heap.size w w') := fun w => between_any s 33 126 hs w
  clear hcell hR
  generalize hasB (fun b => decide (b < 33) || decide (126 < b)) s = z at *
  go_enter Tryd.func52, Tryd.ntmps52
  go_wp2_with fail
  go_loopw [8] (fun i wr => wr = W ∧ ∃ k : Nat, k ≤ s.size ∧ i = .int .i64 (k : Int) ∧ ∀ j, j < k → slashP (byteAt s j) = false) (fun i _ => s.size - (intOf i).toNat)
  case atStart => exact ⟨rfl, 0, Nat.zero_le _, rfl, fun j h => by omega⟩
  case round =>
    obtain ⟨rfl, k, hk, rfl, hno⟩ := hrel
    have HNo := Lib.hid hno
    clear hno
    by_cases hlt : k < s.size
    · have g0 := HC.out k hlt
      have hi2 : (k : Int) < s.size := by omega
      have HN2 : Hid (slashP (byteAt s k) = false → ∀ j, j < k + 1 → slashP (byteAt s j) = false) := fun h j hj => by
        rcases Nat.lt_or_ge j k with q | q
        · exact HNo.out j q
        · rw [show j = k from by omega]; exact h
      have HY : Hid (slashP (byteAt s k) = true → hasB slashP s = true) := fun h => hasB_yes slashP s k hlt h
      clear HNo
      generalize byteAt s k = x at *
      cases h1 : (x : Int) == 47
      · have HN3 := Lib.hid (HN2.out (by unfold slashP; rw [← cast_eq]; exact h1))
        clear HN2 HY HR CB
        go_wp2_with fail
        refine ⟨⟨trivial, k + 1, hlt, by go_num, HN3.out⟩, by simp [intOf]; omega⟩
      · have hy := HY.out (by unfold slashP; rw [← cast_eq]; exact h1)
        have hR := HR.out
        rw [hy] at hR
        have HR2 : Hid (R = false) := by show _ = _; rw [hR]; simp
        clear hy HN2 HY HR CB hR
        go_wp2_with fail
        go_ret
        exact ⟨by rw [HR2.out]; rfl, hB⟩
    · obtain rfl : k = s.size := by omega
      have hi2 : ¬ (s.size : Int) < s.size := by omega
      have hnone := hasB_no slashP s HNo.out
      have hR := HR.out
      rw [hnone] at hR
      clear HNo HC HR hnone hk hlt
      have hlen : s.toList.length = s.size := by rw [toList_data]; rfl
      by_cases h0 : 1 ≤ s.size
      case neg =>
        have he : s.toList = [] := List.eq_nil_of_length_eq_zero (by omega)
        have hi3 : ¬ (1 : Int) ≤ s.size := by omega
        have HR2 : Hid (R = false) := by show _ = _; rw [hR, he]; simp
        clear hR hlen CB
        go_wp2_with fail
        go_ret
        exact ⟨by rw [HR2.out]; rfl, hB⟩
      have hi3 : (1 : Int) ≤ s.size := by omega
      have hnil : (s.toList == []) = false := by
        cases hq : s.toList with
        | nil => rw [hq] at hlen; simp at hlen; omega
        | cons => rfl
      rw [hnil] at hR
      clear hnil hlen
      by_cases h1 : s.size ≤ 60
      case neg =>
        have hi4 : ¬ (s.size : Int) ≤ 60 := by omega
        have HR2 : Hid (R = false) := by show _ = _; rw [hR, decide_eq_true (by omega : 60 < s.size)]; simp
        clear hR CB
        go_wp2_with fail
        go_ret
        exact ⟨by rw [HR2.out]; rfl, hB⟩
      have hi4 : (s.size : Int) ≤ 60 := by omega
      rw [decide_eq_false (by omega : ¬ 60 < s.size)] at hR
      have HR3 := Lib.hid hR
      clear hR
      go_wp2_with fail
      have c := CB.out wr
      (with_reducible refine c.mono ?_)
      clear c CB
      rintro _ W2 ⟨rfl, b2⟩
      have hB2 := hB.trans (b2.mono hB.size)
      clear hB b2
      cases z
      case true =>
        have HR2 : Hid (R = false) := by show _ = _; rw [HR3.out]; simp
        clear HR3
        go_wp2_with fail
        go_ret
        exact ⟨by rw [HR2.out]; rfl, hB2⟩
      cases h3 : s.toList == [46]
      case true =>
        have HR2 : Hid (R = false) := by show _ = _; rw [HR3.out, h3]; simp
        clear HR3
        go_wp2_with fail
        go_ret
        exact ⟨by rw [HR2.out]; rfl, hB2⟩
      cases h4 : s.toList == [46, 46]
      case true =>
        have HR2 : Hid (R = false) := by show _ = _; rw [HR3.out, h4]; simp
        clear HR3
        go_wp2_with fail
        go_ret
        exact ⟨by rw [HR2.out]; rfl, hB2⟩
      have HR2 : Hid (R = true) := by show _ = _; rw [HR3.out, h3, h4]; rfl
      clear HR3
      go_wp2_with fail
      go_ret
      exact ⟨by rw [HR2.out]; rfl, hB2⟩
theorem between_zero (s : ByteArray) (hs : s.size ≤ 281474976710656) (w : World) :
    Calls Tryd.prog 53 #[.string s, .int .u8 1, .int .u8 255] w fun e w' => e = .returned (.bool (!hasZero s)) ∧ Below w.heap.size w w' := by
  have q := between_any s 1 255 hs w
  have e : btwn 1 255 s = !hasZero s := by
    unfold btwn hasZero hasB
    congr 2
    funext b
    have hb := b.toNat_lt
    unfold zeroP
    simp only
    rw [decide_eq_false (by omega : ¬ 255 < b.toNat), Bool.or_false, Bool.eq_iff_iff]
    simp
  rw [e] at q
  exact q
end Go.Proofs.YtgffbdkngnpfpaaDoor
