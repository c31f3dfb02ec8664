/- ref.turned, ref.Check: their contracts. -/
import Derived.Test.YtlokfeoihnlkkaaDoorMkUp
import Derived.Test.YtlokfeoihnlkkaaDoorMkBend
namespace Go.Proofs.YtlokfeoihnlkkaaDoor
open Go.RowKit

/-- where the turning stands: what is behind place i is turned -/
def TuRel (T : List ByteArray) (w : World) (v i : Value) (wr : World) : Prop :=
  ∃ k : Nat, i = .int .i64 ((k : Int) - 1) ∧ k ≤ T.length ∧ TRow wr w.heap.size v (T.drop k).reverse ∧ Below w.heap.size w wr
theorem drop_rev {T : List ByteArray} {k : Nat} (h : k < T.length) : (T.drop k).reverse = (T.drop (k + 1)).reverse ++ [T[k]] := by
  rw [List.drop_eq_getElem_cons h, List.reverse_cons]
set_option maxRecDepth 100000 in
set_option maxHeartbeats 1000000 in
theorem turned_any (T : List ByteArray) (hl : T.length ≤ 1000) (A : Option Addr) (c : Nat) (w : World) (hT : Txs w w.heap.size A T) :
    Calls Tryd.prog 21 #[.slice A T.length c] w (REnd w T.reverse) := by
  have h1 : Hid (TuRel T w (.slice none 0 0) (.int .i64 ((T.length : Int) - 1)) w) := ⟨T.length, rfl, Nat.le_refl _, by rw [List.drop_length]; exact TRow.nil _ _, Below.refl _ _⟩
  go_enter Tryd.func21, Tryd.ntmps21
  go_wp2_with fail
  go_loopw [3, 4] (fun v i wr => TuRel T w v i wr) (fun _ i _ => (intOf i + 1).toNat)
  case atStart => exact h1.out
  case round =>
    clear h1
    obtain ⟨k, rfl, hk, hR, hB⟩ := hrel
    by_cases hlt : 0 < k
    · have hk2 : k - 1 < T.length := by omega
      have hx : T[k - 1]? = some T[k - 1] := List.getElem?_eq_getElem hk2
      obtain ⟨ad, rfl, hbl, h0⟩ := hT _ _ hx
      have HD := Lib.hid (drop_rev hk2)
      rw [show k - 1 + 1 = k from by omega] at HD
      have g0 := (hB.cell hbl).trans h0
      have hlD : (T.drop k).reverse.length ≤ 1000 := by rw [List.length_reverse, List.length_drop]; omega
      clear h0 hx
      generalize T[k - 1] = x at *
      generalize (T.drop k).reverse = D at *
      obtain ⟨j, rfl⟩ : ∃ j, k = j + 1 := ⟨k - 1, by omega⟩
      rw [show j + 1 - 1 = j from by omega] at g0 HD hk2
      have hj : (((j + 1 : Nat) : Int) - 1) = (j : Int) := by omega
      rw [hj]
      clear hj
      have hj0 : (0 : Int) ≤ j := by omega
      have hj1 : (j : Int) < T.length := by omega
      have hR2 := hR.new x
      have B2 := Lib.hid (hB.trans ((new_below wr x).mono hB.size))
      clear hlt
      go_wp2_with (at_builtin; refine wpList_app_keep rfl _ _ rfl w.heap.size _ D rfl hR2 ⟨wr.heap.size, 0, none⟩ 1 x rfl (new_cell wr x) (by omega) B2.out.size ?_)
      intro v3 w3 own3 old3 g3
      have B3 := Lib.hid (row_below hR2 (Nat.le_refl _) B2.out g3)
      clear old3 g3
      go_wp2_with fail
      refine ⟨⟨j, rfl, by omega, by rw [HD.out]; exact own3, B3.out⟩, by simp [intOf]⟩
    · obtain rfl : k = 0 := by omega
      rw [List.drop_zero] at hR
      have hj : (((0 : Nat) : Int) - 1) = -1 := by omega
      rw [hj]
      clear hj
      go_wp2_with fail
      go_ret
      exact ⟨_, rfl, hR, hB⟩
end Go.Proofs.YtlokfeoihnlkkaaDoor
