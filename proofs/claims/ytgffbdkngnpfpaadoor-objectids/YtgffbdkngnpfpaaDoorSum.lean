/- sum.Begin and sum.Sum: their contracts. -/
import Derived.Test.YtgffbdkngnpfpaaDoorAbs
namespace Go.Proofs.YtgffbdkngnpfpaaDoor
open Go.RowKit

set_option maxRecDepth 100000 in
set_option maxHeartbeats 1000000 in
theorem Begin_any (w : World) :
    Calls Tryd.prog 37 #[] w fun e w' => e = .returned (.agg (sarr startH ⟨#[]⟩ ((0 : Nat) : Int))) ∧ Below w.heap.size w w' := by
  go_enter Tryd.func37, Tryd.ntmps37
  go_wp2
  have e : (#[Value.int .u32 1779033703, Value.int .u32 3144134277, Value.int .u32 1013904242, Value.int .u32 2773480762, Value.int .u32 1359893119, Value.int .u32 2600822924, Value.int .u32 528734635, Value.int .u32 1541459225, Value.string { data := #[] }, Value.int .i64 0] : Array Value) = sarr startH ⟨#[]⟩ ((0 : Nat) : Int) := rfl
  rw [e]
  refine bodyPost_ret (v := .agg (sarr startH ⟨#[]⟩ ((0 : Nat) : Int))) ?_ rfl ⟨rfl, (Below.refl _ _).alloc (Nat.le_refl _) _⟩
  exact results_cell_row Tryd.results37 _ _ w.heap.size 66 _ (0, 0) _ rfl (Arr.new w _ _) Tryd.underlying66 rfl (infoS _ rfl _ _)

/-- A state as a value. -/
def stv (hs : List UInt32) (r : List UInt8) (m : Nat) : Value := .agg (sarr hs (bs r) (m : Int))
theorem Begin_stv (w : World) : Calls Tryd.prog 37 #[] w fun e w' => e = .returned (stv startH [] 0) ∧ Below w.heap.size w w' := Begin_any w
theorem absorb_stv (hs : List UInt32) (h8 : hs.length = 8) (r : List UInt8) (b : ByteArray) (m : Nat) (hm : m + b.size < 1152921504606846976) (hr : r.length < 64) (w : World) (ht : Tab w) :
    Calls Tryd.prog 36 #[stv hs r m, .string b] w
      fun e w' => e = .returned (stv (blocks hs (r ++ b.data.toList)) (restOf (r ++ b.data.toList)) (m + b.size)) ∧ Below w.heap.size w w' := by
  have h := absorb_any hs h8 (bs r) b m hm (by rw [bs_size]; exact hr) w ht
  rw [bs_list] at h
  exact h
theorem finish_stv (hs : List UInt32) (h8 : hs.length = 8) (r : List UInt8) (m : Nat) (hm : m < 1152921504606846976) (hr : r.length < 64) (w : World) (ht : Tab w) :
    Calls Tryd.prog 35 #[stv hs r m] w
      fun e w' => e = .returned (.string (bs (shaFrom hs r m))) ∧ Below w.heap.size w w' := by
  have h := finish_any hs h8 (bs r) m hm (by rw [bs_size]; exact hr) w ht
  rw [bs_list] at h
  exact h

set_option maxHeartbeats 1000000 in
theorem Sum_any (b : ByteArray) (hb : b.size < 1152921504606846976) (w : World) (ht : Tab w) :
    Calls Tryd.prog 14 #[.string b] w fun e w' => e = .returned (.string (bs (sha b.data.toList))) ∧ Below w.heap.size w w' := by
  have h8 := Lib.hid (blocks_len8 startH ([] ++ b.data.toList) rfl)
  have hr := Lib.hid (restOf_length ([] ++ b.data.toList))
  have hm : ([] ++ b.data.toList).length % 64 < 64 := Nat.mod_lt _ (by omega)
  go_enter Tryd.func14, Tryd.ntmps14
  go_wp2_with fail
  (with_reducible refine (Begin_stv _).mono ?_)
  rintro e w1 ⟨rfl, b1⟩
  have t1 := ht.below b1 ht.1
  go_wp2_with fail
  (with_reducible refine (absorb_stv startH rfl [] b 0 (by omega) (by decide) _ t1).mono ?_)
  rintro e w2 ⟨rfl, b2⟩
  have t2 := t1.below b2 t1.1
  generalize hX : blocks startH ([] ++ b.data.toList) = X at *
  generalize hY : restOf ([] ++ b.data.toList) = Y at *
  have HE : Hid (bs (sha b.data.toList) = bs (shaFrom X Y (0 + b.size))) := by
    show _ = _
    rw [← hX, ← hY, Nat.zero_add]
    rfl
  have hYl : Y.length < 64 := by rw [hr.out]; exact hm
  clear hX hY hm hr
  have hn : 0 + b.size < 1152921504606846976 := by omega
  generalize 0 + b.size = n at *
  go_wp2_with fail
  (with_reducible refine (finish_stv X h8.out Y n hn hYl _ t2).mono ?_)
  rintro e w3 ⟨rfl, b3⟩
  go_wp2_with fail
  go_ret
  refine ⟨?_, (b1.trans (b2.mono b1.size)).trans (b3.mono (Nat.le_trans b1.size b2.size))⟩
  rw [HE.out]
  rfl
end Go.Proofs.YtgffbdkngnpfpaaDoor
