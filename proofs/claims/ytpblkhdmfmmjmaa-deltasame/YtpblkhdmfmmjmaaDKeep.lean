/- keep.DeltaBack, keep.DeltaSame: the walks. -/
import Derived.Test.YtpblkhdmfmmjmaaDMake
import Derived.Test.YtpblkhdmfmmjmaaDLaw
namespace Go.Proofs.Ytpblkhdmfmmjmaa
open Go.RowKit

set_option maxRecDepth 100000 in
set_option maxHeartbeats 2000000 in
theorem DeltaBack_any (b t : ByteArray) (hb : b.size ≤ 140737488355328) (ht : t.size ≤ 140737488355328) (w : World) :
    Calls Try.prog 4 #[.string b, .string t] w fun e w' => e = .returned (.bool true) ∧ Below w.heap.size w w' := by
  by_cases hl : 8192 < b.size ∨ 8192 < t.size
  · have q := Make_long b t hl (by omega) (by omega) w
    by_cases hl1 : 8192 < b.size
    · have i1 : (8192 : Int) < b.size := by omega
      clear hl
      go_enter Try.func4, Try.ntmps4
      go_wp2_with fail
      (with_reducible refine q.mono ?_)
      clear q
      rintro _ w1 ⟨rfl, b1⟩
      have q := keepDeltas_any w1
      go_wp2_with fail
      (with_reducible refine q.mono ?_)
      clear q
      rintro _ w2 ⟨rfl, b2⟩
      go_wp2_with fail
      go_ret
      exact ⟨rfl, b1.trans (b2.mono b1.size)⟩
    · have i1 : ¬ (8192 : Int) < b.size := by omega
      have i2 : (8192 : Int) < t.size := by omega
      clear hl
      go_enter Try.func4, Try.ntmps4
      go_wp2_with fail
      (with_reducible refine q.mono ?_)
      clear q
      rintro _ w1 ⟨rfl, b1⟩
      have q := keepDeltas_any w1
      go_wp2_with fail
      (with_reducible refine q.mono ?_)
      clear q
      rintro _ w2 ⟨rfl, b2⟩
      go_wp2_with fail
      go_ret
      exact ⟨rfl, b1.trans (b2.mono b1.size)⟩
  · have hb2 : b.size ≤ 8192 := by omega
    have ht2 : t.size ≤ 8192 := by omega
    clear hl hb ht
    have q := Make_ok b t hb2 ht2 w
    go_enter Try.func4, Try.ntmps4
    go_wp2_with fail
    (with_reducible refine q.mono ?_)
    clear q
    rintro _ w1 ⟨L, rfl, z1, z2, z3, z4, b1⟩
    have hD := delta_len b.size t.size hb2 ht2 L
    have q1 := fun W => Apply_l b (delta b.size t.size L) (by omega) (by omega) W
    have e1 := apply_delta b.data.toList t.data.toList hb2 ht2 L z1 z2
    rw [list_len, list_len] at e1
    rw [e1] at q1
    have e3 : (b ++ (⟨#[120]⟩ : ByteArray)).data.toList.length = b.size + 1 := by rw [append_list, List.length_append]; rfl
    have e4 : (b ++ (⟨#[120]⟩ : ByteArray)).size = b.size + 1 := e3
    have q2 := fun W => Apply_l (b ++ ⟨#[120]⟩) (delta b.size t.size L) (by omega) (by omega) W
    rw [apply_other _ b.size t.size hb2 ht2 (by omega) L] at q2
    simp only [bs_of] at q1 q2
    have hDs : ((bs (delta b.size t.size L)).size : Int) ≤ (t.size : Int) + 8 := by rw [bs_size]; omega
    clear e1 e3 e4 z1 z2 z3 z4 hD
    generalize bs (delta b.size t.size L) = D at *
    go_wp2_with fail
    (with_reducible refine (q1 w1).mono ?_)
    clear q1
    rintro _ w2 ⟨rfl, b2⟩
    have B2 := b1.trans (b2.mono b1.size)
    clear b1 b2
    go_wp2_with fail
    (with_reducible refine (q2 w2).mono ?_)
    clear q2
    rintro _ w3 ⟨rfl, b3⟩
    have B3 := B2.trans (b3.mono B2.size)
    clear B2 b3
    have q := keepDeltas_any w3
    go_wp2_with fail
    (with_reducible refine q.mono ?_)
    clear q
    rintro _ w4 ⟨rfl, b4⟩
    go_wp2_with fail
    go_ret
    exact ⟨rfl, B3.trans (b4.mono B3.size)⟩

set_option maxRecDepth 100000 in
set_option maxHeartbeats 2000000 in
theorem DeltaSame_any (b m : ByteArray) (hb : b.size ≤ 140737488355328) (hm : m.size ≤ 140737488355328) (w : World) :
    Calls Try.prog 5 #[.string b, .string m] w fun e w' => e = .returned (.bool true) ∧ Below w.heap.size w w' := by
  have q := keepDeltas_any w
  by_cases h1 : 8192 < b.size + m.size
  · have i1 : (8192 : Int) < (b.size : Int) + m.size := by omega
    go_enter Try.func5, Try.ntmps5
    go_wp2_with fail
    (with_reducible refine q.mono ?_)
    clear q
    rintro _ w2 ⟨rfl, b2⟩
    go_wp2_with fail
    go_ret
    exact ⟨rfl, b2⟩
  · have i1 : ¬ (8192 : Int) < (b.size : Int) + m.size := by omega
    by_cases h2 : b.size < 16
    · have i2 : (b.size : Int) < 16 := by omega
      go_enter Try.func5, Try.ntmps5
      go_wp2_with fail
      (with_reducible refine q.mono ?_)
      clear q
      rintro _ w2 ⟨rfl, b2⟩
      go_wp2_with fail
      go_ret
      exact ⟨rfl, b2⟩
    · have i2 : ¬ (b.size : Int) < 16 := by omega
      clear q hb hm
      have hts : (b ++ m).size = b.size + m.size := ByteArray.size_append
      have q := Make_ok b (b ++ m) (by omega) (by omega) w
      have hP : Hid (Pre b.data.toList (b ++ m).data.toList) := Lib.hid (by
        rw [append_list]
        refine ⟨by rw [list_len]; omega, by rw [List.length_append]; omega, ?_⟩
        rw [List.take_left']
        rfl)
      go_enter Try.func5, Try.ntmps5
      go_wp2_with fail
      (with_reducible refine q.mono ?_)
      clear q
      rintro _ w1 ⟨L, rfl, z1, z2, z3, z4, b1⟩
      have hL := z4 hP.out
      have hD := delta_len b.size (b ++ m).size (by omega) (by omega) L
      have hDs : ((bs (delta b.size (b ++ m).size L)).size : Int) ≤ (m.size : Int) + 20 := by rw [bs_size]; omega
      clear z1 z2 z3 z4 hD hL hP hts
      generalize bs (delta b.size (b ++ m).size L) = D at *
      have q := keepDeltas_any w1
      go_wp2_with fail
      (with_reducible refine q.mono ?_)
      clear q
      rintro _ w2 ⟨rfl, b2⟩
      go_wp2_with fail
      go_ret
      exact ⟨rfl, b1.trans (b2.mono b1.size)⟩
end Go.Proofs.Ytpblkhdmfmmjmaa
