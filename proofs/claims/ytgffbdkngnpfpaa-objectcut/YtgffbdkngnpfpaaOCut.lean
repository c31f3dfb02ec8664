/- keep.ObjectCut: the walk. -/
import Derived.Test.YtgffbdkngnpfpaaOKeep
namespace Go.Proofs.Ytgffbdkngnpfpaa
open Go.RowKit

theorem cut_bad {o : Ob} (h : encE o = 0) (j : Nat) (hj : j < (encS o).size) : (decO ((encS o).extract 0 j).data.toList).2 ≠ 0 := by
  obtain ⟨h1, h2, h3⟩ := enc_ok h
  intro hc
  have hb := enc_back h
  rw [h3, bs_list] at hb
  rw [h3, bs_size] at hj
  rw [h3, bs_head, bs_list] at hc
  obtain ⟨e1, e2, _⟩ := dec_only hc
  generalize (decO (List.take j (encL o))).1 = o2 at *
  have hm := dec_more e2 ((encL o).drop j) (fun e => by
    have : ((encL o).drop j).length = 0 := by rw [e]; rfl
    rw [List.length_drop] at this
    omega)
  rw [← e1, List.take_append_drop, hb] at hm
  exact hm rfl
theorem more_bad {o : Ob} (h : encE o = 0) : (decO (encS o ++ ⟨#[120]⟩ : ByteArray).data.toList).2 ≠ 0 := by
  obtain ⟨h1, h2, h3⟩ := enc_ok h
  rw [h3, append_list, bs_list]
  exact dec_more h1 _ (by simp)
theorem nonempty {S : ByteArray} (h : 0 < S.size) : S.toList.isEmpty = false := by
  rw [toList_data]
  have e : S.data.toList.length = S.size := rfl
  cases hq : S.data.toList with
  | nil => rw [hq] at e; simp at e; omega
  | cons => rfl

set_option maxRecDepth 100000 in
set_option maxHeartbeats 2000000 in
theorem ObjectCut_any (o : Ob) (p : At) (k : Int) (w : World) (hO : ObIn w w.heap.size o p) :
    Calls Try.prog 6 #[.agg (obArr o p), .int .i64 k] w fun e w' => e = .returned (.bool true) ∧ Below w.heap.size w w' := by
  have h1 := Lib.hid (Bx.start hO)
  have CE := fun W h => Lib.hid (Encode_any o p W h)
  have HZ := fun h => Lib.hid (enc_size (o := o) h)
  have HC := fun h => Lib.hid (fun j => cut_bad (o := o) h j)
  have HM := fun h => Lib.hid (more_bad (o := o) h)
  clear hO
  generalize encS o = S at *
  generalize encE o = E at *
  generalize hA : obArr o p = arr at *
  have HA := Lib.hid hA
  clear hA
  go_enter Try.func6, Try.ntmps6
  go_upto_region 1 with fail
  refine wp_forget (Bx w o p) h1.out ?_
  clear h1
  intro W hW
  have hA := HA.out
  clear HA
  subst hA
  go_wp2_with (refine wpList_load_row rfl 25 _ rfl w.heap.size rfl 25 _ (0, 0) _ hW.1 Try.underlying25 rfl (obInfo o p) ?_)
  have q := (CE W (hW.2.1.mono hW.2.2.size)).out
  (with_reducible refine q.mono ?_)
  clear q CE
  rintro _ W2 ⟨rfl, b2⟩
  have hB := (hW.below b2).2.2
  clear hW b2
  cases hE : E != 0
  case true =>
    clear HC HM HZ
    go_wp2_with fail
    have q := objects_keep W2
    (with_reducible refine q.mono ?_)
    clear q
    rintro _ W3 ⟨rfl, b3⟩
    go_wp2_with fail
    go_ret
    exact ⟨rfl, hB.trans (b3.mono hB.size)⟩
  have hE0 : E = 0 := by simpa using hE
  subst hE0
  obtain ⟨hz1, hz2⟩ := (HZ rfl).out
  have hne := nonempty hz2
  obtain ⟨q1, q2⟩ := pk_in k S.size hz2
  have P := fun W => pick_any k S.size hz2 (by omega) W
  obtain ⟨j, hj⟩ := Int.eq_ofNat_of_zero_le q1
  rw [hj] at P q2
  have HP := Lib.hid P
  have hc := (HC rfl).out j (by omega)
  have hm := (HM rfl).out
  have CD := fun W => Lib.hid (Decode_any (S.extract 0 j) W)
  have CX := fun W => Lib.hid (Decode_any (S ++ ⟨#[120]⟩) W)
  generalize (decO (S.extract 0 j).data.toList).1 = o1 at *
  generalize (decO (S.extract 0 j).data.toList).2 = f1 at *
  generalize (decO (S ++ ⟨#[120]⟩ : ByteArray).data.toList).1 = o2 at *
  generalize (decO (S ++ ⟨#[120]⟩ : ByteArray).data.toList).2 = f2 at *
  have hf1 : (f1 != 0) = true := by simpa using hc
  have hf2 : (f2 != 0) = true := by simpa using hm
  have hjs : j ≤ S.size := by omega
  clear HC HM HZ P hj q1 hc hm hE
  go_wp2_with fail
  have q := objects_keep W2
  (with_reducible refine q.mono ?_)
  clear q
  rintro _ W3 ⟨rfl, b3⟩
  have hB3 := hB.trans (b3.mono hB.size)
  clear hB b3
  go_wp2_with fail
  (with_reducible refine (HP.out _).mono ?_)
  rintro _ _ ⟨rfl, rfl⟩
  go_wp2_with fail
  have q := (CD W3).out
  (with_reducible refine q.mono ?_)
  clear q CD
  rintro _ W4 ⟨p2, rfl, hO2, b4⟩
  have hB4 := hB3.trans (b4.mono hB3.size)
  clear hB3 b4 hO2
  go_upto_region 5 with (refine wpList_store_row rfl 25 _ _ rfl W4.heap.size (obArr o1 p2) rfl rfl 25 zeroO (Arr.new W4 _ _) (obInfo _ _) rfl (obArr_one _ _) ?_)
  refine wp_forget (fun W => Below w.heap.size w W) (below_setRow (hB4.alloc hB4.size _) hB4.size _) ?_
  clear hB4
  generalize W4.heap.size = b at *
  clear W4
  intro W4 hB4
  go_wp2_with fail
  have q := (CX W4).out
  (with_reducible refine q.mono ?_)
  clear q CX
  rintro _ W5 ⟨p3, rfl, hO3, b5⟩
  have hB5 := hB4.trans (b5.mono hB4.size)
  clear hB4 b5 hO3
  go_upto_region 6 with (refine wpList_store_row rfl 25 _ _ rfl W5.heap.size (obArr o2 p3) rfl rfl 25 zeroO (Arr.new W5 _ _) (obInfo _ _) rfl (obArr_one _ _) ?_)
  refine wp_forget (fun W => Below w.heap.size w W) (below_setRow (hB5.alloc hB5.size _) hB5.size _) ?_
  clear hB5
  generalize W5.heap.size = b2 at *
  clear W5
  intro W5 hB5
  go_wp2_with fail
  have q := objects_keep W5
  (with_reducible refine q.mono ?_)
  clear q
  rintro _ W6 ⟨rfl, b6⟩
  go_wp2_with fail
  go_ret
  exact ⟨rfl, hB5.trans (b6.mono hB5.size)⟩
end Go.Proofs.Ytgffbdkngnpfpaa
