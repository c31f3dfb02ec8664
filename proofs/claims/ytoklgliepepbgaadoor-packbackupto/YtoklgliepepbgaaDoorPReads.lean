/- law.PackReads, keep.PackThin: the walks. -/
import Derived.Test.YtoklgliepepbgaaDoorORef
import Derived.Test.YtoklgliepepbgaaDoorPRefRead
import Derived.Test.YtoklgliepepbgaaDoorORefSame
namespace Go.Proofs.YtoklgliepepbgaaDoor
open Go.RowKit

theorem unP_len (O : List ByteArray) : ∀ (n : Nat) (T : List ByteArray) (D : List Nat) (l : List UInt8) (T' : List ByteArray) (r : List UInt8), unP O n T D l = .ok (T', r) → T'.length = T.length + n
  | 0, T, D, l, T', r, h => by
    rw [unP] at h
    cases h
    rfl
  | n + 1, T, D, l, T', r, h => by
    rw [unP] at h
    cases ho : objP O T D l with
    | error e => rw [ho] at h; cases h
    | ok y =>
      obtain ⟨s, d, q⟩ := y
      rw [ho] at h
      simp only at h
      split at h
      · cases h
      · have := unP_len O n _ _ _ _ _ h
        rw [List.length_append, List.length_singleton] at this
        omega
theorem readP_len (b : List UInt8) (O : List ByteArray) : (readP b O).1.length ≤ 400 := by
  unfold readP
  split
  · exact Nat.zero_le _
  split
  · exact Nat.zero_le _
  unfold bodyP
  split
  · exact Nat.zero_le _
  · rename_i n r _
    split
    · exact Nat.zero_le _
    · rename_i hn
      cases hu : unP O n [] [] r with
      | error e => exact Nat.zero_le _
      | ok y =>
        obtain ⟨T, q⟩ := y
        simp only
        split
        · have := unP_len O n [] [] r T q hu
          rw [List.length_nil] at this
          show T.length ≤ 400
          omega
        · exact Nat.zero_le _

set_option maxRecDepth 100000 in
set_option maxHeartbeats 1000000 in
theorem PackReads_any (b : ByteArray) (O : List ByteArray) (oA : Option Addr) (oc : Nat) (w : World) (hb : b.size ≤ 140737488355328) (hO : Txs w w.heap.size oA O) (hz : ∀ x ∈ O, x.size ≤ 140737488355328) (hl : O.length ≤ 140737488355328) (ht : Tab w) :
    Calls Tryd.prog 3 #[.string b, .slice oA O.length oc] w fun e w' => e = .returned (.bool true) ∧ Below w.heap.size w w' := by
  by_cases h4 : 400 < O.length
  · have hi : (400 : Int) < O.length := by omega
    have q := Lib.hid (packs_law w ht)
    go_enter Tryd.func3, Tryd.ntmps3
    go_wp2_with fail
    (with_reducible refine q.out.mono ?_)
    clear q
    rintro _ w1 ⟨rfl, b1⟩
    go_wp2_with fail
    go_ret
    exact ⟨rfl, b1⟩
  have hi : ¬ (400 : Int) < O.length := by omega
  have q := Lib.hid (strings_law O oA oc w hO (by omega))
  have hlen := readP_len b.data.toList O
  have C1 := fun W A c h t => Lib.hid (Read_pack b O A c W hb h hz (by omega) t)
  have C2 := fun W h => Lib.hid (ReadPack_any b O oA oc W hb h hz (by omega))
  have CS := fun (W : World) (A A' : Option Addr) (c c' : Nat) h1 h2 => Lib.hid (RefStrings_any (readP b.data.toList O).1 (readP b.data.toList O).1 (by omega) (by omega) A A' c c' W h1 h2)
  generalize readP b.data.toList O = R at *
  obtain ⟨T, E⟩ := R
  simp only at hlen CS
  simp only [decide_true] at CS
  go_enter Tryd.func3, Tryd.ntmps3
  go_wp2_with fail
  (with_reducible refine q.out.mono ?_)
  clear q
  rintro _ w1 ⟨A1, c1, rfl, t1, b1⟩
  have ht1 := ht.below b1 ht.1
  go_wp2_with fail
  (with_reducible refine (C1 w1 A1 c1 t1 ht1).out.mono ?_)
  clear C1
  rintro _ w2 ⟨A2, c2, rfl, hc2, t2, b2⟩
  have bel2 := b1.trans (b2.mono b1.size)
  have ht2 := ht1.below b2 ht1.1
  clear b1 b2 t1 ht1
  go_wp2_with fail
  (with_reducible refine (C2 w2 ((hO.below bel2).mono bel2.size)).out.mono ?_)
  clear C2
  rintro _ w3 ⟨A3, c3, rfl, hc3, t3, b3⟩
  have t2' := (t2.below b3).mono b3.size
  have bel3 := bel2.trans (b3.mono bel2.size)
  have ht3 := ht2.below b3 ht2.1
  clear bel2 ht2 t2 b3
  simp only
  go_wp2_with fail
  (with_reducible refine (CS w3 A2 A3 c2 c3 t2' t3).out.mono ?_)
  clear CS
  rintro _ w4 ⟨rfl, b4⟩
  have bel4 := bel3.trans (b4.mono bel3.size)
  have ht4 := ht3.below b4 ht3.1
  clear bel3 ht3 b4 t2' t3
  go_wp2_with fail
  (with_reducible refine (packs_law w4 ht4).mono ?_)
  rintro _ w5 ⟨rfl, b5⟩
  go_wp2_with fail
  go_ret
  exact ⟨rfl, bel4.trans (b5.mono bel4.size)⟩

set_option maxRecDepth 100000 in
set_option maxHeartbeats 1000000 in
theorem PackThin_any (l O : List ByteArray) (lA oA : Option Addr) (lcp oc : Nat) (w : World) (hlx : Txs w w.heap.size lA l) (hO : Txs w w.heap.size oA O) (hz : ∀ x ∈ O, x.size ≤ 140737488355328) (hll : l.length ≤ 140737488355328) (hol : O.length ≤ 140737488355328) (ht : Tab w) :
    Calls Tryd.prog 7 #[.slice lA l.length lcp, .slice oA O.length oc] w fun e w' => e = .returned (.bool true) ∧ Below w.heap.size w w' := by
  have q := Lib.hid (Write_any l O lA oA lcp oc w hlx hO hz hll hol ht)
  by_cases hm : mayP l O = 0
  case neg =>
    have hm' : (mayP l O != 0) = true := by simpa using hm
    go_enter Tryd.func7, Tryd.ntmps7
    go_wp2_with fail
    (with_reducible refine q.out.mono ?_)
    clear q
    intro x w1 hx
    unfold WEnd WEndR at hx
    rw [if_pos hm] at hx
    obtain ⟨rfl, b1⟩ := hx
    generalize mayP l O = e at *
    have ht1 := ht.below b1 ht.1
    go_wp2_with fail
    (with_reducible refine (packs_keep w1 ht1).mono ?_)
    rintro _ w2 ⟨rfl, b2⟩
    go_wp2_with fail
    go_ret
    exact ⟨rfl, b1.trans (b2.mono b1.size)⟩
  obtain ⟨ha, hn4, ho4⟩ := addOk_may hm
  go_enter Tryd.func7, Tryd.ntmps7
  go_wp2_with fail
  (with_reducible refine q.out.mono ?_)
  clear q
  intro x w1 hx
  unfold WEnd WEndR at hx
  rw [hm, if_neg (by simp)] at hx
  obtain ⟨⟨D, b, hP, hzl, rfl⟩, b1⟩ := hx
  have hfl := front_len hP hzl hn4
  have hbl := bulk_le _ hzl
  have hth := read_thin hP ha hzl hn4
  have ht1 := ht.below b1 ht.1
  have C1 : Hid (Calls Tryd.prog 9 #[.string (bs (front l.length b ++ sha (front l.length b))), .slice none 0 0] w1 (PkEnd w1 (readP (bs (front l.length b ++ sha (front l.length b))).data.toList []))) :=
    Read_pack (bs (front l.length b ++ sha (front l.length b))) [] none 0 w1 (by rw [bs_size]; omega) (Txs.nil _ _ _) (fun x hx => by cases hx) (by simp) ht1
  rw [bs_list] at C1
  have HTh := Lib.hid hth
  clear hm ha hth hfl
  generalize readP (front l.length b ++ sha (front l.length b)) [] = R at *
  generalize bs (front l.length b ++ sha (front l.length b)) = S at *
  go_wp2_with fail
  (with_reducible refine C1.out.mono ?_)
  clear C1
  rintro _ w2 ⟨A2, c2, rfl, hc2, t2, b2⟩
  have bel2 := b1.trans (b2.mono b1.size)
  have ht2 := ht1.below b2 ht1.1
  rcases HTh.out with rfl | ⟨rfl, hne⟩
  · have CS := Lib.hid (keepStrings_any l l (by omega) (by omega) A2 lA c2 lcp w2 t2 ((hlx.below bel2).mono bel2.size))
    simp only [decide_true] at CS
    simp only
    clear HTh b1 b2 ht1
    go_wp2_with fail
    (with_reducible refine CS.out.mono ?_)
    clear CS
    rintro _ w3 ⟨rfl, b3⟩
    have bel3 := bel2.trans (b3.mono bel2.size)
    have ht3 := ht2.below b3 ht2.1
    go_wp2_with fail
    (with_reducible refine (packs_keep w3 ht3).mono ?_)
    rintro _ w4 ⟨rfl, b4⟩
    go_wp2_with fail
    go_ret
    exact ⟨rfl, bel3.trans (b4.mono bel3.size)⟩
  · have hpos : 0 < O.length := List.length_pos_iff.2 hne
    have hi : (0 : Int) < O.length := by omega
    simp only
    clear HTh b1 b2 ht1
    go_wp2_with fail
    (with_reducible refine (packs_keep w2 ht2).mono ?_)
    rintro _ w4 ⟨rfl, b4⟩
    go_wp2_with fail
    go_ret
    exact ⟨rfl, bel2.trans (b4.mono bel2.size)⟩
end Go.Proofs.YtoklgliepepbgaaDoor
