/- law.PackWrites: the walk. -/
import Derived.Test.YthigdhiebogffaaDoorRefMath
import Derived.Test.YthigdhiebogffaaDoorPRefRead
import Derived.Test.YthigdhiebogffaaDoorORefSame
namespace Go.Proofs.YthigdhiebogffaaDoor
open Go.RowKit

set_option maxRecDepth 100000 in
set_option maxHeartbeats 1000000 in
theorem PackWrites_any (l O : List ByteArray) (lA oA : Option Addr) (lcp oc : Nat) (w : World) (hlx : Txs w w.heap.size lA l) (hO : Txs w w.heap.size oA O) (hlc : l.length ≤ lcp) (hz : ∀ x ∈ O, x.size ≤ 140737488355328) (hll : l.length * 16 ≤ 140737488355328) (hol : O.length * 16 ≤ 140737488355328) (ht : Tab w) :
    Calls Tryd.prog 4 #[.slice lA l.length lcp, .slice oA O.length oc] w fun e w' => e = .returned (.bool true) ∧ Below w.heap.size w w' := by
  have q := Lib.hid (strings_law l lA lcp w hlx hll)
  go_enter Tryd.func4, Tryd.ntmps4
  go_wp2_with fail
  (with_reducible refine q.out.mono ?_)
  clear q
  rintro _ w1 ⟨A1, c1, rfl, t1, b1⟩
  have q := Lib.hid (strings_law O oA oc w1 ((hO.below b1).mono b1.size) hol)
  go_wp2_with fail
  (with_reducible refine q.out.mono ?_)
  clear q
  rintro _ w2 ⟨A2, c2, rfl, t2, b2⟩
  have bel2 := b1.trans (b2.mono b1.size)
  have ht2 := ht.below bel2 ht.1
  have q := Lib.hid (Write_any l O A1 A2 c1 c2 w2 ((t1.below b2).mono b2.size) t2 hz (by omega) (by omega) ht2)
  clear t1 t2 b1 b2
  go_wp2_with fail
  (with_reducible refine q.out.mono ?_)
  clear q
  intro x w3 hx
  unfold WEnd WEndR at hx
  by_cases hm : mayP l O = 0
  case neg =>
    rw [if_pos hm] at hx
    obtain ⟨rfl, b3⟩ := hx
    have bel3 := bel2.trans (b3.mono bel2.size)
    have ht3 := ht2.below b3 ht2.1
    have q := Lib.hid (MayPack_any l O lA oA lcp oc w3 ((hlx.below bel3).mono bel3.size) hlc (by omega) (by omega))
    have hm' : (mayP l O != 0) = true := by simpa using hm
    generalize mayP l O = e at *
    clear hm bel2 ht2 b3
    go_wp2_with fail
    (with_reducible refine q.out.mono ?_)
    clear q
    rintro _ w4 ⟨rfl, b4⟩
    have bel4 := bel3.trans (b4.mono bel3.size)
    have ht4 := ht3.below b4 ht3.1
    go_wp2_with fail
    (with_reducible refine (packs_law w4 ht4).mono ?_)
    rintro _ w5 ⟨rfl, b5⟩
    go_wp2_with fail
    go_ret
    exact ⟨rfl, bel4.trans (b5.mono bel4.size)⟩
  rw [hm, if_neg (by simp)] at hx
  obtain ⟨ha, hn4, ho4⟩ := addOk_may hm
  obtain ⟨⟨D, b, hP, hzl, rfl⟩, b3⟩ := hx
  have hfl := front_len hP hzl hn4
  have hbl := bulk_le _ hzl
  have HBk := Lib.hid (read_back (O2 := O) hP ha hzl hn4)
  have bel3 := bel2.trans (b3.mono bel2.size)
  have ht3 := ht2.below b3 ht2.1
  have q := Lib.hid (MayPack_any l O lA oA lcp oc w3 ((hlx.below bel3).mono bel3.size) hlc (by omega) (by omega))
  rw [hm] at q
  have C1 := fun W h => Lib.hid (ReadPack_any (bs (front l.length b ++ sha (front l.length b))) O oA oc W (by rw [bs_size]; omega) h hz (by omega))
  rw [bs_list, HBk.out] at C1
  clear hm ha hfl HBk hP bel2 ht2 b3
  generalize bs (front l.length b ++ sha (front l.length b)) = S at *
  go_wp2_with fail
  (with_reducible refine q.out.mono ?_)
  clear q
  rintro _ w4 ⟨rfl, b4⟩
  have bel4 := bel3.trans (b4.mono bel3.size)
  have ht4 := ht3.below b4 ht3.1
  clear bel3 ht3 b4
  go_wp2_with fail
  (with_reducible refine (C1 w4 ((hO.below bel4).mono bel4.size)).out.mono ?_)
  clear C1
  rintro _ w5 ⟨A5, c5, rfl, hc5, t5, b5⟩
  have bel5 := bel4.trans (b5.mono bel4.size)
  have ht5 := ht4.below b5 ht4.1
  have CS := Lib.hid (RefStrings_any l l (by omega) (by omega) A5 lA c5 lcp w5 t5 ((hlx.below bel5).mono bel5.size))
  simp only [decide_true] at CS
  simp only
  clear bel4 ht4 b5 t5
  go_wp2_with fail
  (with_reducible refine CS.out.mono ?_)
  clear CS
  rintro _ w6 ⟨rfl, b6⟩
  have bel6 := bel5.trans (b6.mono bel5.size)
  have ht6 := ht5.below b6 ht5.1
  go_wp2_with fail
  (with_reducible refine (packs_law w6 ht6).mono ?_)
  rintro _ w7 ⟨rfl, b7⟩
  go_wp2_with fail
  go_ret
  exact ⟨rfl, bel6.trans (b7.mono bel6.size)⟩
end Go.Proofs.YthigdhiebogffaaDoor
