/- law.objects, law.ObjectDecodes: the walks. -/
import Derived.Test.YtgffbdkngnpfpaaDoorOIds
import Derived.Test.YtgffbdkngnpfpaaDoorORefDec
import Derived.Test.YtgffbdkngnpfpaaDoorORefSameB
import Derived.Test.YtgffbdkngnpfpaaDoorRefSum
namespace Go.Proofs.YtgffbdkngnpfpaaDoor
open Go.RowKit

theorem objects_law (w : World) : Calls Tryd.prog 10 #[] w fun e w' => e = .returned (.bool true) ∧ Below w.heap.size w w' := by
  go_enter Tryd.func10, Tryd.ntmps10
  go_wp2_with fail
  have q := blobA_any w
  (with_reducible refine q.mono ?_)
  clear q
  rintro _ w1 ⟨rfl, b1⟩
  go_wp2_with fail
  go_ret
  exact ⟨rfl, b1⟩
/-- a boxed object -/
def Bd (g : Nat) (o : Ob) (p : At) (W : World) : Prop := Arr W g 25 (obArr o p) ∧ ObIn W g o p
theorem Bd.below {g : Nat} {o : Ob} {p : At} {W W' : World} (h : Bd g o p W) (b : Below W.heap.size W W') : Bd g o p W' := ⟨h.1.below b h.1.lt, h.2.below (b.mono (Nat.le_of_lt h.1.lt))⟩
theorem bd_start {o : Ob} {p : At} {W : World} (h : ObIn W W.heap.size o p) :
    Bd W.heap.size o p ((W.alloc (.cells zeroO 25)).setRow W.heap.size (obArr o p)) ∧ Below W.heap.size W ((W.alloc (.cells zeroO 25)).setRow W.heap.size (obArr o p)) := by
  have b : Below W.heap.size W ((W.alloc (.cells zeroO 25)).setRow W.heap.size (obArr o p)) := below_setRow ((Below.refl _ _).alloc (Nat.le_refl _) _) (Nat.le_refl _) _
  exact ⟨⟨(Arr.new _ _ _).row _, h.below b⟩, b⟩
theorem dec_small (l : List UInt8) : (decO l).1.ents.length ≤ 64 ∧ (decO l).1.pars.length ≤ 4 := by
  unfold decO
  split
  · simp [Ob.none]
  split
  · simp [Ob.none]
  split
  · simp [Ob.none]
  split
  · simp [Ob.none]
  split
  · simp [Ob.none]
  split
  · simp [Ob.none]
  · rename_i o _ _ _ hg
    have hF := good_facts (o := o) (by simpa using hg)
    exact ⟨hF.ents, hF.pars⟩

set_option maxRecDepth 100000 in
set_option maxHeartbeats 4000000 in
theorem ObjectDecodes_any (s : ByteArray) (hs : s.size ≤ 140737488355328) (w : World) (ht : Tab w) :
    Calls Tryd.prog 3 #[.string s] w fun e w' => e = .returned (.bool true) ∧ Below w.heap.size w w' := by
  have C1 := Lib.hid (Decode_any s w)
  have C2 := fun W => Lib.hid (RefDecode_any s W)
  have C3 := fun W h => Lib.hid (Id_any s (by omega) W h)
  have C4 := fun W => Lib.hid (RefSum_any s (by omega) W)
  obtain ⟨hl1, hl2⟩ := dec_small s.data.toList
  generalize (decO s.data.toList).1 = o at *
  generalize (decO s.data.toList).2 = e at *
  generalize bs (sha s.data.toList) = D at *
  have CS : Hid (∀ W p p', ObIn W W.heap.size o p → ObIn W W.heap.size o p' → Calls Tryd.prog 7 #[.agg (obArr o p), .agg (obArr o p')] W fun e w' => e = .returned (.bool true) ∧ Below W.heap.size W w') := fun W p p' h h' => by
    have q := RefSameObject_any o o p p' (by omega) (by omega) (by omega) (by omega) W h h'
    rw [decide_eq_true rfl] at q
    exact q
  clear hl1 hl2
  go_enter Tryd.func3, Tryd.ntmps3
  go_wp2_with fail
  (with_reducible refine C1.out.mono ?_)
  clear C1
  rintro _ W1 ⟨p1, rfl, i1, b1⟩
  obtain ⟨hB1, bb1⟩ := bd_start i1
  have hT1 := (ht.below b1 ht.1).below bb1 (ht.below b1 ht.1).1
  have bel1 := b1.trans (bb1.mono b1.size)
  go_upto_region 2 with (refine wpList_store_row rfl 25 _ _ rfl W1.heap.size (obArr o p1) rfl rfl 25 zeroO (Arr.new W1 _ _) (obInfo _ _) rfl (obArr_one _ _) ?_)
  refine wp_forget (fun Wq => Bd W1.heap.size o p1 Wq ∧ Tab Wq ∧ Below w.heap.size w Wq) (by exact ⟨hB1, hT1, bel1⟩) ?_
  clear hB1 hT1 bel1 i1 b1 bb1 ht
  generalize W1.heap.size = g1 at *
  clear W1
  rintro W1 ⟨hB1, hT1, bel1⟩
  go_wp2_with fail
  (with_reducible refine (C2 W1).out.mono ?_)
  clear C2
  rintro _ W2 ⟨p2, rfl, i2, b2⟩
  obtain ⟨hB2, bb2⟩ := bd_start i2
  have hB1' := (hB1.below b2).below bb2
  have hT2 := (hT1.below b2 hT1.1).below bb2 (hT1.below b2 hT1.1).1
  have bel2 := (bel1.trans (b2.mono bel1.size)).trans (bb2.mono (Nat.le_trans bel1.size b2.size))
  go_upto_region 3 with (refine wpList_store_row rfl 25 _ _ rfl W2.heap.size (obArr o p2) rfl rfl 25 zeroO (Arr.new W2 _ _) (obInfo _ _) rfl (obArr_one _ _) ?_)
  refine wp_forget (fun Wq => Bd g1 o p1 Wq ∧ Bd W2.heap.size o p2 Wq ∧ Tab Wq ∧ Below w.heap.size w Wq) (by exact ⟨hB1', hB2, hT2, bel2⟩) ?_
  clear hB1 hB1' hT1 bel1 hB2 hT2 bel2 i2 b2 bb2
  generalize W2.heap.size = g2 at *
  clear W2 W1
  rintro W ⟨hB1, hB2, hT, bel⟩
  go_wp2_with (first
    | (refine wpList_load_row_w rfl 25 _ rfl g1 rfl 25 _ (0, 0) _ hB1.1 Tryd.underlying25 rfl (obInfo _ _) ?_)
    | (refine wpList_load_row_w rfl 25 _ rfl g2 rfl 25 _ (0, 0) _ hB2.1 Tryd.underlying25 rfl (obInfo _ _) ?_))
  have j1 := hB1.2.mono (Nat.le_of_lt hB1.1.lt)
  have j2 := hB2.2.mono (Nat.le_of_lt hB2.1.lt)
  (with_reducible refine (CS.out W p1 p2 j1 j2).mono ?_)
  clear j1 j2
  clear CS
  rintro _ W3 ⟨rfl, b3⟩
  have hT3 := hT.below b3 hT.1
  have bel3 := bel.trans (b3.mono bel.size)
  clear hB1 hB2 hT bel b3
  go_wp2_with fail
  (with_reducible refine (C3 W3 hT3).out.mono ?_)
  clear C3
  rintro _ W4 ⟨rfl, b4⟩
  have bel4 := bel3.trans (b4.mono bel3.size)
  clear hT3 bel3 b4
  go_wp2_with fail
  (with_reducible refine (C4 W4).out.mono ?_)
  clear C4
  rintro _ W5 ⟨rfl, b5⟩
  have bel5 := bel4.trans (b5.mono bel4.size)
  clear bel4 b5
  go_wp2_with fail
  (with_reducible refine (objects_law W5).mono ?_)
  rintro _ W6 ⟨rfl, b6⟩
  go_wp2_with fail
  go_ret
  exact ⟨rfl, bel5.trans (b6.mono bel5.size)⟩
end Go.Proofs.YtgffbdkngnpfpaaDoor
