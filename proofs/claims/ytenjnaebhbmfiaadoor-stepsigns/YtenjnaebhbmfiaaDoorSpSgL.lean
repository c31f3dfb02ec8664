/- law.StepSigns: its walk. -/
import Derived.Test.YtenjnaebhbmfiaaDoorORefSame
import Derived.Test.YtenjnaebhbmfiaaDoorSpSameR
import Derived.Test.YtenjnaebhbmfiaaDoorSpStepsL
namespace Go.Proofs.YtenjnaebhbmfiaaDoor
open Go.RowKit

/-- a step in a block of its own -/
def Hx9 (s : Sp) (p : SpAt) (q : Nat) (V : World) : Prop := Arr V q 25 (spArr s p) ∧ SpIn V V.heap.size s p
theorem Hx9.below {s : Sp} {p : SpAt} {q : Nat} {V W : World} (h : Hx9 s p q V) (b : Below V.heap.size V W) : Hx9 s p q W := ⟨h.1.below b h.1.lt, h.2.up b⟩
theorem Hx9.arr {s : Sp} {p : SpAt} {q : Nat} {V : World} (h : Hx9 s p q V) : Arr V q 25 (spArr s p) := h.1
theorem Hx9.inn {s : Sp} {p : SpAt} {q : Nat} {V : World} (h : Hx9 s p q V) : SpIn V V.heap.size s p := h.2
theorem Hx9.new {s : Sp} {p : SpAt} {V : World} (h : SpIn V V.heap.size s p) :
    Below V.heap.size V ((V.alloc (.cells spZero 25)).setRow V.heap.size (spArr s p)) ∧ Hx9 s p V.heap.size ((V.alloc (.cells spZero 25)).setRow V.heap.size (spArr s p)) := by
  have bb : Below V.heap.size V ((V.alloc (.cells spZero 25)).setRow V.heap.size (spArr s p)) := below_setRow ((Below.refl _ _).alloc (Nat.le_refl _) _) (Nat.le_refl _) _
  exact ⟨bb, (Arr.new _ _ _).row _, h.up bb⟩
theorem sign_few (s : Sp) (i x : Int) (key : ByteArray) : (spSign s i x key).1.who.length ≤ s.who.length + 1 ∧ (spSign s i x key).1.seals.length ≤ s.seals.length + 1 := by
  unfold spSign
  split
  · exact ⟨Nat.zero_le _, Nat.zero_le _⟩
  · split
    · exact ⟨Nat.zero_le _, Nat.zero_le _⟩
    · split
      · exact ⟨Nat.zero_le _, Nat.zero_le _⟩
      · unfold spPut
        constructor <;> simp <;> omega
set_option maxRecDepth 100000 in
set_option maxHeartbeats 8000000 in
theorem StepSigns_any (s : Sp) (p : SpAt) (i x : Int) (key : ByteArray) (w : World) (hP : SpIn w w.heap.size s p) (hz : SpSz s) (hk : key.size ≤ 140737488355328) (ht : Tab w) :
    Calls Tryd.prog 3 #[.agg (spArr s p), .int .i64 i, .int .i64 x, .string key] w fun e w' => e = .returned (.bool true) ∧ Below w.heap.size w w' := by
  obtain ⟨wa, wc, sa, sc⟩ := p
  have hl1 : s.who.length ≤ 140737488355328 := by have := hz.who; omega
  have hl2 : s.seals.length ≤ 140737488355328 := by have := hz.seals; omega
  have hl3 : s.ref.size ≤ 140737488355328 := by have := hz.ref; omega
  obtain ⟨hr1, hr2⟩ := sign_few s i x key
  have hr3 : (spSign s i x key).1.who.length ≤ 140737488355328 := by have := hz.who; omega
  have hr4 : (spSign s i x key).1.seals.length ≤ 140737488355328 := by have := hz.seals; omega
  have h1 := Lib.hid (Sx.start hP)
  have HT : Hid (∀ V, Below w.heap.size w V → Tab V) := fun V b => ht.below b ht.1
  have CC := Lib.hid (fun V h => CopyStep_any s ⟨wa, wc, sa, sc⟩ V h hz)
  have CS := Lib.hid (fun V p h t => SpSign_any s p i x key V h hl1 hl2 hk t)
  have CR := Lib.hid (fun V h t => RefSign_any s ⟨wa, wc, sa, sc⟩ i x key V h hl3 hl1 hl2 hk t)
  have CA : Hid (∀ V a b c d a' b' c' d', SpIn V V.heap.size (spSign s i x key).1 ⟨a, b, c, d⟩ → SpIn V V.heap.size (spSign s i x key).1 ⟨a', b', c', d'⟩ →
      Calls Tryd.prog 7 #[.agg #[.string (spSign s i x key).1.ref, .string (spSign s i x key).1.old, .string (spSign s i x key).1.new, .slice a (spSign s i x key).1.who.length b, .slice c (spSign s i x key).1.seals.length d], .agg #[.string (spSign s i x key).1.ref, .string (spSign s i x key).1.old, .string (spSign s i x key).1.new, .slice a' (spSign s i x key).1.who.length b', .slice c' (spSign s i x key).1.seals.length d']] V fun e w' => e = .returned (.bool true) ∧ Below V.heap.size V w') := fun V a b c d a' b' c' d' h h2 => RefSameStep (spSign s i x key).1 ⟨a, b, c, d⟩ ⟨a', b', c', d'⟩ V h h2 hr3 hr4
  have CB : Hid (∀ V a b c d, SpIn V V.heap.size s ⟨a, b, c, d⟩ → SpIn V V.heap.size s ⟨wa, wc, sa, sc⟩ →
      Calls Tryd.prog 7 #[.agg #[.string s.ref, .string s.old, .string s.new, .slice a s.who.length b, .slice c s.seals.length d], .agg #[.string s.ref, .string s.old, .string s.new, .slice wa s.who.length wc, .slice sa s.seals.length sc]] V fun e w' => e = .returned (.bool true) ∧ Below V.heap.size V w') := fun V a b c d h h2 => RefSameStep s ⟨a, b, c, d⟩ ⟨wa, wc, sa, sc⟩ V h h2 hl1 hl2
  have CL := Lib.hid (fun V h => lawSteps_any V h)
  clear hP hz ht hl1 hl2 hl3 hk hr1 hr2 hr3 hr4
  generalize spSign s i x key = R at *
  obtain ⟨r, z⟩ := R
  simp only at CA
  have hzz : (z == z) = true := by simp
  generalize hA : spArr s ⟨wa, wc, sa, sc⟩ = arr at *
  have HA := Lib.hid hA
  clear hA
  go_enter Tryd.func3, Tryd.ntmps3
  go_upto_region 1 with fail
  refine wp_forget (Sx w s ⟨wa, wc, sa, sc⟩) h1.out ?_
  clear h1
  intro W hW
  have hA := HA.out
  clear HA
  subst hA
  go_wp2_with (refine wpList_load_row rfl 25 _ rfl w.heap.size rfl 25 _ (0, 0) _ hW.1 Tryd.underlying25 rfl (spInfo s _) ?_)
  (with_reducible refine (CC.out W hW.up).mono ?_)
  rintro _ V ⟨p1, rfl, hI, b1⟩
  have hV := hW.below b1
  obtain ⟨bn, hn⟩ := Hx9.new hI
  have hst := Lib.hid (And.intro (hV.below bn) hn)
  clear hW b1 CC hV bn hn
  go_upto_region 2 with (refine wpList_store_row rfl 25 _ _ rfl V.heap.size (spArr s p1) rfl rfl 25 spZero (Arr.new V _ _) (spInfo _ _) rfl (spArr_one _ _) ?_)
  refine wp_forget (fun U => Sx w s ⟨wa, wc, sa, sc⟩ U ∧ Hx9 s p1 V.heap.size U) (by exact hst.out) ?_
  clear hst hI
  generalize V.heap.size = q1
  rintro U ⟨hU, hc⟩
  have A1 := hc.arr
  have htU := HT.out U hU.2.2
  go_wp2_with (refine wpList_load_row rfl 25 _ rfl q1 rfl 25 _ (0, 0) _ A1 Tryd.underlying25 rfl (spInfo s _) ?_)
  (with_reducible refine (CS.out U p1 hc.inn htU).mono ?_)
  rintro _ V2 ⟨p2, rfl, hI2, b2⟩
  have hV2 := hU.below b2
  have hc2 := hc.below b2
  obtain ⟨bn, hn⟩ := Hx9.new hI2
  have hst := Lib.hid (And.intro (hV2.below bn) (And.intro (hc2.below bn) hn))
  clear hU hc b2 CS hV2 hc2 bn hn htU A1
  simp only
  go_upto_region 3 with (refine wpList_store_row rfl 25 _ _ rfl V2.heap.size (spArr r p2) rfl rfl 25 spZero (Arr.new V2 _ _) (spInfo _ _) rfl (spArr_one _ _) ?_)
  refine wp_forget (fun U => Sx w s ⟨wa, wc, sa, sc⟩ U ∧ Hx9 s p1 q1 U ∧ Hx9 r p2 V2.heap.size U) (by exact hst.out) ?_
  clear hst hI2
  generalize V2.heap.size = q2
  rintro U2 ⟨hU, hc, ha⟩
  have htU := HT.out U2 hU.2.2
  go_wp2_with (refine wpList_load_row rfl 25 _ rfl w.heap.size rfl 25 _ (0, 0) _ hU.1 Tryd.underlying25 rfl (spInfo s _) ?_)
  (with_reducible refine (CR.out U2 hU.up htU).mono ?_)
  rintro _ V3 ⟨p3, rfl, hI3, b3⟩
  have hV3 := hU.below b3
  have hc3 := hc.below b3
  have ha3 := ha.below b3
  obtain ⟨bn, hn⟩ := Hx9.new hI3
  have hst := Lib.hid (And.intro (hV3.below bn) (And.intro (hc3.below bn) (And.intro (ha3.below bn) hn)))
  clear hU hc ha b3 CR hV3 hc3 ha3 bn hn htU
  simp only
  go_upto_region 4 with (refine wpList_store_row rfl 25 _ _ rfl V3.heap.size (spArr r p3) rfl rfl 25 spZero (Arr.new V3 _ _) (spInfo _ _) rfl (spArr_one _ _) ?_)
  refine wp_forget (fun U => Sx w s ⟨wa, wc, sa, sc⟩ U ∧ Hx9 s p1 q1 U ∧ Hx9 r p2 q2 U ∧ Hx9 r p3 V3.heap.size U) (by exact hst.out) ?_
  clear hst hI3
  generalize V3.heap.size = q3
  rintro U3 ⟨hU, hc, ha, hb⟩
  obtain ⟨a2, b2, d2, e2⟩ := p2
  obtain ⟨a3, b3, d3, e3⟩ := p3
  obtain ⟨a1, b1, d1, e1⟩ := p1
  have y0 : U3.cell? ⟨q2, 0, none⟩ = some (.string r.ref) := ha.arr.cell 0
  have y1 : U3.cell? ⟨q2, 1, none⟩ = some (.string r.old) := ha.arr.cell 1
  have y2 : U3.cell? ⟨q2, 2, none⟩ = some (.string r.new) := ha.arr.cell 2
  have y3 : U3.cell? ⟨q2, 3, none⟩ = some (.slice a2 r.who.length b2) := ha.arr.cell 3
  have y4 : U3.cell? ⟨q2, 4, none⟩ = some (.slice d2 r.seals.length e2) := ha.arr.cell 4
  have u0 : U3.cell? ⟨q3, 0, none⟩ = some (.string r.ref) := hb.arr.cell 0
  have u1 : U3.cell? ⟨q3, 1, none⟩ = some (.string r.old) := hb.arr.cell 1
  have u2 : U3.cell? ⟨q3, 2, none⟩ = some (.string r.new) := hb.arr.cell 2
  have u3 : U3.cell? ⟨q3, 3, none⟩ = some (.slice a3 r.who.length b3) := hb.arr.cell 3
  have u4 : U3.cell? ⟨q3, 4, none⟩ = some (.slice d3 r.seals.length e3) := hb.arr.cell 4
  go_wp2_with fail
  (with_reducible refine (CA.out U3 _ _ _ _ _ _ _ _ ha.inn hb.inn).mono ?_)
  rintro _ U4 ⟨rfl, b4⟩
  have hU4 := hU.below b4
  have hc4 := hc.below b4
  clear hU hc ha hb b4 CA y0 y1 y2 y3 y4 u0 u1 u2 u3 u4
  have y0 : U4.cell? ⟨q1, 0, none⟩ = some (.string s.ref) := hc4.arr.cell 0
  have y1 : U4.cell? ⟨q1, 1, none⟩ = some (.string s.old) := hc4.arr.cell 1
  have y2 : U4.cell? ⟨q1, 2, none⟩ = some (.string s.new) := hc4.arr.cell 2
  have y3 : U4.cell? ⟨q1, 3, none⟩ = some (.slice a1 s.who.length b1) := hc4.arr.cell 3
  have y4 : U4.cell? ⟨q1, 4, none⟩ = some (.slice d1 s.seals.length e1) := hc4.arr.cell 4
  have u0 : U4.cell? ⟨w.heap.size, 0, none⟩ = some (.string s.ref) := hU4.1.cell 0
  have u1 : U4.cell? ⟨w.heap.size, 1, none⟩ = some (.string s.old) := hU4.1.cell 1
  have u2 : U4.cell? ⟨w.heap.size, 2, none⟩ = some (.string s.new) := hU4.1.cell 2
  have u3 : U4.cell? ⟨w.heap.size, 3, none⟩ = some (.slice wa s.who.length wc) := hU4.1.cell 3
  have u4 : U4.cell? ⟨w.heap.size, 4, none⟩ = some (.slice sa s.seals.length sc) := hU4.1.cell 4
  go_wp2_with fail
  (with_reducible refine (CB.out U4 _ _ _ _ hc4.inn hU4.up).mono ?_)
  rintro _ U5 ⟨rfl, b5⟩
  have hU5 := hU4.below b5
  clear hU4 hc4 b5 CB y0 y1 y2 y3 y4 u0 u1 u2 u3 u4
  have htU := HT.out U5 hU5.2.2
  go_wp2_with fail
  (with_reducible refine (CL.out U5 htU).mono ?_)
  rintro _ U6 ⟨rfl, b6⟩
  have hU6 := hU5.below b6
  go_wp2_with fail
  go_ret
  exact ⟨rfl, hU6.2.2⟩
end Go.Proofs.YtenjnaebhbmfiaaDoor
