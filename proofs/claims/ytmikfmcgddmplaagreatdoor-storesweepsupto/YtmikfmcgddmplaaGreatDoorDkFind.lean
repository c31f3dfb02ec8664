/- Texts in one: DkNamed, DkGood, DkFind. -/
import Derived.Test.YtmikfmcgddmplaaGreatDoorDkMem
import Derived.Deep.Cut
import Derived.Deep.RegionWith
import Derived.Deep.RegionLaw
import Derived.StillTailTactics
import Derived.Lib.Bytealg
import Derived.Laws.Externs
/- disk.inNames, Named, size, content, burnt: their contracts. -/
namespace Go.Proofs.YtmikfmcgddmplaaGreatDoor
open Go.RowKit

set_option maxRecDepth 100000 in
theorem inNames_any (c : UInt8) (w : World) : Calls Tryz.prog 133 #[.int .u8 (c.toNat : Int)] w fun e w' => e = .returned (.bool (inName c)) ∧ w' = w := by
  have hI : inName c = ((decide ((97 : Int) ≤ c.toNat) && decide ((c.toNat : Int) ≤ 122)) || (decide ((48 : Int) ≤ c.toNat) && decide ((c.toNat : Int) ≤ 57)) || ((c.toNat : Int) == 46) || ((c.toNat : Int) == 45)) := by
    have e1 : decide ((97 : Int) ≤ c.toNat) = decide (97 ≤ c.toNat) := decide_eq_decide.2 (by omega)
    have e2 : decide ((c.toNat : Int) ≤ 122) = decide (c.toNat ≤ 122) := decide_eq_decide.2 (by omega)
    have e3 : decide ((48 : Int) ≤ c.toNat) = decide (48 ≤ c.toNat) := decide_eq_decide.2 (by omega)
    have e4 : decide ((c.toNat : Int) ≤ 57) = decide (c.toNat ≤ 57) := decide_eq_decide.2 (by omega)
    have e5 : ((c.toNat : Int) == 46) = decide (c.toNat = 46) := by rw [show ((c.toNat : Int) == 46) = decide ((c.toNat : Int) = 46) from rfl]; exact decide_eq_decide.2 (by omega)
    have e6 : ((c.toNat : Int) == 45) = decide (c.toNat = 45) := by rw [show ((c.toNat : Int) == 45) = decide ((c.toNat : Int) = 45) from rfl]; exact decide_eq_decide.2 (by omega)
    rw [e1, e2, e3, e4, e5, e6]
    rfl
  have HI := Lib.hid hI
  clear hI
  generalize (c.toNat : Int) = z at *
  go_enter Tryz.func133, Tryz.ntmps133
  by_cases h1 : 97 ≤ z
  · by_cases h2 : z ≤ 122
    · go_wp2_with fail
      go_ret
      exact ⟨by rw [HI.out]; simp [h1, h2], rfl⟩
    · by_cases h3 : 48 ≤ z
      · by_cases h4 : z ≤ 57
        · omega
        · go_wp2_with fail
          go_ret
          exact ⟨by rw [HI.out]; simp [show ¬ z ≤ 122 by omega, show ¬ z ≤ 57 by omega], rfl⟩
      · omega
  · by_cases h3 : 48 ≤ z
    · by_cases h4 : z ≤ 57
      · go_wp2_with fail
        go_ret
        exact ⟨by rw [HI.out]; simp [h3, h4], rfl⟩
      · go_wp2_with fail
        go_ret
        exact ⟨by rw [HI.out]; simp [show ¬ (97 : Int) ≤ z by omega, show ¬ z ≤ 57 by omega], rfl⟩
    · by_cases h5 : z = 46
      · subst h5
        go_wp2_with fail
        go_ret
        exact ⟨by rw [HI.out]; rfl, rfl⟩
      · have h5' : (z == 46) = false := by rw [beq_eq_false_iff_ne]; exact h5
        go_wp2_with fail
        go_ret
        exact ⟨by rw [HI.out]; simp [show ¬ (97 : Int) ≤ z by omega, show ¬ (48 : Int) ≤ z by omega, h5], rfl⟩
def NmRel (s : ByteArray) (w : World) (i : Value) (wr : World) : Prop :=
  ∃ k : Nat, k ≤ s.size ∧ i = .int .i64 (k : Int) ∧ (s.data.toList.take k).all inName = true ∧ wr = w
set_option maxRecDepth 100000 in
theorem Named_any (s : ByteArray) (w : World) : Calls Tryz.prog 94 #[.string s] w fun e w' => e = .returned (.bool (named s)) ∧ w' = w := by
  have hz : s.data.toList.length = s.size := rfl
  have hN : named s = (decide (1 ≤ s.size) && decide (s.size ≤ 80) && s.data.toList.all inName) := rfl
  have HN := Lib.hid hN
  clear hN
  generalize named s = N at *
  by_cases h1 : s.size < 1
  · have hi : (s.size : Int) < 1 := by omega
    go_enter Tryz.func94, Tryz.ntmps94
    go_wp2_with fail
    go_ret
    exact ⟨by rw [HN.out]; simp [show ¬ 1 ≤ s.size by omega], rfl⟩
  have hi : ¬ (s.size : Int) < 1 := by omega
  by_cases h2 : 80 < s.size
  · have hi2 : (80 : Int) < s.size := by omega
    go_enter Tryz.func94, Tryz.ntmps94
    go_wp2_with fail
    go_ret
    exact ⟨by rw [HN.out]; simp [show ¬ s.size ≤ 80 by omega], rfl⟩
  have hi2 : ¬ (80 : Int) < s.size := by omega
  go_enter Tryz.func94, Tryz.ntmps94
  go_wp2_with fail
  go_loopw [14] (fun i wr => NmRel s w i wr) (fun i _ => s.size - (intOf i).toNat)
  case atStart => exact ⟨0, Nat.zero_le _, rfl, by simp, rfl⟩
  case round =>
    obtain ⟨k, hk, rfl, ha, rfl⟩ := hrel
    by_cases hlt : k < s.size
    · have hj : (k : Int) < s.size := by omega
      have C := Lib.hid (inNames_any s[k] wr)
      have hx : s.data.toList[k]? = some s[k] := by
        rw [List.getElem?_eq_getElem (by omega)]
        rfl
      have HT : Hid (s.data.toList.take (k + 1) = s.data.toList.take k ++ [s[k]]) := by
        obtain ⟨hk', e⟩ := List.getElem?_eq_some_iff.1 hx
        show _ = _
        rw [List.take_succ_eq_append_getElem hk', e]
      have HM : Hid (s[k] ∈ s.data.toList) := List.mem_of_getElem? hx
      clear hx
      cases hb : inName s[k]
      · rw [hb] at C
        have HB := Lib.hid hb
        clear hb
        go_wp2_with fail
        (with_reducible refine C.out.mono ?_)
        rintro _ _ ⟨rfl, rfl⟩
        go_wp2_with fail
        go_ret
        refine ⟨?_, rfl⟩
        rw [HN.out]
        have : s.data.toList.all inName = false := by
          rw [List.all_eq_false]
          exact ⟨_, HM.out, by rw [HB.out]; simp⟩
        rw [this, Bool.and_false]
        rfl
      · rw [hb] at C
        have HA : Hid ((s.data.toList.take (k + 1)).all inName = true) := by
          show _ = _
          rw [HT.out, List.all_append, ha]
          simp [hb]
        clear hb HT HM ha
        go_wp2_with fail
        (with_reducible refine C.out.mono ?_)
        rintro _ _ ⟨rfl, rfl⟩
        go_wp2_with fail
        go_roundw
        case rel => exact ⟨k + 1, hlt, by rw [Int.natCast_add]; rfl, HA.out, (by first | rfl | trivial)⟩
        case measure => simp [intOf]; omega
    · obtain rfl : k = s.size := by omega
      have hj : ¬ (s.size : Int) < s.size := by omega
      rw [← hz, List.take_length] at ha
      go_wp2_with fail
      go_ret
      exact ⟨by rw [HN.out, ha]; simp [show 1 ≤ s.size by omega, show s.size ≤ 80 by omega], rfl⟩
set_option maxRecDepth 100000 in
theorem size_any (f : Fl) (h1 : f.safe.size ≤ 140737488355328) (h2 : f.tail.size ≤ 140737488355328) (w : World) : Calls Tryz.prog 132 #[.agg (flArr f)] w fun e w' => e = .returned (.int .i64 ((f.safe.size + f.tail.size : Nat) : Int)) ∧ Below w.heap.size w w' := by
  have A0 : Arr (w.alloc (.cells (flArr f) 68)) w.heap.size 68 (flArr f) := Arr.new _ _ _
  have b0 : Below w.heap.size w (w.alloc (.cells (flArr f) 68)) := (Below.refl _ _).alloc (Nat.le_refl _) _
  go_enter Tryz.func132, Tryz.ntmps132
  go_upto_region 1 with fail
  refine wp_forget (fun V => Arr V w.heap.size 68 (flArr f) ∧ Below w.heap.size w V) (by exact ⟨A0, b0⟩) ?_
  clear A0 b0
  rintro V ⟨A0, b0⟩
  have c1 : V.cell? ⟨w.heap.size, 1, none⟩ = some (.string f.safe) := A0.cell 1
  have c2 : V.cell? ⟨w.heap.size, 2, none⟩ = some (.string f.tail) := A0.cell 2
  go_wp2_with fail
  go_ret
  exact ⟨by rw [Int.natCast_add]; rfl, b0⟩
set_option maxRecDepth 100000 in
theorem content_any (f : Fl) (h1 : f.safe.size ≤ 140737488355328) (h2 : f.tail.size ≤ 140737488355328) (w : World) : Calls Tryz.prog 99 #[.agg (flArr f)] w fun e w' => e = .returned (.string (f.safe ++ f.tail)) ∧ Below w.heap.size w w' := by
  have A0 : Arr (w.alloc (.cells (flArr f) 68)) w.heap.size 68 (flArr f) := Arr.new _ _ _
  have b0 : Below w.heap.size w (w.alloc (.cells (flArr f) 68)) := (Below.refl _ _).alloc (Nat.le_refl _) _
  go_enter Tryz.func99, Tryz.ntmps99
  go_upto_region 1 with fail
  refine wp_forget (fun V => Arr V w.heap.size 68 (flArr f) ∧ Below w.heap.size w V) (by exact ⟨A0, b0⟩) ?_
  clear A0 b0
  rintro V ⟨A0, b0⟩
  have c1 : V.cell? ⟨w.heap.size, 1, none⟩ = some (.string f.safe) := A0.cell 1
  have c2 : V.cell? ⟨w.heap.size, 2, none⟩ = some (.string f.tail) := A0.cell 2
  go_wp2_with fail
  go_ret
  exact ⟨rfl, b0⟩
set_option maxRecDepth 100000 in
theorem burnt_any (z : Int) (h : z ≤ 9223372036854775807) (w : World) : Calls Tryz.prog 104 #[.int .i64 z] w fun e w' => e = .returned (.int .i64 (burnt z)) ∧ w' = w := by
  by_cases h1 : 0 < z
  · have hb : burnt z = z - 1 := if_pos h1
    have HB := Lib.hid hb
    clear hb
    go_enter Tryz.func104, Tryz.ntmps104
    go_wp2_with fail
    go_ret
    exact ⟨by rw [HB.out]; rfl, rfl⟩
  · have hb : burnt z = z := if_neg h1
    have HB := Lib.hid hb
    clear hb
    go_enter Tryz.func104, Tryz.ntmps104
    go_wp2_with fail
    go_ret
    exact ⟨by rw [HB.out]; rfl, rfl⟩
end Go.Proofs.YtmikfmcgddmplaaGreatDoor

/- disk.Good: its contract. -/
namespace Go.Proofs.YtmikfmcgddmplaaGreatDoor
open Go.RowKit

/-- texts that memory bears -/
def Sized (L : List Fl) : Prop := ∀ f ∈ L, f.name.size ≤ 140737488355328 ∧ f.safe.size ≤ 140737488355328 ∧ f.tail.size ≤ 140737488355328
/-- where Good stands -/
def GdRel (L : List Fl) (A : Option Addr) (c : Nat) (z : Int) (w : World) (i : Value) (wr : World) : Prop :=
  ∃ k : Nat, k ≤ L.length ∧ i = .int .i64 (k : Int) ∧ Arr wr w.heap.size 37 (dkArr L A c z) ∧ Below w.heap.size w wr ∧
    ∃ b, goodL ⟨#[]⟩ L = goodL b (L.drop k) ∧ (k = 0 ∧ b = ⟨#[]⟩ ∨ ∃ m f, k = m + 1 ∧ L[m]? = some f ∧ b = f.name)
set_option maxRecDepth 100000 in
set_option maxHeartbeats 1000000 in
theorem DkGood_any (L : List Fl) (A : Option Addr) (c : Nat) (z : Int) (w : World) (hP : Fls w w.heap.size A L) (hz : Sized L) (hl : L.length ≤ 140737488355328) :
    Calls Tryz.prog 93 #[.agg (dkArr L A c z)] w fun e w' => e = .returned (.bool (goodD L)) ∧ Below w.heap.size w w' := by
  have A0 : Arr (w.alloc (.cells (dkArr L A c z) 37)) w.heap.size 37 (dkArr L A c z) := Arr.new _ _ _
  have b0 : Below w.heap.size w (w.alloc (.cells (dkArr L A c z) 37)) := (Below.refl _ _).alloc (Nat.le_refl _) _
  have hG : goodD L = (decide (L.length ≤ 400) && goodL ⟨#[]⟩ L) := rfl
  have HG := Lib.hid hG
  clear hG
  generalize goodD L = G at *
  go_enter Tryz.func93, Tryz.ntmps93
  go_upto_region 1 with fail
  refine wp_forget (fun V => Arr V w.heap.size 37 (dkArr L A c z) ∧ Below w.heap.size w V) (by exact ⟨A0, b0⟩) ?_
  clear A0 b0
  rintro V ⟨A0, b0⟩
  have c0 : V.cell? ⟨w.heap.size, 0, none⟩ = some (.slice A L.length c) := A0.cell 0
  by_cases h4 : 400 < L.length
  · have hi : (400 : Int) < L.length := by omega
    go_wp2_with fail
    go_ret
    exact ⟨by rw [HG.out, decide_eq_false (show ¬ L.length ≤ 400 by omega)]; rfl, b0⟩
  have hi : ¬ (400 : Int) < L.length := by omega
  have HG2 : Hid (G = goodL ⟨#[]⟩ L) := by show _ = _; rw [HG.out, decide_eq_true (show L.length ≤ 400 by omega)]; rfl
  have h1 : Hid (GdRel L A c z w (.int .i64 0) V) := ⟨0, Nat.zero_le _, rfl, A0, b0, ⟨#[]⟩, by rw [List.drop_zero], .inl ⟨rfl, rfl⟩⟩
  clear HG A0 b0
  go_wp2_with fail
  go_loopw [12] (fun i wr => GdRel L A c z w i wr) (fun i _ => L.length - (intOf i).toNat)
  case atStart => exact h1.out
  case round =>
    clear h1 c0
    clear V
    obtain ⟨k, hk, rfl, A1, bel, b, he, hb⟩ := hrel
    by_cases hlt : k < L.length
    · have hj : (k : Int) < L.length := by omega
      have hx : L[k]? = some L[k] := List.getElem?_eq_getElem hlt
      obtain ⟨ad, rfl, hbl, h0, h1, h2⟩ := hP k L[k] hx
      have g0 := (bel.cell hbl).trans h0
      have g1 := (bel.cell (p := ⟨(ad.add (k * 3)).block, (ad.add (k * 3)).off + 1, none⟩) hbl).trans h1
      have g2 := (bel.cell (p := ⟨(ad.add (k * 3)).block, (ad.add (k * 3)).off + 2, none⟩) hbl).trans h2
      have hs := hz L[k] (List.getElem_mem hlt)
      rw [List.drop_eq_getElem_cons hlt, goodL] at he
      have HX := Lib.hid hx
      clear h0 h1 h2 hx
      generalize L[k] = x at *
      have HE := Lib.hid he
      have HB := Lib.hid hb
      clear he hb
      have bb : Below wr.heap.size wr ((wr.alloc (.cells flZero 68)).setRow wr.heap.size (flArr x)) := below_setRow ((Below.refl _ _).alloc (Nat.le_refl _) _) (Nat.le_refl _) _
      have AX : Arr ((wr.alloc (.cells flZero 68)).setRow wr.heap.size (flArr x)) wr.heap.size 68 (flArr x) := (Arr.new _ _ _).row _
      go_upto_region 6 with (refine wpList_store_row rfl 68 _ _ rfl wr.heap.size (flArr x) rfl rfl 68 flZero (Arr.new wr _ _) (flInfo _) rfl (flArr_one _) ?_)
      refine wp_forget (fun V => Arr V w.heap.size 37 (dkArr L (some ad) c z) ∧ Below w.heap.size w V ∧ Arr V wr.heap.size 68 (flArr x)) (by exact ⟨A1.below bb A1.lt, bel.trans (bb.mono bel.size), AX⟩) ?_
      clear bb AX A1 bel g0 g1 g2
      generalize wr.heap.size = q
      rintro V ⟨A1, bel, AX⟩
      have c0 : V.cell? ⟨q, 0, none⟩ = some (.string x.name) := AX.cell 0
      have c1 : V.cell? ⟨q, 1, none⟩ = some (.string x.safe) := AX.cell 1
      have c2 : V.cell? ⟨q, 2, none⟩ = some (.string x.tail) := AX.cell 2
      have CN := Lib.hid (Named_any x.name V)
      have CS : Hid (Calls Tryz.prog 132 #[.agg #[.string x.name, .string x.safe, .string x.tail]] V fun e w' => e = .returned (.int .i64 ((x.safe.size + x.tail.size : Nat) : Int)) ∧ Below V.heap.size V w') := size_any x hs.2.1 hs.2.2 V
      have HN : Hid (named x.name = true → ltB ⟨#[]⟩ x.name = true) := fun h => empty_lt h
      have HF : Hid (fits x = decide (x.safe.size + x.tail.size ≤ 1048576)) := rfl
      generalize named x.name = N at *
      cases N
      · go_wp2_with fail
        (with_reducible refine CN.out.mono ?_)
        rintro _ _ ⟨rfl, rfl⟩
        go_wp2_with fail
        go_ret
        exact ⟨by rw [HG2.out, HE.out]; rfl, bel⟩
      go_wp2_with fail
      (with_reducible refine CN.out.mono ?_)
      clear CN
      rintro _ _ ⟨rfl, rfl⟩
      go_wp2_with fail
      (with_reducible refine CS.out.mono ?_)
      clear CS c0 c1 c2
      rintro _ V2 ⟨rfl, b2⟩
      replace A1 := A1.below b2 A1.lt
      replace AX := AX.below b2 AX.lt
      replace bel := bel.trans (b2.mono bel.size)
      clear b2
      by_cases hbig : 1048576 < x.safe.size + x.tail.size
      · have hF : Hid (fits x = false) := by show _ = _; rw [HF.out]; exact decide_eq_false (by omega)
        have hj2 : (1048576 : Int) < ((x.safe.size + x.tail.size : Nat) : Int) := by omega
        generalize x.safe.size + x.tail.size = sz at *
        go_wp2_with fail
        go_ret
        exact ⟨by rw [HG2.out, HE.out, hF.out]; rfl, bel⟩
      have hF : Hid (fits x = true) := by show _ = _; rw [HF.out]; exact decide_eq_true (by omega)
      have hj2 : ¬ (1048576 : Int) < ((x.safe.size + x.tail.size : Nat) : Int) := by omega
      have c0 : V2.cell? ⟨q, 0, none⟩ = some (.string x.name) := AX.cell 0
      have d0 : V2.cell? ⟨w.heap.size, 0, none⟩ = some (.slice (some ad) L.length c) := A1.cell 0
      generalize x.safe.size + x.tail.size = sz at *
      rcases HB.out with ⟨rfl, hb0⟩ | ⟨m, f, rfl, hm, hbf⟩
      · have HE2 : Hid (goodL ⟨#[]⟩ L = goodL x.name (L.drop 1)) := by
          show _ = _
          rw [HE.out, hF.out, hb0, HN.out (by trivial)]
          rfl
        clear HE HF hF HN HB hb0
        go_wp2_with fail
        go_quiet (fail)
        go_wp2_with fail
        go_roundw
        case rel => exact ⟨1, hlt, rfl, A1.drewN _, below_drewN bel _, x.name, HE2.out, .inr ⟨0, x, rfl, HX.out, rfl⟩⟩
        case measure => simp [intOf]; omega
      · obtain ⟨ad', e', hbl', h0', _, _⟩ := hP m f hm
        cases e'
        have g0 := (bel.cell hbl').trans h0'
        have hm1 : (m : Int) < L.length := by omega
        have hm2 : IntKind.i64.wrap (((m + 1 : Nat) : Int) - 1) = (m : Int) := by rw [IntWalk.i64_in _ (by omega)]; omega
        have hm3 : (0 : Int) < ((m + 1 : Nat) : Int) := by omega
        have hle : ltB f.name x.name = Op.bytesLess f.name.toList x.name.toList := rfl
        clear h0' hbl'
        have HE2 : Hid (goodL ⟨#[]⟩ L = (Op.bytesLess f.name.toList x.name.toList && goodL x.name (L.drop (m + 1 + 1)))) := by
          show _ = _
          rw [HE.out, hF.out, hbf, hle]
          rfl
        clear HE HF hF HN HB hbf hle
        cases hq : Op.bytesLess f.name.toList x.name.toList
        · go_wp2_with fail
          go_quiet (fail)
          go_wp2_with fail
          go_ret
          exact ⟨by rw [HG2.out, HE2.out, hq]; rfl, below_drewN bel _⟩
        · have HE3 : Hid (goodL ⟨#[]⟩ L = goodL x.name (L.drop (m + 1 + 1))) := by show _ = _; rw [HE2.out, hq]; rfl
          clear HE2
          go_wp2_with fail
          go_quiet (fail)
          go_wp2_with fail
          go_roundw
          case rel => exact ⟨m + 1 + 1, hlt, by rw [Int.natCast_add, Int.natCast_add]; rfl, A1.drewN _, below_drewN bel _, x.name, HE3.out, .inr ⟨m + 1, x, rfl, HX.out, rfl⟩⟩
          case measure => simp [intOf]; omega
    · obtain rfl : k = L.length := by omega
      have hj : ¬ (L.length : Int) < L.length := by omega
      rw [List.drop_length] at he
      have HE := Lib.hid he
      clear he
      go_wp2_with fail
      go_ret
      exact ⟨by rw [HG2.out, HE.out]; rfl, bel⟩
end Go.Proofs.YtmikfmcgddmplaaGreatDoor

/- disk.find and what it calls: contracts. -/
namespace Go.Proofs.YtmikfmcgddmplaaGreatDoor
open Go.RowKit

theorem cmp_less : ∀ a b : List UInt8, Lib.compareBytes a b < 0 ↔ Op.bytesLess a b = true
  | [], [] => by simp [Lib.compareBytes, Op.bytesLess]
  | [], _ :: _ => by simp [Lib.compareBytes, Op.bytesLess]
  | _ :: _, [] => by simp [Lib.compareBytes, Op.bytesLess]
  | a :: x, b :: y => by
    have ih := cmp_less x y
    simp only [Lib.compareBytes, Op.bytesLess, Bool.or_eq_true, Bool.and_eq_true, decide_eq_true_eq, beq_iff_eq]
    by_cases h : a < b
    · simp [h]
    · by_cases h2 : b < a
      · have : ¬ a = b := fun e => by rw [e] at h2; exact absurd h2 (by rw [UInt8.lt_iff_toNat_lt]; omega)
        simp [h, h2, this]
      · have e : a = b := UInt8.toNat_inj.1 (by rw [UInt8.lt_iff_toNat_lt] at h h2; omega)
        subst e
        simp [h, ih]
theorem cmp_zero : ∀ a b : List UInt8, Lib.compareBytes a b = 0 ↔ a = b
  | [], [] => by simp [Lib.compareBytes]
  | [], _ :: _ => by simp [Lib.compareBytes]
  | _ :: _, [] => by simp [Lib.compareBytes]
  | a :: x, b :: y => by
    have ih := cmp_zero x y
    simp only [Lib.compareBytes, List.cons.injEq]
    by_cases h : a < b
    · have : ¬ a = b := fun e => by rw [e] at h; exact absurd h (by rw [UInt8.lt_iff_toNat_lt]; omega)
      simp [h, this]
    · by_cases h2 : b < a
      · have : ¬ a = b := fun e => by rw [e] at h2; exact absurd h2 (by rw [UInt8.lt_iff_toNat_lt]; omega)
        simp [h, h2, this]
      · have e : a = b := UInt8.toNat_inj.1 (by rw [UInt8.lt_iff_toNat_lt] at h h2; omega)
        subst e
        simp [h, ih]
def cmpB (a b : ByteArray) : Int := Lib.compareBytes a.data.toList b.data.toList
theorem cmpB_less (a b : ByteArray) : cmpB a b < 0 ↔ ltB a b = true := by
  unfold cmpB ltB
  rw [toList_data, toList_data]
  exact cmp_less _ _
theorem cmpB_zero (a b : ByteArray) : cmpB a b = 0 ↔ a = b := by
  unfold cmpB
  rw [cmp_zero]
  exact ⟨bytes_eq, fun h => by rw [h]⟩
theorem run_cmp (a b : ByteArray) (w : World) : (callFunc 153 #[.string a, .string b]).run Tryz.prog w = .ok (.value (.int .i64 (cmpB a b))) w := by
  rw [run_callFunc_extern Tryz.func153 (by kernel_rfl) (by kernel_rfl) (by kernel_rfl) (e := Extern.BytealgCompare.compare) (by kernel_rfl), Lib.run_compareString]
  rfl
set_option maxRecDepth 100000 in
theorem CompareString_any (a b : ByteArray) (w : World) : Calls Tryz.prog 141 #[.string a, .string b] w fun e w' => e = .returned (.int .i64 (cmpB a b)) ∧ w' = w := by
  have h := run_cmp a b
  go_enter Tryz.func141, Tryz.ntmps141
  go_wp2_with (simp only [h])
  go_ret
  exact ⟨rfl, rfl⟩
set_option maxRecDepth 100000 in
theorem Compare_any (a b : ByteArray) (w : World) : Calls Tryz.prog 107 #[.string a, .string b] w fun e w' => e = .returned (.int .i64 (cmpB a b)) ∧ w' = w := by
  have C := Lib.hid (CompareString_any a b w)
  go_enter Tryz.func107, Tryz.ntmps107
  go_wp2_with fail
  (with_reducible refine C.out.mono ?_)
  rintro _ _ ⟨rfl, rfl⟩
  go_wp2_with fail
  go_ret
  exact ⟨rfl, rfl⟩
set_option maxRecDepth 100000 in
theorem byName_any (f : Fl) (n : ByteArray) (w : World) : Calls Tryz.prog 106 #[.agg #[.string f.name, .string f.safe, .string f.tail], .string n] w fun e w' => e = .returned (.int .i64 (cmpB f.name n)) ∧ Below w.heap.size w w' := by
  have A0 : Arr (w.alloc (.cells (flArr f) 68)) w.heap.size 68 (flArr f) := Arr.new _ _ _
  have b0 : Below w.heap.size w (w.alloc (.cells (flArr f) 68)) := (Below.refl _ _).alloc (Nat.le_refl _) _
  go_enter Tryz.func106, Tryz.ntmps106
  go_upto_region 1 with fail
  refine wp_forget (fun V => Arr V w.heap.size 68 (flArr f) ∧ Below w.heap.size w V) (by exact ⟨A0, b0⟩) ?_
  clear A0 b0
  rintro V ⟨A0, b0⟩
  have c0 : V.cell? ⟨w.heap.size, 0, none⟩ = some (.string f.name) := A0.cell 0
  have C := Lib.hid (Compare_any f.name n V)
  go_wp2_with fail
  (with_reducible refine C.out.mono ?_)
  rintro _ _ ⟨rfl, rfl⟩
  go_wp2_with fail
  go_ret
  exact ⟨rfl, b0⟩
/-- where the search stands -/
def DkBsRel (L : List Fl) (n : ByteArray) (w : World) (i j : Value) (wr : World) : Prop :=
  ∃ a b : Nat, i = .int .i64 (a : Int) ∧ j = .int .i64 (b : Int) ∧ a ≤ low n L ∧ low n L ≤ b ∧ b ≤ L.length ∧ Below w.heap.size w wr
def hasN (n : ByteArray) (L : List Fl) : Bool := (getF n L).isSome
set_option maxRecDepth 100000 in
set_option maxHeartbeats 1000000 in
theorem search_any (L : List Fl) (n : ByteArray) (A : Option Addr) (c : Nat) (w : World) (hP : Fls w w.heap.size A L) (hl : L.length ≤ 100000) (hr : ris ⟨#[]⟩ L) :
    Calls Tryz.prog 105 #[.slice A L.length c, .string n, .func (.func 106) #[] #[]] w fun e w' => e = .returned (.tuple #[.int .i64 (low n L : Int), .bool (hasN n L)]) ∧ Below w.heap.size w w' := by
  have hle := low_le n L
  have HG := Lib.hid (getF_low n L _ hr)
  have HS := Lib.hid (low_split n L _ hr)
  have h1 : Hid (DkBsRel L n w (.int .i64 0) (.int .i64 (L.length : Int)) w) := ⟨0, L.length, rfl, rfl, Nat.zero_le _, hle, Nat.le_refl _, Below.refl _ _⟩
  have hlw : low n L ≤ 100000 := by omega
  go_enter Tryz.func105, Tryz.ntmps105
  go_wp2_with fail
  go_loopw [9, 10] (fun i j wr => DkBsRel L n w i j wr) (fun i j _ => (intOf j - intOf i).toNat)
  case atStart => exact h1.out
  case round =>
    clear h1
    obtain ⟨a, b, rfl, rfl, ha, hb, hbl, bel⟩ := hrel
    by_cases hlt : a < b
    · have hj : (a : Int) < b := by omega
      have hml : (a + b) / 2 < L.length := by omega
      have hmi : ((a : Int) + b) / 2 < L.length := by omega
      have hx : L[(a + b) / 2]? = some L[(a + b) / 2] := List.getElem?_eq_getElem hml
      obtain ⟨ad, rfl, hbk, h0, h1, h2⟩ := hP _ _ hx
      have g0 := (bel.cell hbk).trans h0
      have g1 := (bel.cell (p := ⟨(ad.add ((a + b) / 2 * 3)).block, (ad.add ((a + b) / 2 * 3)).off + 1, none⟩) hbk).trans h1
      have g2 := (bel.cell (p := ⟨(ad.add ((a + b) / 2 * 3)).block, (ad.add ((a + b) / 2 * 3)).off + 2, none⟩) hbk).trans h2
      have hsx := HS.out _ _ hx
      clear h0 h1 h2 hx
      generalize L[(a + b) / 2] = x at *
      rw [← cmpB_less] at hsx
      have C := Lib.hid (byName_any x n wr)
      generalize cmpB x.name n = z at *
      go_wp2_with fail
      (with_reducible refine C.out.mono ?_)
      clear C g0 g1 g2
      rintro _ w2 ⟨rfl, b2⟩
      have bel2 := bel.trans (b2.mono bel.size)
      clear bel b2
      by_cases hz : z < 0
      · have hlo := hsx.1 hz
        clear hsx
        go_wp2_with fail
        go_roundw
        case rel => exact ⟨(a + b) / 2 + 1, b, by congr 1, rfl, by omega, hb, hbl, bel2⟩
        case measure => simp [intOf]; omega
      · have hlo : ¬ (a + b) / 2 < low n L := fun h => hz (hsx.2 h)
        clear hsx
        go_wp2_with fail
        go_roundw
        case rel => exact ⟨a, (a + b) / 2, rfl, by congr 1, ha, by omega, by omega, bel2⟩
        case measure => simp [intOf]; omega
    · have ea : a = low n L := by omega
      have eb : b = low n L := by omega
      subst eb
      rw [ea]
      have hj : ¬ (low n L : Int) < low n L := by omega
      clear hlt ea ha hb hbl
      cases hx : L[low n L]? with
      | none =>
        have hge := List.getElem?_eq_none_iff.1 hx
        have hj2 : ¬ (low n L : Int) < L.length := by omega
        have hg := HG.out
        rw [hx] at hg
        have HN : Hid (hasN n L = false) := by show _ = _; unfold hasN; rw [hg]; rfl
        clear hg HG HS hx
        go_wp2_with fail
        go_ret2
        exact ⟨by rw [HN.out]; rfl, bel⟩
      | some x =>
        obtain ⟨hlt, _⟩ := List.getElem?_eq_some_iff.1 hx
        have hj2 : (low n L : Int) < L.length := by omega
        have hg := HG.out
        rw [hx] at hg
        obtain ⟨ad, rfl, hbk, h0, h1, h2⟩ := hP _ _ hx
        have g0 := (bel.cell hbk).trans h0
        have g1 := (bel.cell (p := ⟨(ad.add (low n L * 3)).block, (ad.add (low n L * 3)).off + 1, none⟩) hbk).trans h1
        have g2 := (bel.cell (p := ⟨(ad.add (low n L * 3)).block, (ad.add (low n L * 3)).off + 2, none⟩) hbk).trans h2
        have C := Lib.hid (byName_any x n wr)
        have HN : Hid (hasN n L = (cmpB x.name n == 0)) := by
          show _ = _
          unfold hasN
          rw [hg]
          simp only
          by_cases e : x.name = n
          · rw [if_pos e, show cmpB x.name n = 0 from (cmpB_zero _ _).2 e]; rfl
          · rw [if_neg e]
            have : ¬ cmpB x.name n = 0 := fun q => e ((cmpB_zero _ _).1 q)
            simp [this]
        clear h0 h1 h2 hx hg HG HS
        generalize cmpB x.name n = z at *
        go_wp2_with fail
        (with_reducible refine C.out.mono ?_)
        clear C g0 g1 g2
        rintro _ w2 ⟨rfl, b2⟩
        have bel2 := bel.trans (b2.mono bel.size)
        by_cases hz : z = 0
        · subst hz
          go_wp2_with fail
          go_ret2
          exact ⟨by rw [HN.out]; rfl, bel2⟩
        · have hz' : (z == 0) = false := by rw [beq_eq_false_iff_ne]; exact hz
          go_wp2_with fail
          go_ret2
          exact ⟨by rw [HN.out, hz']; rfl, bel2⟩
set_option maxRecDepth 100000 in
theorem find_any (L : List Fl) (n : ByteArray) (A : Option Addr) (c : Nat) (w : World) (hP : Fls w w.heap.size A L) (hl : L.length ≤ 100000) (hr : ris ⟨#[]⟩ L) :
    Calls Tryz.prog 63 #[.slice A L.length c, .string n] w fun e w' => e = .returned (.tuple #[.int .i64 (low n L : Int), .bool (hasN n L)]) ∧ Below w.heap.size w w' := by
  have C := Lib.hid (search_any L n A c w hP hl hr)
  go_enter Tryz.func63, Tryz.ntmps63
  go_wp2_with fail
  (with_reducible refine C.out.mono ?_)
  rintro _ w2 ⟨rfl, b2⟩
  go_wp2_with fail
  go_ret2
  exact ⟨rfl, b2⟩
end Go.Proofs.YtmikfmcgddmplaaGreatDoor
