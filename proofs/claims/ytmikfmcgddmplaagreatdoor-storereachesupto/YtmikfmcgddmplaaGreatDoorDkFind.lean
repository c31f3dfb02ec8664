/- disk.find and what it calls: contracts. -/
import Derived.Test.YtmikfmcgddmplaaGreatDoorDkGood
import Derived.Lib.Bytealg
import Derived.Laws.Externs
namespace Go.Proofs.YtmikfmcgddmplaaGreatDoor
open Go.RowKit

theorem cmp_less : ∀ a b : List UInt8, Lib.compareBytes a b < 0 ↔ Op.bytesLess a b = true
  | [], [] => by simp [Lib.compareBytes, Op.bytesLess]
  | [], _ :: _ => by simp [Lib.compareBytes, Op.bytesLess]
  | _ :: _, [] => by simp [Lib.compareBytes, Op.bytesLess]
  | a :: x, b :: y => by
    have ih := cmp_less x y
    simp only [Lib.compareBytes, Op.bytesLess, Bool.or_eq_true, Bool.and_eq_true, decide_eq_true_eq, beq_iff_eq]
    by_cases h : a < b
    · simp [h]
    · by_cases h2 : b < a
      · have : ¬ a = b := fun e => by rw [e] at h2; exact absurd h2 (by rw [UInt8.lt_iff_toNat_lt]; omega)
        simp [h, h2, this]
      · have e : a = b := UInt8.toNat_inj.1 (by rw [UInt8.lt_iff_toNat_lt] at h h2; omega)
        subst e
        simp [h, ih]
theorem cmp_zero : ∀ a b : List UInt8, Lib.compareBytes a b = 0 ↔ a = b
  | [], [] => by simp [Lib.compareBytes]
  | [], _ :: _ => by simp [Lib.compareBytes]
  | _ :: _, [] => by simp [Lib.compareBytes]
  | a :: x, b :: y => by
    have ih := cmp_zero x y
    simp only [Lib.compareBytes, List.cons.injEq]
    by_cases h : a < b
    · have : ¬ a = b := fun e => by rw [e] at h; exact absurd h (by rw [UInt8.lt_iff_toNat_lt]; omega)
      simp [h, this]
    · by_cases h2 : b < a
      · have : ¬ a = b := fun e => by rw [e] at h2; exact absurd h2 (by rw [UInt8.lt_iff_toNat_lt]; omega)
        simp [h, h2, this]
      · have e : a = b := UInt8.toNat_inj.1 (by rw [UInt8.lt_iff_toNat_lt] at h h2; omega)
        subst e
        simp [h, ih]
def cmpB (a b : ByteArray) : Int := Lib.compareBytes a.data.toList b.data.toList
theorem cmpB_less (a b : ByteArray) : cmpB a b < 0 ↔ ltB a b = true := by
  unfold cmpB ltB
  rw [toList_data, toList_data]
  exact cmp_less _ _
theorem cmpB_zero (a b : ByteArray) : cmpB a b = 0 ↔ a = b := by
  unfold cmpB
  rw [cmp_zero]
  exact ⟨bytes_eq, fun h => by rw [h]⟩
theorem run_cmp (a b : ByteArray) (w : World) : (callFunc 153 #[.string a, .string b]).run Tryz.prog w = .ok (.value (.int .i64 (cmpB a b))) w := by
  rw [run_callFunc_extern Tryz.func153 (by kernel_rfl) (by kernel_rfl) (by kernel_rfl) (e := Extern.BytealgCompare.compare) (by kernel_rfl), Lib.run_compareString]
  rfl
set_option maxRecDepth 100000 in
theorem CompareString_any (a b : ByteArray) (w : World) : Calls Tryz.prog 141 #[.string a, .string b] w fun e w' => e = .returned (.int .i64 (cmpB a b)) ∧ w' = w := by
  have h := run_cmp a b
  go_enter Tryz.func141, Tryz.ntmps141
  go_wp2_with (simp only [h])
  go_ret
  exact ⟨rfl, rfl⟩
set_option maxRecDepth 100000 in
theorem Compare_any (a b : ByteArray) (w : World) : Calls Tryz.prog 107 #[.string a, .string b] w fun e w' => e = .returned (.int .i64 (cmpB a b)) ∧ w' = w := by
  have C := Lib.hid (CompareString_any a b w)
  go_enter Tryz.func107, Tryz.ntmps107
  go_wp2_with fail
  (with_reducible refine C.out.mono ?_)
  rintro _ _ ⟨rfl, rfl⟩
  go_wp2_with fail
  go_ret
  exact ⟨rfl, rfl⟩
set_option maxRecDepth 100000 in
theorem byName_any (f : Fl) (n : ByteArray) (w : World) : Calls Tryz.prog 106 #[.agg #[.string f.name, .string f.safe, .string f.tail], .string n] w fun e w' => e = .returned (.int .i64 (cmpB f.name n)) ∧ Below w.heap.size w w' := by
  have A0 : Arr (w.alloc (.cells (flArr f) 68)) w.heap.size 68 (flArr f) := Arr.new _ _ _
  have b0 : Below w.heap.size w (w.alloc (.cells (flArr f) 68)) := (Below.refl _ _).alloc (Nat.le_refl _) _
  go_enter Tryz.func106, Tryz.ntmps106
  go_upto_region 1 with fail
  refine wp_forget (fun V => Arr V w.heap.size 68 (flArr f) ∧ Below w.heap.size w V) (by exact ⟨A0, b0⟩) ?_
  clear A0 b0
  rintro V ⟨A0, b0⟩
  have c0 : V.cell? ⟨w.heap.size, 0, none⟩ = some (.string f.name) := A0.cell 0
  have C := Lib.hid (Compare_any f.name n V)
  go_wp2_with fail
  (with_reducible refine C.out.mono ?_)
  rintro _ _ ⟨rfl, rfl⟩
  go_wp2_with fail
  go_ret
  exact ⟨rfl, b0⟩
/-- where the search stands -/
def DkBsRel (L : List Fl) (n : ByteArray) (w : World) (i j : Value) (wr : World) : Prop :=
  ∃ a b : Nat, i = .int .i64 (a : Int) ∧ j = .int .i64 (b : Int) ∧ a ≤ low n L ∧ low n L ≤ b ∧ b ≤ L.length ∧ Below w.heap.size w wr
def hasN (n : ByteArray) (L : List Fl) : Bool := (getF n L).isSome
set_option maxRecDepth 100000 in
set_option maxHeartbeats 1000000 in
theorem search_any (L : List Fl) (n : ByteArray) (A : Option Addr) (c : Nat) (w : World) (hP : Fls w w.heap.size A L) (hl : L.length ≤ 100000) (hr : ris ⟨#[]⟩ L) :
    Calls Tryz.prog 105 #[.slice A L.length c, .string n, .func (.func 106) #[] #[]] w fun e w' => e = .returned (.tuple #[.int .i64 (low n L : Int), .bool (hasN n L)]) ∧ Below w.heap.size w w' := by
  have hle := low_le n L
  have HG := Lib.hid (getF_low n L _ hr)
  have HS := Lib.hid (low_split n L _ hr)
  have h1 : Hid (DkBsRel L n w (.int .i64 0) (.int .i64 (L.length : Int)) w) := ⟨0, L.length, rfl, rfl, Nat.zero_le _, hle, Nat.le_refl _, Below.refl _ _⟩
  have hlw : low n L ≤ 100000 := by omega
  go_enter Tryz.func105, Tryz.ntmps105
  go_wp2_with fail
  go_loopw [9, 10] (fun i j wr => DkBsRel L n w i j wr) (fun i j _ => (intOf j - intOf i).toNat)
  case atStart => exact h1.out
  case round =>
    clear h1
    obtain ⟨a, b, rfl, rfl, ha, hb, hbl, bel⟩ := hrel
    by_cases hlt : a < b
    · have hj : (a : Int) < b := by omega
      have hml : (a + b) / 2 < L.length := by omega
      have hmi : ((a : Int) + b) / 2 < L.length := by omega
      have hx : L[(a + b) / 2]? = some L[(a + b) / 2] := List.getElem?_eq_getElem hml
      obtain ⟨ad, rfl, hbk, h0, h1, h2⟩ := hP _ _ hx
      have g0 := (bel.cell hbk).trans h0
      have g1 := (bel.cell (p := ⟨(ad.add ((a + b) / 2 * 3)).block, (ad.add ((a + b) / 2 * 3)).off + 1, none⟩) hbk).trans h1
      have g2 := (bel.cell (p := ⟨(ad.add ((a + b) / 2 * 3)).block, (ad.add ((a + b) / 2 * 3)).off + 2, none⟩) hbk).trans h2
      have hsx := HS.out _ _ hx
      clear h0 h1 h2 hx
      generalize L[(a + b) / 2] = x at *
      rw [← cmpB_less] at hsx
      have C := Lib.hid (byName_any x n wr)
      generalize cmpB x.name n = z at *
      go_wp2_with fail
      (with_reducible refine C.out.mono ?_)
      clear C g0 g1 g2
      rintro _ w2 ⟨rfl, b2⟩
      have bel2 := bel.trans (b2.mono bel.size)
      clear bel b2
      by_cases hz : z < 0
      · have hlo := hsx.1 hz
        clear hsx
        go_wp2_with fail
        go_roundw
        case rel => exact ⟨(a + b) / 2 + 1, b, by congr 1, rfl, by omega, hb, hbl, bel2⟩
        case measure => simp [intOf]; omega
      · have hlo : ¬ (a + b) / 2 < low n L := fun h => hz (hsx.2 h)
        clear hsx
        go_wp2_with fail
        go_roundw
        case rel => exact ⟨a, (a + b) / 2, rfl, by congr 1, ha, by omega, by omega, bel2⟩
        case measure => simp [intOf]; omega
    · have ea : a = low n L := by omega
      have eb : b = low n L := by omega
      subst eb
      rw [ea]
      have hj : ¬ (low n L : Int) < low n L := by omega
      clear hlt ea ha hb hbl
      cases hx : L[low n L]? with
      | none =>
        have hge := List.getElem?_eq_none_iff.1 hx
        have hj2 : ¬ (low n L : Int) < L.length := by omega
        have hg := HG.out
        rw [hx] at hg
        have HN : Hid (hasN n L = false) := by show _ = _; unfold hasN; rw [hg]; rfl
        clear hg HG HS hx
        go_wp2_with fail
        go_ret2
        exact ⟨by rw [HN.out]; rfl, bel⟩
      | some x =>
        obtain ⟨hlt, _⟩ := List.getElem?_eq_some_iff.1 hx
        have hj2 : (low n L : Int) < L.length := by omega
        have hg := HG.out
        rw [hx] at hg
        obtain ⟨ad, rfl, hbk, h0, h1, h2⟩ := hP _ _ hx
        have g0 := (bel.cell hbk).trans h0
        have g1 := (bel.cell (p := ⟨(ad.add (low n L * 3)).block, (ad.add (low n L * 3)).off + 1, none⟩) hbk).trans h1
        have g2 := (bel.cell (p := ⟨(ad.add (low n L * 3)).block, (ad.add (low n L * 3)).off + 2, none⟩) hbk).trans h2
        have C := Lib.hid (byName_any x n wr)
        have HN : Hid (hasN n L = (cmpB x.name n == 0)) := by
          show _ = _
          unfold hasN
          rw [hg]
          simp only
          by_cases e : x.name = n
          · rw [if_pos e, show cmpB x.name n = 0 from (cmpB_zero _ _).2 e]; rfl
          · rw [if_neg e]
            have : ¬ cmpB x.name n = 0 := fun q => e ((cmpB_zero _ _).1 q)
            simp [this]
        clear h0 h1 h2 hx hg HG HS
        generalize cmpB x.name n = z at *
        go_wp2_with fail
        (with_reducible refine C.out.mono ?_)
        clear C g0 g1 g2
        rintro _ w2 ⟨rfl, b2⟩
        have bel2 := bel.trans (b2.mono bel.size)
        by_cases hz : z = 0
        · subst hz
          go_wp2_with fail
          go_ret2
          exact ⟨by rw [HN.out]; rfl, bel2⟩
        · have hz' : (z == 0) = false := by rw [beq_eq_false_iff_ne]; exact hz
          go_wp2_with fail
          go_ret2
          exact ⟨by rw [HN.out, hz']; rfl, bel2⟩
set_option maxRecDepth 100000 in
theorem find_any (L : List Fl) (n : ByteArray) (A : Option Addr) (c : Nat) (w : World) (hP : Fls w w.heap.size A L) (hl : L.length ≤ 100000) (hr : ris ⟨#[]⟩ L) :
    Calls Tryz.prog 63 #[.slice A L.length c, .string n] w fun e w' => e = .returned (.tuple #[.int .i64 (low n L : Int), .bool (hasN n L)]) ∧ Below w.heap.size w w' := by
  have C := Lib.hid (search_any L n A c w hP hl hr)
  go_enter Tryz.func63, Tryz.ntmps63
  go_wp2_with fail
  (with_reducible refine C.out.mono ?_)
  rintro _ w2 ⟨rfl, b2⟩
  go_wp2_with fail
  go_ret2
  exact ⟨rfl, b2⟩
end Go.Proofs.YtmikfmcgddmplaaGreatDoor
