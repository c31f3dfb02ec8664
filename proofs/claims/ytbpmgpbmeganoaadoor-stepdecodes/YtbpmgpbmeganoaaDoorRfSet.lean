/- Texts in one: RfGood, RfSet. -/
import Derived.Test.YtbpmgpbmeganoaaDoorRfIter
import Derived.Test.YtbpmgpbmeganoaaDoorRfFind
import Derived.Test.YtbpmgpbmeganoaaDoorRfConcat
import Derived.Test.YtbpmgpbmeganoaaDoorDkGood
/- refs.Good, Get: contracts. -/
namespace Go.Proofs.YtbpmgpbmeganoaaDoor
open Go.RowKit

/-- where Good stands -/
def RfGdRel (L : List Rf) (w : World) (i : Value) (wr : World) : Prop :=
  ∃ k : Nat, k ≤ L.length ∧ i = .int .i64 (k : Int) ∧ Below w.heap.size w wr ∧
    ∃ b, goodLR ⟨#[]⟩ L = goodLR b (L.drop k) ∧ (k = 0 ∧ b = ⟨#[]⟩ ∨ ∃ m f, k = m + 1 ∧ L[m]? = some f ∧ b = f.name)
set_option maxRecDepth 100000 in
set_option maxHeartbeats 1000000 in
theorem RfGood_any (L : List Rf) (A : Option Addr) (c : Nat) (w : World) (hP : Rfs w w.heap.size A L) (hl : L.length ≤ 140737488355328) :
    Calls Tryd.prog 102 #[.slice A L.length c] w fun e w' => e = .returned (.bool (goodR L)) ∧ Below w.heap.size w w' := by
  have hG : goodR L = (decide (L.length ≤ 32) && goodLR ⟨#[]⟩ L) := rfl
  have HG := Lib.hid hG
  clear hG
  generalize goodR L = G at *
  by_cases h4 : 32 < L.length
  · have hi : (32 : Int) < L.length := by omega
    go_enter Tryd.func102, Tryd.ntmps102
    go_wp2_with fail
    go_ret
    exact ⟨by rw [HG.out, decide_eq_false (show ¬ L.length ≤ 32 by omega)]; rfl, Below.refl _ _⟩
  have hi : ¬ (32 : Int) < L.length := by omega
  have HG2 : Hid (G = goodLR ⟨#[]⟩ L) := by show _ = _; rw [HG.out, decide_eq_true (show L.length ≤ 32 by omega)]; rfl
  have h1 : Hid (RfGdRel L w (.int .i64 0) w) := ⟨0, Nat.zero_le _, rfl, Below.refl _ _, ⟨#[]⟩, by rw [List.drop_zero], .inl ⟨rfl, rfl⟩⟩
  clear HG
  go_enter Tryd.func102, Tryd.ntmps102
  go_wp2_with fail
  go_loopw [10] (fun i wr => RfGdRel L w i wr) (fun i _ => L.length - (intOf i).toNat)
  case atStart => exact h1.out
  case round =>
    clear h1
    obtain ⟨k, hk, rfl, bel, b, he, hb⟩ := hrel
    by_cases hlt : k < L.length
    · have hj : (k : Int) < L.length := by omega
      have hx : L[k]? = some L[k] := List.getElem?_eq_getElem hlt
      obtain ⟨ad, rfl, hbl, h0, h1⟩ := hP k L[k] hx
      have g0 := (bel.cell hbl).trans h0
      have g1 := (bel.cell (p := ⟨(ad.add (k * 2)).block, (ad.add (k * 2)).off + 1, none⟩) hbl).trans h1
      rw [List.drop_eq_getElem_cons hlt, goodLR] at he
      have HX := Lib.hid hx
      clear h0 h1 hx
      generalize L[k] = x at *
      have HE := Lib.hid he
      have HB := Lib.hid hb
      clear he hb
      have bb : Below wr.heap.size wr ((wr.alloc (.cells rfZero 89)).setRow wr.heap.size (rfArr x)) := below_setRow ((Below.refl _ _).alloc (Nat.le_refl _) _) (Nat.le_refl _) _
      have AX : Arr ((wr.alloc (.cells rfZero 89)).setRow wr.heap.size (rfArr x)) wr.heap.size 89 (rfArr x) := (Arr.new _ _ _).row _
      go_upto_region 6 with (refine wpList_store_row rfl 89 _ _ rfl wr.heap.size (rfArr x) rfl rfl 89 rfZero (Arr.new wr _ _) (rfInfo _) rfl (rfArr_one _) ?_)
      refine wp_forget (fun V => Below w.heap.size w V ∧ Arr V wr.heap.size 89 (rfArr x)) (by exact ⟨bel.trans (bb.mono bel.size), AX⟩) ?_
      clear bb AX bel g0 g1
      generalize wr.heap.size = q
      rintro V ⟨bel, AX⟩
      have c0 : V.cell? ⟨q, 0, none⟩ = some (.string x.name) := AX.cell 0
      have c1 : V.cell? ⟨q, 1, none⟩ = some (.string x.id) := AX.cell 1
      have CN := Lib.hid (NamedR_any x.name V)
      have HN : Hid (namedR x.name = true → ltB ⟨#[]⟩ x.name = true) := fun h => empty_ltR (named_ne h)
      generalize namedR x.name = N at *
      cases N
      · go_wp2_with fail
        (with_reducible refine CN.out.mono ?_)
        rintro _ V2 ⟨rfl, b2⟩
        replace bel := bel.trans (b2.mono bel.size)
        clear b2
        go_wp2_with fail
        go_ret
        exact ⟨by rw [HG2.out, HE.out]; rfl, bel⟩
      by_cases hid : ¬ x.id.size = 32
      · have hI : (((x.id.size : Nat) : Int) != 32) = true := by rw [bne_iff_ne]; omega
        have HI : Hid (decide (x.id.size = 32) = false) := decide_eq_false hid
        go_wp2_with fail
        (with_reducible refine CN.out.mono ?_)
        clear CN c0 c1
        rintro _ V2 ⟨rfl, b2⟩
        replace AX := AX.below b2 AX.lt
        replace bel := bel.trans (b2.mono bel.size)
        clear b2
        have c1 : V2.cell? ⟨q, 1, none⟩ = some (.string x.id) := AX.cell 1
        go_wp2_with fail
        go_ret
        exact ⟨by rw [HG2.out, HE.out, HI.out]; rfl, bel⟩
      replace hid : x.id.size = 32 := Decidable.byContradiction hid
      have hI : (((x.id.size : Nat) : Int) != 32) = false := by rw [hid]; rfl
      have HI : Hid (decide (x.id.size = 32) = true) := decide_eq_true hid
      clear hid
      go_wp2_with fail
      (with_reducible refine CN.out.mono ?_)
      clear CN c0 c1
      rintro _ V2 ⟨rfl, b2⟩
      replace AX := AX.below b2 AX.lt
      replace bel := bel.trans (b2.mono bel.size)
      clear b2
      have c0 : V2.cell? ⟨q, 0, none⟩ = some (.string x.name) := AX.cell 0
      have c1 : V2.cell? ⟨q, 1, none⟩ = some (.string x.id) := AX.cell 1
      rcases HB.out with ⟨rfl, hb0⟩ | ⟨m, f, rfl, hm, hbf⟩
      · have HE2 : Hid (goodLR ⟨#[]⟩ L = goodLR x.name (L.drop 1)) := by
          show _ = _
          rw [HE.out, HI.out, hb0, HN.out (by trivial)]
          rfl
        clear HE HI HN HB hb0
        go_wp2_with fail
        go_quiet (fail)
        go_wp2_with fail
        go_roundw
        case rel => exact ⟨1, hlt, rfl, below_drewN bel _, x.name, HE2.out, .inr ⟨0, x, rfl, HX.out, rfl⟩⟩
        case measure => simp [intOf]; omega
      · obtain ⟨ad', e', hbl', h0', _⟩ := hP m f hm
        cases e'
        have g0 := (bel.cell hbl').trans h0'
        have hm1 : (m : Int) < L.length := by omega
        have hm2 : IntKind.i64.wrap (((m + 1 : Nat) : Int) - 1) = (m : Int) := by rw [IntWalk.i64_in _ (by omega)]; omega
        have hm3 : (0 : Int) < ((m + 1 : Nat) : Int) := by omega
        have hle : ltB f.name x.name = Op.bytesLess f.name.toList x.name.toList := rfl
        clear h0' hbl'
        have HE2 : Hid (goodLR ⟨#[]⟩ L = (Op.bytesLess f.name.toList x.name.toList && goodLR x.name (L.drop (m + 1 + 1)))) := by
          show _ = _
          rw [HE.out, HI.out, hbf, hle]
          rfl
        clear HE HI HN HB hbf hle
        cases hq : Op.bytesLess f.name.toList x.name.toList
        · go_wp2_with fail
          go_quiet (fail)
          go_wp2_with fail
          go_ret
          exact ⟨by rw [HG2.out, HE2.out, hq]; rfl, below_drewN bel _⟩
        · have HE3 : Hid (goodLR ⟨#[]⟩ L = goodLR x.name (L.drop (m + 1 + 1))) := by show _ = _; rw [HE2.out, hq]; rfl
          clear HE2
          go_wp2_with fail
          go_quiet (fail)
          go_wp2_with fail
          go_roundw
          case rel => exact ⟨m + 1 + 1, hlt, by rw [Int.natCast_add, Int.natCast_add]; rfl, below_drewN bel _, x.name, HE3.out, .inr ⟨m + 1, x, rfl, HX.out, rfl⟩⟩
          case measure => simp [intOf]; omega
    · obtain rfl : k = L.length := by omega
      have hj : ¬ (L.length : Int) < L.length := by omega
      rw [List.drop_length] at he
      have HE := Lib.hid he
      clear he hb
      go_wp2_with fail
      go_ret
      exact ⟨by rw [HG2.out, HE.out]; rfl, bel⟩
end Go.Proofs.YtbpmgpbmeganoaaDoor

/- refs.Get, isIdOrEmpty, replace, Set: contracts. -/
namespace Go.Proofs.YtbpmgpbmeganoaaDoor
open Go.RowKit

theorem idOr_any (s : ByteArray) (w : World) : Calls Tryd.prog 103 #[.string s] w fun e w' => e = .returned (.bool (isId s)) ∧ w' = w := by
  have hz : s.data.toList.length = s.size := rfl
  by_cases h0 : s.size = 0
  · have e0 : s.data.toList = [] := List.eq_nil_of_length_eq_zero h0
    obtain rfl : s = ⟨#[]⟩ := bytes_eq e0
    have HI : Hid (isId ⟨#[]⟩ = true) := rfl
    go_enter Tryd.func103, Tryd.ntmps103
    go_wp2_with fail
    go_ret
    exact ⟨by rw [HI.out]; rfl, rfl⟩
  · have he : s.toList.isEmpty = false := by
      rw [toList_data]
      cases hq : s.data.toList with
      | nil => rw [hq] at hz; simp at hz; omega
      | cons a l => rfl
    have he2 : ¬ s.toList = [] := fun q => by rw [q] at he; cases he
    by_cases h32 : s.size = 32
    · have HI : Hid (isId s = true) := by show _ = _; unfold isId; rw [decide_eq_true h32, Bool.or_true]
      have hi : (((s.size : Nat) : Int) == 32) = true := by rw [h32]; rfl
      go_enter Tryd.func103, Tryd.ntmps103
      go_wp2_with fail
      go_ret
      exact ⟨by rw [HI.out]; rfl, rfl⟩
    · have HI : Hid (isId s = false) := by show _ = _; unfold isId; rw [decide_eq_false h32, decide_eq_false h0]; rfl
      have hi : (((s.size : Nat) : Int) == 32) = false := by rw [beq_eq_false_iff_ne]; omega
      go_enter Tryd.func103, Tryd.ntmps103
      go_wp2_with fail
      go_ret
      exact ⟨by rw [HI.out]; rfl, rfl⟩
theorem hasR_some {L : List Rf} {b n : ByteArray} (hr : rrs b L) (h : hasR n L = true) : ∃ x, L[rlow n L]? = some x ∧ x.name = n ∧ getRf n L = some x ∧ rlow n L < L.length := by
  have hg := getR_low n L b hr
  unfold hasR at h
  cases hx : L[rlow n L]? with
  | none => rw [hx] at hg; rw [hg] at h; cases h
  | some x =>
    rw [hx] at hg
    simp only at hg
    by_cases e : x.name = n
    · rw [if_pos e] at hg
      exact ⟨x, rfl, e, hg, (List.getElem?_eq_some_iff.1 hx).1⟩
    · rw [if_neg e] at hg
      rw [hg] at h
      cases h
set_option maxRecDepth 100000 in
/-- what Get answers -/
theorem GetR_any (L : List Rf) (n : ByteArray) (A : Option Addr) (c : Nat) (w : World) (hP : Rfs w w.heap.size A L) (hl : L.length ≤ 140737488355328) :
    Calls Tryd.prog 104 #[.slice A L.length c, .string n] w fun e w' => e = .returned (.string (if goodR L then idAt n L else ⟨#[]⟩)) ∧ Below w.heap.size w w' := by
  have C := Lib.hid (RfGood_any L A c w hP hl)
  cases hG : goodR L
  · rw [hG] at C
    go_enter Tryd.func104, Tryd.ntmps104
    go_wp2_with fail
    (with_reducible refine C.out.mono ?_)
    rintro _ V ⟨rfl, b1⟩
    go_wp2_with fail
    go_ret
    exact ⟨rfl, b1⟩
  rw [hG] at C
  obtain ⟨hl2, hr, _⟩ := (goodR_iff L).1 hG
  have HF : Hid (∀ V, Below w.heap.size w V → Calls Tryd.prog 110 #[.slice A L.length c, .string n] V fun e w' => e = .returned (.tuple #[.int .i64 (rlow n L : Int), .bool (hasR n L)]) ∧ Below V.heap.size V w') := fun V b => rfind_any L n A c V (hP.up b) (by omega) hr
  cases hh : hasR n L
  · have hI : Hid (idAt n L = ⟨#[]⟩) := by
      show _ = _
      unfold hasR at hh
      unfold idAt
      cases hq : getRf n L with
      | none => rfl
      | some x => rw [hq] at hh; cases hh
    rw [hh] at HF
    generalize rlow n L = k at *
    clear hG hl2 hr hh
    go_enter Tryd.func104, Tryd.ntmps104
    go_wp2_with fail
    (with_reducible refine C.out.mono ?_)
    rintro _ V ⟨rfl, b1⟩
    have C2 := Lib.hid (HF.out V b1)
    go_wp2_with fail
    (with_reducible refine C2.out.mono ?_)
    rintro _ V2 ⟨rfl, b2⟩
    replace b1 := b1.trans (b2.mono b1.size)
    go_wp2_with fail
    go_ret
    exact ⟨by rw [hI.out]; rfl, b1⟩
  · obtain ⟨x, hx, _, hg, hlt⟩ := hasR_some hr hh
    have hI : Hid (idAt n L = x.id) := by show _ = _; unfold idAt; rw [hg]
    rw [hh] at HF
    obtain ⟨ad, rfl, hbk, h0, h1⟩ := hP _ _ hx
    generalize rlow n L = k at *
    have hk : (k : Int) < L.length := by omega
    have HB := Lib.hid hbk
    have H1 := Lib.hid h1
    clear hG hl2 hr hh hx hg h0 h1 hbk
    go_enter Tryd.func104, Tryd.ntmps104
    go_wp2_with fail
    (with_reducible refine C.out.mono ?_)
    rintro _ V ⟨rfl, b1⟩
    have C2 := Lib.hid (HF.out V b1)
    go_wp2_with fail
    (with_reducible refine C2.out.mono ?_)
    rintro _ V2 ⟨rfl, b2⟩
    replace b1 := b1.trans (b2.mono b1.size)
    have g1 := (b1.cell (p := ⟨(ad.add (k * 2)).block, (ad.add (k * 2)).off + 1, none⟩) HB.out).trans H1.out
    clear b2
    go_wp2_with fail
    go_ret
    exact ⟨by rw [hI.out]; rfl, b1⟩
end Go.Proofs.YtbpmgpbmeganoaaDoor
