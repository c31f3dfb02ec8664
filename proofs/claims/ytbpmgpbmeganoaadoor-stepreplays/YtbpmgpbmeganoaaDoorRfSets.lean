/- Texts in one: SpGood, SpWrite, SpGB, RfRep, RfSets. -/
import Derived.Test.YtbpmgpbmeganoaaDoorSpMath
import Derived.Test.YtbpmgpbmeganoaaDoorSpMem
import Derived.Test.YtbpmgpbmeganoaaDoorRfSet
import Derived.Test.YtbpmgpbmeganoaaDoorRfIter
import Derived.DataElems
/- step.Good and what it calls: contracts. -/
namespace Go.Proofs.YtbpmgpbmeganoaaDoor
open Go.RowKit

theorem spIdOr_any (s : ByteArray) (w : World) : Calls Tryd.prog 44 #[.string s] w fun e w' => e = .returned (.bool (isId s)) ∧ w' = w := by
  have hz : s.data.toList.length = s.size := rfl
  by_cases h0 : s.size = 0
  · have e0 : s.data.toList = [] := List.eq_nil_of_length_eq_zero h0
    obtain rfl : s = ⟨#[]⟩ := bytes_eq e0
    have HI : Hid (isId ⟨#[]⟩ = true) := rfl
    go_enter Tryd.func44, Tryd.ntmps44
    go_wp2_with fail
    go_ret
    exact ⟨by rw [HI.out]; rfl, rfl⟩
  · have he : s.toList.isEmpty = false := by
      rw [toList_data]
      cases hq : s.data.toList with
      | nil => rw [hq] at hz; simp at hz; omega
      | cons a l => rfl
    have he2 : ¬ s.toList = [] := fun q => by rw [q] at he; cases he
    by_cases h32 : s.size = 32
    · have HI : Hid (isId s = true) := by show _ = _; unfold isId; rw [decide_eq_true h32, Bool.or_true]
      have hi : (((s.size : Nat) : Int) == 32) = true := by rw [h32]; rfl
      go_enter Tryd.func44, Tryd.ntmps44
      go_wp2_with fail
      go_ret
      exact ⟨by rw [HI.out]; rfl, rfl⟩
    · have HI : Hid (isId s = false) := by show _ = _; unfold isId; rw [decide_eq_false h32, decide_eq_false h0]; rfl
      have hi : (((s.size : Nat) : Int) == 32) = false := by rw [beq_eq_false_iff_ne]; omega
      go_enter Tryd.func44, Tryd.ntmps44
      go_wp2_with fail
      go_ret
      exact ⟨by rw [HI.out]; rfl, rfl⟩
def isSig (n : Int) : Bool := decide (0 ≤ n) && decide (n ≤ 7)
theorem isSigner_any (n : Int) (w : World) : Calls Tryd.prog 45 #[.int .i64 n] w fun e w' => e = .returned (.bool (isSig n)) ∧ w' = w := by
  by_cases h0 : 0 ≤ n
  · by_cases h7 : n ≤ 7
    · have HI : Hid (isSig n = true) := by show _ = _; unfold isSig; rw [decide_eq_true h0, decide_eq_true h7]; rfl
      have hi : n < 8 := by omega
      go_enter Tryd.func45, Tryd.ntmps45
      go_wp2_with fail
      go_ret
      exact ⟨by rw [HI.out]; rfl, rfl⟩
    · have HI : Hid (isSig n = false) := by show _ = _; unfold isSig; rw [decide_eq_false h7, Bool.and_false]
      have hi : ¬ n < 8 := by omega
      go_enter Tryd.func45, Tryd.ntmps45
      go_wp2_with fail
      go_ret
      exact ⟨by rw [HI.out]; rfl, rfl⟩
  · have HI : Hid (isSig n = false) := by show _ = _; unfold isSig; rw [decide_eq_false h0]; rfl
    go_enter Tryd.func45, Tryd.ntmps45
    go_wp2_with fail
    go_ret
    exact ⟨by rw [HI.out]; rfl, rfl⟩
/-- the boxed step, and nothing else has turned -/
def Sx (w : World) (s : Sp) (p : SpAt) (W : World) : Prop := Arr W w.heap.size 25 (spArr s p) ∧ SpIn W w.heap.size s p ∧ Below w.heap.size w W
theorem Sx.start {w : World} {s : Sp} {p : SpAt} (h : SpIn w w.heap.size s p) : Sx w s p (w.alloc (.cells (spArr s p) 25)) :=
  ⟨Arr.new _ _ _, h.below ((Below.refl _ _).alloc (Nat.le_refl _) _), (Below.refl _ _).alloc (Nat.le_refl _) _⟩
theorem Sx.below {w W W' : World} {s : Sp} {p : SpAt} (h : Sx w s p W) (b : Below W.heap.size W W') : Sx w s p W' :=
  ⟨h.1.below b h.1.lt, h.2.1.below (b.mono (Nat.le_of_lt h.1.lt)), h.2.2.trans (b.mono h.2.2.size)⟩
theorem Sx.c {w W : World} {s : Sp} {p : SpAt} (h : Sx w s p W) :
    W.cell? ⟨w.heap.size, 0, none⟩ = some (.string s.ref) ∧ W.cell? ⟨w.heap.size, 1, none⟩ = some (.string s.old) ∧ W.cell? ⟨w.heap.size, 2, none⟩ = some (.string s.new) ∧
    W.cell? ⟨w.heap.size, 3, none⟩ = some (.slice p.wa s.who.length p.wc) ∧ W.cell? ⟨w.heap.size, 4, none⟩ = some (.slice p.sa s.seals.length p.sc) :=
  ⟨h.1.cell 0, h.1.cell 1, h.1.cell 2, h.1.cell 3, h.1.cell 4⟩
theorem Sx.up {w W : World} {s : Sp} {p : SpAt} (h : Sx w s p W) : SpIn W W.heap.size s p := h.2.1.mono h.2.2.size
theorem same_lists (a b : ByteArray) : (a.toList == b.toList) = decide (a = b) := by
  have := sameB_iff a b
  unfold sameB at this
  cases hq : (a.toList == b.toList) with
  | true => rw [decide_eq_true (this.1 hq)]
  | false => rw [decide_eq_false (fun e => by rw [this.2 e] at hq; cases hq)]
/-- where Good's loop stands -/
def SgRel (w : World) (s : Sp) (p : SpAt) (i : Value) (wr : World) : Prop :=
  ∃ k : Nat, k ≤ s.who.length ∧ i = .int .i64 (k : Int) ∧ Sx w s p wr ∧
    ∃ b, -1 ≤ b ∧ gdS (-1) s.prs = gdS b (s.prs.drop k) ∧ (k = 0 ∧ b = -1 ∨ ∃ m x, k = m + 1 ∧ s.who[m]? = some x ∧ b = x)
theorem prs_next {s : Sp} (hl : s.seals.length = s.who.length) {k : Nat} (hk : k < s.who.length) : s.prs.drop k = (s.who[k], s.seals[k]'(by omega)) :: s.prs.drop (k + 1) := by
  have h : k < s.prs.length := by rw [prs_len hl]; exact hk
  have h2 := prs_get (s := s) (List.getElem?_eq_getElem hk) (List.getElem?_eq_getElem (show k < s.seals.length by omega))
  rw [List.getElem?_eq_getElem h] at h2
  rw [List.drop_eq_getElem_cons h, Option.some.inj h2]
set_option maxRecDepth 100000 in
set_option maxHeartbeats 1000000 in
theorem SpGood_any (s : Sp) (p : SpAt) (w : World) (hP : SpIn w w.heap.size s p) (hb : s.who.length ≤ 140737488355328) (_ : s.seals.length ≤ 140737488355328) :
    Calls Tryd.prog 18 #[.agg (spArr s p)] w fun e w' => e = .returned (.int .i64 (spGood s)) ∧ Below w.heap.size w w' := by
  obtain ⟨wa, wc, sa, sc⟩ := p
  have h1 := Lib.hid (Sx.start hP)
  have CN := Lib.hid (fun V => NamedR_any s.ref V)
  have CO := Lib.hid (fun V => spIdOr_any s.old V)
  have CI := Lib.hid (fun V => spIdOr_any s.new V)
  have HQ := same_lists s.old s.new
  have hG : spGood s = if !spForm s then 2 else if 8 < s.who.length ∨ s.seals.length ≠ s.who.length then 6 else gdS (-1) s.prs := rfl
  unfold spForm at hG
  have HG := Lib.hid hG
  clear hG
  generalize spGood s = G at *
  generalize hA : spArr s ⟨wa, wc, sa, sc⟩ = arr at *
  have HA := Lib.hid hA
  clear hA
  go_enter Tryd.func18, Tryd.ntmps18
  go_upto_region 1 with fail
  refine wp_forget (Sx w s ⟨wa, wc, sa, sc⟩) h1.out ?_
  clear h1 hP
  intro W hW
  have hA := HA.out
  clear HA
  subst hA
  obtain ⟨c0, _, _, _, _⟩ := hW.c
  cases hn : namedR s.ref
  · rw [hn] at CN HG
    go_wp2_with fail
    (with_reducible refine (CN.out W).mono ?_)
    rintro _ V ⟨rfl, b1⟩
    have hV := hW.below b1
    go_wp2_with fail
    go_ret
    exact ⟨by rw [HG.out]; rfl, hV.2.2⟩
  rw [hn] at CN HG
  cases ho : isId s.old
  · rw [ho] at CO HG
    go_wp2_with fail
    (with_reducible refine (CN.out W).mono ?_)
    rintro _ V ⟨rfl, b1⟩
    have hV := hW.below b1
    clear c0 b1 hW
    obtain ⟨_, c1, _, _, _⟩ := hV.c
    go_wp2_with fail
    (with_reducible refine (CO.out V).mono ?_)
    rintro _ V ⟨rfl, rfl⟩
    go_wp2_with fail
    go_ret
    exact ⟨by rw [HG.out]; rfl, hV.2.2⟩
  rw [ho] at CO HG
  cases hi : isId s.new
  · rw [hi] at CI HG
    go_wp2_with fail
    (with_reducible refine (CN.out W).mono ?_)
    rintro _ V ⟨rfl, b1⟩
    have hV := hW.below b1
    clear c0 b1 hW
    obtain ⟨_, c1, c2, _, _⟩ := hV.c
    go_wp2_with fail
    (with_reducible refine (CO.out V).mono ?_)
    rintro _ V ⟨rfl, rfl⟩
    go_wp2_with fail
    (with_reducible refine (CI.out _).mono ?_)
    rintro _ V ⟨rfl, rfl⟩
    go_wp2_with fail
    go_ret
    exact ⟨by rw [HG.out]; rfl, hV.2.2⟩
  rw [hi] at CI HG
  by_cases he : s.old = s.new
  · rw [decide_eq_true he] at HG HQ
    clear he
    go_wp2_with fail
    (with_reducible refine (CN.out W).mono ?_)
    rintro _ V ⟨rfl, b1⟩
    have hV := hW.below b1
    clear c0 b1 hW
    obtain ⟨_, c1, c2, _, _⟩ := hV.c
    go_wp2_with fail
    (with_reducible refine (CO.out V).mono ?_)
    rintro _ V ⟨rfl, rfl⟩
    go_wp2_with fail
    (with_reducible refine (CI.out _).mono ?_)
    rintro _ V ⟨rfl, rfl⟩
    go_wp2_with fail
    go_ret
    exact ⟨by rw [HG.out]; rfl, hV.2.2⟩
  rw [decide_eq_false he] at HG HQ
  clear he hn ho hi
  have HG2 : Hid (G = if 8 < s.who.length ∨ s.seals.length ≠ s.who.length then 6 else gdS (-1) s.prs) := HG.out
  clear HG
  by_cases h8 : 8 < s.who.length
  · have HG3 : Hid (G = 6) := by show _ = _; rw [HG2.out, if_pos (.inl h8)]
    have hi8 : (8 : Int) < s.who.length := by omega
    go_wp2_with fail
    (with_reducible refine (CN.out W).mono ?_)
    rintro _ V ⟨rfl, b1⟩
    have hV := hW.below b1
    clear c0 b1 hW
    obtain ⟨_, c1, c2, c3, _⟩ := hV.c
    go_wp2_with fail
    (with_reducible refine (CO.out V).mono ?_)
    rintro _ V ⟨rfl, rfl⟩
    go_wp2_with fail
    (with_reducible refine (CI.out _).mono ?_)
    rintro _ V ⟨rfl, rfl⟩
    go_wp2_with fail
    go_ret
    exact ⟨by rw [HG3.out]; rfl, hV.2.2⟩
  have hi8 : ¬ (8 : Int) < s.who.length := by omega
  by_cases hl : s.seals.length ≠ s.who.length
  · have HG3 : Hid (G = 6) := by show _ = _; rw [HG2.out, if_pos (.inr hl)]
    have hli : ((s.seals.length : Int) != s.who.length) = true := by rw [bne_iff_ne]; omega
    go_wp2_with fail
    (with_reducible refine (CN.out W).mono ?_)
    rintro _ V ⟨rfl, b1⟩
    have hV := hW.below b1
    clear c0 b1 hW
    obtain ⟨_, c1, c2, c3, c4⟩ := hV.c
    go_wp2_with fail
    (with_reducible refine (CO.out V).mono ?_)
    rintro _ V ⟨rfl, rfl⟩
    go_wp2_with fail
    (with_reducible refine (CI.out _).mono ?_)
    rintro _ V ⟨rfl, rfl⟩
    go_wp2_with fail
    go_ret
    exact ⟨by rw [HG3.out]; rfl, hV.2.2⟩
  replace hl : s.seals.length = s.who.length := Decidable.byContradiction hl
  have hli : ((s.seals.length : Int) != s.who.length) = false := by rw [hl]; simp
  have HG3 : Hid (G = gdS (-1) s.prs) := by show _ = _; rw [HG2.out, if_neg (by omega)]
  clear HG2
  go_wp2_with fail
  (with_reducible refine (CN.out W).mono ?_)
  rintro _ V ⟨rfl, b1⟩
  have hV := hW.below b1
  clear c0 b1 hW
  obtain ⟨_, c1, c2, c3, c4⟩ := hV.c
  go_wp2_with fail
  (with_reducible refine (CO.out V).mono ?_)
  rintro _ V ⟨rfl, rfl⟩
  go_wp2_with fail
  (with_reducible refine (CI.out _).mono ?_)
  rintro _ V ⟨rfl, rfl⟩
  go_wp2_with fail
  have hst : Hid (SgRel w s ⟨wa, wc, sa, sc⟩ (.int .i64 0) V) := ⟨0, Nat.zero_le _, rfl, hV, -1, Int.le_refl _, by rw [List.drop_zero], .inl ⟨rfl, rfl⟩⟩
  clear hV c1 c2 c3 c4 CN CO CI HQ
  go_loopw [46] (fun i wr => SgRel w s ⟨wa, wc, sa, sc⟩ i wr) (fun i _ => s.who.length - (intOf i).toNat)
  case atStart => exact hst.out
  case round =>
    clear hst
    obtain ⟨k, hk, rfl, hX, b, hb1, hE, hb⟩ := hrel
    by_cases hlt : k < s.who.length
    · have hj : (k : Int) < s.who.length := by omega
      have hlt2 : k < s.seals.length := by omega
      obtain ⟨ad, rfl, hbl, g0⟩ := hX.2.1.nums k s.who[k] (List.getElem?_eq_getElem hlt)
      obtain ⟨ad2, rfl, hbl2, g1⟩ := hX.2.1.txs k s.seals[k] (List.getElem?_eq_getElem hlt2)
      rw [prs_next hl hlt, gdS] at hE
      have HX := Lib.hid (List.getElem?_eq_getElem hlt)
      simp only at hE
      generalize s.who[k] = x at *
      generalize s.seals[k] = t at *
      have HE := Lib.hid hE
      have HB := Lib.hid hb
      have HB1 := Lib.hid hb1
      clear hE hb hb1
      obtain ⟨_, _, _, c3, c4⟩ := hX.c
      have CS := Lib.hid (fun V => isSigner_any x V)
      have hsig : isSig x = (decide (0 ≤ x) && decide (x ≤ 7)) := rfl
      cases hs : isSig x
      · have HE2 : Hid (gdS (-1) s.prs = 3) := by
          show _ = _
          rw [HE.out, if_pos]
          rw [hsig, Bool.and_eq_false_iff, decide_eq_false_iff_not, decide_eq_false_iff_not] at hs
          have := HB1.out
          omega
        rw [hs] at CS
        clear HE hs hsig HB HB1 HX
        go_wp2_with fail
        (with_reducible refine (CS.out _).mono ?_)
        rintro _ V ⟨rfl, rfl⟩
        go_wp2_with fail
        go_ret
        exact ⟨by rw [HG3.out, HE2.out]; rfl, hX.2.2⟩
      rw [hs] at CS
      have hx0 : 0 ≤ x ∧ x ≤ 7 := by
        rw [hsig, Bool.and_eq_true, decide_eq_true_iff, decide_eq_true_iff] at hs
        exact hs
      clear hs hsig
      have HE2 : Hid ((k = 0 ∨ b < x) → gdS (-1) s.prs = if t.size ≠ 32 then 2 else gdS x (s.prs.drop (k + 1))) := fun h => by
        rw [HE.out, if_neg]
        rcases h with rfl | h
        · rcases HB.out with ⟨_, rfl⟩ | ⟨m, y, h0, _⟩
          · omega
          · omega
        · omega
      rcases HB.out with ⟨hk0, hb0⟩ | ⟨m, y, hkm, hm, hby⟩
      · have HE3 := Lib.hid (HE2.out (.inl hk0))
        have hk1 : ¬ (0 : Int) < (k : Int) := by omega
        clear HE HE2 HB HB1 hb0 hk0
        by_cases ht : t.size ≠ 32
        · have hti : ((t.size : Int) != 32) = true := by rw [bne_iff_ne]; omega
          have HE4 : Hid (gdS (-1) s.prs = 2) := by show _ = _; rw [HE3.out, if_pos ht]
          go_wp2_with fail
          (with_reducible refine (CS.out _).mono ?_)
          rintro _ V ⟨rfl, rfl⟩
          go_wp2_with fail
          go_ret
          exact ⟨by rw [HG3.out, HE4.out]; rfl, hX.2.2⟩
        · have hti : ((t.size : Int) != 32) = false := by rw [bne_eq_false_iff_eq]; omega
          have HE4 : Hid (gdS (-1) s.prs = gdS x (s.prs.drop (k + 1))) := by show _ = _; rw [HE3.out, if_neg ht]
          go_wp2_with fail
          (with_reducible refine (CS.out _).mono ?_)
          rintro _ V ⟨rfl, rfl⟩
          go_wp2_with fail
          go_roundw
          case rel => exact ⟨k + 1, hlt, by rw [Int.natCast_add]; rfl, hX, x, by omega, HE4.out, .inr ⟨k, x, rfl, HX.out, rfl⟩⟩
          case measure => simp [intOf]; omega
      · obtain ⟨ad', e', hbl', g2⟩ := hX.2.1.nums m y hm
        cases e'
        have hm1 : (m : Int) < s.who.length := by omega
        have hm2 : IntKind.i64.wrap ((k : Int) - 1) = (m : Int) := by rw [IntWalk.i64_in _ (by omega)]; omega
        have hm3 : (0 : Int) < (k : Int) := by omega
        replace hby := hby.symm
        subst hby
        have HKM := Lib.hid hkm
        clear hkm
        by_cases hyx : x ≤ y
        · have HE3 : Hid (gdS (-1) s.prs = 3) := by show _ = _; rw [HE.out, if_pos (by omega)]
          clear HE HE2 HB HB1
          go_wp2_with fail
          (with_reducible refine (CS.out _).mono ?_)
          rintro _ V ⟨rfl, rfl⟩
          go_wp2_with fail
          go_ret
          exact ⟨by rw [HG3.out, HE3.out]; rfl, hX.2.2⟩
        have HE3 := Lib.hid (HE2.out (.inr (by omega)))
        clear HE HE2 HB HB1
        by_cases ht : t.size ≠ 32
        · have hti : ((t.size : Int) != 32) = true := by rw [bne_iff_ne]; omega
          have HE4 : Hid (gdS (-1) s.prs = 2) := by show _ = _; rw [HE3.out, if_pos ht]
          go_wp2_with fail
          (with_reducible refine (CS.out _).mono ?_)
          rintro _ V ⟨rfl, rfl⟩
          go_wp2_with fail
          go_ret
          exact ⟨by rw [HG3.out, HE4.out]; rfl, hX.2.2⟩
        · have hti : ((t.size : Int) != 32) = false := by rw [bne_eq_false_iff_eq]; omega
          have HE4 : Hid (gdS (-1) s.prs = gdS x (s.prs.drop (k + 1))) := by show _ = _; rw [HE3.out, if_neg ht]
          go_wp2_with fail
          (with_reducible refine (CS.out _).mono ?_)
          rintro _ V ⟨rfl, rfl⟩
          go_wp2_with fail
          go_roundw
          case rel => exact ⟨k + 1, hlt, by rw [Int.natCast_add]; rfl, hX, x, by omega, HE4.out, .inr ⟨k, x, rfl, HX.out, rfl⟩⟩
          case measure => simp [intOf]; omega
    · obtain rfl : k = s.who.length := by omega
      have hj : ¬ (s.who.length : Int) < s.who.length := by omega
      have hd : s.prs.drop s.who.length = [] := List.drop_of_length_le (Nat.le_of_eq (prs_len hl))
      rw [hd] at hE
      have HE := Lib.hid hE
      clear hE hb hb1
      obtain ⟨_, _, _, c3, c4⟩ := hX.c
      go_wp2_with fail
      go_ret
      exact ⟨by rw [HG3.out, HE.out]; rfl, hX.2.2⟩
end Go.Proofs.YtbpmgpbmeganoaaDoor

/- step.writeChange, Body, goodBody: contracts. -/
namespace Go.Proofs.YtbpmgpbmeganoaaDoor
open Go.RowKit

/-- a writer of these bytes, or one that was given too long a text -/
def WX (w : World) (g : Nat) : Option (List UInt8) → Prop
  | some l => WL w g l
  | none => WBad w g 1
theorem WX.below {w w' : World} {g : Nat} {st : Option (List UInt8)} (h : WX w g st) (k : Below w.heap.size w w') : WX w' g st := by
  cases st with
  | none => exact WBad.below h k
  | some l => exact WL.below h k
theorem WX.lt {w : World} {g : Nat} {st : Option (List UInt8)} (h : WX w g st) : g < w.heap.size := by
  cases st with
  | none => obtain ⟨v, n, ha⟩ := h; exact ha.lt
  | some l => exact WL.lt h
def txX (t : ByteArray) : Option (List UInt8) → Option (List UInt8)
  | none => none
  | some l => if t.size ≤ 4096 then some (l ++ txt t) else none
def WxEnd (w : World) (g : Nat) (st : Option (List UInt8)) (x : Ending) (w' : World) : Prop := x = .returned (.tuple #[]) ∧ WX w' g st ∧ w.grownBy w' (some g)
def ShortX (n : Nat) (st : Option (List UInt8)) : Prop := ∀ l, st = some l → l.length ≤ n
theorem txX_short {n : Nat} {st : Option (List UInt8)} (t : ByteArray) (h : ShortX n st) : ShortX (n + 4099) (txX t st) := fun l hl => by
  cases st with
  | none => cases hl
  | some l0 =>
    unfold txX at hl
    simp only at hl
    split at hl
    · rename_i ht
      cases hl
      have := txt_len t ht
      have := h l0 rfl
      rw [List.length_append]
      omega
    · cases hl
theorem wx_text (g : Nat) (st : Option (List UInt8)) (t : ByteArray) (hs : ShortX 281474976710656 st) (w : World) (h : WX w g st) :
    Calls Tryd.prog 69 #[.pointer (some ⟨g, 0, none⟩), .string t] w (WxEnd w g (txX t st)) := by
  cases st with
  | none =>
    by_cases ht : t.size ≤ 4096
    · exact (WText_bad g t _ 1 0 (by decide) (putTextIs_yes ⟨#[]⟩ t (by decide) ht) w h).mono fun _ _ q => q
    · exact (WText_bad g t _ 1 1 (by decide) (putTextIs_no ⟨#[]⟩ t (by omega)) w h).mono fun _ _ q => q
  | some l =>
    by_cases ht : t.size ≤ 4096
    · rw [show txX t (some l) = some (l ++ txt t) from if_pos ht]
      exact (wl_text g l t ht (hs l rfl) w h).mono fun _ _ q => q
    · rw [show txX t (some l) = none from if_neg ht]
      obtain ⟨ps, h1, _⟩ := h
      exact (WText_err g ps t _ 1 (by decide) (putTextIs_no ⟨#[]⟩ t (by omega)) w h1).mono fun _ _ q => q
/-- the box of a step beside a writer -/
def Sw (g b : Nat) (s : Sp) (p : SpAt) (W : World) : Prop := Arr W b 25 (spArr s p) ∧ b ≠ g ∧ b < W.heap.size
theorem Sw.kept {g b : Nat} {s : Sp} {p : SpAt} {W W' : World} (h : Sw g b s p W) (k : W.grownBy W' (some g)) : Sw g b s p W' :=
  ⟨h.1.kept k (fun e => h.2.1 (by cases e; rfl)), h.2.1, Nat.lt_of_lt_of_le h.2.2 k.size⟩
def chX (s : Sp) (st : Option (List UInt8)) : Option (List UInt8) := txX s.new (txX s.old (txX s.ref st))
theorem chX_short {n : Nat} {st : Option (List UInt8)} (s : Sp) (h : ShortX n st) : ShortX (n + 4099 + 4099 + 4099) (chX s st) := txX_short _ (txX_short _ (txX_short _ h))
theorem chX_ok (s : Sp) (h : ¬ spLong s) (l : List UInt8) : chX s (some l) = some (l ++ chL s) := by
  unfold spLong at h
  unfold chX chL
  rw [show txX s.ref (some l) = some (l ++ txt s.ref) from if_pos (by omega)]
  rw [show txX s.old (some (l ++ txt s.ref)) = some (l ++ txt s.ref ++ txt s.old) from if_pos (by omega)]
  rw [show txX s.new (some (l ++ txt s.ref ++ txt s.old)) = some (l ++ txt s.ref ++ txt s.old ++ txt s.new) from if_pos (by omega)]
  simp only [List.append_assoc]
theorem chX_no (s : Sp) (h : spLong s) (l : List UInt8) : chX s (some l) = none := by
  unfold spLong at h
  unfold chX
  by_cases h1 : s.ref.size ≤ 4096
  · rw [show txX s.ref (some l) = some (l ++ txt s.ref) from if_pos h1]
    by_cases h2 : s.old.size ≤ 4096
    · rw [show txX s.old (some (l ++ txt s.ref)) = some (l ++ txt s.ref ++ txt s.old) from if_pos h2]
      exact if_neg (by omega)
    · rw [show txX s.old (some (l ++ txt s.ref)) = none from if_neg h2]; rfl
  · rw [show txX s.ref (some l) = none from if_neg h1]; rfl
set_option maxRecDepth 100000 in
theorem writeChange_any (s : Sp) (p : SpAt) (g : Nat) (st : Option (List UInt8)) (hs : ShortX 1000 st) (w : World) (h : WX w g st) :
    Calls Tryd.prog 37 #[.pointer (some ⟨g, 0, none⟩), .agg (spArr s p)] w (WxEnd w g (chX s st)) := by
  have hg := h.lt
  have h1 : Hid (Sw g w.heap.size s p (w.alloc (.cells (spArr s p) 25)) ∧ WX (w.alloc (.cells (spArr s p) 25)) g st ∧ w.grownBy (w.alloc (.cells (spArr s p) 25)) (some g)) :=
    ⟨⟨Arr.new _ _ _, by omega, by simp⟩, h.below ((Below.refl _ _).alloc (Nat.le_refl _) _), gb_alloc _⟩
  have hs0 : ShortX 281474976710656 st := fun l hl => by have := hs l hl; omega
  have hs1 : ShortX 281474976710656 (txX s.ref st) := fun l hl => by have := txX_short s.ref hs l hl; omega
  have hs2 : ShortX 281474976710656 (txX s.old (txX s.ref st)) := fun l hl => by have := txX_short s.old (txX_short s.ref hs) l hl; omega
  have C0 : Hid (∀ W, WX W g st → Calls Tryd.prog 69 #[.pointer (some ⟨g, 0, none⟩), .string s.ref] W (WxEnd W g (txX s.ref st))) := fun W h => wx_text g st s.ref hs0 W h
  have C1 : Hid (∀ W, WX W g (txX s.ref st) → Calls Tryd.prog 69 #[.pointer (some ⟨g, 0, none⟩), .string s.old] W (WxEnd W g (txX s.old (txX s.ref st)))) := fun W h => wx_text g _ s.old hs1 W h
  have C2 : Hid (∀ W, WX W g (txX s.old (txX s.ref st)) → Calls Tryd.prog 69 #[.pointer (some ⟨g, 0, none⟩), .string s.new] W (WxEnd W g (chX s st))) := fun W h => wx_text g _ s.new hs2 W h
  clear h hs hs0 hs1 hs2
  generalize hb : w.heap.size = b at *
  generalize hA : spArr s p = arr at *
  have HA := Lib.hid hA
  clear hA
  generalize txX s.old (txX s.ref st) = st2 at *
  generalize txX s.ref st = st1 at *
  generalize chX s st = st3 at *
  go_enter Tryd.func37, Tryd.ntmps37
  go_upto_region 1 with fail
  refine wp_forget (fun W => Sw g b s p W ∧ WX W g st ∧ w.grownBy W (some g)) h1.out ?_
  clear h1
  rintro W ⟨hX, hW, hK⟩
  have c0 : W.cell? ⟨b, 0, none⟩ = some (.string s.ref) := hX.1.cell 0
  go_wp2_with fail
  (with_reducible refine (C0.out W hW).mono ?_)
  rintro _ W2 ⟨rfl, h2, k2⟩
  replace hX := hX.kept k2
  replace hK := gb_trans hK k2
  clear hW c0 k2
  have c1 : W2.cell? ⟨b, 1, none⟩ = some (.string s.old) := hX.1.cell 1
  go_wp2_with fail
  (with_reducible refine (C1.out W2 h2).mono ?_)
  rintro _ W3 ⟨rfl, h3, k3⟩
  replace hX := hX.kept k3
  replace hK := gb_trans hK k3
  clear h2 c1 k3
  have c2 : W3.cell? ⟨b, 2, none⟩ = some (.string s.new) := hX.1.cell 2
  go_wp2_with fail
  (with_reducible refine (C2.out W3 h3).mono ?_)
  rintro _ W4 ⟨rfl, h4, k4⟩
  go_wp2_with fail
  go_end0
  exact ⟨rfl, h4, gb_trans hK k4⟩
/-- where Body stands, its writer made -/
def Bd (w : World) (b g : Nat) (s : Sp) (p : SpAt) (st : Option (List UInt8)) (W : World) : Prop := Arr W b 25 (spArr s p) ∧ b ≠ g ∧ w.heap.size ≤ g ∧ Below w.heap.size w W ∧ WX W g st
theorem Bd.wrote {w W W' : World} {b g : Nat} {s : Sp} {p : SpAt} {st st' : Option (List UInt8)} (h : Bd w b g s p st W) (h' : WX W' g st') (k : W.grownBy W' (some g)) : Bd w b g s p st' W' :=
  ⟨h.1.kept k (fun e => h.2.1 (by cases e; rfl)), h.2.1, h.2.2.1, below_gb h.2.2.2.1 k h.2.2.1 h.2.2.2.1.size, h'⟩
theorem num_short (n : Nat) (h : n < 4611686018427387904) (l : List UInt8) (hl : l.length ≤ 500) : ShortX 1000 (some (l ++ num n)) := fun l' h' => by
  cases h'
  have := num_len9 n h
  rw [List.length_append]
  omega
set_option maxRecDepth 100000 in
set_option maxHeartbeats 1000000 in
theorem Body_any (i : Int) (s : Sp) (p : SpAt) (w : World) :
    Calls Tryd.prog 16 #[.int .i64 i, .agg (spArr s p)] w fun e w' => e = .returned (.tuple #[.string (spBody i s).1, .int .i64 (spBody i s).2]) ∧ Below w.heap.size w w' := by
  have hE : spBody i s = if i < 0 ∨ 199 < i then (⟨#[]⟩, 3) else if spLong s then (⟨#[]⟩, 1) else (bs (spBodyL i.toNat s), 0) := rfl
  have HE := Lib.hid hE
  clear hE
  generalize spBody i s = R at *
  by_cases h0 : i < 0
  · have HE2 : Hid (R = (⟨#[]⟩, 3)) := by show _ = _; rw [HE.out, if_pos (.inl h0)]
    clear HE
    generalize hA : spArr s p = arr at *
    go_enter Tryd.func16, Tryd.ntmps16
    go_wp2_with fail
    go_ret2
    exact ⟨by rw [HE2.out]; rfl, (Below.refl _ _).alloc (Nat.le_refl _) _⟩
  by_cases h2 : 200 ≤ i
  · have HE2 : Hid (R = (⟨#[]⟩, 3)) := by show _ = _; rw [HE.out, if_pos (.inr (by omega))]
    clear HE
    generalize hA : spArr s p = arr at *
    go_enter Tryd.func16, Tryd.ntmps16
    go_wp2_with fail
    go_ret2
    exact ⟨by rw [HE2.out]; rfl, (Below.refl _ _).alloc (Nat.le_refl _) _⟩
  have HE2 : Hid (R = if spLong s then (⟨#[]⟩, 1) else (bs (spBodyL i.toNat s), 0)) := by show _ = _; rw [HE.out, if_neg (by omega)]
  clear HE
  obtain ⟨n, rfl⟩ := Int.eq_ofNat_of_zero_le (show 0 ≤ i by omega)
  rw [Int.toNat_natCast] at HE2
  have hn : n < 4611686018427387904 := by omega
  have h1 : Hid (Bd w w.heap.size (w.heap.size + 1) s p (some []) ((w.alloc (.cells (spArr s p) 25)).alloc (.cells #[.pointer none, .int .i64 0, .int .i64 0] 60))) := by
    have A0 : Arr (w.alloc (.cells (spArr s p) 25)) w.heap.size 25 (spArr s p) := Arr.new _ _ _
    have b0 : Below w.heap.size w (w.alloc (.cells (spArr s p) 25)) := (Below.refl _ _).alloc (Nat.le_refl _) _
    have hz : (w.alloc (.cells (spArr s p) 25)).heap.size = w.heap.size + 1 := World.size_alloc _ _
    generalize w.alloc (.cells (spArr s p) 25) = V at *
    have q : WL (V.alloc (.cells #[.pointer none, .int .i64 0, .int .i64 0] 60)) V.heap.size [] := ⟨[], ⟨.pointer none, Arr.new _ _ _, rfl⟩, rfl⟩
    rw [hz] at q
    exact ⟨A0.below ((Below.refl _ _).alloc (Nat.le_refl _) _) A0.lt, by omega, by omega, b0.alloc b0.size _, q⟩
  have CW := Lib.hid (fun g W st hs h => writeChange_any s p g st hs W h)
  generalize hb : w.heap.size = b at *
  generalize hA : spArr s p = arr at *
  have HA := Lib.hid hA
  clear hA
  go_enter Tryd.func16, Tryd.ntmps16
  go_upto_region 4 with fail
  refine wp_forget (Bd w b (b + 1) s p (some [])) (by rw [← hb] at h1 ⊢; exact h1.out) ?_
  clear h1
  generalize b + 1 = g
  intro W hW
  have hA := HA.out
  clear HA
  subst hA
  have C0 := Lib.hid (wl_number g [] n hn (by simp) W hW.2.2.2.2)
  go_wp2_with fail
  (with_reducible refine C0.out.mono ?_)
  clear C0
  rintro _ W2 ⟨rfl, h2, k2⟩
  have hW2 : Bd w b g s p (some ([] ++ num n)) W2 := hW.wrote h2 k2
  clear hW h2 k2
  have C1 := Lib.hid (CW.out g W2 _ (num_short n hn [] (by simp)) hW2.2.2.2.2)
  go_wp2_with (refine wpList_load_row rfl 25 _ rfl b rfl 25 _ (0, 0) _ hW2.1 Tryd.underlying25 rfl (spInfo s p) ?_)
  (with_reducible refine C1.out.mono ?_)
  clear C1
  rintro _ W3 ⟨rfl, h3, k3⟩
  have hW3 := hW2.wrote h3 k3
  clear hW2 h3 k3
  by_cases hl : spLong s
  · rw [if_pos hl] at HE2
    rw [chX_no s hl] at hW3
    have C2 := Lib.hid (Done_bad g 1 (by decide) W3 hW3.2.2.2.2)
    go_wp2_with fail
    (with_reducible refine C2.out.mono ?_)
    rintro _ W4 ⟨rfl, b4⟩
    go_wp2_with fail
    go_ret2
    exact ⟨by rw [HE2.out]; rfl, by rw [← hb] at hW3 ⊢; exact hW3.2.2.2.1.trans (b4.mono hW3.2.2.2.1.size)⟩
  · rw [if_neg hl] at HE2
    rw [chX_ok s hl, List.nil_append] at hW3
    have hL : num n ++ chL s = spBodyL n s := by unfold chL spBodyL; simp only [List.append_assoc]
    rw [hL] at hW3
    obtain ⟨ps, hok, hps⟩ := hW3.2.2.2.2
    have hlen : (cat ps).length ≤ 281474976710656 := by
      rw [hps]
      unfold spLong at hl
      have := num_len9 n hn
      have := txt_len s.ref (by omega)
      have := txt_len s.old (by omega)
      have := txt_len s.new (by omega)
      unfold spBodyL
      simp only [List.length_append]
      omega
    have C2 := Lib.hid (Done_ok g ps hlen W3 hok)
    rw [hps] at C2
    generalize bs (spBodyL n s) = B at *
    go_wp2_with fail
    (with_reducible refine C2.out.mono ?_)
    rintro _ W4 ⟨rfl, b4⟩
    go_wp2_with fail
    go_ret2
    exact ⟨by rw [HE2.out]; rfl, by rw [← hb] at hW3 ⊢; exact hW3.2.2.2.1.trans (b4.mono hW3.2.2.2.1.size)⟩
set_option maxRecDepth 100000 in
theorem goodBody_any (i : Int) (s : Sp) (p : SpAt) (w : World) (hP : SpIn w w.heap.size s p) (hb : s.who.length ≤ 140737488355328) (hb2 : s.seals.length ≤ 140737488355328) :
    Calls Tryd.prog 57 #[.int .i64 i, .agg (spArr s p)] w fun e w' => e = .returned (.tuple #[.string (spGB i s).1, .int .i64 (spGB i s).2]) ∧ Below w.heap.size w w' := by
  have h1 := Lib.hid (Sx.start hP)
  have CG := Lib.hid (fun V h => SpGood_any s p V h hb hb2)
  have CB := Lib.hid (fun V => Body_any i s p V)
  have hE : spGB i s = if spGood s ≠ 0 then (⟨#[]⟩, spGood s) else spBody i s := rfl
  have HE := Lib.hid hE
  clear hE hP
  generalize spGB i s = R at *
  generalize spGood s = G at *
  generalize spBody i s = B at *
  generalize hA : spArr s p = arr at *
  have HA := Lib.hid hA
  clear hA
  go_enter Tryd.func57, Tryd.ntmps57
  go_upto_region 1 with fail
  refine wp_forget (Sx w s p) h1.out ?_
  clear h1
  intro W hW
  have hA := HA.out
  clear HA
  subst hA
  go_wp2_with (refine wpList_load_row rfl 25 _ rfl w.heap.size rfl 25 _ (0, 0) _ hW.1 Tryd.underlying25 rfl (spInfo s p) ?_)
  have C := Lib.hid (CG.out W hW.up)
  clear CG
  (with_reducible refine C.out.mono ?_)
  rintro _ W2 ⟨rfl, b2⟩
  have hW2 := hW.below b2
  clear hW b2 C
  cases hG : G != 0
  case true =>
    have hG2 : G ≠ 0 := by simpa using hG
    rw [if_pos hG2] at HE
    go_wp2_with fail
    go_ret2
    exact ⟨by rw [HE.out]; rfl, hW2.2.2⟩
  have hG2 : G = 0 := by simpa using hG
  subst hG2
  rw [if_neg (by simp)] at HE
  clear hG
  go_wp2_with (refine wpList_load_row rfl 25 _ rfl w.heap.size rfl 25 _ (0, 0) _ hW2.1 Tryd.underlying25 rfl (spInfo s p) ?_)
  have C := Lib.hid (CB.out W2)
  (with_reducible refine C.out.mono ?_)
  rintro _ W3 ⟨rfl, b3⟩
  go_wp2_with fail
  go_ret2
  exact ⟨by rw [HE.out]; rfl, (hW2.below b3).2.2⟩
end Go.Proofs.YtbpmgpbmeganoaaDoor

/- A valid step's body; a region that draws its order. -/
namespace Go.Proofs.YtbpmgpbmeganoaaDoor
open Go.RowKit

theorem spGB_small (i : Int) (s : Sp) (_ : (spGB i s).2 = 0) : (spGB i s).1.size ≤ 20000 := by
  unfold spGB
  split
  · exact Nat.zero_le _
  · unfold spBody
    split
    · exact Nat.zero_le _
    · split
      · exact Nat.zero_le _
      · rename_i h2
        unfold spLong at h2
        have := num_len9 i.toNat (by omega)
        have := txt_len s.ref (by omega)
        have := txt_len s.old (by omega)
        have := txt_len s.new (by omega)
        simp only [bs_size, spBodyL, List.length_append]
        omega
theorem spGB_good {i : Int} {s : Sp} (h : (spGB i s).2 = 0) : spGood s = 0 := by
  unfold spGB at h
  by_cases hg : spGood s = 0
  · exact hg
  · rw [if_pos hg] at h
    exact h
/-- a region that draws its order: whatever the order, the same act and a world of this kind -/
theorem wp_met {P : Program} {c : Code} {K : Act → World → Prop} {Q : Exit → Act → World → Prop} {a : Act} {w : World} {act : Option Addr → Nat → World → Act} (R : Option Addr → Nat → World → Prop)
    (h : ∀ K' : Act → World → Prop, (∀ A c U V, R A c V → K' (act A c U) V) → c.wp P (Exit.then K' Q) a w) (k : ∀ A c U V, R A c V → Exit.then K Q .normal (act A c U) V) : c.wp P (Exit.then K Q) a w := h K k
theorem wp_meet {P : Program} {c : Code} {K : Act → World → Prop} {Q : Exit → Act → World → Prop} {a : Act} {w : World} {act : World → Act} (R : World → Prop)
    (h : ∀ K' : Act → World → Prop, (∀ U V, R V → K' (act U) V) → c.wp P (Exit.then K' Q) a w) (k : ∀ U V, R V → Exit.then K Q .normal (act U) V) : c.wp P (Exit.then K Q) a w := h K k
theorem below_cell {V : World} {p : Addr} {u : Value} (h : V.cell? p = some u) (hl : p.block < V.heap.size) {o : Obj} : (V.alloc o).drew.cell? p = some u := (((Below.refl V.heap.size V).alloc (Nat.le_refl _) o).cell hl).trans h
end Go.Proofs.YtbpmgpbmeganoaaDoor

/- refs.replace: its contract. -/
namespace Go.Proofs.YtbpmgpbmeganoaaDoor
open Go.RowKit

theorem Rfs.drop {w : World} {B : Nat} {ad : Addr} {L : List Rf} (h : Rfs w B (some ad) L) (k : Nat) : Rfs w B (some (ad.add (k * 2))) (L.drop k) := fun j x hx => by
  rw [List.getElem?_drop] at hx
  obtain ⟨a, e, hb, h0, h1⟩ := h (k + j) x hx
  cases e
  refine ⟨_, rfl, ?_⟩
  rw [Addr.add_add, show k * 2 + j * 2 = (k + j) * 2 from by omega]
  exact ⟨hb, h0, h1⟩
theorem Rfs.take {w : World} {B : Nat} {A : Option Addr} {L : List Rf} (h : Rfs w B A L) (k : Nat) : Rfs w B A (L.take k) := fun j x hx => by
  rw [List.getElem?_take] at hx
  split at hx
  · exact h j x hx
  · cases hx
theorem Rfs.rest {w : World} {B : Nat} {ad : Addr} {L : List Rf} (h : Rfs w B (some ad) L) (k c : Nat) (hc : L.length ≤ c) : Rfs w B (if c = k then some ad else some (ad.add (k * 2))) (L.drop k) := by
  by_cases e : c = k
  · rw [List.drop_of_length_le (by omega)]
    exact Rfs.nil _ _ _
  · rw [if_neg e]
    exact h.drop k
/-- what replace leaves -/
def RpEnd (L : List Rf) (n i : ByteArray) (w : World) (e : Ending) (w' : World) : Prop :=
  ∃ v, e = .returned v ∧ w'.ownsRow w.heap.size 89 2 v (changed L n i).length (rfCells (changed L n i)) ∧ Below w.heap.size w w'
theorem own_less {w : World} {base B : Nat} {e : TypeId} {size : Nat} {v : Value} {n : Nat} {xs : List Value} (h : w.ownsRow base e size v n xs) (hb : B ≤ base) : w.ownsRow B e size v n xs := by
  refine ⟨h.1, ?_⟩
  rcases h.2 with hn | ⟨g, cap, cur, hv, hbs, rest⟩
  · exact .inl hn
  · exact .inr ⟨g, cap, cur, hv, Nat.le_trans hb hbs, rest⟩
/-- two pieces, joined -/
theorem cat_two (w : World) (X Y : List Rf) (A A' : Option Addr) (c c' x y : Nat) (hx : x = X.length) (hy : y = Y.length) (hl : X.length + Y.length ≤ 1000) (W : World) (b : Below w.heap.size w W) (h : Rfs w w.heap.size A X) (h' : Rfs w w.heap.size A' Y) :
    Calls Tryd.prog 111 #[.slice (some ⟨W.heap.size, 0, none⟩) 2 2] (W.alloc (.cells #[.slice A x c, .slice A' y c'] 46)) fun e W' => ∃ v, e = .returned v ∧ W'.ownsRow w.heap.size 89 2 v (X ++ Y).length (rfCells (X ++ Y)) ∧ Below w.heap.size w W' := by
  subst hx hy
  have A0 : Arr (W.alloc (.cells #[.slice A X.length c, .slice A' Y.length c'] 46)) W.heap.size 46 #[.slice A X.length c, .slice A' Y.length c'] := Arr.new _ _ _
  have bb : Below w.heap.size w (W.alloc (.cells #[.slice A X.length c, .slice A' Y.length c'] 46)) := b.alloc b.size _
  have hlt := A0.lt
  have hg : W.heap.size ≥ w.heap.size := b.size
  generalize W.alloc (.cells #[.slice A X.length c, .slice A' Y.length c'] 46) = V at *
  have e : catP [(A, X, c), (A', Y, c')] = X ++ Y := by simp [catP]
  have q := Concat_any [(A, X, c), (A', Y, c')] (by simp) (by rw [e, List.length_append]; exact hl) W.heap.size V hlt (fun k p hp => by
    match k, hp with
    | 0, hp => obtain rfl := Option.some.inj hp; exact ⟨A0.cell 0, h.up bb⟩
    | 1, hp => obtain rfl := Option.some.inj hp; exact ⟨A0.cell 1, h'.up bb⟩
    | k + 2, hp => simp at hp)
  rw [e] at q
  refine q.mono ?_
  rintro e W' ⟨v, rfl, h1, h2⟩
  exact ⟨v, rfl, own_less h1 bb.size, bb.trans (h2.mono bb.size)⟩
/-- three pieces, the middle one new -/
theorem cat_three (w : World) (X Y : List Rf) (r : Rf) (A A' : Option Addr) (c c' x y : Nat) (hx : x = X.length) (hy : y = Y.length) (hl : X.length + Y.length ≤ 900) (W : World) (b : Below w.heap.size w W) (h : Rfs w w.heap.size A X) (h' : Rfs w w.heap.size A' Y) :
    Calls Tryd.prog 111 #[.slice (some ⟨W.heap.size + 1, 0, none⟩) 3 3] ((W.alloc (.cells #[.string r.name, .string r.id] 89)).alloc (.cells #[.slice A x c, .slice (some ⟨W.heap.size, 0, none⟩) 1 1, .slice A' y c'] 46)) fun e W' => ∃ v, e = .returned v ∧ W'.ownsRow w.heap.size 89 2 v (X ++ r :: Y).length (rfCells (X ++ r :: Y)) ∧ Below w.heap.size w W' := by
  subst hx hy
  have A1 : Arr (W.alloc (.cells #[.string r.name, .string r.id] 89)) W.heap.size 89 #[.string r.name, .string r.id] := Arr.new _ _ _
  have b1 : Below w.heap.size w (W.alloc (.cells #[.string r.name, .string r.id] 89)) := b.alloc b.size _
  have hz : (W.alloc (.cells #[.string r.name, .string r.id] 89)).heap.size = W.heap.size + 1 := World.size_alloc _ _
  generalize W.alloc (.cells #[.string r.name, .string r.id] 89) = U at *
  have A0 : Arr (U.alloc (.cells #[.slice A X.length c, .slice (some ⟨W.heap.size, 0, none⟩) 1 1, .slice A' Y.length c'] 46)) U.heap.size 46 #[.slice A X.length c, .slice (some ⟨W.heap.size, 0, none⟩) 1 1, .slice A' Y.length c'] := Arr.new _ _ _
  have bu : Below U.heap.size U (U.alloc (.cells #[.slice A X.length c, .slice (some ⟨W.heap.size, 0, none⟩) 1 1, .slice A' Y.length c'] 46)) := (Below.refl _ _).alloc (Nat.le_refl _) _
  have bb := b1.trans (bu.mono b1.size)
  replace A1 := A1.below bu A1.lt
  have hlt := A0.lt
  rw [hz] at A0 hlt
  have hg : W.heap.size ≥ w.heap.size := b.size
  generalize U.alloc (.cells #[.slice A X.length c, .slice (some ⟨W.heap.size, 0, none⟩) 1 1, .slice A' Y.length c'] 46) = V at *
  have e : catP [(A, X, c), (some ⟨W.heap.size, 0, none⟩, [r], 1), (A', Y, c')] = X ++ r :: Y := by simp [catP]
  have q := Concat_any [(A, X, c), (some ⟨W.heap.size, 0, none⟩, [r], 1), (A', Y, c')] (by simp) (by rw [e, List.length_append, List.length_cons]; omega) (W.heap.size + 1) V hlt (fun k p hp => by
    match k, hp with
    | 0, hp => obtain rfl := Option.some.inj hp; exact ⟨A0.cell 0, h.up bb⟩
    | 1, hp =>
      obtain rfl := Option.some.inj hp
      refine ⟨A0.cell 1, fun k x hx => ?_⟩
      match k, hx with
      | 0, hx => obtain rfl := Option.some.inj hx; exact ⟨_, rfl, A1.lt, A1.cell 0, A1.cell 1⟩
      | k + 1, hx => simp at hx
    | 2, hp => obtain rfl := Option.some.inj hp; exact ⟨A0.cell 2, h'.up bb⟩
    | k + 3, hp => simp at hp)
  rw [e] at q
  refine q.mono ?_
  rintro e W' ⟨v, rfl, h1, h2⟩
  exact ⟨v, rfl, own_less h1 bb.size, bb.trans (h2.mono bb.size)⟩
set_option maxRecDepth 100000 in
set_option maxHeartbeats 1000000 in
theorem replace_some (L : List Rf) (n i : ByteArray) (ad : Addr) (c : Nat) (w : World) (hP : Rfs w w.heap.size (some ad) L) (hc : L.length ≤ c) (hl : L.length ≤ 32) (hr : rrs ⟨#[]⟩ L) :
    Calls Tryd.prog 105 #[.slice (some ad) L.length c, .string n, .string i] w (RpEnd L n i w) := by
  have C := Lib.hid (rfind_any L n (some ad) c w hP (by omega) hr)
  have hk := rlow_le n L
  have hch : changed L n i = if i.size = 0 then L.take (rlow n L) ++ L.drop (rlow n L + if hasR n L then 1 else 0) else L.take (rlow n L) ++ ⟨n, i⟩ :: L.drop (rlow n L + if hasR n L then 1 else 0) := by
    unfold changed
    split
    · cases hh : hasR n L with
      | true => exact delR_cut n L _ hr hh
      | false =>
        rw [if_neg (by simp), Nat.add_zero, List.take_append_drop]
        unfold delR
        rw [List.filter_eq_self]
        intro f hf
        have : getRf n L = none := by
          unfold hasR at hh
          cases hq : getRf n L with
          | none => rfl
          | some x => rw [hq] at hh; cases hh
        unfold getRf at this
        rw [List.find?_eq_none] at this
        have h2 := this f hf
        simpa using h2
    · exact putR_cut ⟨n, i⟩ L _ hr
  have hi0 : i.toList.isEmpty = decide (i.size = 0) := by
    rw [toList_data]
    have hz : i.data.toList.length = i.size := rfl
    cases hq : i.data.toList with
    | nil => rw [hq] at hz; simp at hz; rw [decide_eq_true (by omega)]; rfl
    | cons a l => rw [hq] at hz; simp at hz; rw [decide_eq_false (by omega)]; rfl
  have hkf : hasR n L = true → rlow n L < L.length := fun h => by obtain ⟨_, _, _, _, h⟩ := hasR_some hr h; exact h
  have hdrop : ∀ m, (L.drop m).length = L.length - m := fun m => List.length_drop
  have htake : ∀ m, m ≤ L.length → m = (L.take m).length := fun m h => by rw [List.length_take]; omega
  generalize rlow n L = k at *
  have hk1 : (k : Int) ≤ L.length := by omega
  have hk2 : (k : Int) ≤ c := by omega
  have hl1 : (L.length : Int) ≤ c := by omega
  have HT := Lib.hid (htake k hk)
  have HD := Lib.hid hdrop
  have HC := Lib.hid hch
  clear hdrop htake hch
  have HS := Lib.hid hP
  cases hh : hasR n L
  · rw [hh] at C HC
    clear hkf
    have HR := Lib.hid (hP.rest k c hc)
    clear hP
    by_cases he : i.size = 0
    · rw [decide_eq_true he] at hi0
      have HE : Hid (changed L n i = L.take k ++ L.drop k) := by show _ = _; rw [HC.out, if_pos he]; rfl
      go_enter Tryd.func105, Tryd.ntmps105
      go_wp2_with fail
      (with_reducible refine C.out.mono ?_)
      rintro _ V ⟨rfl, b1⟩
      go_wp2_with fail
      go_quiet (fail)
      have b2 := below_drewN b1 nq
      generalize V.drewN nq = W at *
      generalize (if c = k then some ad else some (ad.add (k * 2))) = A' at *
      have C2 := Lib.hid (cat_two w (L.take k) (L.drop k) (some ad) A' c (c - k) k (L.length - k) HT.out (HD.out k).symm (by rw [List.length_take, List.length_drop]; omega) W b2 (HS.out.take k) HR.out)
      go_wp2_with fail
      (with_reducible refine C2.out.mono ?_)
      rintro _ W2 ⟨v, rfl, h1, h2⟩
      have H1 := Lib.hid h1
      clear h1
      go_wp2_with fail
      go_ret
      exact ⟨v, rfl, by rw [HE.out]; exact H1.out, h2⟩
    · rw [decide_eq_false he] at hi0
      have HE : Hid (changed L n i = L.take k ++ ⟨n, i⟩ :: L.drop k) := by show _ = _; rw [HC.out, if_neg he]; rfl
      go_enter Tryd.func105, Tryd.ntmps105
      go_wp2_with fail
      (with_reducible refine C.out.mono ?_)
      rintro _ V ⟨rfl, b1⟩
      go_wp2_with fail
      go_quiet (fail)
      have b2 := below_drewN b1 nq
      generalize V.drewN nq = W at *
      generalize (if c = k then some ad else some (ad.add (k * 2))) = A' at *
      have C2 := Lib.hid (cat_three w (L.take k) (L.drop k) ⟨n, i⟩ (some ad) A' c (c - k) k (L.length - k) HT.out (HD.out k).symm (by rw [List.length_take, List.length_drop]; omega) W b2 (HS.out.take k) HR.out)
      go_wp2_with fail
      (with_reducible refine C2.out.mono ?_)
      rintro _ W2 ⟨v, rfl, h1, h2⟩
      have H1 := Lib.hid h1
      clear h1
      go_wp2_with fail
      go_ret
      exact ⟨v, rfl, by rw [HE.out]; exact H1.out, h2⟩
  · rw [hh] at C HC
    have hlt := hkf hh
    have hne : ¬ c = k := by omega
    have s1 : (1 : Int) ≤ (L.length : Int) - k := by omega
    have HR1 : Hid (Rfs w w.heap.size (some ⟨(ad.add (k * 2)).block, (ad.add (k * 2)).off + 2, none⟩) (L.drop (k + 1))) := by
      have := hP.drop (k + 1)
      rw [show (k + 1) * 2 = k * 2 + 2 from by omega, add_add _ _ _ (by decide)] at this
      exact this
    clear hP
    by_cases he : i.size = 0
    · rw [decide_eq_true he] at hi0
      have HE : Hid (changed L n i = L.take k ++ L.drop (k + 1)) := by show _ = _; rw [HC.out, if_pos he]; rfl
      have C2 : Hid (∀ (A' : Option Addr) (c' : Nat) (W : World), Below w.heap.size w W → Rfs w w.heap.size A' (L.drop (k + 1)) → Calls Tryd.prog 111 #[.slice (some ⟨W.heap.size, 0, none⟩) 2 2] (W.alloc (.cells #[.slice (some ad) k c, .slice A' (L.length - k - 1) c'] 46)) fun e W' => ∃ v, e = .returned v ∧ W'.ownsRow w.heap.size 89 2 v (L.take k ++ L.drop (k + 1)).length (rfCells (L.take k ++ L.drop (k + 1))) ∧ Below w.heap.size w W') := fun A' c' W b h => cat_two w (L.take k) (L.drop (k + 1)) (some ad) A' c c' k (L.length - k - 1) HT.out (by rw [HD.out]; omega) (by rw [List.length_take, List.length_drop]; omega) W b (HS.out.take k) h
      go_enter Tryd.func105, Tryd.ntmps105
      go_wp2_with fail
      (with_reducible refine C.out.mono ?_)
      rintro _ V ⟨rfl, b1⟩
      go_wp2_with fail
      go_quiet (fail)
      have b2 := below_drewN b1 nq
      generalize V.drewN nq = W at *
      go_wp2_with fail
      all_goals
        (with_reducible refine (C2.out _ _ _ b2 ?_).mono ?_)
        · first
          | exact HR1.out
          | (rw [List.drop_of_length_le (by omega)]; exact Rfs.nil _ _ _)
        rintro _ W2 ⟨v, rfl, h1, h2⟩
        have H1 := Lib.hid h1
        clear h1
        go_wp2_with fail
        go_ret
        exact ⟨v, rfl, by rw [HE.out]; exact H1.out, h2⟩
    · rw [decide_eq_false he] at hi0
      have HE : Hid (changed L n i = L.take k ++ ⟨n, i⟩ :: L.drop (k + 1)) := by show _ = _; rw [HC.out, if_neg he]; rfl
      have C2 : Hid (∀ (A' : Option Addr) (c' : Nat) (W : World), Below w.heap.size w W → Rfs w w.heap.size A' (L.drop (k + 1)) → Calls Tryd.prog 111 #[.slice (some ⟨W.heap.size + 1, 0, none⟩) 3 3] ((W.alloc (.cells #[.string n, .string i] 89)).alloc (.cells #[.slice (some ad) k c, .slice (some ⟨W.heap.size, 0, none⟩) 1 1, .slice A' (L.length - k - 1) c'] 46)) fun e W' => ∃ v, e = .returned v ∧ W'.ownsRow w.heap.size 89 2 v (L.take k ++ ⟨n, i⟩ :: L.drop (k + 1)).length (rfCells (L.take k ++ ⟨n, i⟩ :: L.drop (k + 1))) ∧ Below w.heap.size w W') := fun A' c' W b h => cat_three w (L.take k) (L.drop (k + 1)) ⟨n, i⟩ (some ad) A' c c' k (L.length - k - 1) HT.out (by rw [HD.out]; omega) (by rw [List.length_take, List.length_drop]; omega) W b (HS.out.take k) h
      go_enter Tryd.func105, Tryd.ntmps105
      go_wp2_with fail
      (with_reducible refine C.out.mono ?_)
      rintro _ V ⟨rfl, b1⟩
      go_wp2_with fail
      go_quiet (fail)
      have b2 := below_drewN b1 nq
      generalize V.drewN nq = W at *
      go_wp2_with fail
      all_goals
        (with_reducible refine (C2.out _ _ _ b2 ?_).mono ?_)
        · first
          | exact HR1.out
          | (rw [List.drop_of_length_le (by omega)]; exact Rfs.nil _ _ _)
        rintro _ W2 ⟨v, rfl, h1, h2⟩
        have H1 := Lib.hid h1
        clear h1
        go_wp2_with fail
        go_ret
        exact ⟨v, rfl, by rw [HE.out]; exact H1.out, h2⟩
/-- of the empty list -/
theorem replace_none (n i : ByteArray) (c : Nat) (w : World) :
    Calls Tryd.prog 105 #[.slice none 0 c, .string n, .string i] w (RpEnd [] n i w) := by
  have C := Lib.hid (rfind_any [] n none c w (Rfs.nil _ _ _) (by simp) trivial)
  have hi0 : i.toList.isEmpty = decide (i.size = 0) := by
    rw [toList_data]
    have hz : i.data.toList.length = i.size := rfl
    cases hq : i.data.toList with
    | nil => rw [hq] at hz; simp at hz; rw [decide_eq_true (by omega)]; rfl
    | cons a l => rw [hq] at hz; simp at hz; rw [decide_eq_false (by omega)]; rfl
  have e1 : rlow n [] = 0 := rfl
  have e2 : hasR n [] = false := rfl
  rw [e1, e2] at C
  simp only [List.length_nil, Int.natCast_zero] at C
  by_cases he : i.size = 0
  · rw [decide_eq_true he] at hi0
    have HE : Hid (changed [] n i = []) := by show _ = _; unfold changed; rw [if_pos he]; rfl
    have C2 : Hid (∀ (a b : Nat) (W : World), Below w.heap.size w W → Calls Tryd.prog 111 #[.slice (some ⟨W.heap.size, 0, none⟩) 2 2] (W.alloc (.cells #[.slice none 0 a, .slice none 0 b] 46)) fun e W' => ∃ v, e = .returned v ∧ W'.ownsRow w.heap.size 89 2 v ([] : List Rf).length (rfCells []) ∧ Below w.heap.size w W') := fun a b W bl => cat_two w [] [] none none a b 0 0 rfl rfl (by simp) W bl (Rfs.nil _ _ _) (Rfs.nil _ _ _)
    go_enter Tryd.func105, Tryd.ntmps105
    go_wp2_with fail
    (with_reducible refine C.out.mono ?_)
    rintro _ V ⟨rfl, b1⟩
    go_wp2_with fail
    go_quiet (fail)
    have b2 := below_drewN b1 nq
    generalize V.drewN nq = W at *
    go_wp2_with fail
    (with_reducible refine (C2.out _ _ _ b2).mono ?_)
    rintro _ W2 ⟨v, rfl, h1, h2⟩
    have H1 := Lib.hid h1
    clear h1
    go_wp2_with fail
    go_ret
    exact ⟨v, rfl, by rw [HE.out]; exact H1.out, h2⟩
  · rw [decide_eq_false he] at hi0
    have HE : Hid (changed [] n i = [⟨n, i⟩]) := by show _ = _; unfold changed; rw [if_neg he]; rfl
    have C2 : Hid (∀ (a b : Nat) (W : World), Below w.heap.size w W → Calls Tryd.prog 111 #[.slice (some ⟨W.heap.size + 1, 0, none⟩) 3 3] ((W.alloc (.cells #[.string n, .string i] 89)).alloc (.cells #[.slice none 0 a, .slice (some ⟨W.heap.size, 0, none⟩) 1 1, .slice none 0 b] 46)) fun e W' => ∃ v, e = .returned v ∧ W'.ownsRow w.heap.size 89 2 v [(⟨n, i⟩ : Rf)].length (rfCells [⟨n, i⟩]) ∧ Below w.heap.size w W') := fun a b W bl => cat_three w [] [] ⟨n, i⟩ none none a b 0 0 rfl rfl (by simp) W bl (Rfs.nil _ _ _) (Rfs.nil _ _ _)
    go_enter Tryd.func105, Tryd.ntmps105
    go_wp2_with fail
    (with_reducible refine C.out.mono ?_)
    rintro _ V ⟨rfl, b1⟩
    go_wp2_with fail
    go_quiet (fail)
    have b2 := below_drewN b1 nq
    generalize V.drewN nq = W at *
    go_wp2_with fail
    (with_reducible refine (C2.out _ _ _ b2).mono ?_)
    rintro _ W2 ⟨v, rfl, h1, h2⟩
    have H1 := Lib.hid h1
    clear h1
    go_wp2_with fail
    go_ret
    exact ⟨v, rfl, by rw [HE.out]; exact H1.out, h2⟩
theorem replace_any (L : List Rf) (n i : ByteArray) (A : Option Addr) (c : Nat) (w : World) (hP : Rfs w w.heap.size A L) (hc : L.length ≤ c) (hl : L.length ≤ 32) (hr : rrs ⟨#[]⟩ L) :
    Calls Tryd.prog 105 #[.slice A L.length c, .string n, .string i] w (RpEnd L n i w) := by
  cases A with
  | some ad => exact replace_some L n i ad c w hP hc hl hr
  | none =>
    cases L with
    | nil => exact replace_none n i c w
    | cons x T => obtain ⟨ad, e1, _⟩ := hP 0 x rfl; cases e1
end Go.Proofs.YtbpmgpbmeganoaaDoor

/- refs.Set: its contract. -/
namespace Go.Proofs.YtbpmgpbmeganoaaDoor
open Go.RowKit

/-- what a Set leaves -/
def SrEnd (w : World) (r : List Rf × Int) (e : Ending) (w' : World) : Prop :=
  ∃ A c, e = .returned (.tuple #[.slice A r.1.length c, .int .i64 r.2]) ∧ Rfs w' w'.heap.size A r.1 ∧ r.1.length ≤ c ∧ Below w.heap.size w w'
theorem sr_no (w w' : World) (z : Int) (b : Below w.heap.size w w') : SrEnd w ([], z) (.returned (.tuple #[.slice none 0 0, .int .i64 z])) w' := ⟨none, 0, rfl, Rfs.nil _ _ _, Nat.le_refl _, b⟩
set_option maxRecDepth 100000 in
set_option maxHeartbeats 1000000 in
theorem SetR_any (L : List Rf) (n o i : ByteArray) (A : Option Addr) (c : Nat) (w : World) (hP : Rfs w w.heap.size A L) (hc : L.length ≤ c) (hl : L.length ≤ 140737488355328) :
    Calls Tryd.prog 86 #[.slice A L.length c, .string n, .string o, .string i] w (SrEnd w (setR L n o i)) := by
  have C1 := Lib.hid (RfGood_any L A c w hP hl)
  have HS := Lib.hid hP
  cases hG : goodR L
  · rw [hG] at C1
    have HE : Hid (setR L n o i = ([], 3)) := by show _ = _; unfold setR; rw [hG]; rfl
    clear hP
    go_enter Tryd.func86, Tryd.ntmps86
    go_wp2_with fail
    (with_reducible refine C1.out.mono ?_)
    rintro _ V ⟨rfl, b1⟩
    go_wp2_with fail
    go_ret2
    rw [HE.out]
    exact sr_no _ _ _ b1
  rw [hG] at C1
  obtain ⟨hl2, hr, _⟩ := (goodR_iff L).1 hG
  have CN := Lib.hid (fun V => NamedR_any n V)
  have CO := Lib.hid (fun V => idOr_any o V)
  have CI := Lib.hid (fun V => idOr_any i V)
  have CG : Hid (∀ V, Below w.heap.size w V → Calls Tryd.prog 104 #[.slice A L.length c, .string n] V fun e w' => e = .returned (.string (idAt n L)) ∧ Below V.heap.size V w') := fun V b => by
    have := GetR_any L n A c V (HS.out.up b) hl
    rw [hG] at this
    exact this
  have CR : Hid (∀ V, Below w.heap.size w V → Calls Tryd.prog 105 #[.slice A L.length c, .string n, .string i] V (RpEnd L n i V)) := fun V b => replace_any L n i A c V (HS.out.up b) hc hl2 hr
  have HE : Hid (setR L n o i = if !namedR n || !isId o || !isId i then ([], 2) else if idAt n L ≠ o then ([], 9) else if 32 < (changed L n i).length then ([], 6) else (changed L n i, 0)) := by show _ = _; unfold setR; rw [hG]; rfl
  clear hP hG hl2 hr
  generalize setR L n o i = R at *
  cases hn : namedR n
  · rw [hn] at CN HE
    go_enter Tryd.func86, Tryd.ntmps86
    go_wp2_with fail
    (with_reducible refine C1.out.mono ?_)
    rintro _ V ⟨rfl, b1⟩
    go_wp2_with fail
    (with_reducible refine (CN.out V).mono ?_)
    rintro _ V2 ⟨rfl, b2⟩
    replace b1 := b1.trans (b2.mono b1.size)
    go_wp2_with fail
    go_ret2
    rw [HE.out]
    exact sr_no _ _ _ b1
  rw [hn] at CN HE
  cases ho : isId o
  · rw [ho] at CO HE
    go_enter Tryd.func86, Tryd.ntmps86
    go_wp2_with fail
    (with_reducible refine C1.out.mono ?_)
    rintro _ V ⟨rfl, b1⟩
    go_wp2_with fail
    (with_reducible refine (CN.out V).mono ?_)
    rintro _ V2 ⟨rfl, b2⟩
    replace b1 := b1.trans (b2.mono b1.size)
    go_wp2_with fail
    (with_reducible refine (CO.out V2).mono ?_)
    rintro _ V3 ⟨rfl, rfl⟩
    go_wp2_with fail
    go_ret2
    rw [HE.out]
    exact sr_no _ _ _ b1
  rw [ho] at CO HE
  cases hi : isId i
  · rw [hi] at CI HE
    go_enter Tryd.func86, Tryd.ntmps86
    go_wp2_with fail
    (with_reducible refine C1.out.mono ?_)
    rintro _ V ⟨rfl, b1⟩
    go_wp2_with fail
    (with_reducible refine (CN.out V).mono ?_)
    rintro _ V2 ⟨rfl, b2⟩
    replace b1 := b1.trans (b2.mono b1.size)
    go_wp2_with fail
    (with_reducible refine (CO.out V2).mono ?_)
    rintro _ V3 ⟨rfl, rfl⟩
    go_wp2_with fail
    (with_reducible refine (CI.out V3).mono ?_)
    rintro _ V4 ⟨rfl, rfl⟩
    go_wp2_with fail
    go_ret2
    rw [HE.out]
    exact sr_no _ _ _ b1
  rw [hi] at CI HE
  clear hn ho hi
  have HQ : ((idAt n L).toList == o.toList) = decide (idAt n L = o) := by
    have := sameB_iff (idAt n L) o
    unfold sameB at this
    cases hq : ((idAt n L).toList == o.toList) with
    | true => rw [decide_eq_true (this.1 hq)]
    | false => rw [decide_eq_false (fun e => by rw [this.2 e] at hq; cases hq)]
  by_cases hq : ¬ idAt n L = o
  · rw [decide_eq_false hq] at HQ
    have HE2 : Hid (R = ([], 9)) := by show _ = _; rw [HE.out]; simp [hq]
    clear HE
    go_enter Tryd.func86, Tryd.ntmps86
    go_wp2_with fail
    (with_reducible refine C1.out.mono ?_)
    rintro _ V ⟨rfl, b1⟩
    go_wp2_with fail
    (with_reducible refine (CN.out V).mono ?_)
    rintro _ V2 ⟨rfl, b2⟩
    replace b1 := b1.trans (b2.mono b1.size)
    go_wp2_with fail
    (with_reducible refine (CO.out V2).mono ?_)
    rintro _ V3 ⟨rfl, rfl⟩
    go_wp2_with fail
    (with_reducible refine (CI.out V3).mono ?_)
    rintro _ V4 ⟨rfl, rfl⟩
    clear CN CO CI C1
    have C5 := Lib.hid (CG.out V4 b1)
    go_wp2_with fail
    (with_reducible refine C5.out.mono ?_)
    clear C5 b2
    rintro _ V5 ⟨rfl, b2⟩
    replace b1 := b1.trans (b2.mono b1.size)
    clear b2
    go_wp2_with fail
    go_ret2
    rw [HE2.out]
    exact sr_no _ _ _ b1
  replace hq : idAt n L = o := Decidable.byContradiction hq
  rw [decide_eq_true hq] at HQ
  have HE2 : Hid (R = if 32 < (changed L n i).length then ([], 6) else (changed L n i, 0)) := by show _ = _; rw [HE.out]; simp [hq]
  clear HE
  have HQ2 := Lib.hid hq
  clear hq
  by_cases hm : 32 < (changed L n i).length
  · have HE3 : Hid (R = ([], 6)) := by show _ = _; rw [HE2.out, if_pos hm]
    clear HE2
    go_enter Tryd.func86, Tryd.ntmps86
    go_wp2_with fail
    (with_reducible refine C1.out.mono ?_)
    rintro _ V ⟨rfl, b1⟩
    go_wp2_with fail
    (with_reducible refine (CN.out V).mono ?_)
    rintro _ V2 ⟨rfl, b2⟩
    replace b1 := b1.trans (b2.mono b1.size)
    go_wp2_with fail
    (with_reducible refine (CO.out V2).mono ?_)
    rintro _ V3 ⟨rfl, rfl⟩
    go_wp2_with fail
    (with_reducible refine (CI.out V3).mono ?_)
    rintro _ V4 ⟨rfl, rfl⟩
    clear CN CO CI C1
    have C5 := Lib.hid (CG.out V4 b1)
    go_wp2_with fail
    (with_reducible refine C5.out.mono ?_)
    clear C5 b2
    rintro _ V5 ⟨rfl, b2⟩
    replace b1 := b1.trans (b2.mono b1.size)
    clear b2
    have C6 := Lib.hid (CR.out V5 b1)
    go_wp2_with fail
    (with_reducible refine C6.out.mono ?_)
    rintro _ V6 ⟨v, rfl, h1, b2⟩
    obtain ⟨A', c', rfl, hc', hR⟩ := own_refs h1
    replace b1 := b1.trans (b2.mono b1.size)
    have hm2 : (32 : Int) < ((changed L n i).length : Int) := by omega
    clear h1 hR
    generalize (changed L n i).length = m at *
    go_wp2_with fail
    go_ret2
    rw [HE3.out]
    exact sr_no _ _ _ b1
  · have HE3 : Hid (R = (changed L n i, 0)) := by show _ = _; rw [HE2.out, if_neg hm]
    clear HE2
    go_enter Tryd.func86, Tryd.ntmps86
    go_wp2_with fail
    (with_reducible refine C1.out.mono ?_)
    rintro _ V ⟨rfl, b1⟩
    go_wp2_with fail
    (with_reducible refine (CN.out V).mono ?_)
    rintro _ V2 ⟨rfl, b2⟩
    replace b1 := b1.trans (b2.mono b1.size)
    go_wp2_with fail
    (with_reducible refine (CO.out V2).mono ?_)
    rintro _ V3 ⟨rfl, rfl⟩
    go_wp2_with fail
    (with_reducible refine (CI.out V3).mono ?_)
    rintro _ V4 ⟨rfl, rfl⟩
    clear CN CO CI C1
    have C5 := Lib.hid (CG.out V4 b1)
    go_wp2_with fail
    (with_reducible refine C5.out.mono ?_)
    clear C5 b2
    rintro _ V5 ⟨rfl, b2⟩
    replace b1 := b1.trans (b2.mono b1.size)
    clear b2
    have C6 := Lib.hid (CR.out V5 b1)
    go_wp2_with fail
    (with_reducible refine C6.out.mono ?_)
    rintro _ V6 ⟨v, rfl, h1, b2⟩
    obtain ⟨A', c', rfl, hc', hR⟩ := own_refs h1
    replace b1 := b1.trans (b2.mono b1.size)
    have hm2 : ¬ (32 : Int) < ((changed L n i).length : Int) := by omega
    have HH : Hid (SrEnd w R (.returned (.tuple #[.slice A' (changed L n i).length c', .int .i64 0])) V6) := by
      show SrEnd _ _ _ _
      rw [HE3.out]
      exact ⟨A', c', rfl, hR, hc', b1⟩
    clear h1 hR hc'
    generalize (changed L n i).length = m at *
    go_wp2_with fail
    go_ret2
    exact HH.out
end Go.Proofs.YtbpmgpbmeganoaaDoor
