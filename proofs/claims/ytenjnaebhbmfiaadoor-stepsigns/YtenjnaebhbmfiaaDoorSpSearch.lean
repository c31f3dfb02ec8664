/- Texts in one: SpGood, SpWrite, SpGB, SpPlain, SpSgP, SpSearch. -/
import Derived.Test.YtenjnaebhbmfiaaDoorSpMath
import Derived.Test.YtenjnaebhbmfiaaDoorSpMem
import Derived.Test.YtenjnaebhbmfiaaDoorRfSets
import Derived.Test.YtenjnaebhbmfiaaDoorRfIter
/- step.Good and what it calls: contracts. -/
namespace Go.Proofs.YtenjnaebhbmfiaaDoor
open Go.RowKit

theorem spIdOr_any (s : ByteArray) (w : World) : Calls Tryd.prog 36 #[.string s] w fun e w' => e = .returned (.bool (isId s)) ∧ w' = w := by
  have hz : s.data.toList.length = s.size := rfl
  by_cases h0 : s.size = 0
  · have e0 : s.data.toList = [] := List.eq_nil_of_length_eq_zero h0
    obtain rfl : s = ⟨#[]⟩ := bytes_eq e0
    have HI : Hid (isId ⟨#[]⟩ = true) := rfl
    go_enter Tryd.func36, Tryd.ntmps36
    go_wp2_with fail
    go_ret
    exact ⟨by rw [HI.out]; rfl, rfl⟩
  · have he : s.toList.isEmpty = false := by
      rw [toList_data]
      cases hq : s.data.toList with
      | nil => rw [hq] at hz; simp at hz; omega
      | cons a l => rfl
    have he2 : ¬ s.toList = [] := fun q => by rw [q] at he; cases he
    by_cases h32 : s.size = 32
    · have HI : Hid (isId s = true) := by show _ = _; unfold isId; rw [decide_eq_true h32, Bool.or_true]
      have hi : (((s.size : Nat) : Int) == 32) = true := by rw [h32]; rfl
      go_enter Tryd.func36, Tryd.ntmps36
      go_wp2_with fail
      go_ret
      exact ⟨by rw [HI.out]; rfl, rfl⟩
    · have HI : Hid (isId s = false) := by show _ = _; unfold isId; rw [decide_eq_false h32, decide_eq_false h0]; rfl
      have hi : (((s.size : Nat) : Int) == 32) = false := by rw [beq_eq_false_iff_ne]; omega
      go_enter Tryd.func36, Tryd.ntmps36
      go_wp2_with fail
      go_ret
      exact ⟨by rw [HI.out]; rfl, rfl⟩
def isSig (n : Int) : Bool := decide (0 ≤ n) && decide (n ≤ 7)
theorem isSigner_any (n : Int) (w : World) : Calls Tryd.prog 10 #[.int .i64 n] w fun e w' => e = .returned (.bool (isSig n)) ∧ w' = w := by
  by_cases h0 : 0 ≤ n
  · by_cases h7 : n ≤ 7
    · have HI : Hid (isSig n = true) := by show _ = _; unfold isSig; rw [decide_eq_true h0, decide_eq_true h7]; rfl
      have hi : n < 8 := by omega
      go_enter Tryd.func10, Tryd.ntmps10
      go_wp2_with fail
      go_ret
      exact ⟨by rw [HI.out]; rfl, rfl⟩
    · have HI : Hid (isSig n = false) := by show _ = _; unfold isSig; rw [decide_eq_false h7, Bool.and_false]
      have hi : ¬ n < 8 := by omega
      go_enter Tryd.func10, Tryd.ntmps10
      go_wp2_with fail
      go_ret
      exact ⟨by rw [HI.out]; rfl, rfl⟩
  · have HI : Hid (isSig n = false) := by show _ = _; unfold isSig; rw [decide_eq_false h0]; rfl
    go_enter Tryd.func10, Tryd.ntmps10
    go_wp2_with fail
    go_ret
    exact ⟨by rw [HI.out]; rfl, rfl⟩
/-- the boxed step, and nothing else has turned -/
def Sx (w : World) (s : Sp) (p : SpAt) (W : World) : Prop := Arr W w.heap.size 25 (spArr s p) ∧ SpIn W w.heap.size s p ∧ Below w.heap.size w W
theorem Sx.start {w : World} {s : Sp} {p : SpAt} (h : SpIn w w.heap.size s p) : Sx w s p (w.alloc (.cells (spArr s p) 25)) :=
  ⟨Arr.new _ _ _, h.below ((Below.refl _ _).alloc (Nat.le_refl _) _), (Below.refl _ _).alloc (Nat.le_refl _) _⟩
theorem Sx.below {w W W' : World} {s : Sp} {p : SpAt} (h : Sx w s p W) (b : Below W.heap.size W W') : Sx w s p W' :=
  ⟨h.1.below b h.1.lt, h.2.1.below (b.mono (Nat.le_of_lt h.1.lt)), h.2.2.trans (b.mono h.2.2.size)⟩
theorem Sx.c {w W : World} {s : Sp} {p : SpAt} (h : Sx w s p W) :
    W.cell? ⟨w.heap.size, 0, none⟩ = some (.string s.ref) ∧ W.cell? ⟨w.heap.size, 1, none⟩ = some (.string s.old) ∧ W.cell? ⟨w.heap.size, 2, none⟩ = some (.string s.new) ∧
    W.cell? ⟨w.heap.size, 3, none⟩ = some (.slice p.wa s.who.length p.wc) ∧ W.cell? ⟨w.heap.size, 4, none⟩ = some (.slice p.sa s.seals.length p.sc) :=
  ⟨h.1.cell 0, h.1.cell 1, h.1.cell 2, h.1.cell 3, h.1.cell 4⟩
theorem Sx.up {w W : World} {s : Sp} {p : SpAt} (h : Sx w s p W) : SpIn W W.heap.size s p := h.2.1.mono h.2.2.size
theorem same_lists (a b : ByteArray) : (a.toList == b.toList) = decide (a = b) := by
  have := sameB_iff a b
  unfold sameB at this
  cases hq : (a.toList == b.toList) with
  | true => rw [decide_eq_true (this.1 hq)]
  | false => rw [decide_eq_false (fun e => by rw [this.2 e] at hq; cases hq)]
/-- where Good's loop stands -/
def SgRel (w : World) (s : Sp) (p : SpAt) (i : Value) (wr : World) : Prop :=
  ∃ k : Nat, k ≤ s.who.length ∧ i = .int .i64 (k : Int) ∧ Sx w s p wr ∧
    ∃ b, -1 ≤ b ∧ gdS (-1) s.prs = gdS b (s.prs.drop k) ∧ (k = 0 ∧ b = -1 ∨ ∃ m x, k = m + 1 ∧ s.who[m]? = some x ∧ b = x)
theorem prs_next {s : Sp} (hl : s.seals.length = s.who.length) {k : Nat} (hk : k < s.who.length) : s.prs.drop k = (s.who[k], s.seals[k]'(by omega)) :: s.prs.drop (k + 1) := by
  have h : k < s.prs.length := by rw [prs_len hl]; exact hk
  have h2 := prs_get (s := s) (List.getElem?_eq_getElem hk) (List.getElem?_eq_getElem (show k < s.seals.length by omega))
  rw [List.getElem?_eq_getElem h] at h2
  rw [List.drop_eq_getElem_cons h, Option.some.inj h2]
set_option maxRecDepth 100000 in
set_option maxHeartbeats 1000000 in
theorem SpGood_any (s : Sp) (p : SpAt) (w : World) (hP : SpIn w w.heap.size s p) (hb : s.who.length ≤ 140737488355328) (_ : s.seals.length ≤ 140737488355328) :
    Calls Tryd.prog 20 #[.agg (spArr s p)] w fun e w' => e = .returned (.int .i64 (spGood s)) ∧ Below w.heap.size w w' := by
  obtain ⟨wa, wc, sa, sc⟩ := p
  have h1 := Lib.hid (Sx.start hP)
  have CN := Lib.hid (fun V => NamedR_any s.ref V)
  have CO := Lib.hid (fun V => spIdOr_any s.old V)
  have CI := Lib.hid (fun V => spIdOr_any s.new V)
  have HQ := same_lists s.old s.new
  have hG : spGood s = if !spForm s then 2 else if 8 < s.who.length ∨ s.seals.length ≠ s.who.length then 6 else gdS (-1) s.prs := rfl
  unfold spForm at hG
  have HG := Lib.hid hG
  clear hG
  generalize spGood s = G at *
  generalize hA : spArr s ⟨wa, wc, sa, sc⟩ = arr at *
  have HA := Lib.hid hA
  clear hA
  go_enter Tryd.func20, Tryd.ntmps20
  go_upto_region 1 with fail
  refine wp_forget (Sx w s ⟨wa, wc, sa, sc⟩) h1.out ?_
  clear h1 hP
  intro W hW
  have hA := HA.out
  clear HA
  subst hA
  obtain ⟨c0, _, _, _, _⟩ := hW.c
  cases hn : namedR s.ref
  · rw [hn] at CN HG
    go_wp2_with fail
    (with_reducible refine (CN.out W).mono ?_)
    rintro _ V ⟨rfl, b1⟩
    have hV := hW.below b1
    go_wp2_with fail
    go_ret
    exact ⟨by rw [HG.out]; rfl, hV.2.2⟩
  rw [hn] at CN HG
  cases ho : isId s.old
  · rw [ho] at CO HG
    go_wp2_with fail
    (with_reducible refine (CN.out W).mono ?_)
    rintro _ V ⟨rfl, b1⟩
    have hV := hW.below b1
    clear c0 b1 hW
    obtain ⟨_, c1, _, _, _⟩ := hV.c
    go_wp2_with fail
    (with_reducible refine (CO.out V).mono ?_)
    rintro _ V ⟨rfl, rfl⟩
    go_wp2_with fail
    go_ret
    exact ⟨by rw [HG.out]; rfl, hV.2.2⟩
  rw [ho] at CO HG
  cases hi : isId s.new
  · rw [hi] at CI HG
    go_wp2_with fail
    (with_reducible refine (CN.out W).mono ?_)
    rintro _ V ⟨rfl, b1⟩
    have hV := hW.below b1
    clear c0 b1 hW
    obtain ⟨_, c1, c2, _, _⟩ := hV.c
    go_wp2_with fail
    (with_reducible refine (CO.out V).mono ?_)
    rintro _ V ⟨rfl, rfl⟩
    go_wp2_with fail
    (with_reducible refine (CI.out _).mono ?_)
    rintro _ V ⟨rfl, rfl⟩
    go_wp2_with fail
    go_ret
    exact ⟨by rw [HG.out]; rfl, hV.2.2⟩
  rw [hi] at CI HG
  by_cases he : s.old = s.new
  · rw [decide_eq_true he] at HG HQ
    clear he
    go_wp2_with fail
    (with_reducible refine (CN.out W).mono ?_)
    rintro _ V ⟨rfl, b1⟩
    have hV := hW.below b1
    clear c0 b1 hW
    obtain ⟨_, c1, c2, _, _⟩ := hV.c
    go_wp2_with fail
    (with_reducible refine (CO.out V).mono ?_)
    rintro _ V ⟨rfl, rfl⟩
    go_wp2_with fail
    (with_reducible refine (CI.out _).mono ?_)
    rintro _ V ⟨rfl, rfl⟩
    go_wp2_with fail
    go_ret
    exact ⟨by rw [HG.out]; rfl, hV.2.2⟩
  rw [decide_eq_false he] at HG HQ
  clear he hn ho hi
  have HG2 : Hid (G = if 8 < s.who.length ∨ s.seals.length ≠ s.who.length then 6 else gdS (-1) s.prs) := HG.out
  clear HG
  by_cases h8 : 8 < s.who.length
  · have HG3 : Hid (G = 6) := by show _ = _; rw [HG2.out, if_pos (.inl h8)]
    have hi8 : (8 : Int) < s.who.length := by omega
    go_wp2_with fail
    (with_reducible refine (CN.out W).mono ?_)
    rintro _ V ⟨rfl, b1⟩
    have hV := hW.below b1
    clear c0 b1 hW
    obtain ⟨_, c1, c2, c3, _⟩ := hV.c
    go_wp2_with fail
    (with_reducible refine (CO.out V).mono ?_)
    rintro _ V ⟨rfl, rfl⟩
    go_wp2_with fail
    (with_reducible refine (CI.out _).mono ?_)
    rintro _ V ⟨rfl, rfl⟩
    go_wp2_with fail
    go_ret
    exact ⟨by rw [HG3.out]; rfl, hV.2.2⟩
  have hi8 : ¬ (8 : Int) < s.who.length := by omega
  by_cases hl : s.seals.length ≠ s.who.length
  · have HG3 : Hid (G = 6) := by show _ = _; rw [HG2.out, if_pos (.inr hl)]
    have hli : ((s.seals.length : Int) != s.who.length) = true := by rw [bne_iff_ne]; omega
    go_wp2_with fail
    (with_reducible refine (CN.out W).mono ?_)
    rintro _ V ⟨rfl, b1⟩
    have hV := hW.below b1
    clear c0 b1 hW
    obtain ⟨_, c1, c2, c3, c4⟩ := hV.c
    go_wp2_with fail
    (with_reducible refine (CO.out V).mono ?_)
    rintro _ V ⟨rfl, rfl⟩
    go_wp2_with fail
    (with_reducible refine (CI.out _).mono ?_)
    rintro _ V ⟨rfl, rfl⟩
    go_wp2_with fail
    go_ret
    exact ⟨by rw [HG3.out]; rfl, hV.2.2⟩
  replace hl : s.seals.length = s.who.length := Decidable.byContradiction hl
  have hli : ((s.seals.length : Int) != s.who.length) = false := by rw [hl]; simp
  have HG3 : Hid (G = gdS (-1) s.prs) := by show _ = _; rw [HG2.out, if_neg (by omega)]
  clear HG2
  go_wp2_with fail
  (with_reducible refine (CN.out W).mono ?_)
  rintro _ V ⟨rfl, b1⟩
  have hV := hW.below b1
  clear c0 b1 hW
  obtain ⟨_, c1, c2, c3, c4⟩ := hV.c
  go_wp2_with fail
  (with_reducible refine (CO.out V).mono ?_)
  rintro _ V ⟨rfl, rfl⟩
  go_wp2_with fail
  (with_reducible refine (CI.out _).mono ?_)
  rintro _ V ⟨rfl, rfl⟩
  go_wp2_with fail
  have hst : Hid (SgRel w s ⟨wa, wc, sa, sc⟩ (.int .i64 0) V) := ⟨0, Nat.zero_le _, rfl, hV, -1, Int.le_refl _, by rw [List.drop_zero], .inl ⟨rfl, rfl⟩⟩
  clear hV c1 c2 c3 c4 CN CO CI HQ
  go_loopw [46] (fun i wr => SgRel w s ⟨wa, wc, sa, sc⟩ i wr) (fun i _ => s.who.length - (intOf i).toNat)
  case atStart => exact hst.out
  case round =>
    clear hst
    obtain ⟨k, hk, rfl, hX, b, hb1, hE, hb⟩ := hrel
    by_cases hlt : k < s.who.length
    · have hj : (k : Int) < s.who.length := by omega
      have hlt2 : k < s.seals.length := by omega
      obtain ⟨ad, rfl, hbl, g0⟩ := hX.2.1.nums k s.who[k] (List.getElem?_eq_getElem hlt)
      obtain ⟨ad2, rfl, hbl2, g1⟩ := hX.2.1.txs k s.seals[k] (List.getElem?_eq_getElem hlt2)
      rw [prs_next hl hlt, gdS] at hE
      have HX := Lib.hid (List.getElem?_eq_getElem hlt)
      simp only at hE
      generalize s.who[k] = x at *
      generalize s.seals[k] = t at *
      have HE := Lib.hid hE
      have HB := Lib.hid hb
      have HB1 := Lib.hid hb1
      clear hE hb hb1
      obtain ⟨_, _, _, c3, c4⟩ := hX.c
      have CS := Lib.hid (fun V => isSigner_any x V)
      have hsig : isSig x = (decide (0 ≤ x) && decide (x ≤ 7)) := rfl
      cases hs : isSig x
      · have HE2 : Hid (gdS (-1) s.prs = 3) := by
          show _ = _
          rw [HE.out, if_pos]
          rw [hsig, Bool.and_eq_false_iff, decide_eq_false_iff_not, decide_eq_false_iff_not] at hs
          have := HB1.out
          omega
        rw [hs] at CS
        clear HE hs hsig HB HB1 HX
        go_wp2_with fail
        (with_reducible refine (CS.out _).mono ?_)
        rintro _ V ⟨rfl, rfl⟩
        go_wp2_with fail
        go_ret
        exact ⟨by rw [HG3.out, HE2.out]; rfl, hX.2.2⟩
      rw [hs] at CS
      have hx0 : 0 ≤ x ∧ x ≤ 7 := by
        rw [hsig, Bool.and_eq_true, decide_eq_true_iff, decide_eq_true_iff] at hs
        exact hs
      clear hs hsig
      have HE2 : Hid ((k = 0 ∨ b < x) → gdS (-1) s.prs = if t.size ≠ 32 then 2 else gdS x (s.prs.drop (k + 1))) := fun h => by
        rw [HE.out, if_neg]
        rcases h with rfl | h
        · rcases HB.out with ⟨_, rfl⟩ | ⟨m, y, h0, _⟩
          · omega
          · omega
        · omega
      rcases HB.out with ⟨hk0, hb0⟩ | ⟨m, y, hkm, hm, hby⟩
      · have HE3 := Lib.hid (HE2.out (.inl hk0))
        have hk1 : ¬ (0 : Int) < (k : Int) := by omega
        clear HE HE2 HB HB1 hb0 hk0
        by_cases ht : t.size ≠ 32
        · have hti : ((t.size : Int) != 32) = true := by rw [bne_iff_ne]; omega
          have HE4 : Hid (gdS (-1) s.prs = 2) := by show _ = _; rw [HE3.out, if_pos ht]
          go_wp2_with fail
          (with_reducible refine (CS.out _).mono ?_)
          rintro _ V ⟨rfl, rfl⟩
          go_wp2_with fail
          go_ret
          exact ⟨by rw [HG3.out, HE4.out]; rfl, hX.2.2⟩
        · have hti : ((t.size : Int) != 32) = false := by rw [bne_eq_false_iff_eq]; omega
          have HE4 : Hid (gdS (-1) s.prs = gdS x (s.prs.drop (k + 1))) := by show _ = _; rw [HE3.out, if_neg ht]
          go_wp2_with fail
          (with_reducible refine (CS.out _).mono ?_)
          rintro _ V ⟨rfl, rfl⟩
          go_wp2_with fail
          go_roundw
          case rel => exact ⟨k + 1, hlt, by rw [Int.natCast_add]; rfl, hX, x, by omega, HE4.out, .inr ⟨k, x, rfl, HX.out, rfl⟩⟩
          case measure => simp [intOf]; omega
      · obtain ⟨ad', e', hbl', g2⟩ := hX.2.1.nums m y hm
        cases e'
        have hm1 : (m : Int) < s.who.length := by omega
        have hm2 : IntKind.i64.wrap ((k : Int) - 1) = (m : Int) := by rw [IntWalk.i64_in _ (by omega)]; omega
        have hm3 : (0 : Int) < (k : Int) := by omega
        replace hby := hby.symm
        subst hby
        have HKM := Lib.hid hkm
        clear hkm
        by_cases hyx : x ≤ y
        · have HE3 : Hid (gdS (-1) s.prs = 3) := by show _ = _; rw [HE.out, if_pos (by omega)]
          clear HE HE2 HB HB1
          go_wp2_with fail
          (with_reducible refine (CS.out _).mono ?_)
          rintro _ V ⟨rfl, rfl⟩
          go_wp2_with fail
          go_ret
          exact ⟨by rw [HG3.out, HE3.out]; rfl, hX.2.2⟩
        have HE3 := Lib.hid (HE2.out (.inr (by omega)))
        clear HE HE2 HB HB1
        by_cases ht : t.size ≠ 32
        · have hti : ((t.size : Int) != 32) = true := by rw [bne_iff_ne]; omega
          have HE4 : Hid (gdS (-1) s.prs = 2) := by show _ = _; rw [HE3.out, if_pos ht]
          go_wp2_with fail
          (with_reducible refine (CS.out _).mono ?_)
          rintro _ V ⟨rfl, rfl⟩
          go_wp2_with fail
          go_ret
          exact ⟨by rw [HG3.out, HE4.out]; rfl, hX.2.2⟩
        · have hti : ((t.size : Int) != 32) = false := by rw [bne_eq_false_iff_eq]; omega
          have HE4 : Hid (gdS (-1) s.prs = gdS x (s.prs.drop (k + 1))) := by show _ = _; rw [HE3.out, if_neg ht]
          go_wp2_with fail
          (with_reducible refine (CS.out _).mono ?_)
          rintro _ V ⟨rfl, rfl⟩
          go_wp2_with fail
          go_roundw
          case rel => exact ⟨k + 1, hlt, by rw [Int.natCast_add]; rfl, hX, x, by omega, HE4.out, .inr ⟨k, x, rfl, HX.out, rfl⟩⟩
          case measure => simp [intOf]; omega
    · obtain rfl : k = s.who.length := by omega
      have hj : ¬ (s.who.length : Int) < s.who.length := by omega
      have hd : s.prs.drop s.who.length = [] := List.drop_of_length_le (Nat.le_of_eq (prs_len hl))
      rw [hd] at hE
      have HE := Lib.hid hE
      clear hE hb hb1
      obtain ⟨_, _, _, c3, c4⟩ := hX.c
      go_wp2_with fail
      go_ret
      exact ⟨by rw [HG3.out, HE.out]; rfl, hX.2.2⟩
end Go.Proofs.YtenjnaebhbmfiaaDoor

/- step.writeChange, Body, goodBody: contracts. -/
namespace Go.Proofs.YtenjnaebhbmfiaaDoor
open Go.RowKit

/-- a writer of these bytes, or one that was given too long a text -/
def WX (w : World) (g : Nat) : Option (List UInt8) → Prop
  | some l => WL w g l
  | none => WBad w g 1
theorem WX.below {w w' : World} {g : Nat} {st : Option (List UInt8)} (h : WX w g st) (k : Below w.heap.size w w') : WX w' g st := by
  cases st with
  | none => exact WBad.below h k
  | some l => exact WL.below h k
theorem WX.lt {w : World} {g : Nat} {st : Option (List UInt8)} (h : WX w g st) : g < w.heap.size := by
  cases st with
  | none => obtain ⟨v, n, ha⟩ := h; exact ha.lt
  | some l => exact WL.lt h
def txX (t : ByteArray) : Option (List UInt8) → Option (List UInt8)
  | none => none
  | some l => if t.size ≤ 4096 then some (l ++ txt t) else none
def WxEnd (w : World) (g : Nat) (st : Option (List UInt8)) (x : Ending) (w' : World) : Prop := x = .returned (.tuple #[]) ∧ WX w' g st ∧ w.grownBy w' (some g)
def ShortX (n : Nat) (st : Option (List UInt8)) : Prop := ∀ l, st = some l → l.length ≤ n
theorem txX_short {n : Nat} {st : Option (List UInt8)} (t : ByteArray) (h : ShortX n st) : ShortX (n + 4099) (txX t st) := fun l hl => by
  cases st with
  | none => cases hl
  | some l0 =>
    unfold txX at hl
    simp only at hl
    split at hl
    · rename_i ht
      cases hl
      have := txt_len t ht
      have := h l0 rfl
      rw [List.length_append]
      omega
    · cases hl
theorem wx_text (g : Nat) (st : Option (List UInt8)) (t : ByteArray) (hs : ShortX 281474976710656 st) (w : World) (h : WX w g st) :
    Calls Tryd.prog 52 #[.pointer (some ⟨g, 0, none⟩), .string t] w (WxEnd w g (txX t st)) := by
  cases st with
  | none =>
    by_cases ht : t.size ≤ 4096
    · exact (WText_bad g t _ 1 0 (by decide) (putTextIs_yes ⟨#[]⟩ t (by decide) ht) w h).mono fun _ _ q => q
    · exact (WText_bad g t _ 1 1 (by decide) (putTextIs_no ⟨#[]⟩ t (by omega)) w h).mono fun _ _ q => q
  | some l =>
    by_cases ht : t.size ≤ 4096
    · rw [show txX t (some l) = some (l ++ txt t) from if_pos ht]
      exact (wl_text g l t ht (hs l rfl) w h).mono fun _ _ q => q
    · rw [show txX t (some l) = none from if_neg ht]
      obtain ⟨ps, h1, _⟩ := h
      exact (WText_err g ps t _ 1 (by decide) (putTextIs_no ⟨#[]⟩ t (by omega)) w h1).mono fun _ _ q => q
/-- the box of a step beside a writer -/
def Sw (g b : Nat) (s : Sp) (p : SpAt) (W : World) : Prop := Arr W b 25 (spArr s p) ∧ b ≠ g ∧ b < W.heap.size
theorem Sw.kept {g b : Nat} {s : Sp} {p : SpAt} {W W' : World} (h : Sw g b s p W) (k : W.grownBy W' (some g)) : Sw g b s p W' :=
  ⟨h.1.kept k (fun e => h.2.1 (by cases e; rfl)), h.2.1, Nat.lt_of_lt_of_le h.2.2 k.size⟩
def chX (s : Sp) (st : Option (List UInt8)) : Option (List UInt8) := txX s.new (txX s.old (txX s.ref st))
theorem chX_short {n : Nat} {st : Option (List UInt8)} (s : Sp) (h : ShortX n st) : ShortX (n + 4099 + 4099 + 4099) (chX s st) := txX_short _ (txX_short _ (txX_short _ h))
theorem chX_ok (s : Sp) (h : ¬ spLong s) (l : List UInt8) : chX s (some l) = some (l ++ chL s) := by
  unfold spLong at h
  unfold chX chL
  rw [show txX s.ref (some l) = some (l ++ txt s.ref) from if_pos (by omega)]
  rw [show txX s.old (some (l ++ txt s.ref)) = some (l ++ txt s.ref ++ txt s.old) from if_pos (by omega)]
  rw [show txX s.new (some (l ++ txt s.ref ++ txt s.old)) = some (l ++ txt s.ref ++ txt s.old ++ txt s.new) from if_pos (by omega)]
  simp only [List.append_assoc]
theorem chX_no (s : Sp) (h : spLong s) (l : List UInt8) : chX s (some l) = none := by
  unfold spLong at h
  unfold chX
  by_cases h1 : s.ref.size ≤ 4096
  · rw [show txX s.ref (some l) = some (l ++ txt s.ref) from if_pos h1]
    by_cases h2 : s.old.size ≤ 4096
    · rw [show txX s.old (some (l ++ txt s.ref)) = some (l ++ txt s.ref ++ txt s.old) from if_pos h2]
      exact if_neg (by omega)
    · rw [show txX s.old (some (l ++ txt s.ref)) = none from if_neg h2]; rfl
  · rw [show txX s.ref (some l) = none from if_neg h1]; rfl
set_option maxRecDepth 100000 in
theorem writeChange_any (s : Sp) (p : SpAt) (g : Nat) (st : Option (List UInt8)) (hs : ShortX 1000 st) (w : World) (h : WX w g st) :
    Calls Tryd.prog 38 #[.pointer (some ⟨g, 0, none⟩), .agg (spArr s p)] w (WxEnd w g (chX s st)) := by
  have hg := h.lt
  have h1 : Hid (Sw g w.heap.size s p (w.alloc (.cells (spArr s p) 25)) ∧ WX (w.alloc (.cells (spArr s p) 25)) g st ∧ w.grownBy (w.alloc (.cells (spArr s p) 25)) (some g)) :=
    ⟨⟨Arr.new _ _ _, by omega, by simp⟩, h.below ((Below.refl _ _).alloc (Nat.le_refl _) _), gb_alloc _⟩
  have hs0 : ShortX 281474976710656 st := fun l hl => by have := hs l hl; omega
  have hs1 : ShortX 281474976710656 (txX s.ref st) := fun l hl => by have := txX_short s.ref hs l hl; omega
  have hs2 : ShortX 281474976710656 (txX s.old (txX s.ref st)) := fun l hl => by have := txX_short s.old (txX_short s.ref hs) l hl; omega
  have C0 : Hid (∀ W, WX W g st → Calls Tryd.prog 52 #[.pointer (some ⟨g, 0, none⟩), .string s.ref] W (WxEnd W g (txX s.ref st))) := fun W h => wx_text g st s.ref hs0 W h
  have C1 : Hid (∀ W, WX W g (txX s.ref st) → Calls Tryd.prog 52 #[.pointer (some ⟨g, 0, none⟩), .string s.old] W (WxEnd W g (txX s.old (txX s.ref st)))) := fun W h => wx_text g _ s.old hs1 W h
  have C2 : Hid (∀ W, WX W g (txX s.old (txX s.ref st)) → Calls Tryd.prog 52 #[.pointer (some ⟨g, 0, none⟩), .string s.new] W (WxEnd W g (chX s st))) := fun W h => wx_text g _ s.new hs2 W h
  clear h hs hs0 hs1 hs2
  generalize hb : w.heap.size = b at *
  generalize hA : spArr s p = arr at *
  have HA := Lib.hid hA
  clear hA
  generalize txX s.old (txX s.ref st) = st2 at *
  generalize txX s.ref st = st1 at *
  generalize chX s st = st3 at *
  go_enter Tryd.func38, Tryd.ntmps38
  go_upto_region 1 with fail
  refine wp_forget (fun W => Sw g b s p W ∧ WX W g st ∧ w.grownBy W (some g)) h1.out ?_
  clear h1
  rintro W ⟨hX, hW, hK⟩
  have c0 : W.cell? ⟨b, 0, none⟩ = some (.string s.ref) := hX.1.cell 0
  go_wp2_with fail
  (with_reducible refine (C0.out W hW).mono ?_)
  rintro _ W2 ⟨rfl, h2, k2⟩
  replace hX := hX.kept k2
  replace hK := gb_trans hK k2
  clear hW c0 k2
  have c1 : W2.cell? ⟨b, 1, none⟩ = some (.string s.old) := hX.1.cell 1
  go_wp2_with fail
  (with_reducible refine (C1.out W2 h2).mono ?_)
  rintro _ W3 ⟨rfl, h3, k3⟩
  replace hX := hX.kept k3
  replace hK := gb_trans hK k3
  clear h2 c1 k3
  have c2 : W3.cell? ⟨b, 2, none⟩ = some (.string s.new) := hX.1.cell 2
  go_wp2_with fail
  (with_reducible refine (C2.out W3 h3).mono ?_)
  rintro _ W4 ⟨rfl, h4, k4⟩
  go_wp2_with fail
  go_end0
  exact ⟨rfl, h4, gb_trans hK k4⟩
/-- where Body stands, its writer made -/
def Bd (w : World) (b g : Nat) (s : Sp) (p : SpAt) (st : Option (List UInt8)) (W : World) : Prop := Arr W b 25 (spArr s p) ∧ b ≠ g ∧ w.heap.size ≤ g ∧ Below w.heap.size w W ∧ WX W g st
theorem Bd.wrote {w W W' : World} {b g : Nat} {s : Sp} {p : SpAt} {st st' : Option (List UInt8)} (h : Bd w b g s p st W) (h' : WX W' g st') (k : W.grownBy W' (some g)) : Bd w b g s p st' W' :=
  ⟨h.1.kept k (fun e => h.2.1 (by cases e; rfl)), h.2.1, h.2.2.1, below_gb h.2.2.2.1 k h.2.2.1 h.2.2.2.1.size, h'⟩
theorem num_short (n : Nat) (h : n < 4611686018427387904) (l : List UInt8) (hl : l.length ≤ 500) : ShortX 1000 (some (l ++ num n)) := fun l' h' => by
  cases h'
  have := num_len9 n h
  rw [List.length_append]
  omega
set_option maxRecDepth 100000 in
set_option maxHeartbeats 1000000 in
theorem Body_any (i : Int) (s : Sp) (p : SpAt) (w : World) :
    Calls Tryd.prog 21 #[.int .i64 i, .agg (spArr s p)] w fun e w' => e = .returned (.tuple #[.string (spBody i s).1, .int .i64 (spBody i s).2]) ∧ Below w.heap.size w w' := by
  have hE : spBody i s = if i < 0 ∨ 199 < i then (⟨#[]⟩, 3) else if spLong s then (⟨#[]⟩, 1) else (bs (spBodyL i.toNat s), 0) := rfl
  have HE := Lib.hid hE
  clear hE
  generalize spBody i s = R at *
  by_cases h0 : i < 0
  · have HE2 : Hid (R = (⟨#[]⟩, 3)) := by show _ = _; rw [HE.out, if_pos (.inl h0)]
    clear HE
    generalize hA : spArr s p = arr at *
    go_enter Tryd.func21, Tryd.ntmps21
    go_wp2_with fail
    go_ret2
    exact ⟨by rw [HE2.out]; rfl, (Below.refl _ _).alloc (Nat.le_refl _) _⟩
  by_cases h2 : 200 ≤ i
  · have HE2 : Hid (R = (⟨#[]⟩, 3)) := by show _ = _; rw [HE.out, if_pos (.inr (by omega))]
    clear HE
    generalize hA : spArr s p = arr at *
    go_enter Tryd.func21, Tryd.ntmps21
    go_wp2_with fail
    go_ret2
    exact ⟨by rw [HE2.out]; rfl, (Below.refl _ _).alloc (Nat.le_refl _) _⟩
  have HE2 : Hid (R = if spLong s then (⟨#[]⟩, 1) else (bs (spBodyL i.toNat s), 0)) := by show _ = _; rw [HE.out, if_neg (by omega)]
  clear HE
  obtain ⟨n, rfl⟩ := Int.eq_ofNat_of_zero_le (show 0 ≤ i by omega)
  rw [Int.toNat_natCast] at HE2
  have hn : n < 4611686018427387904 := by omega
  have h1 : Hid (Bd w w.heap.size (w.heap.size + 1) s p (some []) ((w.alloc (.cells (spArr s p) 25)).alloc (.cells #[.pointer none, .int .i64 0, .int .i64 0] 60))) := by
    have A0 : Arr (w.alloc (.cells (spArr s p) 25)) w.heap.size 25 (spArr s p) := Arr.new _ _ _
    have b0 : Below w.heap.size w (w.alloc (.cells (spArr s p) 25)) := (Below.refl _ _).alloc (Nat.le_refl _) _
    have hz : (w.alloc (.cells (spArr s p) 25)).heap.size = w.heap.size + 1 := World.size_alloc _ _
    generalize w.alloc (.cells (spArr s p) 25) = V at *
    have q : WL (V.alloc (.cells #[.pointer none, .int .i64 0, .int .i64 0] 60)) V.heap.size [] := ⟨[], ⟨.pointer none, Arr.new _ _ _, rfl⟩, rfl⟩
    rw [hz] at q
    exact ⟨A0.below ((Below.refl _ _).alloc (Nat.le_refl _) _) A0.lt, by omega, by omega, b0.alloc b0.size _, q⟩
  have CW := Lib.hid (fun g W st hs h => writeChange_any s p g st hs W h)
  generalize hb : w.heap.size = b at *
  generalize hA : spArr s p = arr at *
  have HA := Lib.hid hA
  clear hA
  go_enter Tryd.func21, Tryd.ntmps21
  go_upto_region 4 with fail
  refine wp_forget (Bd w b (b + 1) s p (some [])) (by rw [← hb] at h1 ⊢; exact h1.out) ?_
  clear h1
  generalize b + 1 = g
  intro W hW
  have hA := HA.out
  clear HA
  subst hA
  have C0 := Lib.hid (wl_number g [] n hn (by simp) W hW.2.2.2.2)
  go_wp2_with fail
  (with_reducible refine C0.out.mono ?_)
  clear C0
  rintro _ W2 ⟨rfl, h2, k2⟩
  have hW2 : Bd w b g s p (some ([] ++ num n)) W2 := hW.wrote h2 k2
  clear hW h2 k2
  have C1 := Lib.hid (CW.out g W2 _ (num_short n hn [] (by simp)) hW2.2.2.2.2)
  go_wp2_with (refine wpList_load_row rfl 25 _ rfl b rfl 25 _ (0, 0) _ hW2.1 Tryd.underlying25 rfl (spInfo s p) ?_)
  (with_reducible refine C1.out.mono ?_)
  clear C1
  rintro _ W3 ⟨rfl, h3, k3⟩
  have hW3 := hW2.wrote h3 k3
  clear hW2 h3 k3
  by_cases hl : spLong s
  · rw [if_pos hl] at HE2
    rw [chX_no s hl] at hW3
    have C2 := Lib.hid (Done_bad g 1 (by decide) W3 hW3.2.2.2.2)
    go_wp2_with fail
    (with_reducible refine C2.out.mono ?_)
    rintro _ W4 ⟨rfl, b4⟩
    go_wp2_with fail
    go_ret2
    exact ⟨by rw [HE2.out]; rfl, by rw [← hb] at hW3 ⊢; exact hW3.2.2.2.1.trans (b4.mono hW3.2.2.2.1.size)⟩
  · rw [if_neg hl] at HE2
    rw [chX_ok s hl, List.nil_append] at hW3
    have hL : num n ++ chL s = spBodyL n s := by unfold chL spBodyL; simp only [List.append_assoc]
    rw [hL] at hW3
    obtain ⟨ps, hok, hps⟩ := hW3.2.2.2.2
    have hlen : (cat ps).length ≤ 281474976710656 := by
      rw [hps]
      unfold spLong at hl
      have := num_len9 n hn
      have := txt_len s.ref (by omega)
      have := txt_len s.old (by omega)
      have := txt_len s.new (by omega)
      unfold spBodyL
      simp only [List.length_append]
      omega
    have C2 := Lib.hid (Done_ok g ps hlen W3 hok)
    rw [hps] at C2
    generalize bs (spBodyL n s) = B at *
    go_wp2_with fail
    (with_reducible refine C2.out.mono ?_)
    rintro _ W4 ⟨rfl, b4⟩
    go_wp2_with fail
    go_ret2
    exact ⟨by rw [HE2.out]; rfl, by rw [← hb] at hW3 ⊢; exact hW3.2.2.2.1.trans (b4.mono hW3.2.2.2.1.size)⟩
set_option maxRecDepth 100000 in
theorem goodBody_any (i : Int) (s : Sp) (p : SpAt) (w : World) (hP : SpIn w w.heap.size s p) (hb : s.who.length ≤ 140737488355328) (hb2 : s.seals.length ≤ 140737488355328) :
    Calls Tryd.prog 9 #[.int .i64 i, .agg (spArr s p)] w fun e w' => e = .returned (.tuple #[.string (spGB i s).1, .int .i64 (spGB i s).2]) ∧ Below w.heap.size w w' := by
  have h1 := Lib.hid (Sx.start hP)
  have CG := Lib.hid (fun V h => SpGood_any s p V h hb hb2)
  have CB := Lib.hid (fun V => Body_any i s p V)
  have hE : spGB i s = if spGood s ≠ 0 then (⟨#[]⟩, spGood s) else spBody i s := rfl
  have HE := Lib.hid hE
  clear hE hP
  generalize spGB i s = R at *
  generalize spGood s = G at *
  generalize spBody i s = B at *
  generalize hA : spArr s p = arr at *
  have HA := Lib.hid hA
  clear hA
  go_enter Tryd.func9, Tryd.ntmps9
  go_upto_region 1 with fail
  refine wp_forget (Sx w s p) h1.out ?_
  clear h1
  intro W hW
  have hA := HA.out
  clear HA
  subst hA
  go_wp2_with (refine wpList_load_row rfl 25 _ rfl w.heap.size rfl 25 _ (0, 0) _ hW.1 Tryd.underlying25 rfl (spInfo s p) ?_)
  have C := Lib.hid (CG.out W hW.up)
  clear CG
  (with_reducible refine C.out.mono ?_)
  rintro _ W2 ⟨rfl, b2⟩
  have hW2 := hW.below b2
  clear hW b2 C
  cases hG : G != 0
  case true =>
    have hG2 : G ≠ 0 := by simpa using hG
    rw [if_pos hG2] at HE
    go_wp2_with fail
    go_ret2
    exact ⟨by rw [HE.out]; rfl, hW2.2.2⟩
  have hG2 : G = 0 := by simpa using hG
  subst hG2
  rw [if_neg (by simp)] at HE
  clear hG
  go_wp2_with (refine wpList_load_row rfl 25 _ rfl w.heap.size rfl 25 _ (0, 0) _ hW2.1 Tryd.underlying25 rfl (spInfo s p) ?_)
  have C := Lib.hid (CB.out W2)
  (with_reducible refine C.out.mono ?_)
  rintro _ W3 ⟨rfl, b3⟩
  go_wp2_with fail
  go_ret2
  exact ⟨by rw [HE.out]; rfl, (hW2.below b3).2.2⟩
end Go.Proofs.YtenjnaebhbmfiaaDoor

/- A valid step's body; a region that draws its order. -/
namespace Go.Proofs.YtenjnaebhbmfiaaDoor
open Go.RowKit

theorem spGB_small (i : Int) (s : Sp) (_ : (spGB i s).2 = 0) : (spGB i s).1.size ≤ 20000 := by
  unfold spGB
  split
  · exact Nat.zero_le _
  · unfold spBody
    split
    · exact Nat.zero_le _
    · split
      · exact Nat.zero_le _
      · rename_i h2
        unfold spLong at h2
        have := num_len9 i.toNat (by omega)
        have := txt_len s.ref (by omega)
        have := txt_len s.old (by omega)
        have := txt_len s.new (by omega)
        simp only [bs_size, spBodyL, List.length_append]
        omega
theorem spGB_good {i : Int} {s : Sp} (h : (spGB i s).2 = 0) : spGood s = 0 := by
  unfold spGB at h
  by_cases hg : spGood s = 0
  · exact hg
  · rw [if_pos hg] at h
    exact h
/-- a region that draws its order: whatever the order, the same act and a world of this kind -/
theorem wp_met {P : Program} {c : Code} {K : Act → World → Prop} {Q : Exit → Act → World → Prop} {a : Act} {w : World} {act : Option Addr → Nat → World → Act} (R : Option Addr → Nat → World → Prop)
    (h : ∀ K' : Act → World → Prop, (∀ A c U V, R A c V → K' (act A c U) V) → c.wp P (Exit.then K' Q) a w) (k : ∀ A c U V, R A c V → Exit.then K Q .normal (act A c U) V) : c.wp P (Exit.then K Q) a w := h K k
theorem wp_meet {P : Program} {c : Code} {K : Act → World → Prop} {Q : Exit → Act → World → Prop} {a : Act} {w : World} {act : World → Act} (R : World → Prop)
    (h : ∀ K' : Act → World → Prop, (∀ U V, R V → K' (act U) V) → c.wp P (Exit.then K' Q) a w) (k : ∀ U V, R V → Exit.then K Q .normal (act U) V) : c.wp P (Exit.then K Q) a w := h K k
theorem below_cell {V : World} {p : Addr} {u : Value} (h : V.cell? p = some u) (hl : p.block < V.heap.size) {o : Obj} : (V.alloc o).drew.cell? p = some u := (((Below.refl V.heap.size V).alloc (Nat.le_refl _) o).cell hl).trans h
end Go.Proofs.YtenjnaebhbmfiaaDoor

/- What Sign and Check answer of valid steps: plain. -/
namespace Go.Proofs.YtenjnaebhbmfiaaDoor
open Go.RowKit

section
variable {s : Sp} {i x : Int} {key t : ByteArray} {K : List ByteArray} {need : Int}
theorem gb_ok (h : spGood s = 0) (h0 : 0 ≤ i) (h1 : i ≤ 199) : spGB i s = (bs (spBodyL i.toNat s), 0) := by
  unfold spGB spBody
  rw [if_neg (by simp [h]), if_neg (by omega), if_neg (spGood_long h)]
theorem gb_no (h : spGood s = 0) (h0 : i < 0 ∨ 199 < i) : spGB i s = (⟨#[]⟩, 3) := by
  unfold spGB spBody
  rw [if_neg (by simp [h]), if_pos h0]
theorem sign_ok (h : spGood s = 0) (h0 : 0 ≤ i) (h1 : i ≤ 199) (hx : 0 ≤ x) (hx7 : x ≤ 7) (hn : x ∉ s.who) : spSign s i x key = (spPut s x (sealB key (bs (spBodyL i.toNat s))), 0) := by
  unfold spSign
  rw [gb_ok h h0 h1, if_neg (by simp), if_neg (by omega), if_neg hn]
theorem sign_ok_iff : (spSign s i x key).2 = 0 → spGood s = 0 ∧ 0 ≤ i ∧ i ≤ 199 ∧ 0 ≤ x ∧ x ≤ 7 ∧ x ∉ s.who := by
  intro h
  unfold spSign at h
  by_cases hg : (spGB i s).2 = 0
  · rw [if_neg (by simp [hg])] at h
    by_cases hx : x < 0 ∨ 7 < x
    · rw [if_pos hx] at h; cases h
    · rw [if_neg hx] at h
      by_cases hm : x ∈ s.who
      · rw [if_pos hm] at h; cases h
      · have hgd := spGB_good hg
        by_cases hi : i < 0 ∨ 199 < i
        · rw [gb_no hgd hi] at hg; cases hg
        · exact ⟨hgd, by omega, by omega, by omega, by omega, hm⟩
  · rw [if_pos hg] at h
    exact absurd h hg
theorem check_eq (h : spGood s = 0) (h0 : 0 ≤ i) (h1 : i ≤ 199) : spCheck K need i s = if s.prs.all (okSg K (bs (spBodyL i.toNat s))) && decide (need ≤ s.seals.length) then 0 else 13 := by
  unfold spCheck
  rw [gb_ok h h0 h1, if_neg (by simp)]
theorem sealB_size (key b : ByteArray) : (sealB key b).size = 32 := by
  unfold sealB
  rw [bs_size]
  exact sha_length _
theorem put_body (j : Nat) : spBodyL j (spPut s x t) = spBodyL j s := rfl
/-- Sign keeps a step valid -/
theorem sign_good (h : spGood s = 0) (hx : 0 ≤ x) (hx7 : x ≤ 7) (hn : x ∉ s.who) (b : ByteArray) : spGood (spPut s x (sealB key b)) = 0 ∧ (spPut s x (sealB key b)).prs = putP x (sealB key b) s.prs ∧ (spPut s x (sealB key b)).who.length = s.who.length + 1 ∧ (spPut s x (sealB key b)).seals.length = s.who.length + 1 :=
  put_good h hx hx7 (sealB_size _ _) hn
end
/-- the step, the keys that steps() asks -/
def sp0 : Sp := ⟨⟨#[97]⟩, ⟨#[]⟩, ⟨#[48, 49, 50, 51, 52, 53, 54, 55, 56, 57, 97, 98, 99, 100, 101, 102, 48, 49, 50, 51, 52, 53, 54, 55, 56, 57, 97, 98, 99, 100, 101, 102]⟩, [], []⟩
theorem sp0_good : spGood sp0 = 0 := by decide +kernel
theorem steps_sign : spSign sp0 0 1 ⟨#[107]⟩ = (spPut sp0 1 (sealB ⟨#[107]⟩ (bs (spBodyL 0 sp0))), 0) := sign_ok sp0_good (by decide) (by decide) (by decide) (by decide) (by decide)
theorem steps_check : spCheck [⟨#[]⟩, ⟨#[107]⟩] 1 0 (spPut sp0 1 (sealB ⟨#[107]⟩ (bs (spBodyL 0 sp0)))) = 0 := by
  obtain ⟨h1, h2, _, h4⟩ := sign_good (key := ⟨#[107]⟩) sp0_good (x := 1) (by decide) (by decide) (by decide) (bs (spBodyL 0 sp0))
  rw [check_eq h1 (by decide) (by decide), h2, h4]
  rw [put_body]
  have e : sp0.prs = [] := rfl
  rw [e]
  show (if ([((1 : Int), sealB ⟨#[107]⟩ (bs (spBodyL 0 sp0)))].all (okSg [⟨#[]⟩, ⟨#[107]⟩] (bs (spBodyL (0 : Int).toNat sp0))) && decide ((1 : Int) ≤ ((0 + 1 : Nat) : Int))) = true then (0 : Int) else 13) = 0
  simp [okSg]
end Go.Proofs.YtenjnaebhbmfiaaDoor

/- How the document's Sign comes to its lists, signer by signer: plain. -/
namespace Go.Proofs.YtenjnaebhbmfiaaDoor

theorem ris_cut : ∀ (l : List Sg) (b : Int), risI b (l.map Prod.fst) → ∀ w : Int, l.filter (fun x => decide (x.1 < w + 1)) = l.filter (fun x => decide (x.1 < w)) ++ l.filter (fun x => decide (x.1 = w))
  | [], _, _, _ => rfl
  | y :: l, b, h, w => by
    have ih := ris_cut l y.1 h.2 w
    have hlt : ∀ x ∈ l, y.1 < x.1 := fun x hx => risI_lt h.2 x.1 (List.mem_map.2 ⟨x, hx, rfl⟩)
    rcases Int.lt_trichotomy y.1 w with h1 | h1 | h1
    · rw [List.filter_cons_of_pos (by simp; omega), List.filter_cons_of_pos (by simp; omega), List.filter_cons_of_neg (by simp; omega), ih]
      rfl
    · have e1 : l.filter (fun x => decide (x.1 < w + 1)) = [] := List.filter_eq_nil_iff.2 fun x hx => by have := hlt x hx; simp; omega
      have e2 : l.filter (fun x => decide (x.1 < w)) = [] := List.filter_eq_nil_iff.2 fun x hx => by have := hlt x hx; simp; omega
      have e3 : l.filter (fun x => decide (x.1 = w)) = [] := List.filter_eq_nil_iff.2 fun x hx => by have := hlt x hx; simp; omega
      rw [List.filter_cons_of_pos (by simp; omega), List.filter_cons_of_neg (by simp; omega), List.filter_cons_of_pos (by simp; omega), e1, e2, e3]
      rfl
    · have e1 : l.filter (fun x => decide (x.1 < w + 1)) = [] := List.filter_eq_nil_iff.2 fun x hx => by have := hlt x hx; simp; omega
      have e2 : l.filter (fun x => decide (x.1 < w)) = [] := List.filter_eq_nil_iff.2 fun x hx => by have := hlt x hx; simp; omega
      have e3 : l.filter (fun x => decide (x.1 = w)) = [] := List.filter_eq_nil_iff.2 fun x hx => by have := hlt x hx; simp; omega
      rw [List.filter_cons_of_neg (by simp; omega), List.filter_cons_of_neg (by simp; omega), List.filter_cons_of_neg (by simp; omega), e1, e2, e3]
      rfl
theorem putP_at (x : Int) (t : ByteArray) (w : Int) : ∀ l : List Sg, (∀ y ∈ l, y.1 ≠ x) → (putP x t l).filter (fun y => decide (y.1 = w)) = if w = x then [(x, t)] else l.filter (fun y => decide (y.1 = w))
  | [], _ => by
    by_cases h : w = x
    · subst h; simp [putP]
    · rw [if_neg h]; simp [putP]; omega
  | y :: l, hn => by
    have ih := putP_at x t w l (fun z hz => hn z (List.mem_cons_of_mem _ hz))
    have hy := hn y List.mem_cons_self
    have hnil : w = x → (y :: l).filter (fun z => decide (z.1 = w)) = [] := fun e => List.filter_eq_nil_iff.2 fun z hz => by have := hn z hz; simp; omega
    unfold putP
    by_cases h1 : y.1 < x
    · rw [if_pos h1]
      by_cases h2 : y.1 = w
      · rw [List.filter_cons_of_pos (by simp; omega), ih, if_neg (by omega), if_neg (by omega), List.filter_cons_of_pos (by simp; omega)]
      · rw [List.filter_cons_of_neg (by simp; omega), ih, List.filter_cons_of_neg (by simp; omega)]
    · rw [if_neg h1]
      by_cases h2 : w = x
      · subst h2
        rw [if_pos rfl, List.filter_cons_of_pos (by simp), hnil rfl]
      · rw [if_neg h2, List.filter_cons_of_neg (by simp; omega)]
theorem putP_below (x : Int) (t : ByteArray) : ∀ l : List Sg, (putP x t l).filter (fun y => decide (y.1 < x)) = l.filter (fun y => decide (y.1 < x))
  | [] => by simp [putP]
  | y :: l => by
    have ih := putP_below x t l
    unfold putP
    by_cases h1 : y.1 < x
    · rw [if_pos h1, List.filter_cons_of_pos (by simp; omega), List.filter_cons_of_pos (by simp; omega), ih]
    · rw [if_neg h1, List.filter_cons_of_neg (by simp)]
/-- the pairs that the document's Sign has laid when it comes to signer w -/
def outP (s : Sp) (who : Int) (t : ByteArray) (w : Int) : List Sg :=
  if who < w then (putP who t s.prs).filter (fun x => decide (x.1 < w)) else s.prs.filter (fun x => decide (x.1 < w))
/-- of the signers up to a place those that are w -/
def hitP (s : Sp) (w : Int) (j : Nat) : List Sg := (s.prs.take j).filter (fun x => decide (x.1 = w))
section
variable {s : Sp} {who : Int} {t : ByteArray}
theorem outP_start (h : spGood s = 0) (h0 : 0 ≤ who) : outP s who t 0 = [] := by
  unfold outP
  rw [if_neg (by omega)]
  exact List.filter_eq_nil_iff.2 fun x hx => by
    have := gdS_low _ _ (spGood_ok h).2.2.2 x hx
    simp; omega
theorem outP_next (h : spGood s = 0) (h0 : 0 ≤ who) (h7 : who ≤ 7) (ht : t.size = 32) {w : Int} (hn : who ≤ w → who ∉ s.who) :
    outP s who t (w + 1) = outP s who t w ++ s.prs.filter (fun x => decide (x.1 = w)) ++ (if w = who then [(who, t)] else []) := by
  obtain ⟨_, _, hl, hg⟩ := spGood_ok h
  have hr : risI (-1) (s.prs.map Prod.fst) := gdS_ris _ _ hg
  unfold outP
  by_cases h1 : w < who
  · rw [if_neg (by omega), if_neg (by omega), if_neg (by omega), ris_cut _ _ hr, List.append_nil]
  · have hnn := hn (by omega)
    have hn2 : ∀ y ∈ s.prs, y.1 ≠ who := fun y hy e => hnn (by
      rw [← prs_fst hl]
      exact List.mem_map.2 ⟨y, hy, e⟩)
    have hp : risI (-1) ((putP who t s.prs).map Prod.fst) := gdS_ris _ _ (putP_good who t h7 ht s.prs (-1) hg (by omega) hn2)
    by_cases h2 : w = who
    · subst h2
      have e : s.prs.filter (fun x => decide (x.1 = w)) = [] := List.filter_eq_nil_iff.2 fun x hx => by have := hn2 x hx; simp; omega
      rw [if_pos (by omega), if_neg (by omega), if_pos rfl, ris_cut _ _ hp, putP_at w t w s.prs hn2, if_pos rfl, putP_below, e, List.append_nil]
    · rw [if_pos (by omega), if_pos (by omega), if_neg h2, ris_cut _ _ hp, putP_at who t w s.prs hn2, if_neg h2, List.append_nil]
theorem outP_end (h : spGood s = 0) (h0 : 0 ≤ who) (h7 : who ≤ 7) (ht : t.size = 32) (hn : who ∉ s.who) : outP s who t 8 = putP who t s.prs := by
  obtain ⟨_, _, hl, hg⟩ := spGood_ok h
  have hn2 : ∀ y ∈ s.prs, y.1 ≠ who := fun y hy e => hn (by
    rw [← prs_fst hl]
    exact List.mem_map.2 ⟨y, hy, e⟩)
  have hp := putP_good who t h7 ht s.prs (-1) hg (by omega) hn2
  unfold outP
  rw [if_pos (by omega)]
  exact List.filter_eq_self.2 fun x hx => by
    have := gdS_low _ _ hp x hx
    simp; omega
theorem hitP_zero (w : Int) : hitP s w 0 = [] := rfl
theorem hitP_all (h : spGood s = 0) (w : Int) : hitP s w s.who.length = s.prs.filter (fun x => decide (x.1 = w)) := by
  unfold hitP
  rw [← prs_len (spGood_ok h).2.2.1, List.take_length]
theorem hitP_next {j : Nat} {x : Int} {b : ByteArray} (h1 : s.who[j]? = some x) (h2 : s.seals[j]? = some b) (w : Int) : hitP s w (j + 1) = hitP s w j ++ if x = w then [(x, b)] else [] := by
  have hg := prs_get h1 h2
  unfold hitP
  rw [List.take_add_one, hg, List.filter_append]
  by_cases h : x = w
  · rw [if_pos h]; simp [h]
  · rw [if_neg h]; simp [h]
/-- few pairs, whatever w -/
theorem filter_few (h : spGood s = 0) (p : Sg → Bool) : (s.prs.filter p).length ≤ 8 := by
  obtain ⟨_, h8, hl, _⟩ := spGood_ok h
  have := List.length_filter_le p s.prs
  rw [prs_len hl] at this
  omega
theorem outP_few (h : spGood s = 0) (w : Int) : (outP s who t w).length ≤ 9 := by
  unfold outP
  split
  · have := List.length_filter_le (fun x : Sg => decide (x.1 < w)) (putP who t s.prs)
    rw [putP_len, prs_len (spGood_ok h).2.2.1] at this
    have := (spGood_ok h).2.1
    omega
  · have := filter_few h (fun x : Sg => decide (x.1 < w))
    omega
theorem hitP_few (h : spGood s = 0) (w : Int) (j : Nat) : (hitP s w j).length ≤ 8 := by
  unfold hitP
  have h1 := List.length_filter_le (fun x : Sg => decide (x.1 = w)) (s.prs.take j)
  have h2 : (s.prs.take j).length ≤ s.prs.length := by rw [List.length_take]; exact Nat.min_le_right _ _
  have h3 := prs_len (spGood_ok h).2.2.1
  have := (spGood_ok h).2.1
  omega
end
/-- what the document's Sign answers of a signer's list -/
theorem sign_eq {s : Sp} {i who : Int} {key b : ByteArray} (hg : spGB i s = (b, 0)) (h : spGood s = 0) (h0 : 0 ≤ who) (h7 : who ≤ 7) (hn : who ∉ s.who) : spSign s i who key = (ofP s (outP s who (sealB key b) 8), 0) := by
  unfold spSign
  rw [hg, if_neg (by simp), if_neg (by omega), if_neg hn, outP_end h h0 h7 (sealB_size _ _) hn, spPut_of (spGood_ok h).2.2.1]
end Go.Proofs.YtenjnaebhbmfiaaDoor

/- slices.BinarySearch at rising numbers: its contract. -/
namespace Go.Proofs.YtenjnaebhbmfiaaDoor
open Go.RowKit

theorem cNaN_any (x : Int) (w : World) : Calls Tryd.prog 40 #[.int .i64 x] w fun e w' => e = .returned (.bool false) ∧ w' = w := by
  go_enter Tryd.func40, Tryd.ntmps40
  go_wp2_with fail
  go_ret
  exact ⟨by simp, rfl⟩
theorem sNaN_any (x : Int) (w : World) : Calls Tryd.prog 23 #[.int .i64 x] w fun e w' => e = .returned (.bool false) ∧ w' = w := by
  go_enter Tryd.func23, Tryd.ntmps23
  go_wp2_with fail
  go_ret
  exact ⟨by simp, rfl⟩
theorem lessI_any (x y : Int) (w : World) : Calls Tryd.prog 22 #[.int .i64 x, .int .i64 y] w fun e w' => e = .returned (.bool (decide (x < y))) ∧ w' = w := by
  go_enter Tryd.func22, Tryd.ntmps22
  go_wp2_with fail
  (with_reducible refine (cNaN_any x w).mono ?_)
  rintro _ _ ⟨rfl, rfl⟩
  go_wp2_with fail
  go_ret
  exact ⟨rfl, rfl⟩
def IbRel (N : List Int) (x : Int) (w : World) (i j : Value) (wr : World) : Prop :=
  ∃ a b : Nat, i = .int .i64 (a : Int) ∧ j = .int .i64 (b : Int) ∧ a ≤ lowI x N ∧ lowI x N ≤ b ∧ b ≤ N.length ∧ w = wr
set_option maxRecDepth 100000 in
set_option maxHeartbeats 1000000 in
theorem intSearch_any (N : List Int) (x : Int) (A : Option Addr) (c : Nat) (w : World) (hP : NumsA w w.heap.size A N) (hl : N.length ≤ 100000) (hr : risI (-1) N) :
    Calls Tryd.prog 11 #[.slice A N.length c, .int .i64 x] w fun e w' => e = .returned (.tuple #[.int .i64 (lowI x N : Int), .bool (decide (x ∈ N))]) ∧ w' = w := by
  have hle := lowI_le x N
  have HG := Lib.hid (lowI_mem x N _ hr)
  have HS := Lib.hid (lowI_split x N _ hr)
  have h1 : Hid (IbRel N x w (.int .i64 0) (.int .i64 (N.length : Int)) w) := ⟨0, N.length, rfl, rfl, Nat.zero_le _, hle, Nat.le_refl _, rfl⟩
  have hlw : lowI x N ≤ 100000 := by omega
  go_enter Tryd.func11, Tryd.ntmps11
  go_wp2_with fail
  go_loopw [7, 8] (fun i j wr => IbRel N x w i j wr) (fun i j _ => (intOf j - intOf i).toNat)
  case atStart => exact h1.out
  case round =>
    clear h1
    obtain ⟨a, b, rfl, rfl, ha, hb, hbl, rfl⟩ := hrel
    by_cases hlt : a < b
    · have hj : (a : Int) < b := by omega
      have hml : (a + b) / 2 < N.length := by omega
      have hmi : ((a : Int) + b) / 2 < N.length := by omega
      have hx : N[(a + b) / 2]? = some N[(a + b) / 2] := List.getElem?_eq_getElem hml
      obtain ⟨ad, rfl, hbk, h0⟩ := hP _ _ hx
      have hsx := HS.out _ _ hx
      clear hx
      generalize N[(a + b) / 2] = y at *
      have C := Lib.hid (lessI_any y x w)
      go_wp2_with fail
      (with_reducible refine C.out.mono ?_)
      clear C h0
      rintro _ w2 ⟨rfl, rfl⟩
      by_cases hz : y < x
      · have hlo := hsx.1 hz
        clear hsx
        go_wp2_with fail
        go_roundw
        case rel => exact ⟨(a + b) / 2 + 1, b, by congr 1, rfl, by omega, hb, hbl, rfl⟩
        case measure => simp [intOf]; omega
      · have hlo : ¬ (a + b) / 2 < lowI x N := fun h => hz (hsx.2 h)
        clear hsx
        go_wp2_with fail
        go_roundw
        case rel => exact ⟨a, (a + b) / 2, rfl, by congr 1, ha, by omega, by omega, rfl⟩
        case measure => simp [intOf]; omega
    · have ea : a = lowI x N := by omega
      have eb : b = lowI x N := by omega
      subst eb
      rw [ea]
      have hj : ¬ (lowI x N : Int) < lowI x N := by omega
      clear hlt ea ha hb hbl
      have CN := Lib.hid (fun z => sNaN_any z w)
      cases hx : N[lowI x N]? with
      | none =>
        have hge := List.getElem?_eq_none_iff.1 hx
        have hj2 : ¬ (lowI x N : Int) < N.length := by omega
        have HN : Hid (decide (x ∈ N) = false) := by show _ = _; rw [decide_eq_false_iff_not, HG.out, hx]; simp
        clear HG HS hx
        go_wp2_with fail
        go_ret2
        exact ⟨by rw [HN.out]; rfl, rfl⟩
      | some y =>
        obtain ⟨hlt, _⟩ := List.getElem?_eq_some_iff.1 hx
        have hj2 : (lowI x N : Int) < N.length := by omega
        obtain ⟨ad, rfl, hbk, h0⟩ := hP _ _ hx
        have HN : Hid (decide (x ∈ N) = (y == x)) := by
          show _ = _
          by_cases e : y = x
          · rw [decide_eq_true (HG.out.2 (by rw [hx, e])), e]; simp
          · rw [decide_eq_false (fun h => e (by have := HG.out.1 h; rw [hx] at this; exact Option.some.inj this))]
            symm
            rw [beq_eq_false_iff_ne]; exact e
        clear HG HS hx
        by_cases hz : y = x
        · subst hz
          go_wp2_with fail
          go_ret2
          exact ⟨by rw [HN.out, beq_self_eq_true]; rfl, rfl⟩
        · have hz' : (y == x) = false := by rw [beq_eq_false_iff_ne]; exact hz
          go_wp2_with fail
          (with_reducible refine (CN.out y).mono ?_)
          rintro _ _ ⟨rfl, rfl⟩
          go_wp2_with fail
          go_ret2
          exact ⟨by rw [HN.out, hz']; rfl, rfl⟩
end Go.Proofs.YtenjnaebhbmfiaaDoor
