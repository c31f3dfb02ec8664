/- Texts in one: SpGood, SpDec, RfRep, RfSets, DkDel, DkCh, DkCh2, DkCh3, DkCh4. -/
import Derived.Test.YtbpmgpbmeganoaaDoorDSpec
import Derived.Test.YtbpmgpbmeganoaaDoorSpMem
import Derived.Test.YtbpmgpbmeganoaaDoorRfSet
import Derived.Test.YtbpmgpbmeganoaaDoorRfIter
import Derived.Test.YtbpmgpbmeganoaaDoorRfFind
import Derived.DataElems
import Derived.Test.YtbpmgpbmeganoaaDoorRfConcat
/- step.Good and what it calls: contracts. -/
namespace Go.Proofs.YtbpmgpbmeganoaaDoor
open Go.RowKit

theorem spIdOr_any (s : ByteArray) (w : World) : Calls Tryd.prog 44 #[.string s] w fun e w' => e = .returned (.bool (isId s)) ∧ w' = w := by
  have hz : s.data.toList.length = s.size := rfl
  by_cases h0 : s.size = 0
  · have e0 : s.data.toList = [] := List.eq_nil_of_length_eq_zero h0
    obtain rfl : s = ⟨#[]⟩ := bytes_eq e0
    have HI : Hid (isId ⟨#[]⟩ = true) := rfl
    go_enter Tryd.func44, Tryd.ntmps44
    go_wp2_with fail
    go_ret
    exact ⟨by rw [HI.out]; rfl, rfl⟩
  · have he : s.toList.isEmpty = false := by
      rw [toList_data]
      cases hq : s.data.toList with
      | nil => rw [hq] at hz; simp at hz; omega
      | cons a l => rfl
    have he2 : ¬ s.toList = [] := fun q => by rw [q] at he; cases he
    by_cases h32 : s.size = 32
    · have HI : Hid (isId s = true) := by show _ = _; unfold isId; rw [decide_eq_true h32, Bool.or_true]
      have hi : (((s.size : Nat) : Int) == 32) = true := by rw [h32]; rfl
      go_enter Tryd.func44, Tryd.ntmps44
      go_wp2_with fail
      go_ret
      exact ⟨by rw [HI.out]; rfl, rfl⟩
    · have HI : Hid (isId s = false) := by show _ = _; unfold isId; rw [decide_eq_false h32, decide_eq_false h0]; rfl
      have hi : (((s.size : Nat) : Int) == 32) = false := by rw [beq_eq_false_iff_ne]; omega
      go_enter Tryd.func44, Tryd.ntmps44
      go_wp2_with fail
      go_ret
      exact ⟨by rw [HI.out]; rfl, rfl⟩
def isSig (n : Int) : Bool := decide (0 ≤ n) && decide (n ≤ 7)
theorem isSigner_any (n : Int) (w : World) : Calls Tryd.prog 45 #[.int .i64 n] w fun e w' => e = .returned (.bool (isSig n)) ∧ w' = w := by
  by_cases h0 : 0 ≤ n
  · by_cases h7 : n ≤ 7
    · have HI : Hid (isSig n = true) := by show _ = _; unfold isSig; rw [decide_eq_true h0, decide_eq_true h7]; rfl
      have hi : n < 8 := by omega
      go_enter Tryd.func45, Tryd.ntmps45
      go_wp2_with fail
      go_ret
      exact ⟨by rw [HI.out]; rfl, rfl⟩
    · have HI : Hid (isSig n = false) := by show _ = _; unfold isSig; rw [decide_eq_false h7, Bool.and_false]
      have hi : ¬ n < 8 := by omega
      go_enter Tryd.func45, Tryd.ntmps45
      go_wp2_with fail
      go_ret
      exact ⟨by rw [HI.out]; rfl, rfl⟩
  · have HI : Hid (isSig n = false) := by show _ = _; unfold isSig; rw [decide_eq_false h0]; rfl
    go_enter Tryd.func45, Tryd.ntmps45
    go_wp2_with fail
    go_ret
    exact ⟨by rw [HI.out]; rfl, rfl⟩
/-- the boxed step, and nothing else has turned -/
def Sx (w : World) (s : Sp) (p : SpAt) (W : World) : Prop := Arr W w.heap.size 25 (spArr s p) ∧ SpIn W w.heap.size s p ∧ Below w.heap.size w W
theorem Sx.start {w : World} {s : Sp} {p : SpAt} (h : SpIn w w.heap.size s p) : Sx w s p (w.alloc (.cells (spArr s p) 25)) :=
  ⟨Arr.new _ _ _, h.below ((Below.refl _ _).alloc (Nat.le_refl _) _), (Below.refl _ _).alloc (Nat.le_refl _) _⟩
theorem Sx.below {w W W' : World} {s : Sp} {p : SpAt} (h : Sx w s p W) (b : Below W.heap.size W W') : Sx w s p W' :=
  ⟨h.1.below b h.1.lt, h.2.1.below (b.mono (Nat.le_of_lt h.1.lt)), h.2.2.trans (b.mono h.2.2.size)⟩
theorem Sx.c {w W : World} {s : Sp} {p : SpAt} (h : Sx w s p W) :
    W.cell? ⟨w.heap.size, 0, none⟩ = some (.string s.ref) ∧ W.cell? ⟨w.heap.size, 1, none⟩ = some (.string s.old) ∧ W.cell? ⟨w.heap.size, 2, none⟩ = some (.string s.new) ∧
    W.cell? ⟨w.heap.size, 3, none⟩ = some (.slice p.wa s.who.length p.wc) ∧ W.cell? ⟨w.heap.size, 4, none⟩ = some (.slice p.sa s.seals.length p.sc) :=
  ⟨h.1.cell 0, h.1.cell 1, h.1.cell 2, h.1.cell 3, h.1.cell 4⟩
theorem Sx.up {w W : World} {s : Sp} {p : SpAt} (h : Sx w s p W) : SpIn W W.heap.size s p := h.2.1.mono h.2.2.size
theorem same_lists (a b : ByteArray) : (a.toList == b.toList) = decide (a = b) := by
  have := sameB_iff a b
  unfold sameB at this
  cases hq : (a.toList == b.toList) with
  | true => rw [decide_eq_true (this.1 hq)]
  | false => rw [decide_eq_false (fun e => by rw [this.2 e] at hq; cases hq)]
/-- where Good's loop stands -/
def SgRel (w : World) (s : Sp) (p : SpAt) (i : Value) (wr : World) : Prop :=
  ∃ k : Nat, k ≤ s.who.length ∧ i = .int .i64 (k : Int) ∧ Sx w s p wr ∧
    ∃ b, -1 ≤ b ∧ gdS (-1) s.prs = gdS b (s.prs.drop k) ∧ (k = 0 ∧ b = -1 ∨ ∃ m x, k = m + 1 ∧ s.who[m]? = some x ∧ b = x)
theorem prs_next {s : Sp} (hl : s.seals.length = s.who.length) {k : Nat} (hk : k < s.who.length) : s.prs.drop k = (s.who[k], s.seals[k]'(by omega)) :: s.prs.drop (k + 1) := by
  have h : k < s.prs.length := by rw [prs_len hl]; exact hk
  have h2 := prs_get (s := s) (List.getElem?_eq_getElem hk) (List.getElem?_eq_getElem (show k < s.seals.length by omega))
  rw [List.getElem?_eq_getElem h] at h2
  rw [List.drop_eq_getElem_cons h, Option.some.inj h2]
set_option maxRecDepth 100000 in
set_option maxHeartbeats 1000000 in
theorem SpGood_any (s : Sp) (p : SpAt) (w : World) (hP : SpIn w w.heap.size s p) (hb : s.who.length ≤ 140737488355328) (_ : s.seals.length ≤ 140737488355328) :
    Calls Tryd.prog 18 #[.agg (spArr s p)] w fun e w' => e = .returned (.int .i64 (spGood s)) ∧ Below w.heap.size w w' := by
  obtain ⟨wa, wc, sa, sc⟩ := p
  have h1 := Lib.hid (Sx.start hP)
  have CN := Lib.hid (fun V => NamedR_any s.ref V)
  have CO := Lib.hid (fun V => spIdOr_any s.old V)
  have CI := Lib.hid (fun V => spIdOr_any s.new V)
  have HQ := same_lists s.old s.new
  have hG : spGood s = if !spForm s then 2 else if 8 < s.who.length ∨ s.seals.length ≠ s.who.length then 6 else gdS (-1) s.prs := rfl
  unfold spForm at hG
  have HG := Lib.hid hG
  clear hG
  generalize spGood s = G at *
  generalize hA : spArr s ⟨wa, wc, sa, sc⟩ = arr at *
  have HA := Lib.hid hA
  clear hA
  go_enter Tryd.func18, Tryd.ntmps18
  go_upto_region 1 with fail
  refine wp_forget (Sx w s ⟨wa, wc, sa, sc⟩) h1.out ?_
  clear h1 hP
  intro W hW
  have hA := HA.out
  clear HA
  subst hA
  obtain ⟨c0, _, _, _, _⟩ := hW.c
  cases hn : namedR s.ref
  · rw [hn] at CN HG
    go_wp2_with fail
    (with_reducible refine (CN.out W).mono ?_)
    rintro _ V ⟨rfl, b1⟩
    have hV := hW.below b1
    go_wp2_with fail
    go_ret
    exact ⟨by rw [HG.out]; rfl, hV.2.2⟩
  rw [hn] at CN HG
  cases ho : isId s.old
  · rw [ho] at CO HG
    go_wp2_with fail
    (with_reducible refine (CN.out W).mono ?_)
    rintro _ V ⟨rfl, b1⟩
    have hV := hW.below b1
    clear c0 b1 hW
    obtain ⟨_, c1, _, _, _⟩ := hV.c
    go_wp2_with fail
    (with_reducible refine (CO.out V).mono ?_)
    rintro _ V ⟨rfl, rfl⟩
    go_wp2_with fail
    go_ret
    exact ⟨by rw [HG.out]; rfl, hV.2.2⟩
  rw [ho] at CO HG
  cases hi : isId s.new
  · rw [hi] at CI HG
    go_wp2_with fail
    (with_reducible refine (CN.out W).mono ?_)
    rintro _ V ⟨rfl, b1⟩
    have hV := hW.below b1
    clear c0 b1 hW
    obtain ⟨_, c1, c2, _, _⟩ := hV.c
    go_wp2_with fail
    (with_reducible refine (CO.out V).mono ?_)
    rintro _ V ⟨rfl, rfl⟩
    go_wp2_with fail
    (with_reducible refine (CI.out _).mono ?_)
    rintro _ V ⟨rfl, rfl⟩
    go_wp2_with fail
    go_ret
    exact ⟨by rw [HG.out]; rfl, hV.2.2⟩
  rw [hi] at CI HG
  by_cases he : s.old = s.new
  · rw [decide_eq_true he] at HG HQ
    clear he
    go_wp2_with fail
    (with_reducible refine (CN.out W).mono ?_)
    rintro _ V ⟨rfl, b1⟩
    have hV := hW.below b1
    clear c0 b1 hW
    obtain ⟨_, c1, c2, _, _⟩ := hV.c
    go_wp2_with fail
    (with_reducible refine (CO.out V).mono ?_)
    rintro _ V ⟨rfl, rfl⟩
    go_wp2_with fail
    (with_reducible refine (CI.out _).mono ?_)
    rintro _ V ⟨rfl, rfl⟩
    go_wp2_with fail
    go_ret
    exact ⟨by rw [HG.out]; rfl, hV.2.2⟩
  rw [decide_eq_false he] at HG HQ
  clear he hn ho hi
  have HG2 : Hid (G = if 8 < s.who.length ∨ s.seals.length ≠ s.who.length then 6 else gdS (-1) s.prs) := HG.out
  clear HG
  by_cases h8 : 8 < s.who.length
  · have HG3 : Hid (G = 6) := by show _ = _; rw [HG2.out, if_pos (.inl h8)]
    have hi8 : (8 : Int) < s.who.length := by omega
    go_wp2_with fail
    (with_reducible refine (CN.out W).mono ?_)
    rintro _ V ⟨rfl, b1⟩
    have hV := hW.below b1
    clear c0 b1 hW
    obtain ⟨_, c1, c2, c3, _⟩ := hV.c
    go_wp2_with fail
    (with_reducible refine (CO.out V).mono ?_)
    rintro _ V ⟨rfl, rfl⟩
    go_wp2_with fail
    (with_reducible refine (CI.out _).mono ?_)
    rintro _ V ⟨rfl, rfl⟩
    go_wp2_with fail
    go_ret
    exact ⟨by rw [HG3.out]; rfl, hV.2.2⟩
  have hi8 : ¬ (8 : Int) < s.who.length := by omega
  by_cases hl : s.seals.length ≠ s.who.length
  · have HG3 : Hid (G = 6) := by show _ = _; rw [HG2.out, if_pos (.inr hl)]
    have hli : ((s.seals.length : Int) != s.who.length) = true := by rw [bne_iff_ne]; omega
    go_wp2_with fail
    (with_reducible refine (CN.out W).mono ?_)
    rintro _ V ⟨rfl, b1⟩
    have hV := hW.below b1
    clear c0 b1 hW
    obtain ⟨_, c1, c2, c3, c4⟩ := hV.c
    go_wp2_with fail
    (with_reducible refine (CO.out V).mono ?_)
    rintro _ V ⟨rfl, rfl⟩
    go_wp2_with fail
    (with_reducible refine (CI.out _).mono ?_)
    rintro _ V ⟨rfl, rfl⟩
    go_wp2_with fail
    go_ret
    exact ⟨by rw [HG3.out]; rfl, hV.2.2⟩
  replace hl : s.seals.length = s.who.length := Decidable.byContradiction hl
  have hli : ((s.seals.length : Int) != s.who.length) = false := by rw [hl]; simp
  have HG3 : Hid (G = gdS (-1) s.prs) := by show _ = _; rw [HG2.out, if_neg (by omega)]
  clear HG2
  go_wp2_with fail
  (with_reducible refine (CN.out W).mono ?_)
  rintro _ V ⟨rfl, b1⟩
  have hV := hW.below b1
  clear c0 b1 hW
  obtain ⟨_, c1, c2, c3, c4⟩ := hV.c
  go_wp2_with fail
  (with_reducible refine (CO.out V).mono ?_)
  rintro _ V ⟨rfl, rfl⟩
  go_wp2_with fail
  (with_reducible refine (CI.out _).mono ?_)
  rintro _ V ⟨rfl, rfl⟩
  go_wp2_with fail
  have hst : Hid (SgRel w s ⟨wa, wc, sa, sc⟩ (.int .i64 0) V) := ⟨0, Nat.zero_le _, rfl, hV, -1, Int.le_refl _, by rw [List.drop_zero], .inl ⟨rfl, rfl⟩⟩
  clear hV c1 c2 c3 c4 CN CO CI HQ
  go_loopw [46] (fun i wr => SgRel w s ⟨wa, wc, sa, sc⟩ i wr) (fun i _ => s.who.length - (intOf i).toNat)
  case atStart => exact hst.out
  case round =>
    clear hst
    obtain ⟨k, hk, rfl, hX, b, hb1, hE, hb⟩ := hrel
    by_cases hlt : k < s.who.length
    · have hj : (k : Int) < s.who.length := by omega
      have hlt2 : k < s.seals.length := by omega
      obtain ⟨ad, rfl, hbl, g0⟩ := hX.2.1.nums k s.who[k] (List.getElem?_eq_getElem hlt)
      obtain ⟨ad2, rfl, hbl2, g1⟩ := hX.2.1.txs k s.seals[k] (List.getElem?_eq_getElem hlt2)
      rw [prs_next hl hlt, gdS] at hE
      have HX := Lib.hid (List.getElem?_eq_getElem hlt)
      simp only at hE
      generalize s.who[k] = x at *
      generalize s.seals[k] = t at *
      have HE := Lib.hid hE
      have HB := Lib.hid hb
      have HB1 := Lib.hid hb1
      clear hE hb hb1
      obtain ⟨_, _, _, c3, c4⟩ := hX.c
      have CS := Lib.hid (fun V => isSigner_any x V)
      have hsig : isSig x = (decide (0 ≤ x) && decide (x ≤ 7)) := rfl
      cases hs : isSig x
      · have HE2 : Hid (gdS (-1) s.prs = 3) := by
          show _ = _
          rw [HE.out, if_pos]
          rw [hsig, Bool.and_eq_false_iff, decide_eq_false_iff_not, decide_eq_false_iff_not] at hs
          have := HB1.out
          omega
        rw [hs] at CS
        clear HE hs hsig HB HB1 HX
        go_wp2_with fail
        (with_reducible refine (CS.out _).mono ?_)
        rintro _ V ⟨rfl, rfl⟩
        go_wp2_with fail
        go_ret
        exact ⟨by rw [HG3.out, HE2.out]; rfl, hX.2.2⟩
      rw [hs] at CS
      have hx0 : 0 ≤ x ∧ x ≤ 7 := by
        rw [hsig, Bool.and_eq_true, decide_eq_true_iff, decide_eq_true_iff] at hs
        exact hs
      clear hs hsig
      have HE2 : Hid ((k = 0 ∨ b < x) → gdS (-1) s.prs = if t.size ≠ 32 then 2 else gdS x (s.prs.drop (k + 1))) := fun h => by
        rw [HE.out, if_neg]
        rcases h with rfl | h
        · rcases HB.out with ⟨_, rfl⟩ | ⟨m, y, h0, _⟩
          · omega
          · omega
        · omega
      rcases HB.out with ⟨hk0, hb0⟩ | ⟨m, y, hkm, hm, hby⟩
      · have HE3 := Lib.hid (HE2.out (.inl hk0))
        have hk1 : ¬ (0 : Int) < (k : Int) := by omega
        clear HE HE2 HB HB1 hb0 hk0
        by_cases ht : t.size ≠ 32
        · have hti : ((t.size : Int) != 32) = true := by rw [bne_iff_ne]; omega
          have HE4 : Hid (gdS (-1) s.prs = 2) := by show _ = _; rw [HE3.out, if_pos ht]
          go_wp2_with fail
          (with_reducible refine (CS.out _).mono ?_)
          rintro _ V ⟨rfl, rfl⟩
          go_wp2_with fail
          go_ret
          exact ⟨by rw [HG3.out, HE4.out]; rfl, hX.2.2⟩
        · have hti : ((t.size : Int) != 32) = false := by rw [bne_eq_false_iff_eq]; omega
          have HE4 : Hid (gdS (-1) s.prs = gdS x (s.prs.drop (k + 1))) := by show _ = _; rw [HE3.out, if_neg ht]
          go_wp2_with fail
          (with_reducible refine (CS.out _).mono ?_)
          rintro _ V ⟨rfl, rfl⟩
          go_wp2_with fail
          go_roundw
          case rel => exact ⟨k + 1, hlt, by rw [Int.natCast_add]; rfl, hX, x, by omega, HE4.out, .inr ⟨k, x, rfl, HX.out, rfl⟩⟩
          case measure => simp [intOf]; omega
      · obtain ⟨ad', e', hbl', g2⟩ := hX.2.1.nums m y hm
        cases e'
        have hm1 : (m : Int) < s.who.length := by omega
        have hm2 : IntKind.i64.wrap ((k : Int) - 1) = (m : Int) := by rw [IntWalk.i64_in _ (by omega)]; omega
        have hm3 : (0 : Int) < (k : Int) := by omega
        replace hby := hby.symm
        subst hby
        have HKM := Lib.hid hkm
        clear hkm
        by_cases hyx : x ≤ y
        · have HE3 : Hid (gdS (-1) s.prs = 3) := by show _ = _; rw [HE.out, if_pos (by omega)]
          clear HE HE2 HB HB1
          go_wp2_with fail
          (with_reducible refine (CS.out _).mono ?_)
          rintro _ V ⟨rfl, rfl⟩
          go_wp2_with fail
          go_ret
          exact ⟨by rw [HG3.out, HE3.out]; rfl, hX.2.2⟩
        have HE3 := Lib.hid (HE2.out (.inr (by omega)))
        clear HE HE2 HB HB1
        by_cases ht : t.size ≠ 32
        · have hti : ((t.size : Int) != 32) = true := by rw [bne_iff_ne]; omega
          have HE4 : Hid (gdS (-1) s.prs = 2) := by show _ = _; rw [HE3.out, if_pos ht]
          go_wp2_with fail
          (with_reducible refine (CS.out _).mono ?_)
          rintro _ V ⟨rfl, rfl⟩
          go_wp2_with fail
          go_ret
          exact ⟨by rw [HG3.out, HE4.out]; rfl, hX.2.2⟩
        · have hti : ((t.size : Int) != 32) = false := by rw [bne_eq_false_iff_eq]; omega
          have HE4 : Hid (gdS (-1) s.prs = gdS x (s.prs.drop (k + 1))) := by show _ = _; rw [HE3.out, if_neg ht]
          go_wp2_with fail
          (with_reducible refine (CS.out _).mono ?_)
          rintro _ V ⟨rfl, rfl⟩
          go_wp2_with fail
          go_roundw
          case rel => exact ⟨k + 1, hlt, by rw [Int.natCast_add]; rfl, hX, x, by omega, HE4.out, .inr ⟨k, x, rfl, HX.out, rfl⟩⟩
          case measure => simp [intOf]; omega
    · obtain rfl : k = s.who.length := by omega
      have hj : ¬ (s.who.length : Int) < s.who.length := by omega
      have hd : s.prs.drop s.who.length = [] := List.drop_of_length_le (Nat.le_of_eq (prs_len hl))
      rw [hd] at hE
      have HE := Lib.hid hE
      clear hE hb hb1
      obtain ⟨_, _, _, c3, c4⟩ := hX.c
      go_wp2_with fail
      go_ret
      exact ⟨by rw [HG3.out, HE.out]; rfl, hX.2.2⟩
end Go.Proofs.YtbpmgpbmeganoaaDoor

/- step.Decode: its contract. -/
namespace Go.Proofs.YtbpmgpbmeganoaaDoor
open Go.RowKit

/-- what Sign, Decode leave -/
def SdEnd (w : World) (R : Sp × Int) (x : Ending) (w' : World) : Prop := ∃ p, x = .returned (.tuple #[.agg (spArr R.1 p), .int .i64 R.2]) ∧ SpIn w' w'.heap.size R.1 p ∧ Below w.heap.size w w'
theorem SdEnd_eq {w : World} {a : Sp × Int} {s : Sp} {e : Int} (h : a = (s, e)) {x : Ending} {w' : World} (k : SdEnd w (s, e) x w') : SdEnd w a x w' := by rw [h]; exact k
theorem stTxt_n {l : List UInt8} (h : rdText l = none) : stTxt (some l) = (⟨#[]⟩, none) := by simp [stTxt, h]
theorem stTxt_s {l r : List UInt8} {t : ByteArray} (h : rdText l = some (t, r)) : stTxt (some l) = (t, some r) := by simp [stTxt, h]
theorem stTxt_o : stTxt none = (⟨#[]⟩, none) := rfl
theorem stSgs_o : stSgs none = ([], none) := rfl
def stStep (l : List UInt8) : Sp × St :=
  (⟨(stTxt (some l)).1, (stTxt (stTxt (some l)).2).1, (stTxt (stTxt (stTxt (some l)).2).2).1, (stSgs (stTxt (stTxt (stTxt (some l)).2).2).2).1.map Prod.fst, (stSgs (stTxt (stTxt (stTxt (some l)).2).2).2).1.map Prod.snd⟩,
    (stSgs (stTxt (stTxt (stTxt (some l)).2).2).2).2)
theorem spRead_st (l : List UInt8) : spRead l = match (stStep l).2 with | none => none | some r => if r = [] then some (stStep l).1 else none := by
  unfold spRead stStep
  simp only
  cases h1 : rdText l with
  | none => rw [stTxt_n h1]; rfl
  | some y =>
    obtain ⟨a, r1⟩ := y
    rw [stTxt_s h1]
    simp only
    cases h2 : rdText r1 with
    | none => rw [stTxt_n h2]; rfl
    | some y =>
      obtain ⟨o, r2⟩ := y
      rw [stTxt_s h2]
      simp only
      cases h3 : rdText r2 with
      | none => rw [stTxt_n h3]; rfl
      | some y =>
        obtain ⟨n, r3⟩ := y
        rw [stTxt_s h3]
        simp only [stSgs]
        cases h4 : rdNum r3 with
        | none => rfl
        | some y =>
          obtain ⟨k, r4⟩ := y
          simp only
          cases h5 : rdSgs k r4 with
          | none => rfl
          | some y => rfl
theorem rdSgs_len : ∀ (n : Nat) (l r : List UInt8) (L : List Sg), rdSgs n l = some (L, r) → 33 * L.length + r.length ≤ l.length
  | 0, l, r, L, h => by
    rw [rdSgs] at h
    simp only [Option.some.injEq, Prod.mk.injEq] at h
    rw [← h.1, ← h.2]
    simp
  | n + 1, l, r, L, h => by
    rw [rdSgs] at h
    cases h1 : rdNum l with
    | none => simp [h1] at h
    | some y =>
      obtain ⟨x, r1⟩ := y
      simp only [h1] at h
      cases h2 : rdId r1 with
      | none => simp [h2] at h
      | some y =>
        obtain ⟨t, r2⟩ := y
        simp only [h2] at h
        cases h3 : rdSgs n r2 with
        | none => simp [h3] at h
        | some y =>
          obtain ⟨L2, r3⟩ := y
          simp only [h3, Option.some.injEq, Prod.mk.injEq] at h
          have ih := rdSgs_len n r2 r3 L2 h3
          have e1 := rdNum_less h1
          have e2 := rdId_len h2
          rw [← h.1, ← h.2, List.length_cons]
          omega
theorem stTxt_le {n : Nat} {st : St} (h : ∀ l, st = some l → l.length ≤ n) : ∀ l, (stTxt st).2 = some l → l.length ≤ n := fun l hl => by
  cases st with
  | none => cases hl
  | some l0 =>
    have h0 := h l0 rfl
    cases h1 : rdText l0 with
    | none => rw [stTxt_n h1] at hl; cases hl
    | some y =>
      obtain ⟨t, r⟩ := y
      rw [stTxt_s h1] at hl
      cases hl
      have := rdText_less h1
      omega
theorem stSgs_le {n : Nat} {st : St} (h : ∀ l, st = some l → l.length ≤ n) : (stSgs st).1.length ≤ n := by
  cases st with
  | none => exact Nat.zero_le _
  | some l =>
    have h0 := h l rfl
    unfold stSgs
    simp only
    cases h1 : rdNum l with
    | none => exact Nat.zero_le _
    | some y =>
      obtain ⟨k, r⟩ := y
      simp only
      cases h2 : rdSgs k r with
      | none => exact Nat.zero_le _
      | some y =>
        obtain ⟨L, r2⟩ := y
        simp only
        have := rdSgs_len k r r2 L h2
        have := rdNum_less h1
        omega
/-- where Decode stands: the result's block, the reader, the step -/
def Dt (w : World) (g q : Nat) (cs : Array Value) (st : St) (W : World) : Prop :=
  Arr W w.heap.size 25 spZero ∧ Arr W q 25 cs ∧ RG W g st ∧ Below w.heap.size w W ∧ w.heap.size < g ∧ g < q
theorem Dt.kept {w W W' : World} {g q : Nat} {cs : Array Value} {st st' : St} (h : Dt w g q cs st W) (k : W.grownBy W' (some g)) (h' : RG W' g st') : Dt w g q cs st' W' := by
  obtain ⟨h1, h2, _, h4, h5, h6⟩ := h
  exact ⟨h1.kept k (fun e => by have := Option.some.inj e; omega), h2.kept k (fun e => by have := Option.some.inj e; omega), h', below_gb h4 k (by omega) h4.size, h5, h6⟩
theorem Dt.put {w W : World} {g q i : Nat} {cs : Array Value} {st : St} (h : Dt w g q cs st W) (v : Value) : Dt w g q (cs.setIfInBounds i v) st (W.setCell ⟨q, i, none⟩ v) := by
  obtain ⟨h1, h2, h3, h4, h5, h6⟩ := h
  have k := gb_set (w := W) q i v
  exact ⟨h1.kept k (fun e => by have := Option.some.inj e; omega), h2.put i v, h3.kept k (fun e => by have := Option.some.inj e; omega), below_gb h4 k (by omega) h4.size, h5, h6⟩
set_option maxRecDepth 100000 in
set_option maxHeartbeats 2000000 in
theorem SpDecode_any (s : ByteArray) (hs : s.size ≤ 140737488355328) (w : World) : Calls Tryd.prog 21 #[.string s] w (SdEnd w (spDec s)) := by
  have hE : spDec s = match spRead s.data.toList with | none => (spZ, 2) | some s => if spGood s ≠ 0 then (spZ, spGood s) else (s, 0) := rfl
  rw [spRead_st] at hE
  unfold stStep at hE
  simp only at hE
  have hl : s.data.toList.length ≤ 140737488355328 := hs
  have hl0 : ∀ l, (some s.data.toList : St) = some l → l.length ≤ 140737488355328 := fun l e => by cases e; exact hl
  have hLen := stSgs_le (stTxt_le (stTxt_le (stTxt_le hl0)))
  have HLen := Lib.hid hLen
  have HE := Lib.hid hE
  have C0 := Lib.hid (Read_any s)
  have hR0 : ∀ W g, Rd W g s 0 → RG W g (some s.data.toList) := fun W g h => ⟨by rw [bs_of]; exact h, hl⟩
  have HR0 := Lib.hid hR0
  clear hE hl hl0 hLen hR0
  generalize spDec s = R at *
  generalize s.data.toList = l at *
  go_enter Tryd.func21, Tryd.ntmps21
  go_upto_region 1 with fail
  refine wp_forget (fun W => Arr W w.heap.size 25 spZero ∧ Below w.heap.size w W) ⟨Arr.new _ _ _, (Below.refl _ _).alloc (Nat.le_refl _) _⟩ ?_
  rintro W ⟨A0, b0⟩
  go_wp2_with fail
  (with_reducible refine (C0.out W).mono ?_)
  rintro _ W1 ⟨rfl, hRd, b1⟩
  have hg : w.heap.size < W.heap.size := A0.lt
  have hD0 : Arr W1 w.heap.size 25 spZero ∧ RG W1 W.heap.size (some l) ∧ Below w.heap.size w W1 := ⟨A0.below b1 A0.lt, HR0.out _ _ hRd, b0.trans (b1.mono b0.size)⟩
  clear A0 b0 hRd b1 C0 HR0
  generalize W.heap.size = g at *
  go_upto_region 3 with fail
  refine wp_forget (fun V => Dt w g W1.heap.size spZero (some l) V) ?_ ?_
  · have bb : Below W1.heap.size W1 (W1.alloc (.cells spZero 25)) := (Below.refl _ _).alloc (Nat.le_refl _) _
    exact ⟨hD0.1.below bb hD0.1.lt, Arr.new _ _ _, hD0.2.1.below bb, hD0.2.2.trans (bb.mono hD0.2.2.size), hg, hD0.2.1.lt⟩
  generalize W1.heap.size = q
  clear hD0 hg W1 W
  intro V hV
  have C1 := Lib.hid (rg_txt g (some l) V hV.2.2.1)
  generalize hs1 : stTxt (some l) = s1 at *
  clear hs1
  go_wp2_with fail
  (with_reducible refine C1.out.mono ?_)
  clear C1
  rintro _ V1 ⟨rfl, h1, k1⟩
  have hV1 := hV.kept k1 h1
  clear hV h1 k1
  have c0 : V1.cell? ⟨q, 0, none⟩ = some (.string ⟨#[]⟩) := hV1.2.1.cell 0
  have f0 := hV1.2.1.free 0
  have hP1 := hV1.put (i := 0) (.string s1.1)
  go_upto_region 4 with fail
  refine wp_forget (Dt w g q #[.string s1.1, .string ⟨#[]⟩, .string ⟨#[]⟩, .slice none 0 0, .slice none 0 0] s1.2) hP1 ?_
  clear hV1 c0 f0 hP1 V V1
  intro V hV
  have C1 := Lib.hid (rg_txt g s1.2 V hV.2.2.1)
  generalize stTxt s1.2 = s2 at *
  go_wp2_with fail
  (with_reducible refine C1.out.mono ?_)
  clear C1
  rintro _ V1 ⟨rfl, h1, k1⟩
  have hV1 := hV.kept k1 h1
  clear hV h1 k1
  have c0 : V1.cell? ⟨q, 1, none⟩ = some (.string ⟨#[]⟩) := hV1.2.1.cell 1
  have f0 := hV1.2.1.free 1
  have hP1 := hV1.put (i := 1) (.string s2.1)
  go_upto_region 5 with fail
  refine wp_forget (Dt w g q #[.string s1.1, .string s2.1, .string ⟨#[]⟩, .slice none 0 0, .slice none 0 0] s2.2) hP1 ?_
  clear hV1 c0 f0 hP1 V V1
  intro V hV
  have C1 := Lib.hid (rg_txt g s2.2 V hV.2.2.1)
  generalize stTxt s2.2 = s3 at *
  go_wp2_with fail
  (with_reducible refine C1.out.mono ?_)
  clear C1
  rintro _ V1 ⟨rfl, h1, k1⟩
  have hV1 := hV.kept k1 h1
  clear hV h1 k1
  have c0 : V1.cell? ⟨q, 2, none⟩ = some (.string ⟨#[]⟩) := hV1.2.1.cell 2
  have f0 := hV1.2.1.free 2
  have hP1 := hV1.put (i := 2) (.string s3.1)
  go_upto_region 6 with fail
  refine wp_forget (Dt w g q #[.string s1.1, .string s2.1, .string s3.1, .slice none 0 0, .slice none 0 0] s3.2) hP1 ?_
  clear hV1 c0 f0 hP1 V V1
  intro V hV
  have C1 := Lib.hid (readSeals_any g s3.2 V hV.2.2.1)
  generalize stSgs s3.2 = s4 at *
  obtain ⟨L, st⟩ := s4
  simp only at HLen HE
  have hNl : (L.map Prod.fst).length = L.length := List.length_map _
  have hTl : (L.map Prod.snd).length = L.length := List.length_map _
  go_wp2_with fail
  (with_reducible refine C1.out.mono ?_)
  clear C1
  rintro _ V1 ⟨v, v2, rfl, o1, o2, h1, k1⟩
  simp only at o1 o2 h1
  generalize L.map Prod.fst = N at *
  generalize L.map Prod.snd = T at *
  have HNl := Lib.hid hNl
  have HTl := Lib.hid hTl
  clear hNl hTl
  have hqV := hV.2.1.lt
  have hV1 := hV.kept k1 h1
  obtain ⟨A3, a3, rfl, ha3, _⟩ := own_nums o1
  obtain ⟨A4, a4, rfl, ha4, _, _⟩ := own_texts o2
  have c0 : V1.cell? ⟨q, 3, none⟩ = some (.slice none 0 0) := hV1.2.1.cell 3
  have f0 := hV1.2.1.free 3
  have hP1 := hV1.put (i := 3) (.slice A3 N.length a3)
  have c1 : (V1.setCell ⟨q, 3, none⟩ (.slice A3 N.length a3)).cell? ⟨q, 4, none⟩ = some (.slice none 0 0) := hP1.2.1.cell 4
  have f1 := hP1.2.1.free 4
  have hP2 := hP1.put (i := 4) (.slice A4 T.length a4)
  have o12 := ownsRow_setCell_below (ownsRow_setCell_below o1 (a := ⟨q, 3, none⟩) hqV (.slice A3 N.length a3)) (a := ⟨q, 4, none⟩) hqV (.slice A4 T.length a4)
  have o22 := ownsRow_setCell_below (ownsRow_setCell_below o2 (a := ⟨q, 3, none⟩) hqV (.slice A3 N.length a3)) (a := ⟨q, 4, none⟩) hqV (.slice A4 T.length a4)
  have hbase : q < V.heap.size := hqV
  have HB0 : Hid (w.heap.size < V.heap.size) := by have := hV.2.2.2.2.1; have := hV.2.2.2.2.2; show _ < _; omega
  clear o1 o2 k1 h1 hV
  go_upto_region 7 with fail
  refine wp_forget (fun W => Dt w g q #[.string s1.1, .string s2.1, .string s3.1, .slice A3 N.length a3, .slice A4 T.length a4] st W ∧ W.ownsRow V.heap.size 3 1 (.slice A3 N.length a3) N.length (N.map iv) ∧
    W.ownsRow V.heap.size 9 1 (.slice A4 T.length a4) T.length (T.map sv)) ⟨hP2, o12, o22⟩ ?_
  clear hP1 hP2 o12 o22 c0 c1 f0 f1 hV1 hqV
  generalize V.heap.size = base at *
  rintro V ⟨hV, o1, o2⟩
  have hno : ∀ (z : Int) (W : World), Dt w g q #[.string s1.1, .string s2.1, .string s3.1, .slice A3 N.length a3, .slice A4 T.length a4] st W → SdEnd w (spZ, z) (.returned (.tuple #[.agg (spArr spZ pZ), .int .i64 z])) (W.setRow w.heap.size (spArr spZ pZ)) := fun z W h =>
    ⟨pZ, rfl, spZ_in _ _, below_setRow h.2.2.2.1 (Nat.le_refl _) _⟩
  have HNo := Lib.hid hno
  clear hno
  cases st with
  | none =>
    have hR : R = (spZ, 2) := HE.out
    have HR := Lib.hid hR
    clear HE hR
    have CB := Lib.hid (rg_bad g none V hV.2.2.1)
    go_wp2_with fail
    (with_reducible refine CB.out.mono ?_)
    rintro _ _ ⟨⟨e, rfl, he⟩, rfl⟩
    rw [Option.isNone_none] at he
    go_wp2_with (refine wpList_store_row rfl 25 _ _ rfl w.heap.size (spArr spZ pZ) rfl rfl 25 spZero hV.1 (spInfo _ _) rfl (spArr_one _ _) ?_)
    refine bodyPost_ret (v := .tuple #[.agg (spArr spZ pZ), .int .i64 2]) ?_ rfl (SdEnd_eq HR.out (HNo.out 2 _ hV))
    rw [results_cell_tmp Tryd.results21]
    have hld := run_loadVar_row (P := Tryd.prog) _ _ _ 25 _ _ _ (hV.1.row (spArr spZ pZ)) Tryd.underlying25 rfl (spInfo spZ pZ)
    simp [asAddr, hld, Result.andThen]
  | some r =>
    have CB := Lib.hid (rg_bad g (some r) V hV.2.2.1)
    have CL := Lib.hid (rg_left g r V hV.2.2.1)
    by_cases hr : r ≠ []
    · have hR : R = (spZ, 2) := by
        rw [HE.out]
        simp only
        rw [if_neg hr]
      have hri : (0 : Int) < r.length := by
        have : 0 < r.length := List.length_pos_iff.2 hr
        omega
      have HR := Lib.hid hR
      clear HE hR hr
      go_wp2_with fail
      (with_reducible refine CB.out.mono ?_)
      rintro _ _ ⟨⟨e, rfl, he⟩, rfl⟩
      rw [Option.isNone_some] at he
      go_wp2_with fail
      (with_reducible refine CL.out.mono ?_)
      rintro _ _ ⟨rfl, rfl⟩
      go_wp2_with (refine wpList_store_row rfl 25 _ _ rfl w.heap.size (spArr spZ pZ) rfl rfl 25 spZero hV.1 (spInfo _ _) rfl (spArr_one _ _) ?_)
      refine bodyPost_ret (v := .tuple #[.agg (spArr spZ pZ), .int .i64 2]) ?_ rfl (SdEnd_eq HR.out (HNo.out 2 _ hV))
      rw [results_cell_tmp Tryd.results21]
      have hld := run_loadVar_row (P := Tryd.prog) _ _ _ 25 _ _ _ (hV.1.row (spArr spZ pZ)) Tryd.underlying25 rfl (spInfo spZ pZ)
      simp [asAddr, hld, Result.andThen]
    replace hr : r = [] := Decidable.byContradiction hr
    subst hr
    have hR : R = if spGood ⟨s1.1, s2.1, s3.1, N, T⟩ ≠ 0 then (spZ, spGood ⟨s1.1, s2.1, s3.1, N, T⟩) else (⟨s1.1, s2.1, s3.1, N, T⟩, 0) := HE.out
    have HR := Lib.hid hR
    clear HE hR
    obtain ⟨S, hS⟩ : ∃ S : Sp, S = ⟨s1.1, s2.1, s3.1, N, T⟩ := ⟨_, rfl⟩
    obtain ⟨p, hp⟩ : ∃ p : SpAt, p = ⟨A3, a3, A4, a4⟩ := ⟨_, rfl⟩
    have harr : #[.string s1.1, .string s2.1, .string s3.1, .slice A3 N.length a3, .slice A4 T.length a4] = spArr S p := by rw [hS, hp]; rfl
    have hlen : S.who.length ≤ 140737488355328 ∧ S.seals.length ≤ 140737488355328 := by
      have h1 := HLen.out
      have h2 := HNl.out
      have h3 := HTl.out
      rw [hS]
      show N.length ≤ _ ∧ T.length ≤ _
      omega
    have hin : ∀ W : World, W.ownsRow base 3 1 (.slice A3 N.length a3) N.length (N.map iv) → W.ownsRow base 9 1 (.slice A4 T.length a4) T.length (T.map sv) → SpIn W W.heap.size S p := fun W o1 o2 => by
      obtain ⟨A, c, e1, hc, hN⟩ := own_nums o1
      obtain ⟨A', c', e2, hc', hT, _⟩ := own_texts o2
      cases e1
      cases e2
      rw [hS, hp]
      exact ⟨hN, hT, hc, hc'⟩
    rw [harr] at hV HNo
    rw [← hS] at HR
    have HIn := Lib.hid hin
    have CG := Lib.hid (SpGood_any S p V (hin V o1 o2) hlen.1 hlen.2)
    have HO1 := Lib.hid o1
    have HO2 := Lib.hid o2
    clear hin harr hS hp hlen o1 o2 HLen HNl HTl
    generalize spGood S = G at *
    go_wp2_with fail
    (with_reducible refine CB.out.mono ?_)
    rintro _ _ ⟨⟨e, rfl, he⟩, rfl⟩
    rw [Option.isNone_some] at he
    go_wp2_with fail
    (with_reducible refine CL.out.mono ?_)
    rintro _ _ ⟨rfl, rfl⟩
    clear CB CL
    go_wp2_with (refine wpList_load_row rfl 25 _ rfl q rfl 25 _ (0, 0) _ hV.2.1 Tryd.underlying25 rfl (spInfo S p) ?_)
    (with_reducible refine CG.out.mono ?_)
    clear CG
    rintro _ V2 ⟨rfl, b2⟩
    have hV2 : Dt w g q (spArr S p) (some []) V2 := ⟨hV.1.below b2 hV.1.lt, hV.2.1.below b2 hV.2.1.lt, hV.2.2.1.below b2, hV.2.2.2.1.trans (b2.mono hV.2.2.2.1.size), hV.2.2.2.2⟩
    have o3 := own_kp HO1.out (Kp.bel (X := fun _ => False) b2) (fun _ _ x => x)
    have o4 := own_kp HO2.out (Kp.bel (X := fun _ => False) b2) (fun _ _ x => x)
    have HO3 := Lib.hid o3
    have HO4 := Lib.hid o4
    clear hV b2 o3 o4 HO1 HO2
    cases hG : G != 0
    case true =>
      have hG2 : G ≠ 0 := by simpa using hG
      rw [if_pos hG2] at HR
      go_wp2_with (refine wpList_store_row rfl 25 _ _ rfl w.heap.size (spArr spZ pZ) rfl rfl 25 spZero hV2.1 (spInfo _ _) rfl (spArr_one _ _) ?_)
      refine bodyPost_ret (v := .tuple #[.agg (spArr spZ pZ), .int .i64 G]) ?_ rfl (SdEnd_eq HR.out (HNo.out G _ hV2))
      rw [results_cell_tmp Tryd.results21]
      have hld := run_loadVar_row (P := Tryd.prog) _ _ _ 25 _ _ _ (hV2.1.row (spArr spZ pZ)) Tryd.underlying25 rfl (spInfo spZ pZ)
      simp [asAddr, hld, Result.andThen]
    have hG2 : G = 0 := by simpa using hG
    subst hG2
    rw [if_neg (by simp)] at HR
    clear hG HNo
    have hfin : SpIn (V2.setRow w.heap.size (spArr S p)) (V2.setRow w.heap.size (spArr S p)).heap.size S p := HIn.out _
      (own_kp HO3.out (Kp.gb (gb_row w.heap.size (spArr S p))) (fun k hk e => by have := own_row_ge HO3.out k hk; have := HB0.out; have := Option.some.inj e; omega))
      (own_kp HO4.out (Kp.gb (gb_row w.heap.size (spArr S p))) (fun k hk e => by have := own_row_ge HO4.out k hk; have := HB0.out; have := Option.some.inj e; omega))
    have HFin := Lib.hid hfin
    clear hfin HIn HO3 HO4
    go_wp2_with (first
      | refine wpList_load_row rfl 25 _ rfl q rfl 25 _ (0, 0) _ hV2.2.1 Tryd.underlying25 rfl (spInfo S p) ?_
      | refine wpList_store_row rfl 25 _ _ rfl w.heap.size (spArr S p) rfl rfl 25 spZero hV2.1 (spInfo S p) rfl (spArr_one S p) ?_)
    refine bodyPost_ret (v := .tuple #[.agg (spArr S p), .int .i64 0]) ?_ rfl (SdEnd_eq HR.out ⟨p, rfl, HFin.out, below_setRow hV2.2.2.2.1 (Nat.le_refl _) _⟩)
    rw [results_cell_tmp Tryd.results21]
    have hld := run_loadVar_row (P := Tryd.prog) _ _ _ 25 _ _ _ (hV2.1.row (spArr S p)) Tryd.underlying25 rfl (spInfo S p)
    simp [asAddr, hld, Result.andThen]
end Go.Proofs.YtbpmgpbmeganoaaDoor

/- refs.replace: its contract. -/
namespace Go.Proofs.YtbpmgpbmeganoaaDoor
open Go.RowKit

theorem Rfs.drop {w : World} {B : Nat} {ad : Addr} {L : List Rf} (h : Rfs w B (some ad) L) (k : Nat) : Rfs w B (some (ad.add (k * 2))) (L.drop k) := fun j x hx => by
  rw [List.getElem?_drop] at hx
  obtain ⟨a, e, hb, h0, h1⟩ := h (k + j) x hx
  cases e
  refine ⟨_, rfl, ?_⟩
  rw [Addr.add_add, show k * 2 + j * 2 = (k + j) * 2 from by omega]
  exact ⟨hb, h0, h1⟩
theorem Rfs.take {w : World} {B : Nat} {A : Option Addr} {L : List Rf} (h : Rfs w B A L) (k : Nat) : Rfs w B A (L.take k) := fun j x hx => by
  rw [List.getElem?_take] at hx
  split at hx
  · exact h j x hx
  · cases hx
theorem Rfs.rest {w : World} {B : Nat} {ad : Addr} {L : List Rf} (h : Rfs w B (some ad) L) (k c : Nat) (hc : L.length ≤ c) : Rfs w B (if c = k then some ad else some (ad.add (k * 2))) (L.drop k) := by
  by_cases e : c = k
  · rw [List.drop_of_length_le (by omega)]
    exact Rfs.nil _ _ _
  · rw [if_neg e]
    exact h.drop k
/-- what replace leaves -/
def RpEnd (L : List Rf) (n i : ByteArray) (w : World) (e : Ending) (w' : World) : Prop :=
  ∃ v, e = .returned v ∧ w'.ownsRow w.heap.size 89 2 v (changed L n i).length (rfCells (changed L n i)) ∧ Below w.heap.size w w'
theorem own_less {w : World} {base B : Nat} {e : TypeId} {size : Nat} {v : Value} {n : Nat} {xs : List Value} (h : w.ownsRow base e size v n xs) (hb : B ≤ base) : w.ownsRow B e size v n xs := by
  refine ⟨h.1, ?_⟩
  rcases h.2 with hn | ⟨g, cap, cur, hv, hbs, rest⟩
  · exact .inl hn
  · exact .inr ⟨g, cap, cur, hv, Nat.le_trans hb hbs, rest⟩
/-- two pieces, joined -/
theorem cat_two (w : World) (X Y : List Rf) (A A' : Option Addr) (c c' x y : Nat) (hx : x = X.length) (hy : y = Y.length) (hl : X.length + Y.length ≤ 1000) (W : World) (b : Below w.heap.size w W) (h : Rfs w w.heap.size A X) (h' : Rfs w w.heap.size A' Y) :
    Calls Tryd.prog 111 #[.slice (some ⟨W.heap.size, 0, none⟩) 2 2] (W.alloc (.cells #[.slice A x c, .slice A' y c'] 46)) fun e W' => ∃ v, e = .returned v ∧ W'.ownsRow w.heap.size 89 2 v (X ++ Y).length (rfCells (X ++ Y)) ∧ Below w.heap.size w W' := by
  subst hx hy
  have A0 : Arr (W.alloc (.cells #[.slice A X.length c, .slice A' Y.length c'] 46)) W.heap.size 46 #[.slice A X.length c, .slice A' Y.length c'] := Arr.new _ _ _
  have bb : Below w.heap.size w (W.alloc (.cells #[.slice A X.length c, .slice A' Y.length c'] 46)) := b.alloc b.size _
  have hlt := A0.lt
  have hg : W.heap.size ≥ w.heap.size := b.size
  generalize W.alloc (.cells #[.slice A X.length c, .slice A' Y.length c'] 46) = V at *
  have e : catP [(A, X, c), (A', Y, c')] = X ++ Y := by simp [catP]
  have q := Concat_any [(A, X, c), (A', Y, c')] (by simp) (by rw [e, List.length_append]; exact hl) W.heap.size V hlt (fun k p hp => by
    match k, hp with
    | 0, hp => obtain rfl := Option.some.inj hp; exact ⟨A0.cell 0, h.up bb⟩
    | 1, hp => obtain rfl := Option.some.inj hp; exact ⟨A0.cell 1, h'.up bb⟩
    | k + 2, hp => simp at hp)
  rw [e] at q
  refine q.mono ?_
  rintro e W' ⟨v, rfl, h1, h2⟩
  exact ⟨v, rfl, own_less h1 bb.size, bb.trans (h2.mono bb.size)⟩
/-- three pieces, the middle one new -/
theorem cat_three (w : World) (X Y : List Rf) (r : Rf) (A A' : Option Addr) (c c' x y : Nat) (hx : x = X.length) (hy : y = Y.length) (hl : X.length + Y.length ≤ 900) (W : World) (b : Below w.heap.size w W) (h : Rfs w w.heap.size A X) (h' : Rfs w w.heap.size A' Y) :
    Calls Tryd.prog 111 #[.slice (some ⟨W.heap.size + 1, 0, none⟩) 3 3] ((W.alloc (.cells #[.string r.name, .string r.id] 89)).alloc (.cells #[.slice A x c, .slice (some ⟨W.heap.size, 0, none⟩) 1 1, .slice A' y c'] 46)) fun e W' => ∃ v, e = .returned v ∧ W'.ownsRow w.heap.size 89 2 v (X ++ r :: Y).length (rfCells (X ++ r :: Y)) ∧ Below w.heap.size w W' := by
  subst hx hy
  have A1 : Arr (W.alloc (.cells #[.string r.name, .string r.id] 89)) W.heap.size 89 #[.string r.name, .string r.id] := Arr.new _ _ _
  have b1 : Below w.heap.size w (W.alloc (.cells #[.string r.name, .string r.id] 89)) := b.alloc b.size _
  have hz : (W.alloc (.cells #[.string r.name, .string r.id] 89)).heap.size = W.heap.size + 1 := World.size_alloc _ _
  generalize W.alloc (.cells #[.string r.name, .string r.id] 89) = U at *
  have A0 : Arr (U.alloc (.cells #[.slice A X.length c, .slice (some ⟨W.heap.size, 0, none⟩) 1 1, .slice A' Y.length c'] 46)) U.heap.size 46 #[.slice A X.length c, .slice (some ⟨W.heap.size, 0, none⟩) 1 1, .slice A' Y.length c'] := Arr.new _ _ _
  have bu : Below U.heap.size U (U.alloc (.cells #[.slice A X.length c, .slice (some ⟨W.heap.size, 0, none⟩) 1 1, .slice A' Y.length c'] 46)) := (Below.refl _ _).alloc (Nat.le_refl _) _
  have bb := b1.trans (bu.mono b1.size)
  replace A1 := A1.below bu A1.lt
  have hlt := A0.lt
  rw [hz] at A0 hlt
  have hg : W.heap.size ≥ w.heap.size := b.size
  generalize U.alloc (.cells #[.slice A X.length c, .slice (some ⟨W.heap.size, 0, none⟩) 1 1, .slice A' Y.length c'] 46) = V at *
  have e : catP [(A, X, c), (some ⟨W.heap.size, 0, none⟩, [r], 1), (A', Y, c')] = X ++ r :: Y := by simp [catP]
  have q := Concat_any [(A, X, c), (some ⟨W.heap.size, 0, none⟩, [r], 1), (A', Y, c')] (by simp) (by rw [e, List.length_append, List.length_cons]; omega) (W.heap.size + 1) V hlt (fun k p hp => by
    match k, hp with
    | 0, hp => obtain rfl := Option.some.inj hp; exact ⟨A0.cell 0, h.up bb⟩
    | 1, hp =>
      obtain rfl := Option.some.inj hp
      refine ⟨A0.cell 1, fun k x hx => ?_⟩
      match k, hx with
      | 0, hx => obtain rfl := Option.some.inj hx; exact ⟨_, rfl, A1.lt, A1.cell 0, A1.cell 1⟩
      | k + 1, hx => simp at hx
    | 2, hp => obtain rfl := Option.some.inj hp; exact ⟨A0.cell 2, h'.up bb⟩
    | k + 3, hp => simp at hp)
  rw [e] at q
  refine q.mono ?_
  rintro e W' ⟨v, rfl, h1, h2⟩
  exact ⟨v, rfl, own_less h1 bb.size, bb.trans (h2.mono bb.size)⟩
set_option maxRecDepth 100000 in
set_option maxHeartbeats 1000000 in
theorem replace_some (L : List Rf) (n i : ByteArray) (ad : Addr) (c : Nat) (w : World) (hP : Rfs w w.heap.size (some ad) L) (hc : L.length ≤ c) (hl : L.length ≤ 32) (hr : rrs ⟨#[]⟩ L) :
    Calls Tryd.prog 105 #[.slice (some ad) L.length c, .string n, .string i] w (RpEnd L n i w) := by
  have C := Lib.hid (rfind_any L n (some ad) c w hP (by omega) hr)
  have hk := rlow_le n L
  have hch : changed L n i = if i.size = 0 then L.take (rlow n L) ++ L.drop (rlow n L + if hasR n L then 1 else 0) else L.take (rlow n L) ++ ⟨n, i⟩ :: L.drop (rlow n L + if hasR n L then 1 else 0) := by
    unfold changed
    split
    · cases hh : hasR n L with
      | true => exact delR_cut n L _ hr hh
      | false =>
        rw [if_neg (by simp), Nat.add_zero, List.take_append_drop]
        unfold delR
        rw [List.filter_eq_self]
        intro f hf
        have : getRf n L = none := by
          unfold hasR at hh
          cases hq : getRf n L with
          | none => rfl
          | some x => rw [hq] at hh; cases hh
        unfold getRf at this
        rw [List.find?_eq_none] at this
        have h2 := this f hf
        simpa using h2
    · exact putR_cut ⟨n, i⟩ L _ hr
  have hi0 : i.toList.isEmpty = decide (i.size = 0) := by
    rw [toList_data]
    have hz : i.data.toList.length = i.size := rfl
    cases hq : i.data.toList with
    | nil => rw [hq] at hz; simp at hz; rw [decide_eq_true (by omega)]; rfl
    | cons a l => rw [hq] at hz; simp at hz; rw [decide_eq_false (by omega)]; rfl
  have hkf : hasR n L = true → rlow n L < L.length := fun h => by obtain ⟨_, _, _, _, h⟩ := hasR_some hr h; exact h
  have hdrop : ∀ m, (L.drop m).length = L.length - m := fun m => List.length_drop
  have htake : ∀ m, m ≤ L.length → m = (L.take m).length := fun m h => by rw [List.length_take]; omega
  generalize rlow n L = k at *
  have hk1 : (k : Int) ≤ L.length := by omega
  have hk2 : (k : Int) ≤ c := by omega
  have hl1 : (L.length : Int) ≤ c := by omega
  have HT := Lib.hid (htake k hk)
  have HD := Lib.hid hdrop
  have HC := Lib.hid hch
  clear hdrop htake hch
  have HS := Lib.hid hP
  cases hh : hasR n L
  · rw [hh] at C HC
    clear hkf
    have HR := Lib.hid (hP.rest k c hc)
    clear hP
    by_cases he : i.size = 0
    · rw [decide_eq_true he] at hi0
      have HE : Hid (changed L n i = L.take k ++ L.drop k) := by show _ = _; rw [HC.out, if_pos he]; rfl
      go_enter Tryd.func105, Tryd.ntmps105
      go_wp2_with fail
      (with_reducible refine C.out.mono ?_)
      rintro _ V ⟨rfl, b1⟩
      go_wp2_with fail
      go_quiet (fail)
      have b2 := below_drewN b1 nq
      generalize V.drewN nq = W at *
      generalize (if c = k then some ad else some (ad.add (k * 2))) = A' at *
      have C2 := Lib.hid (cat_two w (L.take k) (L.drop k) (some ad) A' c (c - k) k (L.length - k) HT.out (HD.out k).symm (by rw [List.length_take, List.length_drop]; omega) W b2 (HS.out.take k) HR.out)
      go_wp2_with fail
      (with_reducible refine C2.out.mono ?_)
      rintro _ W2 ⟨v, rfl, h1, h2⟩
      have H1 := Lib.hid h1
      clear h1
      go_wp2_with fail
      go_ret
      exact ⟨v, rfl, by rw [HE.out]; exact H1.out, h2⟩
    · rw [decide_eq_false he] at hi0
      have HE : Hid (changed L n i = L.take k ++ ⟨n, i⟩ :: L.drop k) := by show _ = _; rw [HC.out, if_neg he]; rfl
      go_enter Tryd.func105, Tryd.ntmps105
      go_wp2_with fail
      (with_reducible refine C.out.mono ?_)
      rintro _ V ⟨rfl, b1⟩
      go_wp2_with fail
      go_quiet (fail)
      have b2 := below_drewN b1 nq
      generalize V.drewN nq = W at *
      generalize (if c = k then some ad else some (ad.add (k * 2))) = A' at *
      have C2 := Lib.hid (cat_three w (L.take k) (L.drop k) ⟨n, i⟩ (some ad) A' c (c - k) k (L.length - k) HT.out (HD.out k).symm (by rw [List.length_take, List.length_drop]; omega) W b2 (HS.out.take k) HR.out)
      go_wp2_with fail
      (with_reducible refine C2.out.mono ?_)
      rintro _ W2 ⟨v, rfl, h1, h2⟩
      have H1 := Lib.hid h1
      clear h1
      go_wp2_with fail
      go_ret
      exact ⟨v, rfl, by rw [HE.out]; exact H1.out, h2⟩
  · rw [hh] at C HC
    have hlt := hkf hh
    have hne : ¬ c = k := by omega
    have s1 : (1 : Int) ≤ (L.length : Int) - k := by omega
    have HR1 : Hid (Rfs w w.heap.size (some ⟨(ad.add (k * 2)).block, (ad.add (k * 2)).off + 2, none⟩) (L.drop (k + 1))) := by
      have := hP.drop (k + 1)
      rw [show (k + 1) * 2 = k * 2 + 2 from by omega, add_add _ _ _ (by decide)] at this
      exact this
    clear hP
    by_cases he : i.size = 0
    · rw [decide_eq_true he] at hi0
      have HE : Hid (changed L n i = L.take k ++ L.drop (k + 1)) := by show _ = _; rw [HC.out, if_pos he]; rfl
      have C2 : Hid (∀ (A' : Option Addr) (c' : Nat) (W : World), Below w.heap.size w W → Rfs w w.heap.size A' (L.drop (k + 1)) → Calls Tryd.prog 111 #[.slice (some ⟨W.heap.size, 0, none⟩) 2 2] (W.alloc (.cells #[.slice (some ad) k c, .slice A' (L.length - k - 1) c'] 46)) fun e W' => ∃ v, e = .returned v ∧ W'.ownsRow w.heap.size 89 2 v (L.take k ++ L.drop (k + 1)).length (rfCells (L.take k ++ L.drop (k + 1))) ∧ Below w.heap.size w W') := fun A' c' W b h => cat_two w (L.take k) (L.drop (k + 1)) (some ad) A' c c' k (L.length - k - 1) HT.out (by rw [HD.out]; omega) (by rw [List.length_take, List.length_drop]; omega) W b (HS.out.take k) h
      go_enter Tryd.func105, Tryd.ntmps105
      go_wp2_with fail
      (with_reducible refine C.out.mono ?_)
      rintro _ V ⟨rfl, b1⟩
      go_wp2_with fail
      go_quiet (fail)
      have b2 := below_drewN b1 nq
      generalize V.drewN nq = W at *
      go_wp2_with fail
      all_goals
        (with_reducible refine (C2.out _ _ _ b2 ?_).mono ?_)
        · first
          | exact HR1.out
          | (rw [List.drop_of_length_le (by omega)]; exact Rfs.nil _ _ _)
        rintro _ W2 ⟨v, rfl, h1, h2⟩
        have H1 := Lib.hid h1
        clear h1
        go_wp2_with fail
        go_ret
        exact ⟨v, rfl, by rw [HE.out]; exact H1.out, h2⟩
    · rw [decide_eq_false he] at hi0
      have HE : Hid (changed L n i = L.take k ++ ⟨n, i⟩ :: L.drop (k + 1)) := by show _ = _; rw [HC.out, if_neg he]; rfl
      have C2 : Hid (∀ (A' : Option Addr) (c' : Nat) (W : World), Below w.heap.size w W → Rfs w w.heap.size A' (L.drop (k + 1)) → Calls Tryd.prog 111 #[.slice (some ⟨W.heap.size + 1, 0, none⟩) 3 3] ((W.alloc (.cells #[.string n, .string i] 89)).alloc (.cells #[.slice (some ad) k c, .slice (some ⟨W.heap.size, 0, none⟩) 1 1, .slice A' (L.length - k - 1) c'] 46)) fun e W' => ∃ v, e = .returned v ∧ W'.ownsRow w.heap.size 89 2 v (L.take k ++ ⟨n, i⟩ :: L.drop (k + 1)).length (rfCells (L.take k ++ ⟨n, i⟩ :: L.drop (k + 1))) ∧ Below w.heap.size w W') := fun A' c' W b h => cat_three w (L.take k) (L.drop (k + 1)) ⟨n, i⟩ (some ad) A' c c' k (L.length - k - 1) HT.out (by rw [HD.out]; omega) (by rw [List.length_take, List.length_drop]; omega) W b (HS.out.take k) h
      go_enter Tryd.func105, Tryd.ntmps105
      go_wp2_with fail
      (with_reducible refine C.out.mono ?_)
      rintro _ V ⟨rfl, b1⟩
      go_wp2_with fail
      go_quiet (fail)
      have b2 := below_drewN b1 nq
      generalize V.drewN nq = W at *
      go_wp2_with fail
      all_goals
        (with_reducible refine (C2.out _ _ _ b2 ?_).mono ?_)
        · first
          | exact HR1.out
          | (rw [List.drop_of_length_le (by omega)]; exact Rfs.nil _ _ _)
        rintro _ W2 ⟨v, rfl, h1, h2⟩
        have H1 := Lib.hid h1
        clear h1
        go_wp2_with fail
        go_ret
        exact ⟨v, rfl, by rw [HE.out]; exact H1.out, h2⟩
/-- of the empty list -/
theorem replace_none (n i : ByteArray) (c : Nat) (w : World) :
    Calls Tryd.prog 105 #[.slice none 0 c, .string n, .string i] w (RpEnd [] n i w) := by
  have C := Lib.hid (rfind_any [] n none c w (Rfs.nil _ _ _) (by simp) trivial)
  have hi0 : i.toList.isEmpty = decide (i.size = 0) := by
    rw [toList_data]
    have hz : i.data.toList.length = i.size := rfl
    cases hq : i.data.toList with
    | nil => rw [hq] at hz; simp at hz; rw [decide_eq_true (by omega)]; rfl
    | cons a l => rw [hq] at hz; simp at hz; rw [decide_eq_false (by omega)]; rfl
  have e1 : rlow n [] = 0 := rfl
  have e2 : hasR n [] = false := rfl
  rw [e1, e2] at C
  simp only [List.length_nil, Int.natCast_zero] at C
  by_cases he : i.size = 0
  · rw [decide_eq_true he] at hi0
    have HE : Hid (changed [] n i = []) := by show _ = _; unfold changed; rw [if_pos he]; rfl
    have C2 : Hid (∀ (a b : Nat) (W : World), Below w.heap.size w W → Calls Tryd.prog 111 #[.slice (some ⟨W.heap.size, 0, none⟩) 2 2] (W.alloc (.cells #[.slice none 0 a, .slice none 0 b] 46)) fun e W' => ∃ v, e = .returned v ∧ W'.ownsRow w.heap.size 89 2 v ([] : List Rf).length (rfCells []) ∧ Below w.heap.size w W') := fun a b W bl => cat_two w [] [] none none a b 0 0 rfl rfl (by simp) W bl (Rfs.nil _ _ _) (Rfs.nil _ _ _)
    go_enter Tryd.func105, Tryd.ntmps105
    go_wp2_with fail
    (with_reducible refine C.out.mono ?_)
    rintro _ V ⟨rfl, b1⟩
    go_wp2_with fail
    go_quiet (fail)
    have b2 := below_drewN b1 nq
    generalize V.drewN nq = W at *
    go_wp2_with fail
    (with_reducible refine (C2.out _ _ _ b2).mono ?_)
    rintro _ W2 ⟨v, rfl, h1, h2⟩
    have H1 := Lib.hid h1
    clear h1
    go_wp2_with fail
    go_ret
    exact ⟨v, rfl, by rw [HE.out]; exact H1.out, h2⟩
  · rw [decide_eq_false he] at hi0
    have HE : Hid (changed [] n i = [⟨n, i⟩]) := by show _ = _; unfold changed; rw [if_neg he]; rfl
    have C2 : Hid (∀ (a b : Nat) (W : World), Below w.heap.size w W → Calls Tryd.prog 111 #[.slice (some ⟨W.heap.size + 1, 0, none⟩) 3 3] ((W.alloc (.cells #[.string n, .string i] 89)).alloc (.cells #[.slice none 0 a, .slice (some ⟨W.heap.size, 0, none⟩) 1 1, .slice none 0 b] 46)) fun e W' => ∃ v, e = .returned v ∧ W'.ownsRow w.heap.size 89 2 v [(⟨n, i⟩ : Rf)].length (rfCells [⟨n, i⟩]) ∧ Below w.heap.size w W') := fun a b W bl => cat_three w [] [] ⟨n, i⟩ none none a b 0 0 rfl rfl (by simp) W bl (Rfs.nil _ _ _) (Rfs.nil _ _ _)
    go_enter Tryd.func105, Tryd.ntmps105
    go_wp2_with fail
    (with_reducible refine C.out.mono ?_)
    rintro _ V ⟨rfl, b1⟩
    go_wp2_with fail
    go_quiet (fail)
    have b2 := below_drewN b1 nq
    generalize V.drewN nq = W at *
    go_wp2_with fail
    (with_reducible refine (C2.out _ _ _ b2).mono ?_)
    rintro _ W2 ⟨v, rfl, h1, h2⟩
    have H1 := Lib.hid h1
    clear h1
    go_wp2_with fail
    go_ret
    exact ⟨v, rfl, by rw [HE.out]; exact H1.out, h2⟩
theorem replace_any (L : List Rf) (n i : ByteArray) (A : Option Addr) (c : Nat) (w : World) (hP : Rfs w w.heap.size A L) (hc : L.length ≤ c) (hl : L.length ≤ 32) (hr : rrs ⟨#[]⟩ L) :
    Calls Tryd.prog 105 #[.slice A L.length c, .string n, .string i] w (RpEnd L n i w) := by
  cases A with
  | some ad => exact replace_some L n i ad c w hP hc hl hr
  | none =>
    cases L with
    | nil => exact replace_none n i c w
    | cons x T => obtain ⟨ad, e1, _⟩ := hP 0 x rfl; cases e1
end Go.Proofs.YtbpmgpbmeganoaaDoor

/- refs.Set: its contract. -/
namespace Go.Proofs.YtbpmgpbmeganoaaDoor
open Go.RowKit

/-- what a Set leaves -/
def SrEnd (w : World) (r : List Rf × Int) (e : Ending) (w' : World) : Prop :=
  ∃ A c, e = .returned (.tuple #[.slice A r.1.length c, .int .i64 r.2]) ∧ Rfs w' w'.heap.size A r.1 ∧ r.1.length ≤ c ∧ Below w.heap.size w w'
theorem sr_no (w w' : World) (z : Int) (b : Below w.heap.size w w') : SrEnd w ([], z) (.returned (.tuple #[.slice none 0 0, .int .i64 z])) w' := ⟨none, 0, rfl, Rfs.nil _ _ _, Nat.le_refl _, b⟩
set_option maxRecDepth 100000 in
set_option maxHeartbeats 1000000 in
theorem SetR_any (L : List Rf) (n o i : ByteArray) (A : Option Addr) (c : Nat) (w : World) (hP : Rfs w w.heap.size A L) (hc : L.length ≤ c) (hl : L.length ≤ 140737488355328) :
    Calls Tryd.prog 86 #[.slice A L.length c, .string n, .string o, .string i] w (SrEnd w (setR L n o i)) := by
  have C1 := Lib.hid (RfGood_any L A c w hP hl)
  have HS := Lib.hid hP
  cases hG : goodR L
  · rw [hG] at C1
    have HE : Hid (setR L n o i = ([], 3)) := by show _ = _; unfold setR; rw [hG]; rfl
    clear hP
    go_enter Tryd.func86, Tryd.ntmps86
    go_wp2_with fail
    (with_reducible refine C1.out.mono ?_)
    rintro _ V ⟨rfl, b1⟩
    go_wp2_with fail
    go_ret2
    rw [HE.out]
    exact sr_no _ _ _ b1
  rw [hG] at C1
  obtain ⟨hl2, hr, _⟩ := (goodR_iff L).1 hG
  have CN := Lib.hid (fun V => NamedR_any n V)
  have CO := Lib.hid (fun V => idOr_any o V)
  have CI := Lib.hid (fun V => idOr_any i V)
  have CG : Hid (∀ V, Below w.heap.size w V → Calls Tryd.prog 104 #[.slice A L.length c, .string n] V fun e w' => e = .returned (.string (idAt n L)) ∧ Below V.heap.size V w') := fun V b => by
    have := GetR_any L n A c V (HS.out.up b) hl
    rw [hG] at this
    exact this
  have CR : Hid (∀ V, Below w.heap.size w V → Calls Tryd.prog 105 #[.slice A L.length c, .string n, .string i] V (RpEnd L n i V)) := fun V b => replace_any L n i A c V (HS.out.up b) hc hl2 hr
  have HE : Hid (setR L n o i = if !namedR n || !isId o || !isId i then ([], 2) else if idAt n L ≠ o then ([], 9) else if 32 < (changed L n i).length then ([], 6) else (changed L n i, 0)) := by show _ = _; unfold setR; rw [hG]; rfl
  clear hP hG hl2 hr
  generalize setR L n o i = R at *
  cases hn : namedR n
  · rw [hn] at CN HE
    go_enter Tryd.func86, Tryd.ntmps86
    go_wp2_with fail
    (with_reducible refine C1.out.mono ?_)
    rintro _ V ⟨rfl, b1⟩
    go_wp2_with fail
    (with_reducible refine (CN.out V).mono ?_)
    rintro _ V2 ⟨rfl, b2⟩
    replace b1 := b1.trans (b2.mono b1.size)
    go_wp2_with fail
    go_ret2
    rw [HE.out]
    exact sr_no _ _ _ b1
  rw [hn] at CN HE
  cases ho : isId o
  · rw [ho] at CO HE
    go_enter Tryd.func86, Tryd.ntmps86
    go_wp2_with fail
    (with_reducible refine C1.out.mono ?_)
    rintro _ V ⟨rfl, b1⟩
    go_wp2_with fail
    (with_reducible refine (CN.out V).mono ?_)
    rintro _ V2 ⟨rfl, b2⟩
    replace b1 := b1.trans (b2.mono b1.size)
    go_wp2_with fail
    (with_reducible refine (CO.out V2).mono ?_)
    rintro _ V3 ⟨rfl, rfl⟩
    go_wp2_with fail
    go_ret2
    rw [HE.out]
    exact sr_no _ _ _ b1
  rw [ho] at CO HE
  cases hi : isId i
  · rw [hi] at CI HE
    go_enter Tryd.func86, Tryd.ntmps86
    go_wp2_with fail
    (with_reducible refine C1.out.mono ?_)
    rintro _ V ⟨rfl, b1⟩
    go_wp2_with fail
    (with_reducible refine (CN.out V).mono ?_)
    rintro _ V2 ⟨rfl, b2⟩
    replace b1 := b1.trans (b2.mono b1.size)
    go_wp2_with fail
    (with_reducible refine (CO.out V2).mono ?_)
    rintro _ V3 ⟨rfl, rfl⟩
    go_wp2_with fail
    (with_reducible refine (CI.out V3).mono ?_)
    rintro _ V4 ⟨rfl, rfl⟩
    go_wp2_with fail
    go_ret2
    rw [HE.out]
    exact sr_no _ _ _ b1
  rw [hi] at CI HE
  clear hn ho hi
  have HQ : ((idAt n L).toList == o.toList) = decide (idAt n L = o) := by
    have := sameB_iff (idAt n L) o
    unfold sameB at this
    cases hq : ((idAt n L).toList == o.toList) with
    | true => rw [decide_eq_true (this.1 hq)]
    | false => rw [decide_eq_false (fun e => by rw [this.2 e] at hq; cases hq)]
  by_cases hq : ¬ idAt n L = o
  · rw [decide_eq_false hq] at HQ
    have HE2 : Hid (R = ([], 9)) := by show _ = _; rw [HE.out]; simp [hq]
    clear HE
    go_enter Tryd.func86, Tryd.ntmps86
    go_wp2_with fail
    (with_reducible refine C1.out.mono ?_)
    rintro _ V ⟨rfl, b1⟩
    go_wp2_with fail
    (with_reducible refine (CN.out V).mono ?_)
    rintro _ V2 ⟨rfl, b2⟩
    replace b1 := b1.trans (b2.mono b1.size)
    go_wp2_with fail
    (with_reducible refine (CO.out V2).mono ?_)
    rintro _ V3 ⟨rfl, rfl⟩
    go_wp2_with fail
    (with_reducible refine (CI.out V3).mono ?_)
    rintro _ V4 ⟨rfl, rfl⟩
    clear CN CO CI C1
    have C5 := Lib.hid (CG.out V4 b1)
    go_wp2_with fail
    (with_reducible refine C5.out.mono ?_)
    clear C5 b2
    rintro _ V5 ⟨rfl, b2⟩
    replace b1 := b1.trans (b2.mono b1.size)
    clear b2
    go_wp2_with fail
    go_ret2
    rw [HE2.out]
    exact sr_no _ _ _ b1
  replace hq : idAt n L = o := Decidable.byContradiction hq
  rw [decide_eq_true hq] at HQ
  have HE2 : Hid (R = if 32 < (changed L n i).length then ([], 6) else (changed L n i, 0)) := by show _ = _; rw [HE.out]; simp [hq]
  clear HE
  have HQ2 := Lib.hid hq
  clear hq
  by_cases hm : 32 < (changed L n i).length
  · have HE3 : Hid (R = ([], 6)) := by show _ = _; rw [HE2.out, if_pos hm]
    clear HE2
    go_enter Tryd.func86, Tryd.ntmps86
    go_wp2_with fail
    (with_reducible refine C1.out.mono ?_)
    rintro _ V ⟨rfl, b1⟩
    go_wp2_with fail
    (with_reducible refine (CN.out V).mono ?_)
    rintro _ V2 ⟨rfl, b2⟩
    replace b1 := b1.trans (b2.mono b1.size)
    go_wp2_with fail
    (with_reducible refine (CO.out V2).mono ?_)
    rintro _ V3 ⟨rfl, rfl⟩
    go_wp2_with fail
    (with_reducible refine (CI.out V3).mono ?_)
    rintro _ V4 ⟨rfl, rfl⟩
    clear CN CO CI C1
    have C5 := Lib.hid (CG.out V4 b1)
    go_wp2_with fail
    (with_reducible refine C5.out.mono ?_)
    clear C5 b2
    rintro _ V5 ⟨rfl, b2⟩
    replace b1 := b1.trans (b2.mono b1.size)
    clear b2
    have C6 := Lib.hid (CR.out V5 b1)
    go_wp2_with fail
    (with_reducible refine C6.out.mono ?_)
    rintro _ V6 ⟨v, rfl, h1, b2⟩
    obtain ⟨A', c', rfl, hc', hR⟩ := own_refs h1
    replace b1 := b1.trans (b2.mono b1.size)
    have hm2 : (32 : Int) < ((changed L n i).length : Int) := by omega
    clear h1 hR
    generalize (changed L n i).length = m at *
    go_wp2_with fail
    go_ret2
    rw [HE3.out]
    exact sr_no _ _ _ b1
  · have HE3 : Hid (R = (changed L n i, 0)) := by show _ = _; rw [HE2.out, if_neg hm]
    clear HE2
    go_enter Tryd.func86, Tryd.ntmps86
    go_wp2_with fail
    (with_reducible refine C1.out.mono ?_)
    rintro _ V ⟨rfl, b1⟩
    go_wp2_with fail
    (with_reducible refine (CN.out V).mono ?_)
    rintro _ V2 ⟨rfl, b2⟩
    replace b1 := b1.trans (b2.mono b1.size)
    go_wp2_with fail
    (with_reducible refine (CO.out V2).mono ?_)
    rintro _ V3 ⟨rfl, rfl⟩
    go_wp2_with fail
    (with_reducible refine (CI.out V3).mono ?_)
    rintro _ V4 ⟨rfl, rfl⟩
    clear CN CO CI C1
    have C5 := Lib.hid (CG.out V4 b1)
    go_wp2_with fail
    (with_reducible refine C5.out.mono ?_)
    clear C5 b2
    rintro _ V5 ⟨rfl, b2⟩
    replace b1 := b1.trans (b2.mono b1.size)
    clear b2
    have C6 := Lib.hid (CR.out V5 b1)
    go_wp2_with fail
    (with_reducible refine C6.out.mono ?_)
    rintro _ V6 ⟨v, rfl, h1, b2⟩
    obtain ⟨A', c', rfl, hc', hR⟩ := own_refs h1
    replace b1 := b1.trans (b2.mono b1.size)
    have hm2 : ¬ (32 : Int) < ((changed L n i).length : Int) := by omega
    have HH : Hid (SrEnd w R (.returned (.tuple #[.slice A' (changed L n i).length c', .int .i64 0])) V6) := by
      show SrEnd _ _ _ _
      rw [HE3.out]
      exact ⟨A', c', rfl, hR, hc', b1⟩
    clear h1 hR hc'
    generalize (changed L n i).length = m at *
    go_wp2_with fail
    go_ret2
    exact HH.out
end Go.Proofs.YtbpmgpbmeganoaaDoor

/- slices.Clone, slices.Delete at files: contracts. -/
namespace Go.Proofs.YtbpmgpbmeganoaaDoor
open Go.RowKit

theorem flCells_get (L : List Fl) (j : Nat) (u : Value) (hu : (flCells L)[j]? = some u) : ∃ x, L[j / 3]? = some x ∧ (j % 3 = 0 ∧ u = .string x.name ∨ j % 3 = 1 ∧ u = .string x.safe ∨ j % 3 = 2 ∧ u = .string x.tail) := by
  have hlt := (List.getElem?_eq_some_iff.1 hu).1
  rw [flCells_len] at hlt
  have hk : j / 3 < L.length := by omega
  have hx : L[j / 3]? = some L[j / 3] := List.getElem?_eq_getElem hk
  refine ⟨_, hx, ?_⟩
  have h1 := flCells_at L (j / 3) (j % 3) _ hx (by omega)
  rw [show j / 3 * 3 + j % 3 = j from by omega, hu] at h1
  have h3 : j % 3 = 0 ∨ j % 3 = 1 ∨ j % 3 = 2 := by omega
  rcases h3 with e | e | e
  · rw [e] at h1; exact .inl ⟨e, Option.some.inj h1⟩
  · rw [e] at h1; exact .inr (.inl ⟨e, Option.some.inj h1⟩)
  · rw [e] at h1; exact .inr (.inr ⟨e, Option.some.inj h1⟩)
theorem Fls.news {w : World} {B : Nat} {A : Option Addr} {L : List Fl} (h : Fls w B A L) : News w A L.length (flCells L) := by
  refine ⟨fun e => ?_, fun ad e j u hu => ?_⟩
  · cases L with
    | nil => rfl
    | cons x T =>
      obtain ⟨ad, e1, _⟩ := h 0 x rfl
      rw [e] at e1; cases e1
  · obtain ⟨x, h1, h2⟩ := flCells_get L j u hu
    obtain ⟨ad', e1, _, k0, k1, k2⟩ := h (j / 3) x h1
    rw [e] at e1; cases e1
    rcases h2 with ⟨hm, rfl⟩ | ⟨hm, rfl⟩ | ⟨hm, rfl⟩
    · rw [show j = j / 3 * 3 from by omega]; exact k0
    · rw [show j = j / 3 * 3 + 1 from by omega, add_add _ _ _ (by decide)]; exact k1
    · rw [show j = j / 3 * 3 + 2 from by omega, add_add _ _ _ (by decide)]; exact k2
theorem del_lay {C F zs : List Value} {n i : Nat} (h : C.take (n * 3) = F) (hF : F.length = n * 3) (hi : i < n) (_ : zs.length = 3) :
    (layL (layL C (i * 3) (F.drop ((i + 1) * 3))) ((n - 1) * 3) zs).take ((n - 1) * 3) = F.take (i * 3) ++ F.drop ((i + 1) * 3) := by
  have hCn : n * 3 ≤ C.length := by rw [← h, List.length_take] at hF; omega
  have hR : (F.drop ((i + 1) * 3)).length = (n - 1) * 3 - i * 3 := by rw [List.length_drop, hF]; omega
  have e0 : C.take (i * 3) = F.take (i * 3) := by rw [← h, List.take_take, Nat.min_eq_left (by omega)]
  have e1 : (layL C (i * 3) (F.drop ((i + 1) * 3))).take ((n - 1) * 3) = F.take (i * 3) ++ F.drop ((i + 1) * 3) := by
    unfold layL
    rw [e0, List.take_append_of_le_length (by rw [List.length_append, List.length_take, hR, hF]; omega), List.take_of_length_le (by rw [List.length_append, List.length_take, hR, hF]; omega)]
  rw [show layL (layL C (i * 3) (F.drop ((i + 1) * 3))) ((n - 1) * 3) zs = (layL C (i * 3) (F.drop ((i + 1) * 3))).take ((n - 1) * 3) ++ zs ++ (layL C (i * 3) (F.drop ((i + 1) * 3))).drop ((n - 1) * 3 + zs.length) from rfl, e1, List.append_assoc, List.take_left' (by rw [List.length_append, List.length_take, hR, hF]; omega)]
section
variable {P : Program}
theorem wpList_clear_is (w : World) {ops : Array Oper} {rest : List Oper} {o : Oper} {a : Act} {Q : Exit → Act → World → Prop} (hgd : o.guard = none) (s : Operand) (t : TypeId)
    (ho : o.op = .call { callee := .builtin .clear, args := #[s], argTypes := #[t] }) (u : Value) (hs : a.eval s = u) {v' : Value} {w' : World}
    (hr : (Builtin.clear_ #[t] o.type #[u]).run P w = .ok v' w') (h : wpList P ops Q rest (a.put o.dst v') w') : wpList P ops Q (o :: rest) a w :=
  wpList_plain hgd fun _ hK => by
    unfold Oper.wp execOp
    simp only [ho, resolve, invoke, builtin, Sem.run_bind, Sem.run_pure, Result.andThen_ok, List.map_toArray, List.map_cons, List.map_nil, hs, hr]
    exact hK _ _ h
end
def z3 : List Value := [.string ⟨#[]⟩, .string ⟨#[]⟩, .string ⟨#[]⟩]
end Go.Proofs.YtbpmgpbmeganoaaDoor

/- The changes that steps make: Sync and Remove. -/
namespace Go.Proofs.YtbpmgpbmeganoaaDoor
open Go.RowKit

theorem own_base {w : World} {base : Nat} {e : TypeId} {size : Nat} {v : Value} {n : Nat} {xs : List Value} (h : w.ownsRow base e size v n xs) : ∀ k, v.ownBlock = some k → base ≤ k := fun k hk => own_row_ge h k hk
theorem grown_base {w w' : World} {base : Nat} {e : TypeId} {size : Nat} {v : Value} {n : Nat} {xs : List Value} (h : w.ownsRow base e size v n xs) (hb : base ≤ w.heap.size) (k : w.grownBy w' v.ownBlock) : Below base w w' :=
  (Below.refl base w).grown k hb (own_base h)
theorem dk_own_below {w w' : World} {base : Nat} {e : TypeId} {size : Nat} {v : Value} {n : Nat} {xs : List Value} (h : w.ownsRow base e size v n xs) (k : Below w.heap.size w w') : w'.ownsRow base e size v n xs := own_kp h (Kp.bel k (X := fun _ => False)) (fun _ _ e => e)
theorem flCells_set (L : List Fl) (i : Nat) (f' : Fl) (hi : i < L.length) : flCells (L.set i f') = (flCells L).take (i * 3) ++ (flArr f').toList ++ (flCells L).drop ((i + 1) * 3) := by
  rw [List.set_eq_take_append_cons_drop, if_pos hi, flCells_app, flCells, ← flCells_take, ← flCells_drop, List.append_assoc]
/-- two cells of a file, set -/
theorem take_set2 {C : List Value} {L : List Fl} {i cap : Nat} {f f' : Fl} {u v : Value} (hC : C.take (L.length * 3) = flCells L) (_ : C.length = cap * 3) (_ : L.length ≤ cap) (hi : L[i]? = some f) (hn : f'.name = f.name) (hu : u = .string f'.safe) (hv : v = .string f'.tail) :
    ((C.set (i * 3 + 1) u).set (i * 3 + 2) v).take (L.length * 3) = flCells (L.set i f') := by
  obtain ⟨hlt, hfe⟩ := List.getElem?_eq_some_iff.1 hi
  apply List.ext_getElem?
  intro j
  rw [List.take_set, List.take_set, hC]
  by_cases hj : j < L.length * 3
  · have hk : j / 3 < L.length := by omega
    have h1 := flCells_at L (j / 3) (j % 3) L[j / 3] (List.getElem?_eq_getElem hk) (by omega)
    rw [show j / 3 * 3 + j % 3 = j from by omega] at h1
    by_cases e : j / 3 = i
    · have h2 := flCells_at (L.set i f') (j / 3) (j % 3) f' (by rw [e, List.getElem?_set_self hlt]) (by omega)
      rw [show j / 3 * 3 + j % 3 = j from by omega] at h2
      rw [h2]
      have hm : j % 3 = 0 ∨ j % 3 = 1 ∨ j % 3 = 2 := by omega
      have hl : (flCells L).length = L.length * 3 := flCells_len L
      rcases hm with m | m | m
      · rw [List.getElem?_set_ne (by omega), List.getElem?_set_ne (by omega), h1, m, show L[j / 3] = f from by rw [← hfe]; congr]
        show some (Value.string f.name) = some (.string f'.name)
        rw [hn]
      · rw [List.getElem?_set_ne (by omega), show j = i * 3 + 1 from by omega, List.getElem?_set_self (by rw [hl]; omega), hu]
        rw [show (i * 3 + 1) % 3 = 1 from by omega]
        rfl
      · rw [show j = i * 3 + 2 from by omega, List.getElem?_set_self (by rw [List.length_set, hl]; omega), hv, show (i * 3 + 2) % 3 = 2 from by omega]
        rfl
    · have h2 := flCells_at (L.set i f') (j / 3) (j % 3) L[j / 3] (by rw [List.getElem?_set_ne (fun q => e q.symm), List.getElem?_eq_getElem hk]) (by omega)
      rw [show j / 3 * 3 + j % 3 = j from by omega] at h2
      rw [h2, List.getElem?_set_ne (by omega), List.getElem?_set_ne (by omega), h1]
  · rw [List.getElem?_eq_none (by rw [List.length_set, List.length_set, flCells_len]; omega), List.getElem?_eq_none (by rw [flCells_len, List.length_set]; omega)]
end Go.Proofs.YtbpmgpbmeganoaaDoor

/- The changes that steps make: Sync. -/
namespace Go.Proofs.YtbpmgpbmeganoaaDoor
open Go.RowKit

theorem has_some {n : ByteArray} {L : List Fl} {b : ByteArray} (hr : ris b L) (h : hasN n L = true) : ∃ f, getF n L = some f ∧ L[low n L]? = some f ∧ f.name = n ∧ low n L < L.length := by
  unfold hasN at h
  have hg := getF_low n L _ hr
  cases hx : L[low n L]? with
  | none => rw [hx] at hg; rw [hg] at h; cases h
  | some f =>
    rw [hx] at hg
    simp only at hg
    by_cases e : f.name = n
    · rw [if_pos e] at hg
      exact ⟨f, hg, rfl, e, (List.getElem?_eq_some_iff.1 hx).1⟩
    · rw [if_neg e] at hg; rw [hg] at h; cases h
theorem put_set {n : ByteArray} {L : List Fl} {b : ByteArray} (hr : ris b L) (h : hasN n L = true) {f' : Fl} (hf : f'.name = n) : putL f' L = L.set (low n L) f' := by
  obtain ⟨f, _, hx, _, hlt⟩ := has_some hr h
  rw [putL_cut f' L _ hr, hf, List.set_eq_take_append_cons_drop, if_pos hlt]
  unfold hasN at h
  rw [if_pos h]
theorem put_ins {n : ByteArray} {L : List Fl} {b : ByteArray} (hr : ris b L) (h : hasN n L = false) {f' : Fl} (hf : f'.name = n) : putL f' L = L.take (low n L) ++ f' :: L.drop (low n L) := by
  rw [putL_cut f' L _ hr, hf]
  unfold hasN at h
  rw [if_neg (by rw [h]; simp), Nat.add_zero]
end Go.Proofs.YtbpmgpbmeganoaaDoor

/- disk.put; the change of Rename. -/
namespace Go.Proofs.YtbpmgpbmeganoaaDoor
open Go.RowKit

/-- a file's cells, set -/
theorem take_set3 {C : List Value} {L : List Fl} {i cap : Nat} {f' : Fl} (hC : C.take (L.length * 3) = flCells L) (hcs : C.length = cap * 3) (hnc : L.length ≤ cap) (hlt : i < L.length) :
    (((C.set (i * 3) (.string f'.name)).set (i * 3 + 1) (.string f'.safe)).set (i * 3 + 2) (.string f'.tail)).take (L.length * 3) = flCells (L.set i f') := by
  have h0 : (C.set (i * 3) (.string f'.name)).take (L.length * 3) = flCells (L.set i ⟨f'.name, L[i].safe, L[i].tail⟩) := by
    apply List.ext_getElem?
    intro j
    rw [List.take_set, hC]
    have hl : (flCells L).length = L.length * 3 := flCells_len L
    by_cases hj : j < L.length * 3
    · have hk : j / 3 < L.length := by omega
      have h1 := flCells_at L (j / 3) (j % 3) L[j / 3] (List.getElem?_eq_getElem hk) (by omega)
      rw [show j / 3 * 3 + j % 3 = j from by omega] at h1
      by_cases e : j / 3 = i
      · have h2 := flCells_at (L.set i ⟨f'.name, L[i].safe, L[i].tail⟩) (j / 3) (j % 3) ⟨f'.name, L[i].safe, L[i].tail⟩ (by rw [e, List.getElem?_set_self hlt]) (by omega)
        rw [show j / 3 * 3 + j % 3 = j from by omega] at h2
        rw [h2]
        have he : L[j / 3] = L[i] := by congr
        have hm : j % 3 = 0 ∨ j % 3 = 1 ∨ j % 3 = 2 := by omega
        rcases hm with m | m | m
        · rw [show j = i * 3 from by omega, List.getElem?_set_self (by rw [hl]; omega), show i * 3 % 3 = 0 from by omega]
          rfl
        · rw [List.getElem?_set_ne (by omega), h1, m, he]
          rfl
        · rw [List.getElem?_set_ne (by omega), h1, m, he]
          rfl
      · have h2 := flCells_at (L.set i ⟨f'.name, L[i].safe, L[i].tail⟩) (j / 3) (j % 3) L[j / 3] (by rw [List.getElem?_set_ne (fun q => e q.symm), List.getElem?_eq_getElem hk]) (by omega)
        rw [show j / 3 * 3 + j % 3 = j from by omega] at h2
        rw [h2, List.getElem?_set_ne (by omega), h1]
    · rw [List.getElem?_eq_none (by rw [List.length_set, flCells_len]; omega), List.getElem?_eq_none (by rw [flCells_len, List.length_set]; omega)]
  have h1 := take_set2 (C := C.set (i * 3) (.string f'.name)) (L := L.set i ⟨f'.name, L[i].safe, L[i].tail⟩) (i := i) (cap := cap) (f' := f') (u := .string f'.safe) (v := .string f'.tail) (by rw [List.length_set]; exact h0) (by rw [List.length_set]; exact hcs) (by rw [List.length_set]; exact hnc) (List.getElem?_set_self hlt) rfl rfl rfl
  rw [List.length_set, List.set_set] at h1
  exact h1
end Go.Proofs.YtbpmgpbmeganoaaDoor

/- The change of Rename. -/
namespace Go.Proofs.YtbpmgpbmeganoaaDoor
open Go.RowKit

end Go.Proofs.YtbpmgpbmeganoaaDoor
