/- Texts in one: SpGood, SpDec, SpWrite, SpEnc, SpPure, SpGB, SpPlain. -/
import Derived.Test.YtchpgngphgjmnaaDoorSpMath
import Derived.Test.YtchpgngphgjmnaaDoorRfSet
import Derived.Test.YtchpgngphgjmnaaDoorRfIter
import Derived.Test.YtchpgngphgjmnaaDoorRfFind
import Derived.Test.YtchpgngphgjmnaaDoorDSpec
/- step.Good and what it calls: contracts. -/
namespace Go.Proofs.YtchpgngphgjmnaaDoor
open Go.RowKit

theorem spIdOr_any (s : ByteArray) (w : World) : Calls Tryd.prog 21 #[.string s] w fun e w' => e = .returned (.bool (isId s)) ∧ w' = w := by
  have hz : s.data.toList.length = s.size := rfl
  by_cases h0 : s.size = 0
  · have e0 : s.data.toList = [] := List.eq_nil_of_length_eq_zero h0
    obtain rfl : s = ⟨#[]⟩ := bytes_eq e0
    have HI : Hid (isId ⟨#[]⟩ = true) := rfl
    go_enter Tryd.func21, Tryd.ntmps21
    go_wp2_with fail
    go_ret
    exact ⟨by rw [HI.out]; rfl, rfl⟩
  · have he : s.toList.isEmpty = false := by
      rw [toList_data]
      cases hq : s.data.toList with
      | nil => rw [hq] at hz; simp at hz; omega
      | cons a l => rfl
    have he2 : ¬ s.toList = [] := fun q => by rw [q] at he; cases he
    by_cases h32 : s.size = 32
    · have HI : Hid (isId s = true) := by show _ = _; unfold isId; rw [decide_eq_true h32, Bool.or_true]
      have hi : (((s.size : Nat) : Int) == 32) = true := by rw [h32]; rfl
      go_enter Tryd.func21, Tryd.ntmps21
      go_wp2_with fail
      go_ret
      exact ⟨by rw [HI.out]; rfl, rfl⟩
    · have HI : Hid (isId s = false) := by show _ = _; unfold isId; rw [decide_eq_false h32, decide_eq_false h0]; rfl
      have hi : (((s.size : Nat) : Int) == 32) = false := by rw [beq_eq_false_iff_ne]; omega
      go_enter Tryd.func21, Tryd.ntmps21
      go_wp2_with fail
      go_ret
      exact ⟨by rw [HI.out]; rfl, rfl⟩
def isSig (n : Int) : Bool := decide (0 ≤ n) && decide (n ≤ 7)
theorem isSigner_any (n : Int) (w : World) : Calls Tryd.prog 22 #[.int .i64 n] w fun e w' => e = .returned (.bool (isSig n)) ∧ w' = w := by
  by_cases h0 : 0 ≤ n
  · by_cases h7 : n ≤ 7
    · have HI : Hid (isSig n = true) := by show _ = _; unfold isSig; rw [decide_eq_true h0, decide_eq_true h7]; rfl
      have hi : n < 8 := by omega
      go_enter Tryd.func22, Tryd.ntmps22
      go_wp2_with fail
      go_ret
      exact ⟨by rw [HI.out]; rfl, rfl⟩
    · have HI : Hid (isSig n = false) := by show _ = _; unfold isSig; rw [decide_eq_false h7, Bool.and_false]
      have hi : ¬ n < 8 := by omega
      go_enter Tryd.func22, Tryd.ntmps22
      go_wp2_with fail
      go_ret
      exact ⟨by rw [HI.out]; rfl, rfl⟩
  · have HI : Hid (isSig n = false) := by show _ = _; unfold isSig; rw [decide_eq_false h0]; rfl
    go_enter Tryd.func22, Tryd.ntmps22
    go_wp2_with fail
    go_ret
    exact ⟨by rw [HI.out]; rfl, rfl⟩
/-- the boxed step, and nothing else has turned -/
def Sx (w : World) (s : Sp) (p : SpAt) (W : World) : Prop := Arr W w.heap.size 25 (spArr s p) ∧ SpIn W w.heap.size s p ∧ Below w.heap.size w W
theorem Sx.start {w : World} {s : Sp} {p : SpAt} (h : SpIn w w.heap.size s p) : Sx w s p (w.alloc (.cells (spArr s p) 25)) :=
  ⟨Arr.new _ _ _, h.below ((Below.refl _ _).alloc (Nat.le_refl _) _), (Below.refl _ _).alloc (Nat.le_refl _) _⟩
theorem Sx.below {w W W' : World} {s : Sp} {p : SpAt} (h : Sx w s p W) (b : Below W.heap.size W W') : Sx w s p W' :=
  ⟨h.1.below b h.1.lt, h.2.1.below (b.mono (Nat.le_of_lt h.1.lt)), h.2.2.trans (b.mono h.2.2.size)⟩
theorem Sx.c {w W : World} {s : Sp} {p : SpAt} (h : Sx w s p W) :
    W.cell? ⟨w.heap.size, 0, none⟩ = some (.string s.ref) ∧ W.cell? ⟨w.heap.size, 1, none⟩ = some (.string s.old) ∧ W.cell? ⟨w.heap.size, 2, none⟩ = some (.string s.new) ∧
    W.cell? ⟨w.heap.size, 3, none⟩ = some (.slice p.wa s.who.length p.wc) ∧ W.cell? ⟨w.heap.size, 4, none⟩ = some (.slice p.sa s.seals.length p.sc) :=
  ⟨h.1.cell 0, h.1.cell 1, h.1.cell 2, h.1.cell 3, h.1.cell 4⟩
theorem Sx.up {w W : World} {s : Sp} {p : SpAt} (h : Sx w s p W) : SpIn W W.heap.size s p := h.2.1.mono h.2.2.size
theorem same_lists (a b : ByteArray) : (a.toList == b.toList) = decide (a = b) := by
  have := sameB_iff a b
  unfold sameB at this
  cases hq : (a.toList == b.toList) with
  | true => rw [decide_eq_true (this.1 hq)]
  | false => rw [decide_eq_false (fun e => by rw [this.2 e] at hq; cases hq)]
/-- where Good's loop stands -/
def SgRel (w : World) (s : Sp) (p : SpAt) (i : Value) (wr : World) : Prop :=
  ∃ k : Nat, k ≤ s.who.length ∧ i = .int .i64 (k : Int) ∧ Sx w s p wr ∧
    ∃ b, -1 ≤ b ∧ gdS (-1) s.prs = gdS b (s.prs.drop k) ∧ (k = 0 ∧ b = -1 ∨ ∃ m x, k = m + 1 ∧ s.who[m]? = some x ∧ b = x)
theorem prs_next {s : Sp} (hl : s.seals.length = s.who.length) {k : Nat} (hk : k < s.who.length) : s.prs.drop k = (s.who[k], s.seals[k]'(by omega)) :: s.prs.drop (k + 1) := by
  have h : k < s.prs.length := by rw [prs_len hl]; exact hk
  have h2 := prs_get (s := s) (List.getElem?_eq_getElem hk) (List.getElem?_eq_getElem (show k < s.seals.length by omega))
  rw [List.getElem?_eq_getElem h] at h2
  rw [List.drop_eq_getElem_cons h, Option.some.inj h2]
set_option maxRecDepth 100000 in
set_option maxHeartbeats 1000000 in
theorem SpGood_any (s : Sp) (p : SpAt) (w : World) (hP : SpIn w w.heap.size s p) (hb : s.who.length ≤ 140737488355328) (_ : s.seals.length ≤ 140737488355328) :
    Calls Tryd.prog 8 #[.agg (spArr s p)] w fun e w' => e = .returned (.int .i64 (spGood s)) ∧ Below w.heap.size w w' := by
  obtain ⟨wa, wc, sa, sc⟩ := p
  have h1 := Lib.hid (Sx.start hP)
  have CN := Lib.hid (fun V => NamedR_any s.ref V)
  have CO := Lib.hid (fun V => spIdOr_any s.old V)
  have CI := Lib.hid (fun V => spIdOr_any s.new V)
  have HQ := same_lists s.old s.new
  have hG : spGood s = if !spForm s then 2 else if 8 < s.who.length ∨ s.seals.length ≠ s.who.length then 6 else gdS (-1) s.prs := rfl
  unfold spForm at hG
  have HG := Lib.hid hG
  clear hG
  generalize spGood s = G at *
  generalize hA : spArr s ⟨wa, wc, sa, sc⟩ = arr at *
  have HA := Lib.hid hA
  clear hA
  go_enter Tryd.func8, Tryd.ntmps8
  go_upto_region 1 with fail
  refine wp_forget (Sx w s ⟨wa, wc, sa, sc⟩) h1.out ?_
  clear h1 hP
  intro W hW
  have hA := HA.out
  clear HA
  subst hA
  obtain ⟨c0, _, _, _, _⟩ := hW.c
  cases hn : namedR s.ref
  · rw [hn] at CN HG
    go_wp2_with fail
    (with_reducible refine (CN.out W).mono ?_)
    rintro _ V ⟨rfl, b1⟩
    have hV := hW.below b1
    go_wp2_with fail
    go_ret
    exact ⟨by rw [HG.out]; rfl, hV.2.2⟩
  rw [hn] at CN HG
  cases ho : isId s.old
  · rw [ho] at CO HG
    go_wp2_with fail
    (with_reducible refine (CN.out W).mono ?_)
    rintro _ V ⟨rfl, b1⟩
    have hV := hW.below b1
    clear c0 b1 hW
    obtain ⟨_, c1, _, _, _⟩ := hV.c
    go_wp2_with fail
    (with_reducible refine (CO.out V).mono ?_)
    rintro _ V ⟨rfl, rfl⟩
    go_wp2_with fail
    go_ret
    exact ⟨by rw [HG.out]; rfl, hV.2.2⟩
  rw [ho] at CO HG
  cases hi : isId s.new
  · rw [hi] at CI HG
    go_wp2_with fail
    (with_reducible refine (CN.out W).mono ?_)
    rintro _ V ⟨rfl, b1⟩
    have hV := hW.below b1
    clear c0 b1 hW
    obtain ⟨_, c1, c2, _, _⟩ := hV.c
    go_wp2_with fail
    (with_reducible refine (CO.out V).mono ?_)
    rintro _ V ⟨rfl, rfl⟩
    go_wp2_with fail
    (with_reducible refine (CI.out _).mono ?_)
    rintro _ V ⟨rfl, rfl⟩
    go_wp2_with fail
    go_ret
    exact ⟨by rw [HG.out]; rfl, hV.2.2⟩
  rw [hi] at CI HG
  by_cases he : s.old = s.new
  · rw [decide_eq_true he] at HG HQ
    clear he
    go_wp2_with fail
    (with_reducible refine (CN.out W).mono ?_)
    rintro _ V ⟨rfl, b1⟩
    have hV := hW.below b1
    clear c0 b1 hW
    obtain ⟨_, c1, c2, _, _⟩ := hV.c
    go_wp2_with fail
    (with_reducible refine (CO.out V).mono ?_)
    rintro _ V ⟨rfl, rfl⟩
    go_wp2_with fail
    (with_reducible refine (CI.out _).mono ?_)
    rintro _ V ⟨rfl, rfl⟩
    go_wp2_with fail
    go_ret
    exact ⟨by rw [HG.out]; rfl, hV.2.2⟩
  rw [decide_eq_false he] at HG HQ
  clear he hn ho hi
  have HG2 : Hid (G = if 8 < s.who.length ∨ s.seals.length ≠ s.who.length then 6 else gdS (-1) s.prs) := HG.out
  clear HG
  by_cases h8 : 8 < s.who.length
  · have HG3 : Hid (G = 6) := by show _ = _; rw [HG2.out, if_pos (.inl h8)]
    have hi8 : (8 : Int) < s.who.length := by omega
    go_wp2_with fail
    (with_reducible refine (CN.out W).mono ?_)
    rintro _ V ⟨rfl, b1⟩
    have hV := hW.below b1
    clear c0 b1 hW
    obtain ⟨_, c1, c2, c3, _⟩ := hV.c
    go_wp2_with fail
    (with_reducible refine (CO.out V).mono ?_)
    rintro _ V ⟨rfl, rfl⟩
    go_wp2_with fail
    (with_reducible refine (CI.out _).mono ?_)
    rintro _ V ⟨rfl, rfl⟩
    go_wp2_with fail
    go_ret
    exact ⟨by rw [HG3.out]; rfl, hV.2.2⟩
  have hi8 : ¬ (8 : Int) < s.who.length := by omega
  by_cases hl : s.seals.length ≠ s.who.length
  · have HG3 : Hid (G = 6) := by show _ = _; rw [HG2.out, if_pos (.inr hl)]
    have hli : ((s.seals.length : Int) != s.who.length) = true := by rw [bne_iff_ne]; omega
    go_wp2_with fail
    (with_reducible refine (CN.out W).mono ?_)
    rintro _ V ⟨rfl, b1⟩
    have hV := hW.below b1
    clear c0 b1 hW
    obtain ⟨_, c1, c2, c3, c4⟩ := hV.c
    go_wp2_with fail
    (with_reducible refine (CO.out V).mono ?_)
    rintro _ V ⟨rfl, rfl⟩
    go_wp2_with fail
    (with_reducible refine (CI.out _).mono ?_)
    rintro _ V ⟨rfl, rfl⟩
    go_wp2_with fail
    go_ret
    exact ⟨by rw [HG3.out]; rfl, hV.2.2⟩
  replace hl : s.seals.length = s.who.length := Decidable.byContradiction hl
  have hli : ((s.seals.length : Int) != s.who.length) = false := by rw [hl]; simp
  have HG3 : Hid (G = gdS (-1) s.prs) := by show _ = _; rw [HG2.out, if_neg (by omega)]
  clear HG2
  go_wp2_with fail
  (with_reducible refine (CN.out W).mono ?_)
  rintro _ V ⟨rfl, b1⟩
  have hV := hW.below b1
  clear c0 b1 hW
  obtain ⟨_, c1, c2, c3, c4⟩ := hV.c
  go_wp2_with fail
  (with_reducible refine (CO.out V).mono ?_)
  rintro _ V ⟨rfl, rfl⟩
  go_wp2_with fail
  (with_reducible refine (CI.out _).mono ?_)
  rintro _ V ⟨rfl, rfl⟩
  go_wp2_with fail
  have hst : Hid (SgRel w s ⟨wa, wc, sa, sc⟩ (.int .i64 0) V) := ⟨0, Nat.zero_le _, rfl, hV, -1, Int.le_refl _, by rw [List.drop_zero], .inl ⟨rfl, rfl⟩⟩
  clear hV c1 c2 c3 c4 CN CO CI HQ
  go_loopw [46] (fun i wr => SgRel w s ⟨wa, wc, sa, sc⟩ i wr) (fun i _ => s.who.length - (intOf i).toNat)
  case atStart => exact hst.out
  case round =>
    clear hst
    obtain ⟨k, hk, rfl, hX, b, hb1, hE, hb⟩ := hrel
    by_cases hlt : k < s.who.length
    · have hj : (k : Int) < s.who.length := by omega
      have hlt2 : k < s.seals.length := by omega
      obtain ⟨ad, rfl, hbl, g0⟩ := hX.2.1.nums k s.who[k] (List.getElem?_eq_getElem hlt)
      obtain ⟨ad2, rfl, hbl2, g1⟩ := hX.2.1.txs k s.seals[k] (List.getElem?_eq_getElem hlt2)
      rw [prs_next hl hlt, gdS] at hE
      have HX := Lib.hid (List.getElem?_eq_getElem hlt)
      simp only at hE
      generalize s.who[k] = x at *
      generalize s.seals[k] = t at *
      have HE := Lib.hid hE
      have HB := Lib.hid hb
      have HB1 := Lib.hid hb1
      clear hE hb hb1
      obtain ⟨_, _, _, c3, c4⟩ := hX.c
      have CS := Lib.hid (fun V => isSigner_any x V)
      have hsig : isSig x = (decide (0 ≤ x) && decide (x ≤ 7)) := rfl
      cases hs : isSig x
      · have HE2 : Hid (gdS (-1) s.prs = 3) := by
          show _ = _
          rw [HE.out, if_pos]
          rw [hsig, Bool.and_eq_false_iff, decide_eq_false_iff_not, decide_eq_false_iff_not] at hs
          have := HB1.out
          omega
        rw [hs] at CS
        clear HE hs hsig HB HB1 HX
        go_wp2_with fail
        (with_reducible refine (CS.out _).mono ?_)
        rintro _ V ⟨rfl, rfl⟩
        go_wp2_with fail
        go_ret
        exact ⟨by rw [HG3.out, HE2.out]; rfl, hX.2.2⟩
      rw [hs] at CS
      have hx0 : 0 ≤ x ∧ x ≤ 7 := by
        rw [hsig, Bool.and_eq_true, decide_eq_true_iff, decide_eq_true_iff] at hs
        exact hs
      clear hs hsig
      have HE2 : Hid ((k = 0 ∨ b < x) → gdS (-1) s.prs = if t.size ≠ 32 then 2 else gdS x (s.prs.drop (k + 1))) := fun h => by
        rw [HE.out, if_neg]
        rcases h with rfl | h
        · rcases HB.out with ⟨_, rfl⟩ | ⟨m, y, h0, _⟩
          · omega
          · omega
        · omega
      rcases HB.out with ⟨hk0, hb0⟩ | ⟨m, y, hkm, hm, hby⟩
      · have HE3 := Lib.hid (HE2.out (.inl hk0))
        have hk1 : ¬ (0 : Int) < (k : Int) := by omega
        clear HE HE2 HB HB1 hb0 hk0
        by_cases ht : t.size ≠ 32
        · have hti : ((t.size : Int) != 32) = true := by rw [bne_iff_ne]; omega
          have HE4 : Hid (gdS (-1) s.prs = 2) := by show _ = _; rw [HE3.out, if_pos ht]
          go_wp2_with fail
          (with_reducible refine (CS.out _).mono ?_)
          rintro _ V ⟨rfl, rfl⟩
          go_wp2_with fail
          go_ret
          exact ⟨by rw [HG3.out, HE4.out]; rfl, hX.2.2⟩
        · have hti : ((t.size : Int) != 32) = false := by rw [bne_eq_false_iff_eq]; omega
          have HE4 : Hid (gdS (-1) s.prs = gdS x (s.prs.drop (k + 1))) := by show _ = _; rw [HE3.out, if_neg ht]
          go_wp2_with fail
          (with_reducible refine (CS.out _).mono ?_)
          rintro _ V ⟨rfl, rfl⟩
          go_wp2_with fail
          go_roundw
          case rel => exact ⟨k + 1, hlt, by rw [Int.natCast_add]; rfl, hX, x, by omega, HE4.out, .inr ⟨k, x, rfl, HX.out, rfl⟩⟩
          case measure => simp [intOf]; omega
      · obtain ⟨ad', e', hbl', g2⟩ := hX.2.1.nums m y hm
        cases e'
        have hm1 : (m : Int) < s.who.length := by omega
        have hm2 : IntKind.i64.wrap ((k : Int) - 1) = (m : Int) := by rw [IntWalk.i64_in _ (by omega)]; omega
        have hm3 : (0 : Int) < (k : Int) := by omega
        replace hby := hby.symm
        subst hby
        have HKM := Lib.hid hkm
        clear hkm
        by_cases hyx : x ≤ y
        · have HE3 : Hid (gdS (-1) s.prs = 3) := by show _ = _; rw [HE.out, if_pos (by omega)]
          clear HE HE2 HB HB1
          go_wp2_with fail
          (with_reducible refine (CS.out _).mono ?_)
          rintro _ V ⟨rfl, rfl⟩
          go_wp2_with fail
          go_ret
          exact ⟨by rw [HG3.out, HE3.out]; rfl, hX.2.2⟩
        have HE3 := Lib.hid (HE2.out (.inr (by omega)))
        clear HE HE2 HB HB1
        by_cases ht : t.size ≠ 32
        · have hti : ((t.size : Int) != 32) = true := by rw [bne_iff_ne]; omega
          have HE4 : Hid (gdS (-1) s.prs = 2) := by show _ = _; rw [HE3.out, if_pos ht]
          go_wp2_with fail
          (with_reducible refine (CS.out _).mono ?_)
          rintro _ V ⟨rfl, rfl⟩
          go_wp2_with fail
          go_ret
          exact ⟨by rw [HG3.out, HE4.out]; rfl, hX.2.2⟩
        · have hti : ((t.size : Int) != 32) = false := by rw [bne_eq_false_iff_eq]; omega
          have HE4 : Hid (gdS (-1) s.prs = gdS x (s.prs.drop (k + 1))) := by show _ = _; rw [HE3.out, if_neg ht]
          go_wp2_with fail
          (with_reducible refine (CS.out _).mono ?_)
          rintro _ V ⟨rfl, rfl⟩
          go_wp2_with fail
          go_roundw
          case rel => exact ⟨k + 1, hlt, by rw [Int.natCast_add]; rfl, hX, x, by omega, HE4.out, .inr ⟨k, x, rfl, HX.out, rfl⟩⟩
          case measure => simp [intOf]; omega
    · obtain rfl : k = s.who.length := by omega
      have hj : ¬ (s.who.length : Int) < s.who.length := by omega
      have hd : s.prs.drop s.who.length = [] := List.drop_of_length_le (Nat.le_of_eq (prs_len hl))
      rw [hd] at hE
      have HE := Lib.hid hE
      clear hE hb hb1
      obtain ⟨_, _, _, c3, c4⟩ := hX.c
      go_wp2_with fail
      go_ret
      exact ⟨by rw [HG3.out, HE.out]; rfl, hX.2.2⟩
end Go.Proofs.YtchpgngphgjmnaaDoor

/- step.Decode: its contract. -/
namespace Go.Proofs.YtchpgngphgjmnaaDoor
open Go.RowKit

/-- what Sign, Decode leave -/
def SdEnd (w : World) (R : Sp × Int) (x : Ending) (w' : World) : Prop := ∃ p, x = .returned (.tuple #[.agg (spArr R.1 p), .int .i64 R.2]) ∧ SpIn w' w'.heap.size R.1 p ∧ Below w.heap.size w w'
theorem SdEnd_eq {w : World} {a : Sp × Int} {s : Sp} {e : Int} (h : a = (s, e)) {x : Ending} {w' : World} (k : SdEnd w (s, e) x w') : SdEnd w a x w' := by rw [h]; exact k
theorem stTxt_n {l : List UInt8} (h : rdText l = none) : stTxt (some l) = (⟨#[]⟩, none) := by simp [stTxt, h]
theorem stTxt_s {l r : List UInt8} {t : ByteArray} (h : rdText l = some (t, r)) : stTxt (some l) = (t, some r) := by simp [stTxt, h]
theorem stTxt_o : stTxt none = (⟨#[]⟩, none) := rfl
theorem stSgs_o : stSgs none = ([], none) := rfl
def stStep (l : List UInt8) : Sp × St :=
  (⟨(stTxt (some l)).1, (stTxt (stTxt (some l)).2).1, (stTxt (stTxt (stTxt (some l)).2).2).1, (stSgs (stTxt (stTxt (stTxt (some l)).2).2).2).1.map Prod.fst, (stSgs (stTxt (stTxt (stTxt (some l)).2).2).2).1.map Prod.snd⟩,
    (stSgs (stTxt (stTxt (stTxt (some l)).2).2).2).2)
theorem spRead_st (l : List UInt8) : spRead l = match (stStep l).2 with | none => none | some r => if r = [] then some (stStep l).1 else none := by
  unfold spRead stStep
  simp only
  cases h1 : rdText l with
  | none => rw [stTxt_n h1]; rfl
  | some y =>
    obtain ⟨a, r1⟩ := y
    rw [stTxt_s h1]
    simp only
    cases h2 : rdText r1 with
    | none => rw [stTxt_n h2]; rfl
    | some y =>
      obtain ⟨o, r2⟩ := y
      rw [stTxt_s h2]
      simp only
      cases h3 : rdText r2 with
      | none => rw [stTxt_n h3]; rfl
      | some y =>
        obtain ⟨n, r3⟩ := y
        rw [stTxt_s h3]
        simp only [stSgs]
        cases h4 : rdNum r3 with
        | none => rfl
        | some y =>
          obtain ⟨k, r4⟩ := y
          simp only
          cases h5 : rdSgs k r4 with
          | none => rfl
          | some y => rfl
theorem rdSgs_len : ∀ (n : Nat) (l r : List UInt8) (L : List Sg), rdSgs n l = some (L, r) → 33 * L.length + r.length ≤ l.length
  | 0, l, r, L, h => by
    rw [rdSgs] at h
    simp only [Option.some.injEq, Prod.mk.injEq] at h
    rw [← h.1, ← h.2]
    simp
  | n + 1, l, r, L, h => by
    rw [rdSgs] at h
    cases h1 : rdNum l with
    | none => simp [h1] at h
    | some y =>
      obtain ⟨x, r1⟩ := y
      simp only [h1] at h
      cases h2 : rdId r1 with
      | none => simp [h2] at h
      | some y =>
        obtain ⟨t, r2⟩ := y
        simp only [h2] at h
        cases h3 : rdSgs n r2 with
        | none => simp [h3] at h
        | some y =>
          obtain ⟨L2, r3⟩ := y
          simp only [h3, Option.some.injEq, Prod.mk.injEq] at h
          have ih := rdSgs_len n r2 r3 L2 h3
          have e1 := rdNum_less h1
          have e2 := rdId_len h2
          rw [← h.1, ← h.2, List.length_cons]
          omega
theorem stTxt_le {n : Nat} {st : St} (h : ∀ l, st = some l → l.length ≤ n) : ∀ l, (stTxt st).2 = some l → l.length ≤ n := fun l hl => by
  cases st with
  | none => cases hl
  | some l0 =>
    have h0 := h l0 rfl
    cases h1 : rdText l0 with
    | none => rw [stTxt_n h1] at hl; cases hl
    | some y =>
      obtain ⟨t, r⟩ := y
      rw [stTxt_s h1] at hl
      cases hl
      have := rdText_less h1
      omega
theorem stSgs_le {n : Nat} {st : St} (h : ∀ l, st = some l → l.length ≤ n) : (stSgs st).1.length ≤ n := by
  cases st with
  | none => exact Nat.zero_le _
  | some l =>
    have h0 := h l rfl
    unfold stSgs
    simp only
    cases h1 : rdNum l with
    | none => exact Nat.zero_le _
    | some y =>
      obtain ⟨k, r⟩ := y
      simp only
      cases h2 : rdSgs k r with
      | none => exact Nat.zero_le _
      | some y =>
        obtain ⟨L, r2⟩ := y
        simp only
        have := rdSgs_len k r r2 L h2
        have := rdNum_less h1
        omega
/-- where Decode stands: the result's block, the reader, the step -/
def Dt (w : World) (g q : Nat) (cs : Array Value) (st : St) (W : World) : Prop :=
  Arr W w.heap.size 25 spZero ∧ Arr W q 25 cs ∧ RG W g st ∧ Below w.heap.size w W ∧ w.heap.size < g ∧ g < q
theorem Dt.kept {w W W' : World} {g q : Nat} {cs : Array Value} {st st' : St} (h : Dt w g q cs st W) (k : W.grownBy W' (some g)) (h' : RG W' g st') : Dt w g q cs st' W' := by
  obtain ⟨h1, h2, _, h4, h5, h6⟩ := h
  exact ⟨h1.kept k (fun e => by have := Option.some.inj e; omega), h2.kept k (fun e => by have := Option.some.inj e; omega), h', below_gb h4 k (by omega) h4.size, h5, h6⟩
theorem Dt.put {w W : World} {g q i : Nat} {cs : Array Value} {st : St} (h : Dt w g q cs st W) (v : Value) : Dt w g q (cs.setIfInBounds i v) st (W.setCell ⟨q, i, none⟩ v) := by
  obtain ⟨h1, h2, h3, h4, h5, h6⟩ := h
  have k := gb_set (w := W) q i v
  exact ⟨h1.kept k (fun e => by have := Option.some.inj e; omega), h2.put i v, h3.kept k (fun e => by have := Option.some.inj e; omega), below_gb h4 k (by omega) h4.size, h5, h6⟩
set_option maxRecDepth 100000 in
set_option maxHeartbeats 2000000 in
theorem SpDecode_any (s : ByteArray) (hs : s.size ≤ 140737488355328) (w : World) : Calls Tryd.prog 10 #[.string s] w (SdEnd w (spDec s)) := by
  have hE : spDec s = match spRead s.data.toList with | none => (spZ, 2) | some s => if spGood s ≠ 0 then (spZ, spGood s) else (s, 0) := rfl
  rw [spRead_st] at hE
  unfold stStep at hE
  simp only at hE
  have hl : s.data.toList.length ≤ 140737488355328 := hs
  have hl0 : ∀ l, (some s.data.toList : St) = some l → l.length ≤ 140737488355328 := fun l e => by cases e; exact hl
  have hLen := stSgs_le (stTxt_le (stTxt_le (stTxt_le hl0)))
  have HLen := Lib.hid hLen
  have HE := Lib.hid hE
  have C0 := Lib.hid (Read_any s)
  have hR0 : ∀ W g, Rd W g s 0 → RG W g (some s.data.toList) := fun W g h => ⟨by rw [bs_of]; exact h, hl⟩
  have HR0 := Lib.hid hR0
  clear hE hl hl0 hLen hR0
  generalize spDec s = R at *
  generalize s.data.toList = l at *
  go_enter Tryd.func10, Tryd.ntmps10
  go_upto_region 1 with fail
  refine wp_forget (fun W => Arr W w.heap.size 25 spZero ∧ Below w.heap.size w W) ⟨Arr.new _ _ _, (Below.refl _ _).alloc (Nat.le_refl _) _⟩ ?_
  rintro W ⟨A0, b0⟩
  go_wp2_with fail
  (with_reducible refine (C0.out W).mono ?_)
  rintro _ W1 ⟨rfl, hRd, b1⟩
  have hg : w.heap.size < W.heap.size := A0.lt
  have hD0 : Arr W1 w.heap.size 25 spZero ∧ RG W1 W.heap.size (some l) ∧ Below w.heap.size w W1 := ⟨A0.below b1 A0.lt, HR0.out _ _ hRd, b0.trans (b1.mono b0.size)⟩
  clear A0 b0 hRd b1 C0 HR0
  generalize W.heap.size = g at *
  go_upto_region 3 with fail
  refine wp_forget (fun V => Dt w g W1.heap.size spZero (some l) V) ?_ ?_
  · have bb : Below W1.heap.size W1 (W1.alloc (.cells spZero 25)) := (Below.refl _ _).alloc (Nat.le_refl _) _
    exact ⟨hD0.1.below bb hD0.1.lt, Arr.new _ _ _, hD0.2.1.below bb, hD0.2.2.trans (bb.mono hD0.2.2.size), hg, hD0.2.1.lt⟩
  generalize W1.heap.size = q
  clear hD0 hg W1 W
  intro V hV
  have C1 := Lib.hid (rg_txt g (some l) V hV.2.2.1)
  generalize hs1 : stTxt (some l) = s1 at *
  clear hs1
  go_wp2_with fail
  (with_reducible refine C1.out.mono ?_)
  clear C1
  rintro _ V1 ⟨rfl, h1, k1⟩
  have hV1 := hV.kept k1 h1
  clear hV h1 k1
  have c0 : V1.cell? ⟨q, 0, none⟩ = some (.string ⟨#[]⟩) := hV1.2.1.cell 0
  have f0 := hV1.2.1.free 0
  have hP1 := hV1.put (i := 0) (.string s1.1)
  go_upto_region 4 with fail
  refine wp_forget (Dt w g q #[.string s1.1, .string ⟨#[]⟩, .string ⟨#[]⟩, .slice none 0 0, .slice none 0 0] s1.2) hP1 ?_
  clear hV1 c0 f0 hP1 V V1
  intro V hV
  have C1 := Lib.hid (rg_txt g s1.2 V hV.2.2.1)
  generalize stTxt s1.2 = s2 at *
  go_wp2_with fail
  (with_reducible refine C1.out.mono ?_)
  clear C1
  rintro _ V1 ⟨rfl, h1, k1⟩
  have hV1 := hV.kept k1 h1
  clear hV h1 k1
  have c0 : V1.cell? ⟨q, 1, none⟩ = some (.string ⟨#[]⟩) := hV1.2.1.cell 1
  have f0 := hV1.2.1.free 1
  have hP1 := hV1.put (i := 1) (.string s2.1)
  go_upto_region 5 with fail
  refine wp_forget (Dt w g q #[.string s1.1, .string s2.1, .string ⟨#[]⟩, .slice none 0 0, .slice none 0 0] s2.2) hP1 ?_
  clear hV1 c0 f0 hP1 V V1
  intro V hV
  have C1 := Lib.hid (rg_txt g s2.2 V hV.2.2.1)
  generalize stTxt s2.2 = s3 at *
  go_wp2_with fail
  (with_reducible refine C1.out.mono ?_)
  clear C1
  rintro _ V1 ⟨rfl, h1, k1⟩
  have hV1 := hV.kept k1 h1
  clear hV h1 k1
  have c0 : V1.cell? ⟨q, 2, none⟩ = some (.string ⟨#[]⟩) := hV1.2.1.cell 2
  have f0 := hV1.2.1.free 2
  have hP1 := hV1.put (i := 2) (.string s3.1)
  go_upto_region 6 with fail
  refine wp_forget (Dt w g q #[.string s1.1, .string s2.1, .string s3.1, .slice none 0 0, .slice none 0 0] s3.2) hP1 ?_
  clear hV1 c0 f0 hP1 V V1
  intro V hV
  have C1 := Lib.hid (readSeals_any g s3.2 V hV.2.2.1)
  generalize stSgs s3.2 = s4 at *
  obtain ⟨L, st⟩ := s4
  simp only at HLen HE
  have hNl : (L.map Prod.fst).length = L.length := List.length_map _
  have hTl : (L.map Prod.snd).length = L.length := List.length_map _
  go_wp2_with fail
  (with_reducible refine C1.out.mono ?_)
  clear C1
  rintro _ V1 ⟨v, v2, rfl, o1, o2, h1, k1⟩
  simp only at o1 o2 h1
  generalize L.map Prod.fst = N at *
  generalize L.map Prod.snd = T at *
  have HNl := Lib.hid hNl
  have HTl := Lib.hid hTl
  clear hNl hTl
  have hqV := hV.2.1.lt
  have hV1 := hV.kept k1 h1
  obtain ⟨A3, a3, rfl, ha3, _⟩ := own_nums o1
  obtain ⟨A4, a4, rfl, ha4, _, _⟩ := own_texts o2
  have c0 : V1.cell? ⟨q, 3, none⟩ = some (.slice none 0 0) := hV1.2.1.cell 3
  have f0 := hV1.2.1.free 3
  have hP1 := hV1.put (i := 3) (.slice A3 N.length a3)
  have c1 : (V1.setCell ⟨q, 3, none⟩ (.slice A3 N.length a3)).cell? ⟨q, 4, none⟩ = some (.slice none 0 0) := hP1.2.1.cell 4
  have f1 := hP1.2.1.free 4
  have hP2 := hP1.put (i := 4) (.slice A4 T.length a4)
  have o12 := ownsRow_setCell_below (ownsRow_setCell_below o1 (a := ⟨q, 3, none⟩) hqV (.slice A3 N.length a3)) (a := ⟨q, 4, none⟩) hqV (.slice A4 T.length a4)
  have o22 := ownsRow_setCell_below (ownsRow_setCell_below o2 (a := ⟨q, 3, none⟩) hqV (.slice A3 N.length a3)) (a := ⟨q, 4, none⟩) hqV (.slice A4 T.length a4)
  have hbase : q < V.heap.size := hqV
  have HB0 : Hid (w.heap.size < V.heap.size) := by have := hV.2.2.2.2.1; have := hV.2.2.2.2.2; show _ < _; omega
  clear o1 o2 k1 h1 hV
  go_upto_region 7 with fail
  refine wp_forget (fun W => Dt w g q #[.string s1.1, .string s2.1, .string s3.1, .slice A3 N.length a3, .slice A4 T.length a4] st W ∧ W.ownsRow V.heap.size 3 1 (.slice A3 N.length a3) N.length (N.map iv) ∧
    W.ownsRow V.heap.size 9 1 (.slice A4 T.length a4) T.length (T.map sv)) ⟨hP2, o12, o22⟩ ?_
  clear hP1 hP2 o12 o22 c0 c1 f0 f1 hV1 hqV
  generalize V.heap.size = base at *
  rintro V ⟨hV, o1, o2⟩
  have hno : ∀ (z : Int) (W : World), Dt w g q #[.string s1.1, .string s2.1, .string s3.1, .slice A3 N.length a3, .slice A4 T.length a4] st W → SdEnd w (spZ, z) (.returned (.tuple #[.agg (spArr spZ pZ), .int .i64 z])) (W.setRow w.heap.size (spArr spZ pZ)) := fun z W h =>
    ⟨pZ, rfl, spZ_in _ _, below_setRow h.2.2.2.1 (Nat.le_refl _) _⟩
  have HNo := Lib.hid hno
  clear hno
  cases st with
  | none =>
    have hR : R = (spZ, 2) := HE.out
    have HR := Lib.hid hR
    clear HE hR
    have CB := Lib.hid (rg_bad g none V hV.2.2.1)
    go_wp2_with fail
    (with_reducible refine CB.out.mono ?_)
    rintro _ _ ⟨⟨e, rfl, he⟩, rfl⟩
    rw [Option.isNone_none] at he
    go_wp2_with (refine wpList_store_row rfl 25 _ _ rfl w.heap.size (spArr spZ pZ) rfl rfl 25 spZero hV.1 (spInfo _ _) rfl (spArr_one _ _) ?_)
    refine bodyPost_ret (v := .tuple #[.agg (spArr spZ pZ), .int .i64 2]) ?_ rfl (SdEnd_eq HR.out (HNo.out 2 _ hV))
    rw [results_cell_tmp Tryd.results10]
    have hld := run_loadVar_row (P := Tryd.prog) _ _ _ 25 _ _ _ (hV.1.row (spArr spZ pZ)) Tryd.underlying25 rfl (spInfo spZ pZ)
    simp [asAddr, hld, Result.andThen]
  | some r =>
    have CB := Lib.hid (rg_bad g (some r) V hV.2.2.1)
    have CL := Lib.hid (rg_left g r V hV.2.2.1)
    by_cases hr : r ≠ []
    · have hR : R = (spZ, 2) := by
        rw [HE.out]
        simp only
        rw [if_neg hr]
      have hri : (0 : Int) < r.length := by
        have : 0 < r.length := List.length_pos_iff.2 hr
        omega
      have HR := Lib.hid hR
      clear HE hR hr
      go_wp2_with fail
      (with_reducible refine CB.out.mono ?_)
      rintro _ _ ⟨⟨e, rfl, he⟩, rfl⟩
      rw [Option.isNone_some] at he
      go_wp2_with fail
      (with_reducible refine CL.out.mono ?_)
      rintro _ _ ⟨rfl, rfl⟩
      go_wp2_with (refine wpList_store_row rfl 25 _ _ rfl w.heap.size (spArr spZ pZ) rfl rfl 25 spZero hV.1 (spInfo _ _) rfl (spArr_one _ _) ?_)
      refine bodyPost_ret (v := .tuple #[.agg (spArr spZ pZ), .int .i64 2]) ?_ rfl (SdEnd_eq HR.out (HNo.out 2 _ hV))
      rw [results_cell_tmp Tryd.results10]
      have hld := run_loadVar_row (P := Tryd.prog) _ _ _ 25 _ _ _ (hV.1.row (spArr spZ pZ)) Tryd.underlying25 rfl (spInfo spZ pZ)
      simp [asAddr, hld, Result.andThen]
    replace hr : r = [] := Decidable.byContradiction hr
    subst hr
    have hR : R = if spGood ⟨s1.1, s2.1, s3.1, N, T⟩ ≠ 0 then (spZ, spGood ⟨s1.1, s2.1, s3.1, N, T⟩) else (⟨s1.1, s2.1, s3.1, N, T⟩, 0) := HE.out
    have HR := Lib.hid hR
    clear HE hR
    obtain ⟨S, hS⟩ : ∃ S : Sp, S = ⟨s1.1, s2.1, s3.1, N, T⟩ := ⟨_, rfl⟩
    obtain ⟨p, hp⟩ : ∃ p : SpAt, p = ⟨A3, a3, A4, a4⟩ := ⟨_, rfl⟩
    have harr : #[.string s1.1, .string s2.1, .string s3.1, .slice A3 N.length a3, .slice A4 T.length a4] = spArr S p := by rw [hS, hp]; rfl
    have hlen : S.who.length ≤ 140737488355328 ∧ S.seals.length ≤ 140737488355328 := by
      have h1 := HLen.out
      have h2 := HNl.out
      have h3 := HTl.out
      rw [hS]
      show N.length ≤ _ ∧ T.length ≤ _
      omega
    have hin : ∀ W : World, W.ownsRow base 3 1 (.slice A3 N.length a3) N.length (N.map iv) → W.ownsRow base 9 1 (.slice A4 T.length a4) T.length (T.map sv) → SpIn W W.heap.size S p := fun W o1 o2 => by
      obtain ⟨A, c, e1, hc, hN⟩ := own_nums o1
      obtain ⟨A', c', e2, hc', hT, _⟩ := own_texts o2
      cases e1
      cases e2
      rw [hS, hp]
      exact ⟨hN, hT, hc, hc'⟩
    rw [harr] at hV HNo
    rw [← hS] at HR
    have HIn := Lib.hid hin
    have CG := Lib.hid (SpGood_any S p V (hin V o1 o2) hlen.1 hlen.2)
    have HO1 := Lib.hid o1
    have HO2 := Lib.hid o2
    clear hin harr hS hp hlen o1 o2 HLen HNl HTl
    generalize spGood S = G at *
    go_wp2_with fail
    (with_reducible refine CB.out.mono ?_)
    rintro _ _ ⟨⟨e, rfl, he⟩, rfl⟩
    rw [Option.isNone_some] at he
    go_wp2_with fail
    (with_reducible refine CL.out.mono ?_)
    rintro _ _ ⟨rfl, rfl⟩
    clear CB CL
    go_wp2_with (refine wpList_load_row rfl 25 _ rfl q rfl 25 _ (0, 0) _ hV.2.1 Tryd.underlying25 rfl (spInfo S p) ?_)
    (with_reducible refine CG.out.mono ?_)
    clear CG
    rintro _ V2 ⟨rfl, b2⟩
    have hV2 : Dt w g q (spArr S p) (some []) V2 := ⟨hV.1.below b2 hV.1.lt, hV.2.1.below b2 hV.2.1.lt, hV.2.2.1.below b2, hV.2.2.2.1.trans (b2.mono hV.2.2.2.1.size), hV.2.2.2.2⟩
    have o3 := own_kp HO1.out (Kp.bel (X := fun _ => False) b2) (fun _ _ x => x)
    have o4 := own_kp HO2.out (Kp.bel (X := fun _ => False) b2) (fun _ _ x => x)
    have HO3 := Lib.hid o3
    have HO4 := Lib.hid o4
    clear hV b2 o3 o4 HO1 HO2
    cases hG : G != 0
    case true =>
      have hG2 : G ≠ 0 := by simpa using hG
      rw [if_pos hG2] at HR
      go_wp2_with (refine wpList_store_row rfl 25 _ _ rfl w.heap.size (spArr spZ pZ) rfl rfl 25 spZero hV2.1 (spInfo _ _) rfl (spArr_one _ _) ?_)
      refine bodyPost_ret (v := .tuple #[.agg (spArr spZ pZ), .int .i64 G]) ?_ rfl (SdEnd_eq HR.out (HNo.out G _ hV2))
      rw [results_cell_tmp Tryd.results10]
      have hld := run_loadVar_row (P := Tryd.prog) _ _ _ 25 _ _ _ (hV2.1.row (spArr spZ pZ)) Tryd.underlying25 rfl (spInfo spZ pZ)
      simp [asAddr, hld, Result.andThen]
    have hG2 : G = 0 := by simpa using hG
    subst hG2
    rw [if_neg (by simp)] at HR
    clear hG HNo
    have hfin : SpIn (V2.setRow w.heap.size (spArr S p)) (V2.setRow w.heap.size (spArr S p)).heap.size S p := HIn.out _
      (own_kp HO3.out (Kp.gb (gb_row w.heap.size (spArr S p))) (fun k hk e => by have := own_row_ge HO3.out k hk; have := HB0.out; have := Option.some.inj e; omega))
      (own_kp HO4.out (Kp.gb (gb_row w.heap.size (spArr S p))) (fun k hk e => by have := own_row_ge HO4.out k hk; have := HB0.out; have := Option.some.inj e; omega))
    have HFin := Lib.hid hfin
    clear hfin HIn HO3 HO4
    go_wp2_with (first
      | refine wpList_load_row rfl 25 _ rfl q rfl 25 _ (0, 0) _ hV2.2.1 Tryd.underlying25 rfl (spInfo S p) ?_
      | refine wpList_store_row rfl 25 _ _ rfl w.heap.size (spArr S p) rfl rfl 25 spZero hV2.1 (spInfo S p) rfl (spArr_one S p) ?_)
    refine bodyPost_ret (v := .tuple #[.agg (spArr S p), .int .i64 0]) ?_ rfl (SdEnd_eq HR.out ⟨p, rfl, HFin.out, below_setRow hV2.2.2.2.1 (Nat.le_refl _) _⟩)
    rw [results_cell_tmp Tryd.results10]
    have hld := run_loadVar_row (P := Tryd.prog) _ _ _ 25 _ _ _ (hV2.1.row (spArr S p)) Tryd.underlying25 rfl (spInfo S p)
    simp [asAddr, hld, Result.andThen]
end Go.Proofs.YtchpgngphgjmnaaDoor

/- step.writeChange, Body, goodBody: contracts. -/
namespace Go.Proofs.YtchpgngphgjmnaaDoor
open Go.RowKit

/-- a writer of these bytes, or one that was given too long a text -/
def WX (w : World) (g : Nat) : Option (List UInt8) → Prop
  | some l => WL w g l
  | none => WBad w g 1
theorem WX.below {w w' : World} {g : Nat} {st : Option (List UInt8)} (h : WX w g st) (k : Below w.heap.size w w') : WX w' g st := by
  cases st with
  | none => exact WBad.below h k
  | some l => exact WL.below h k
theorem WX.lt {w : World} {g : Nat} {st : Option (List UInt8)} (h : WX w g st) : g < w.heap.size := by
  cases st with
  | none => obtain ⟨v, n, ha⟩ := h; exact ha.lt
  | some l => exact WL.lt h
def txX (t : ByteArray) : Option (List UInt8) → Option (List UInt8)
  | none => none
  | some l => if t.size ≤ 4096 then some (l ++ txt t) else none
def WxEnd (w : World) (g : Nat) (st : Option (List UInt8)) (x : Ending) (w' : World) : Prop := x = .returned (.tuple #[]) ∧ WX w' g st ∧ w.grownBy w' (some g)
def ShortX (n : Nat) (st : Option (List UInt8)) : Prop := ∀ l, st = some l → l.length ≤ n
theorem txX_short {n : Nat} {st : Option (List UInt8)} (t : ByteArray) (h : ShortX n st) : ShortX (n + 4099) (txX t st) := fun l hl => by
  cases st with
  | none => cases hl
  | some l0 =>
    unfold txX at hl
    simp only at hl
    split at hl
    · rename_i ht
      cases hl
      have := txt_len t ht
      have := h l0 rfl
      rw [List.length_append]
      omega
    · cases hl
theorem wx_text (g : Nat) (st : Option (List UInt8)) (t : ByteArray) (hs : ShortX 281474976710656 st) (w : World) (h : WX w g st) :
    Calls Tryd.prog 36 #[.pointer (some ⟨g, 0, none⟩), .string t] w (WxEnd w g (txX t st)) := by
  cases st with
  | none =>
    by_cases ht : t.size ≤ 4096
    · exact (WText_bad g t _ 1 0 (by decide) (putTextIs_yes ⟨#[]⟩ t (by decide) ht) w h).mono fun _ _ q => q
    · exact (WText_bad g t _ 1 1 (by decide) (putTextIs_no ⟨#[]⟩ t (by omega)) w h).mono fun _ _ q => q
  | some l =>
    by_cases ht : t.size ≤ 4096
    · rw [show txX t (some l) = some (l ++ txt t) from if_pos ht]
      exact (wl_text g l t ht (hs l rfl) w h).mono fun _ _ q => q
    · rw [show txX t (some l) = none from if_neg ht]
      obtain ⟨ps, h1, _⟩ := h
      exact (WText_err g ps t _ 1 (by decide) (putTextIs_no ⟨#[]⟩ t (by omega)) w h1).mono fun _ _ q => q
/-- the box of a step beside a writer -/
def Sw (g b : Nat) (s : Sp) (p : SpAt) (W : World) : Prop := Arr W b 25 (spArr s p) ∧ b ≠ g ∧ b < W.heap.size
theorem Sw.kept {g b : Nat} {s : Sp} {p : SpAt} {W W' : World} (h : Sw g b s p W) (k : W.grownBy W' (some g)) : Sw g b s p W' :=
  ⟨h.1.kept k (fun e => h.2.1 (by cases e; rfl)), h.2.1, Nat.lt_of_lt_of_le h.2.2 k.size⟩
def chX (s : Sp) (st : Option (List UInt8)) : Option (List UInt8) := txX s.new (txX s.old (txX s.ref st))
theorem chX_short {n : Nat} {st : Option (List UInt8)} (s : Sp) (h : ShortX n st) : ShortX (n + 4099 + 4099 + 4099) (chX s st) := txX_short _ (txX_short _ (txX_short _ h))
theorem chX_ok (s : Sp) (h : ¬ spLong s) (l : List UInt8) : chX s (some l) = some (l ++ chL s) := by
  unfold spLong at h
  unfold chX chL
  rw [show txX s.ref (some l) = some (l ++ txt s.ref) from if_pos (by omega)]
  rw [show txX s.old (some (l ++ txt s.ref)) = some (l ++ txt s.ref ++ txt s.old) from if_pos (by omega)]
  rw [show txX s.new (some (l ++ txt s.ref ++ txt s.old)) = some (l ++ txt s.ref ++ txt s.old ++ txt s.new) from if_pos (by omega)]
  simp only [List.append_assoc]
theorem chX_no (s : Sp) (h : spLong s) (l : List UInt8) : chX s (some l) = none := by
  unfold spLong at h
  unfold chX
  by_cases h1 : s.ref.size ≤ 4096
  · rw [show txX s.ref (some l) = some (l ++ txt s.ref) from if_pos h1]
    by_cases h2 : s.old.size ≤ 4096
    · rw [show txX s.old (some (l ++ txt s.ref)) = some (l ++ txt s.ref ++ txt s.old) from if_pos h2]
      exact if_neg (by omega)
    · rw [show txX s.old (some (l ++ txt s.ref)) = none from if_neg h2]; rfl
  · rw [show txX s.ref (some l) = none from if_neg h1]; rfl
set_option maxRecDepth 100000 in
theorem writeChange_any (s : Sp) (p : SpAt) (g : Nat) (st : Option (List UInt8)) (hs : ShortX 1000 st) (w : World) (h : WX w g st) :
    Calls Tryd.prog 16 #[.pointer (some ⟨g, 0, none⟩), .agg (spArr s p)] w (WxEnd w g (chX s st)) := by
  have hg := h.lt
  have h1 : Hid (Sw g w.heap.size s p (w.alloc (.cells (spArr s p) 25)) ∧ WX (w.alloc (.cells (spArr s p) 25)) g st ∧ w.grownBy (w.alloc (.cells (spArr s p) 25)) (some g)) :=
    ⟨⟨Arr.new _ _ _, by omega, by simp⟩, h.below ((Below.refl _ _).alloc (Nat.le_refl _) _), gb_alloc _⟩
  have hs0 : ShortX 281474976710656 st := fun l hl => by have := hs l hl; omega
  have hs1 : ShortX 281474976710656 (txX s.ref st) := fun l hl => by have := txX_short s.ref hs l hl; omega
  have hs2 : ShortX 281474976710656 (txX s.old (txX s.ref st)) := fun l hl => by have := txX_short s.old (txX_short s.ref hs) l hl; omega
  have C0 : Hid (∀ W, WX W g st → Calls Tryd.prog 36 #[.pointer (some ⟨g, 0, none⟩), .string s.ref] W (WxEnd W g (txX s.ref st))) := fun W h => wx_text g st s.ref hs0 W h
  have C1 : Hid (∀ W, WX W g (txX s.ref st) → Calls Tryd.prog 36 #[.pointer (some ⟨g, 0, none⟩), .string s.old] W (WxEnd W g (txX s.old (txX s.ref st)))) := fun W h => wx_text g _ s.old hs1 W h
  have C2 : Hid (∀ W, WX W g (txX s.old (txX s.ref st)) → Calls Tryd.prog 36 #[.pointer (some ⟨g, 0, none⟩), .string s.new] W (WxEnd W g (chX s st))) := fun W h => wx_text g _ s.new hs2 W h
  clear h hs hs0 hs1 hs2
  generalize hb : w.heap.size = b at *
  generalize hA : spArr s p = arr at *
  have HA := Lib.hid hA
  clear hA
  generalize txX s.old (txX s.ref st) = st2 at *
  generalize txX s.ref st = st1 at *
  generalize chX s st = st3 at *
  go_enter Tryd.func16, Tryd.ntmps16
  go_upto_region 1 with fail
  refine wp_forget (fun W => Sw g b s p W ∧ WX W g st ∧ w.grownBy W (some g)) h1.out ?_
  clear h1
  rintro W ⟨hX, hW, hK⟩
  have c0 : W.cell? ⟨b, 0, none⟩ = some (.string s.ref) := hX.1.cell 0
  go_wp2_with fail
  (with_reducible refine (C0.out W hW).mono ?_)
  rintro _ W2 ⟨rfl, h2, k2⟩
  replace hX := hX.kept k2
  replace hK := gb_trans hK k2
  clear hW c0 k2
  have c1 : W2.cell? ⟨b, 1, none⟩ = some (.string s.old) := hX.1.cell 1
  go_wp2_with fail
  (with_reducible refine (C1.out W2 h2).mono ?_)
  rintro _ W3 ⟨rfl, h3, k3⟩
  replace hX := hX.kept k3
  replace hK := gb_trans hK k3
  clear h2 c1 k3
  have c2 : W3.cell? ⟨b, 2, none⟩ = some (.string s.new) := hX.1.cell 2
  go_wp2_with fail
  (with_reducible refine (C2.out W3 h3).mono ?_)
  rintro _ W4 ⟨rfl, h4, k4⟩
  go_wp2_with fail
  go_end0
  exact ⟨rfl, h4, gb_trans hK k4⟩
/-- where Body stands, its writer made -/
def Bd (w : World) (b g : Nat) (s : Sp) (p : SpAt) (st : Option (List UInt8)) (W : World) : Prop := Arr W b 25 (spArr s p) ∧ b ≠ g ∧ w.heap.size ≤ g ∧ Below w.heap.size w W ∧ WX W g st
theorem Bd.wrote {w W W' : World} {b g : Nat} {s : Sp} {p : SpAt} {st st' : Option (List UInt8)} (h : Bd w b g s p st W) (h' : WX W' g st') (k : W.grownBy W' (some g)) : Bd w b g s p st' W' :=
  ⟨h.1.kept k (fun e => h.2.1 (by cases e; rfl)), h.2.1, h.2.2.1, below_gb h.2.2.2.1 k h.2.2.1 h.2.2.2.1.size, h'⟩
theorem num_short (n : Nat) (h : n < 4611686018427387904) (l : List UInt8) (hl : l.length ≤ 500) : ShortX 1000 (some (l ++ num n)) := fun l' h' => by
  cases h'
  have := num_len9 n h
  rw [List.length_append]
  omega
set_option maxRecDepth 100000 in
set_option maxHeartbeats 1000000 in
theorem Body_any (i : Int) (s : Sp) (p : SpAt) (w : World) :
    Calls Tryd.prog 14 #[.int .i64 i, .agg (spArr s p)] w fun e w' => e = .returned (.tuple #[.string (spBody i s).1, .int .i64 (spBody i s).2]) ∧ Below w.heap.size w w' := by
  have hE : spBody i s = if i < 0 ∨ 199 < i then (⟨#[]⟩, 3) else if spLong s then (⟨#[]⟩, 1) else (bs (spBodyL i.toNat s), 0) := rfl
  have HE := Lib.hid hE
  clear hE
  generalize spBody i s = R at *
  by_cases h0 : i < 0
  · have HE2 : Hid (R = (⟨#[]⟩, 3)) := by show _ = _; rw [HE.out, if_pos (.inl h0)]
    clear HE
    generalize hA : spArr s p = arr at *
    go_enter Tryd.func14, Tryd.ntmps14
    go_wp2_with fail
    go_ret2
    exact ⟨by rw [HE2.out]; rfl, (Below.refl _ _).alloc (Nat.le_refl _) _⟩
  by_cases h2 : 200 ≤ i
  · have HE2 : Hid (R = (⟨#[]⟩, 3)) := by show _ = _; rw [HE.out, if_pos (.inr (by omega))]
    clear HE
    generalize hA : spArr s p = arr at *
    go_enter Tryd.func14, Tryd.ntmps14
    go_wp2_with fail
    go_ret2
    exact ⟨by rw [HE2.out]; rfl, (Below.refl _ _).alloc (Nat.le_refl _) _⟩
  have HE2 : Hid (R = if spLong s then (⟨#[]⟩, 1) else (bs (spBodyL i.toNat s), 0)) := by show _ = _; rw [HE.out, if_neg (by omega)]
  clear HE
  obtain ⟨n, rfl⟩ := Int.eq_ofNat_of_zero_le (show 0 ≤ i by omega)
  rw [Int.toNat_natCast] at HE2
  have hn : n < 4611686018427387904 := by omega
  have h1 : Hid (Bd w w.heap.size (w.heap.size + 1) s p (some []) ((w.alloc (.cells (spArr s p) 25)).alloc (.cells #[.pointer none, .int .i64 0, .int .i64 0] 46))) := by
    have A0 : Arr (w.alloc (.cells (spArr s p) 25)) w.heap.size 25 (spArr s p) := Arr.new _ _ _
    have b0 : Below w.heap.size w (w.alloc (.cells (spArr s p) 25)) := (Below.refl _ _).alloc (Nat.le_refl _) _
    have hz : (w.alloc (.cells (spArr s p) 25)).heap.size = w.heap.size + 1 := World.size_alloc _ _
    generalize w.alloc (.cells (spArr s p) 25) = V at *
    have q : WL (V.alloc (.cells #[.pointer none, .int .i64 0, .int .i64 0] 46)) V.heap.size [] := ⟨[], ⟨.pointer none, Arr.new _ _ _, rfl⟩, rfl⟩
    rw [hz] at q
    exact ⟨A0.below ((Below.refl _ _).alloc (Nat.le_refl _) _) A0.lt, by omega, by omega, b0.alloc b0.size _, q⟩
  have CW := Lib.hid (fun g W st hs h => writeChange_any s p g st hs W h)
  generalize hb : w.heap.size = b at *
  generalize hA : spArr s p = arr at *
  have HA := Lib.hid hA
  clear hA
  go_enter Tryd.func14, Tryd.ntmps14
  go_upto_region 4 with fail
  refine wp_forget (Bd w b (b + 1) s p (some [])) (by rw [← hb] at h1 ⊢; exact h1.out) ?_
  clear h1
  generalize b + 1 = g
  intro W hW
  have hA := HA.out
  clear HA
  subst hA
  have C0 := Lib.hid (wl_number g [] n hn (by simp) W hW.2.2.2.2)
  go_wp2_with fail
  (with_reducible refine C0.out.mono ?_)
  clear C0
  rintro _ W2 ⟨rfl, h2, k2⟩
  have hW2 : Bd w b g s p (some ([] ++ num n)) W2 := hW.wrote h2 k2
  clear hW h2 k2
  have C1 := Lib.hid (CW.out g W2 _ (num_short n hn [] (by simp)) hW2.2.2.2.2)
  go_wp2_with (refine wpList_load_row rfl 25 _ rfl b rfl 25 _ (0, 0) _ hW2.1 Tryd.underlying25 rfl (spInfo s p) ?_)
  (with_reducible refine C1.out.mono ?_)
  clear C1
  rintro _ W3 ⟨rfl, h3, k3⟩
  have hW3 := hW2.wrote h3 k3
  clear hW2 h3 k3
  by_cases hl : spLong s
  · rw [if_pos hl] at HE2
    rw [chX_no s hl] at hW3
    have C2 := Lib.hid (Done_bad g 1 (by decide) W3 hW3.2.2.2.2)
    go_wp2_with fail
    (with_reducible refine C2.out.mono ?_)
    rintro _ W4 ⟨rfl, b4⟩
    go_wp2_with fail
    go_ret2
    exact ⟨by rw [HE2.out]; rfl, by rw [← hb] at hW3 ⊢; exact hW3.2.2.2.1.trans (b4.mono hW3.2.2.2.1.size)⟩
  · rw [if_neg hl] at HE2
    rw [chX_ok s hl, List.nil_append] at hW3
    have hL : num n ++ chL s = spBodyL n s := by unfold chL spBodyL; simp only [List.append_assoc]
    rw [hL] at hW3
    obtain ⟨ps, hok, hps⟩ := hW3.2.2.2.2
    have hlen : (cat ps).length ≤ 281474976710656 := by
      rw [hps]
      unfold spLong at hl
      have := num_len9 n hn
      have := txt_len s.ref (by omega)
      have := txt_len s.old (by omega)
      have := txt_len s.new (by omega)
      unfold spBodyL
      simp only [List.length_append]
      omega
    have C2 := Lib.hid (Done_ok g ps hlen W3 hok)
    rw [hps] at C2
    generalize bs (spBodyL n s) = B at *
    go_wp2_with fail
    (with_reducible refine C2.out.mono ?_)
    rintro _ W4 ⟨rfl, b4⟩
    go_wp2_with fail
    go_ret2
    exact ⟨by rw [HE2.out]; rfl, by rw [← hb] at hW3 ⊢; exact hW3.2.2.2.1.trans (b4.mono hW3.2.2.2.1.size)⟩
set_option maxRecDepth 100000 in
theorem goodBody_any (i : Int) (s : Sp) (p : SpAt) (w : World) (hP : SpIn w w.heap.size s p) (hb : s.who.length ≤ 140737488355328) (hb2 : s.seals.length ≤ 140737488355328) :
    Calls Tryd.prog 29 #[.int .i64 i, .agg (spArr s p)] w fun e w' => e = .returned (.tuple #[.string (spGB i s).1, .int .i64 (spGB i s).2]) ∧ Below w.heap.size w w' := by
  have h1 := Lib.hid (Sx.start hP)
  have CG := Lib.hid (fun V h => SpGood_any s p V h hb hb2)
  have CB := Lib.hid (fun V => Body_any i s p V)
  have hE : spGB i s = if spGood s ≠ 0 then (⟨#[]⟩, spGood s) else spBody i s := rfl
  have HE := Lib.hid hE
  clear hE hP
  generalize spGB i s = R at *
  generalize spGood s = G at *
  generalize spBody i s = B at *
  generalize hA : spArr s p = arr at *
  have HA := Lib.hid hA
  clear hA
  go_enter Tryd.func29, Tryd.ntmps29
  go_upto_region 1 with fail
  refine wp_forget (Sx w s p) h1.out ?_
  clear h1
  intro W hW
  have hA := HA.out
  clear HA
  subst hA
  go_wp2_with (refine wpList_load_row rfl 25 _ rfl w.heap.size rfl 25 _ (0, 0) _ hW.1 Tryd.underlying25 rfl (spInfo s p) ?_)
  have C := Lib.hid (CG.out W hW.up)
  clear CG
  (with_reducible refine C.out.mono ?_)
  rintro _ W2 ⟨rfl, b2⟩
  have hW2 := hW.below b2
  clear hW b2 C
  cases hG : G != 0
  case true =>
    have hG2 : G ≠ 0 := by simpa using hG
    rw [if_pos hG2] at HE
    go_wp2_with fail
    go_ret2
    exact ⟨by rw [HE.out]; rfl, hW2.2.2⟩
  have hG2 : G = 0 := by simpa using hG
  subst hG2
  rw [if_neg (by simp)] at HE
  clear hG
  go_wp2_with (refine wpList_load_row rfl 25 _ rfl w.heap.size rfl 25 _ (0, 0) _ hW2.1 Tryd.underlying25 rfl (spInfo s p) ?_)
  have C := Lib.hid (CB.out W2)
  (with_reducible refine C.out.mono ?_)
  rintro _ W3 ⟨rfl, b3⟩
  go_wp2_with fail
  go_ret2
  exact ⟨by rw [HE.out]; rfl, (hW2.below b3).2.2⟩
end Go.Proofs.YtchpgngphgjmnaaDoor

/- step.Encode: its contract. -/
namespace Go.Proofs.YtchpgngphgjmnaaDoor
open Go.RowKit

/-- where Encode stands, its writer made -/
def Se (w : World) (g : Nat) (s : Sp) (p : SpAt) (l : List UInt8) (W : World) : Prop := Sx w s p W ∧ WL W g l ∧ w.heap.size < g
theorem Se.wrote {w W W' : World} {g : Nat} {s : Sp} {p : SpAt} {l l' : List UInt8} (h : Se w g s p l W) (h' : WL W' g l') (k : W.grownBy W' (some g)) : Se w g s p l' W' :=
  ⟨⟨h.1.1.kept k (fun e => by cases e; exact Nat.lt_irrefl _ h.2.2), h.1.2.1.below (below_gb (Below.refl _ _) k (Nat.le_of_lt h.2.2) h.1.2.2.size), below_gb h.1.2.2 k (Nat.le_of_lt h.2.2) h.1.2.2.size⟩, h', h.2.2⟩
theorem sgL_app : ∀ a b : List Sg, sgL (a ++ b) = sgL a ++ sgL b
  | [], b => rfl
  | x :: a, b => by rw [List.cons_append, sgL, sgL_app a b, sgL]; simp only [List.append_assoc]
theorem sgL_len : ∀ l : List Sg, (∀ x ∈ l, 0 ≤ x.1 ∧ x.1 ≤ 7 ∧ x.2.size = 32) → (sgL l).length ≤ 41 * l.length
  | [], _ => Nat.le_refl _
  | x :: l, h => by
    have h1 := h x List.mem_cons_self
    have h2 := sgL_len l (fun y hy => h y (List.mem_cons_of_mem _ hy))
    have h3 := num_len9 x.1.toNat (by omega)
    have h4 : x.2.data.toList.length = x.2.size := rfl
    rw [sgL, List.length_append, List.length_append, List.length_cons]
    omega
theorem sgL_next {s : Sp} (hl : s.seals.length = s.who.length) {k : Nat} (hk : k < s.who.length) : sgL (s.prs.take (k + 1)) = sgL (s.prs.take k) ++ num (s.who[k]).toNat ++ (s.seals[k]'(by omega)).data.toList := by
  have h : k < s.prs.length := by rw [prs_len hl]; exact hk
  have h2 := prs_get (s := s) (List.getElem?_eq_getElem hk) (List.getElem?_eq_getElem (show k < s.seals.length by omega))
  rw [List.getElem?_eq_getElem h] at h2
  rw [List.take_succ_eq_append_getElem h, Option.some.inj h2, sgL_app]
  simp only [sgL, List.append_assoc, List.append_nil]
def EnRel (w : World) (g : Nat) (s : Sp) (p : SpAt) (L0 : List UInt8) (i : Value) (wr : World) : Prop :=
  ∃ k : Nat, k ≤ s.who.length ∧ i = .int .i64 (k : Int) ∧ Se w g s p (L0 ++ sgL (s.prs.take k)) wr
set_option maxRecDepth 100000 in
set_option maxHeartbeats 1000000 in
theorem SpEncode_any (s : Sp) (p : SpAt) (w : World) (hP : SpIn w w.heap.size s p) (hb : s.who.length ≤ 140737488355328) (hb2 : s.seals.length ≤ 140737488355328) :
    Calls Tryd.prog 7 #[.agg (spArr s p)] w fun e w' => e = .returned (.tuple #[.string (spEnc s).1, .int .i64 (spEnc s).2]) ∧ Below w.heap.size w w' := by
  obtain ⟨wa, wc, sa, sc⟩ := p
  have h1 := Lib.hid (Sx.start hP)
  have CG := Lib.hid (fun V h => SpGood_any s ⟨wa, wc, sa, sc⟩ V h hb hb2)
  have hE : spEnc s = if spGood s ≠ 0 then (⟨#[]⟩, spGood s) else (bs (spEncL s), 0) := rfl
  have HE := Lib.hid hE
  have HF : Hid (spGood s = 0 → spForm s = true ∧ s.who.length ≤ 8 ∧ s.seals.length = s.who.length ∧ gdS (-1) s.prs = 0) := spGood_ok
  have HSh : Hid (spGood s = 0 → ¬ spLong s) := spGood_long
  clear hE hP
  generalize spEnc s = R at *
  generalize spGood s = G at *
  generalize hA : spArr s ⟨wa, wc, sa, sc⟩ = arr at *
  have HA := Lib.hid hA
  clear hA
  go_enter Tryd.func7, Tryd.ntmps7
  go_upto_region 1 with fail
  refine wp_forget (Sx w s ⟨wa, wc, sa, sc⟩) h1.out ?_
  clear h1
  intro W hW
  have hA := HA.out
  clear HA
  subst hA
  go_wp2_with (refine wpList_load_row rfl 25 _ rfl w.heap.size rfl 25 _ (0, 0) _ hW.1 Tryd.underlying25 rfl (spInfo s _) ?_)
  have C := Lib.hid (CG.out W hW.up)
  clear CG
  (with_reducible refine C.out.mono ?_)
  rintro _ W2 ⟨rfl, b2⟩
  have hW2 := hW.below b2
  clear hW b2 C
  cases hG : G != 0
  case true =>
    have hG2 : G ≠ 0 := by simpa using hG
    rw [if_pos hG2] at HE
    go_wp2_with fail
    go_ret2
    exact ⟨by rw [HE.out]; rfl, hW2.2.2⟩
  have hG2 : G = 0 := by simpa using hG
  subst hG2
  rw [if_neg (by simp)] at HE
  obtain ⟨_, hw8, hl, hgd⟩ := HF.out rfl
  have hnl := HSh.out rfl
  have hall := Lib.hid (gdS_low _ _ hgd)
  have HL := Lib.hid hl
  clear hG HF HSh hgd hl
  go_upto_region 5 with fail
  refine wp_forget (Se w W2.heap.size s ⟨wa, wc, sa, sc⟩ []) ⟨hW2.below ((Below.refl _ _).alloc (Nat.le_refl _) _), ⟨[], ⟨.pointer none, Arr.new _ _ _, rfl⟩, rfl⟩, hW2.1.lt⟩ ?_
  generalize W2.heap.size = g
  clear hW2 W W2
  intro W hW
  go_wp2_with (refine wpList_load_row rfl 25 _ rfl w.heap.size rfl 25 _ (0, 0) _ hW.1.1 Tryd.underlying25 rfl (spInfo s _) ?_)
  have q := writeChange_any s ⟨wa, wc, sa, sc⟩ g (some []) (fun l hl => by cases hl; simp) W hW.2.1
  rw [chX_ok s hnl, List.nil_append] at q
  have Q := Lib.hid q
  clear q
  (with_reducible refine Q.out.mono ?_)
  clear Q
  rintro _ W2 ⟨rfl, h2, k2⟩
  have hW2 := hW.wrote h2 k2
  clear hW h2 k2
  have hcl : (chL s).length ≤ 20000 := by
    unfold spLong at hnl
    have := txt_len s.ref (by omega)
    have := txt_len s.old (by omega)
    have := txt_len s.new (by omega)
    unfold chL
    simp only [List.length_append]
    omega
  have hs8 : s.seals.length ≤ 8 := by have := HL.out; omega
  have q := wl_number g (chL s) s.seals.length (by omega) (by omega) _ hW2.2.1
  obtain ⟨_, _, _, _, c4⟩ := hW2.1.c
  have Q := Lib.hid q
  clear q
  go_wp2_with fail
  (with_reducible refine Q.out.mono ?_)
  clear Q c4
  rintro _ W3 ⟨rfl, h3, k3⟩
  have hW3 := hW2.wrote h3 k3
  clear hW2 h3 k3
  have hle : (chL s ++ num s.seals.length).length ≤ 20100 := by
    have := num_len9 s.seals.length (by omega)
    rw [List.length_append]
    omega
  have HR : Hid (R = (bs ((chL s ++ num s.seals.length) ++ sgL s.prs), 0)) := HE.out
  clear HE hcl hnl
  generalize chL s ++ num s.seals.length = L0 at *
  obtain ⟨_, _, _, _, c4⟩ := hW3.1.c
  have hst : Hid (EnRel w g s ⟨wa, wc, sa, sc⟩ L0 (.int .i64 0) W3) := ⟨0, Nat.zero_le _, rfl, by rw [List.take_zero]; simpa [sgL] using hW3⟩
  clear hW3
  go_wp2_with fail
  clear c4
  go_loopw [22] (fun i wr => EnRel w g s ⟨wa, wc, sa, sc⟩ L0 i wr) (fun i _ => s.who.length - (intOf i).toNat)
  case atStart => exact hst.out
  case round =>
    clear hst
    obtain ⟨k, hk, rfl, hX⟩ := hrel
    have hlen : (L0 ++ sgL (s.prs.take k)).length ≤ 30000 := by
      have h1 := sgL_len (s.prs.take k) (fun x hx => by
        have h2 := hall.out x (List.mem_of_mem_take hx)
        omega)
      rw [List.length_append]
      have h3 : (s.prs.take k).length ≤ 8 := by rw [List.length_take, prs_len HL.out]; omega
      omega
    by_cases hlt : k < s.who.length
    · have hj : (k : Int) < s.seals.length := by have := HL.out; omega
      have hj2 : (k : Int) < s.who.length := by omega
      have hlt2 : k < s.seals.length := by have := HL.out; omega
      obtain ⟨ad, rfl, hbl, g0⟩ := hX.1.2.1.nums k s.who[k] (List.getElem?_eq_getElem hlt)
      obtain ⟨ad2, rfl, hbl2, g1⟩ := hX.1.2.1.txs k s.seals[k] (List.getElem?_eq_getElem hlt2)
      have hN := Lib.hid (sgL_next HL.out hlt)
      have hxm := hall.out (s.who[k], s.seals[k]) (List.mem_of_getElem? (prs_get (s := s) (List.getElem?_eq_getElem hlt) (List.getElem?_eq_getElem hlt2)))
      simp only at hxm
      generalize s.who[k] = x at *
      generalize s.seals[k] = t at *
      have hx : x = (x.toNat : Int) := by omega
      have hx2 := Lib.hid hx
      clear hx
      obtain ⟨_, _, _, c3, c4⟩ := hX.1.c
      have q := wl_number g _ x.toNat (by omega) (by omega) wr hX.2.1
      rw [← hx2.out] at q
      have Q := Lib.hid q
      clear q
      go_wp2_with fail
      (with_reducible refine Q.out.mono ?_)
      clear Q c3 c4 g0 g1
      rintro _ V ⟨rfl, h2, k2⟩
      have hV := hX.wrote h2 k2
      clear hX h2 k2
      have Q := Lib.hid (wl_bytes g _ t (by omega) (by rw [List.length_append]; have := num_len9 x.toNat (by omega); omega) V hV.2.1)
      go_wp2_with fail
      (with_reducible refine Q.out.mono ?_)
      clear Q
      rintro _ V2 ⟨rfl, h3, k3⟩
      have hV2 := hV.wrote h3 k3
      clear hV h3 k3
      go_wp2_with fail
      go_roundw
      case rel =>
        refine ⟨k + 1, hlt, by rw [Int.natCast_add]; rfl, ?_⟩
        rw [hN.out]
        simp only [List.append_assoc] at hV2 ⊢
        exact hV2
      case measure => simp [intOf]; omega
    · obtain rfl : k = s.who.length := by omega
      have hj : ¬ (s.who.length : Int) < s.seals.length := by have := HL.out; omega
      rw [List.take_of_length_le (Nat.le_of_eq (prs_len HL.out))] at hX hlen
      obtain ⟨ps, hok, hps⟩ := hX.2.1
      rw [← hps] at HR hlen
      have C2 := Lib.hid (Done_ok g ps (by omega) wr hok)
      generalize bs (cat ps) = B at *
      go_wp2_with fail
      (with_reducible refine C2.out.mono ?_)
      rintro _ W4 ⟨rfl, b4⟩
      go_wp2_with fail
      go_ret2
      exact ⟨by rw [HR.out]; rfl, hX.1.2.2.trans (b4.mono hX.1.2.2.size)⟩
end Go.Proofs.YtchpgngphgjmnaaDoor

/- Writing and reading a step's bytes undo one another: plain facts. -/
namespace Go.Proofs.YtchpgngphgjmnaaDoor
open Go.RowKit

theorem sgs_back : ∀ (L : List Sg), (∀ x ∈ L, 0 ≤ x.1 ∧ x.1 ≤ 7 ∧ x.2.size = 32) → ∀ r, rdSgs L.length (sgL L ++ r) = some (L, r)
  | [], _, r => rfl
  | x :: L, h, r => by
    have h1 := h x List.mem_cons_self
    rw [List.length_cons, rdSgs, sgL, List.append_assoc, List.append_assoc, rdNum_num _ (by omega)]
    simp only
    rw [rdId_id _ h1.2.2]
    simp only
    rw [sgs_back L (fun y hy => h y (List.mem_cons_of_mem _ hy)) r]
    simp only
    rw [show ((x.1.toNat : Nat) : Int) = x.1 from by omega]
theorem read_back {s : Sp} (h : spGood s = 0) (r : List UInt8) : spRead (spEncL s ++ r) = if r = [] then some s else none := by
  obtain ⟨h1, h2, h3⟩ := spGood_short h
  obtain ⟨_, h8, hl, hg⟩ := spGood_ok h
  have hall : ∀ x ∈ s.prs, 0 ≤ x.1 ∧ x.1 ≤ 7 ∧ x.2.size = 32 := fun x hx => by
    have := gdS_low _ _ hg x hx
    omega
  unfold spRead spEncL chL
  simp only [List.append_assoc]
  rw [rdText_txt _ (by omega)]
  simp only
  rw [rdText_txt _ (by omega)]
  simp only
  rw [rdText_txt _ (by omega)]
  simp only
  rw [rdNum_num _ (by omega)]
  simp only
  rw [hl, ← prs_len hl, sgs_back _ hall]
  simp only
  rw [prs_fst hl, prs_snd hl]
theorem sgs_rd : ∀ (n : Nat) (l r : List UInt8) (L : List Sg), rdSgs n l = some (L, r) → l = sgL L ++ r ∧ L.length = n
  | 0, l, r, L, h => by
    rw [rdSgs] at h
    simp only [Option.some.injEq, Prod.mk.injEq] at h
    rw [← h.1, ← h.2]
    exact ⟨rfl, rfl⟩
  | n + 1, l, r, L, h => by
    rw [rdSgs] at h
    cases h1 : rdNum l with
    | none => simp [h1] at h
    | some y =>
      obtain ⟨x, r1⟩ := y
      simp only [h1] at h
      cases h2 : rdId r1 with
      | none => simp [h2] at h
      | some y =>
        obtain ⟨t, r2⟩ := y
        simp only [h2] at h
        cases h3 : rdSgs n r2 with
        | none => simp [h3] at h
        | some y =>
          obtain ⟨L2, r3⟩ := y
          simp only [h3, Option.some.injEq, Prod.mk.injEq] at h
          obtain ⟨e1, e2⟩ := sgs_rd n r2 r3 L2 h3
          rw [← h.1, ← h.2, num_rd h1, id_rd h2, e1, sgL, List.length_cons, e2]
          refine ⟨?_, rfl⟩
          simp only [List.append_assoc]
          rfl
theorem zip_fs (L : List Sg) : (L.map Prod.fst).zip (L.map Prod.snd) = L := by
  induction L with
  | nil => rfl
  | cons x l ih => rw [List.map_cons, List.map_cons, List.zip_cons_cons, ih]
theorem read_only {l : List UInt8} {s : Sp} (h : spRead l = some s) : spEncL s = l := by
  unfold spRead at h
  cases h1 : rdText l with
  | none => simp [h1] at h
  | some y =>
    obtain ⟨a, r1⟩ := y
    simp only [h1] at h
    cases h2 : rdText r1 with
    | none => simp [h2] at h
    | some y =>
      obtain ⟨o, r2⟩ := y
      simp only [h2] at h
      cases h3 : rdText r2 with
      | none => simp [h3] at h
      | some y =>
        obtain ⟨n, r3⟩ := y
        simp only [h3] at h
        cases h4 : rdNum r3 with
        | none => simp [h4] at h
        | some y =>
          obtain ⟨k, r4⟩ := y
          simp only [h4] at h
          cases h5 : rdSgs k r4 with
          | none => simp [h5] at h
          | some y =>
            obtain ⟨L, r5⟩ := y
            simp only [h5] at h
            by_cases hr : r5 = []
            · rw [if_pos hr] at h
              cases h
              obtain ⟨e1, e2⟩ := sgs_rd k r4 r5 L h5
              rw [text_rd h1, text_rd h2, text_rd h3, num_rd h4, e1, hr]
              unfold spEncL chL Sp.prs
              simp only [zip_fs, List.length_map, e2, List.append_assoc, List.append_nil]
            · rw [if_neg hr] at h; cases h
theorem spdec_back {s : Sp} (h : spGood s = 0) : spDec (bs (spEncL s)) = (s, 0) := by
  unfold spDec
  rw [bs_list]
  have := read_back h []
  rw [List.append_nil, if_pos rfl] at this
  rw [this]
  simp only
  rw [if_neg (by simp [h])]
theorem spdec_more {s : Sp} (h : spGood s = 0) : spDec (bs (spEncL s) ++ ⟨#[120]⟩) = (spZ, 2) := by
  unfold spDec
  rw [append_list, bs_list, read_back h, if_neg (by simp)]
theorem spdec_only {b : ByteArray} (h : (spDec b).2 = 0) : spGood (spDec b).1 = 0 ∧ bs (spEncL (spDec b).1) = b := by
  unfold spDec at h ⊢
  cases h1 : spRead b.data.toList with
  | none => rw [h1] at h; cases h
  | some s =>
    rw [h1] at h
    simp only at h ⊢
    by_cases hg : spGood s = 0
    · rw [if_neg (by simp [hg])]
      refine ⟨hg, ?_⟩
      show bs (spEncL s) = b
      rw [read_only h1, bs_of]
    · rw [if_pos hg] at h
      exact absurd h hg
theorem spdec_no {b : ByteArray} (h : (spDec b).2 ≠ 0) : (spDec b).1 = spZ := by
  unfold spDec at h ⊢
  cases h1 : spRead b.data.toList with
  | none => rfl
  | some s =>
    rw [h1] at h
    simp only at h ⊢
    by_cases hg : spGood s = 0
    · rw [if_neg (by simp [hg])] at h; exact absurd rfl h
    · rw [if_pos hg]
theorem enc_len {s : Sp} (h : spGood s = 0) : (spEncL s).length ≤ 20000 := by
  obtain ⟨h1, h2, h3⟩ := spGood_short h
  obtain ⟨_, h8, hl, hg⟩ := spGood_ok h
  have hall : ∀ x ∈ s.prs, 0 ≤ x.1 ∧ x.1 ≤ 7 ∧ x.2.size = 32 := fun x hx => by
    have := gdS_low _ _ hg x hx
    omega
  have n1 := txt_len s.ref (by omega)
  have n2 := txt_len s.old (by omega)
  have n3 := txt_len s.new (by omega)
  have n4 := num_len9 s.seals.length (by omega)
  have n5 := sgL_len s.prs hall
  rw [prs_len hl] at n5
  unfold spEncL chL
  simp only [List.length_append]
  omega
end Go.Proofs.YtchpgngphgjmnaaDoor

/- A valid step's body; a region that draws its order. -/
namespace Go.Proofs.YtchpgngphgjmnaaDoor
open Go.RowKit

theorem spGB_small (i : Int) (s : Sp) (_ : (spGB i s).2 = 0) : (spGB i s).1.size ≤ 20000 := by
  unfold spGB
  split
  · exact Nat.zero_le _
  · unfold spBody
    split
    · exact Nat.zero_le _
    · split
      · exact Nat.zero_le _
      · rename_i h2
        unfold spLong at h2
        have := num_len9 i.toNat (by omega)
        have := txt_len s.ref (by omega)
        have := txt_len s.old (by omega)
        have := txt_len s.new (by omega)
        simp only [bs_size, spBodyL, List.length_append]
        omega
theorem spGB_good {i : Int} {s : Sp} (h : (spGB i s).2 = 0) : spGood s = 0 := by
  unfold spGB at h
  by_cases hg : spGood s = 0
  · exact hg
  · rw [if_pos hg] at h
    exact h
/-- a region that draws its order: whatever the order, the same act and a world of this kind -/
theorem wp_met {P : Program} {c : Code} {K : Act → World → Prop} {Q : Exit → Act → World → Prop} {a : Act} {w : World} {act : Option Addr → Nat → World → Act} (R : Option Addr → Nat → World → Prop)
    (h : ∀ K' : Act → World → Prop, (∀ A c U V, R A c V → K' (act A c U) V) → c.wp P (Exit.then K' Q) a w) (k : ∀ A c U V, R A c V → Exit.then K Q .normal (act A c U) V) : c.wp P (Exit.then K Q) a w := h K k
theorem wp_meet {P : Program} {c : Code} {K : Act → World → Prop} {Q : Exit → Act → World → Prop} {a : Act} {w : World} {act : World → Act} (R : World → Prop)
    (h : ∀ K' : Act → World → Prop, (∀ U V, R V → K' (act U) V) → c.wp P (Exit.then K' Q) a w) (k : ∀ U V, R V → Exit.then K Q .normal (act U) V) : c.wp P (Exit.then K Q) a w := h K k
theorem below_cell {V : World} {p : Addr} {u : Value} (h : V.cell? p = some u) (hl : p.block < V.heap.size) {o : Obj} : (V.alloc o).drew.cell? p = some u := (((Below.refl V.heap.size V).alloc (Nat.le_refl _) o).cell hl).trans h
end Go.Proofs.YtchpgngphgjmnaaDoor

/- What Sign and Check answer of valid steps: plain. -/
namespace Go.Proofs.YtchpgngphgjmnaaDoor
open Go.RowKit

section
variable {s : Sp} {i x : Int} {key t : ByteArray} {K : List ByteArray} {need : Int}
theorem gb_ok (h : spGood s = 0) (h0 : 0 ≤ i) (h1 : i ≤ 199) : spGB i s = (bs (spBodyL i.toNat s), 0) := by
  unfold spGB spBody
  rw [if_neg (by simp [h]), if_neg (by omega), if_neg (spGood_long h)]
theorem gb_no (h : spGood s = 0) (h0 : i < 0 ∨ 199 < i) : spGB i s = (⟨#[]⟩, 3) := by
  unfold spGB spBody
  rw [if_neg (by simp [h]), if_pos h0]
theorem sign_ok (h : spGood s = 0) (h0 : 0 ≤ i) (h1 : i ≤ 199) (hx : 0 ≤ x) (hx7 : x ≤ 7) (hn : x ∉ s.who) : spSign s i x key = (spPut s x (sealB key (bs (spBodyL i.toNat s))), 0) := by
  unfold spSign
  rw [gb_ok h h0 h1, if_neg (by simp), if_neg (by omega), if_neg hn]
theorem sign_ok_iff : (spSign s i x key).2 = 0 → spGood s = 0 ∧ 0 ≤ i ∧ i ≤ 199 ∧ 0 ≤ x ∧ x ≤ 7 ∧ x ∉ s.who := by
  intro h
  unfold spSign at h
  by_cases hg : (spGB i s).2 = 0
  · rw [if_neg (by simp [hg])] at h
    by_cases hx : x < 0 ∨ 7 < x
    · rw [if_pos hx] at h; cases h
    · rw [if_neg hx] at h
      by_cases hm : x ∈ s.who
      · rw [if_pos hm] at h; cases h
      · have hgd := spGB_good hg
        by_cases hi : i < 0 ∨ 199 < i
        · rw [gb_no hgd hi] at hg; cases hg
        · exact ⟨hgd, by omega, by omega, by omega, by omega, hm⟩
  · rw [if_pos hg] at h
    exact absurd h hg
theorem check_eq (h : spGood s = 0) (h0 : 0 ≤ i) (h1 : i ≤ 199) : spCheck K need i s = if s.prs.all (okSg K (bs (spBodyL i.toNat s))) && decide (need ≤ s.seals.length) then 0 else 13 := by
  unfold spCheck
  rw [gb_ok h h0 h1, if_neg (by simp)]
theorem sealB_size (key b : ByteArray) : (sealB key b).size = 32 := by
  unfold sealB
  rw [bs_size]
  exact sha_length _
theorem put_body (j : Nat) : spBodyL j (spPut s x t) = spBodyL j s := rfl
/-- Sign keeps a step valid -/
theorem sign_good (h : spGood s = 0) (hx : 0 ≤ x) (hx7 : x ≤ 7) (hn : x ∉ s.who) (b : ByteArray) : spGood (spPut s x (sealB key b)) = 0 ∧ (spPut s x (sealB key b)).prs = putP x (sealB key b) s.prs ∧ (spPut s x (sealB key b)).who.length = s.who.length + 1 ∧ (spPut s x (sealB key b)).seals.length = s.who.length + 1 :=
  put_good h hx hx7 (sealB_size _ _) hn
end
/-- the step, the keys that steps() asks -/
def sp0 : Sp := ⟨⟨#[97]⟩, ⟨#[]⟩, ⟨#[48, 49, 50, 51, 52, 53, 54, 55, 56, 57, 97, 98, 99, 100, 101, 102, 48, 49, 50, 51, 52, 53, 54, 55, 56, 57, 97, 98, 99, 100, 101, 102]⟩, [], []⟩
theorem sp0_good : spGood sp0 = 0 := by decide +kernel
theorem steps_sign : spSign sp0 0 1 ⟨#[107]⟩ = (spPut sp0 1 (sealB ⟨#[107]⟩ (bs (spBodyL 0 sp0))), 0) := sign_ok sp0_good (by decide) (by decide) (by decide) (by decide) (by decide)
theorem steps_check : spCheck [⟨#[]⟩, ⟨#[107]⟩] 1 0 (spPut sp0 1 (sealB ⟨#[107]⟩ (bs (spBodyL 0 sp0)))) = 0 := by
  obtain ⟨h1, h2, _, h4⟩ := sign_good (key := ⟨#[107]⟩) sp0_good (x := 1) (by decide) (by decide) (by decide) (bs (spBodyL 0 sp0))
  rw [check_eq h1 (by decide) (by decide), h2, h4]
  rw [put_body]
  have e : sp0.prs = [] := rfl
  rw [e]
  show (if ([((1 : Int), sealB ⟨#[107]⟩ (bs (spBodyL 0 sp0)))].all (okSg [⟨#[]⟩, ⟨#[107]⟩] (bs (spBodyL (0 : Int).toNat sp0))) && decide ((1 : Int) ≤ ((0 + 1 : Nat) : Int))) = true then (0 : Int) else 13) = 0
  simp [okSg]
end Go.Proofs.YtchpgngphgjmnaaDoor
