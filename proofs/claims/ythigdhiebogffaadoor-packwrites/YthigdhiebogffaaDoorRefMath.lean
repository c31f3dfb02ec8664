/- Texts in one: PMay, RefMath. -/
import Derived.Test.YthigdhiebogffaaDoorORef
import Derived.Test.YthigdhiebogffaaDoorORefSame
import Derived.Test.YthigdhiebogffaaDoorShb
/- ref.MayPack: its contract. -/
namespace Go.Proofs.YthigdhiebogffaaDoor
open Go.RowKit

def MyRel (l : List ByteArray) (w : World) (i : Value) (wr : World) : Prop :=
  ∃ k : Nat, k ≤ l.length ∧ i = .int .i64 (k : Int) ∧ mayE [] l = mayE (l.take k) (l.drop k) ∧ Below w.heap.size w wr
set_option maxRecDepth 100000 in
set_option maxHeartbeats 2000000 in
theorem MayPack_any (l O : List ByteArray) (lA oA : Option Addr) (lcp oc : Nat) (w : World) (hl : Txs w w.heap.size lA l) (hlc : l.length ≤ lcp) (hll : l.length ≤ 140737488355328) (hol : O.length ≤ 140737488355328) :
    Calls Tryd.prog 14 #[.slice lA l.length lcp, .slice oA O.length oc] w fun e w' => e = .returned (.int .i64 (mayP l O)) ∧ Below w.heap.size w w' := by
  obtain ⟨R, hR⟩ : ∃ R, R = mayP l O := ⟨_, rfl⟩
  rw [← hR]
  unfold mayP at hR
  by_cases h1 : 400 < l.length
  · rw [if_pos (.inl h1)] at hR
    subst hR
    have hi : (400 : Int) < l.length := by omega
    go_enter Tryd.func14, Tryd.ntmps14
    go_wp2_with fail
    go_ret
    exact ⟨rfl, Below.refl _ _⟩
  have hi : ¬ (400 : Int) < l.length := by omega
  by_cases h2 : 400 < O.length
  · rw [if_pos (.inr h2)] at hR
    subst hR
    have hi2 : (400 : Int) < O.length := by omega
    go_enter Tryd.func14, Tryd.ntmps14
    go_wp2_with fail
    go_ret
    exact ⟨rfl, Below.refl _ _⟩
  have hi2 : ¬ (400 : Int) < O.length := by omega
  rw [if_neg (by omega)] at hR
  have HR := Lib.hid hR
  clear hR
  go_enter Tryd.func14, Tryd.ntmps14
  go_wp2_with fail
  go_loopw [21] (fun i wr => MyRel l w i wr) (fun i _ => l.length - (intOf i).toNat)
  case atStart => exact ⟨0, Nat.zero_le _, rfl, rfl, Below.refl _ _⟩
  case round =>
    obtain ⟨k, hk, rfl, hm, bel⟩ := hrel
    by_cases hlt : k < l.length
    · have hj : (k : Int) < l.length := by omega
      have hx : l[k]? = some l[k] := List.getElem?_eq_getElem hlt
      obtain ⟨ad, hA, hbl, h0⟩ := hl k l[k] hx
      subst hA
      have g0 := (bel.cell hbl).trans h0
      have HM := Lib.hid (may_next hx hm)
      have CD := Lib.hid (RefDecode_any l[k] wr)
      have HA : Hid (addP (l.take k) l[k] = if (decO l[k].data.toList).2 ≠ 0 then (decO l[k].data.toList).2 else if amid (l.take k) l[k] then 8 else 0) := rfl
      clear hx hm h0
      generalize l[k] = s at *
      generalize (decO s.data.toList).1 = o at *
      generalize (decO s.data.toList).2 = e at *
      go_wp2_with fail
      (with_reducible refine CD.out.mono ?_)
      clear CD g0
      rintro _ W6 ⟨p6, rfl, i6, b6⟩
      have bb : Below wr.heap.size wr ((W6.alloc (.cells zeroO 60)).setRow W6.heap.size (obArr o p6)) := b6.trans ((below_setRow ((Below.refl _ _).alloc (Nat.le_refl _) _) (Nat.le_refl _) _).mono b6.size)
      go_upto_region 7 with (refine wpList_store_row rfl 60 _ _ rfl W6.heap.size (obArr o p6) rfl rfl 60 zeroO (Arr.new W6 _ _) (obInfo _ _) rfl (obArr_one _ _) ?_)
      refine wp_forget (fun V => Below w.heap.size w V) (by exact bel.trans (bb.mono bel.size)) ?_
      clear bb b6 i6 bel
      generalize W6.heap.size = gx
      clear W6
      intro V bel
      by_cases he : e ≠ 0
      · have hA := HA.out
        rw [if_pos he] at hA
        have hRR := HR.out
        rw [HM.out, hA, if_pos he] at hRR
        have he' : (e != 0) = true := by simpa using he
        have HR2 := Lib.hid hRR
        clear hRR hA HA HM HR he
        go_wp2_with fail
        go_ret
        exact ⟨by rw [HR2.out]; rfl, bel⟩
      have he0 : e = 0 := by omega
      subst he0
      have hA := HA.out
      rw [if_neg he] at hA
      clear HA he
      have HA := Lib.hid hA
      clear hA
      have hj2 : (k : Int) ≤ lcp := by omega
      have hj3 : (0 : Int) ≤ k := by omega
      go_wp2_with fail
      go_loopw [38] (fun i wr => ∃ j : Nat, j ≤ k ∧ i = .int .i64 (j : Int) ∧ wr = V ∧ ∀ x ∈ (l.take k).take j, x ≠ s) (fun i _ => k - (intOf i).toNat)
      case atStart => exact ⟨0, Nat.zero_le _, rfl, rfl, fun x hx => by simp at hx⟩
      case round =>
        obtain ⟨j, hjk, rfl, rfl, hall⟩ := hrel
        have HAll := Lib.hid hall
        clear hall
        by_cases hjt : j < k
        · have hi9 : (j : Int) < k := by omega
          have hjl : j < l.length := by omega
          have hx : l[j]? = some l[j] := List.getElem?_eq_getElem hjl
          obtain ⟨ad2, hA2, hbl2, h1⟩ := hl j l[j] hx
          cases hA2
          have g1 := (bel.cell hbl2).trans h1
          have hxt : (l.take k)[j]? = some l[j] := by rw [List.getElem?_take_of_lt hjt]; exact hx
          have HNx := Lib.hid (take_next hxt)
          have HMem := Lib.hid (List.mem_of_getElem? hxt)
          clear h1 hx hxt
          generalize l[j] = x at *
          cases hq : x.toList == s.toList
          · have hne : x ≠ s := fun e => by rw [e] at hq; simp at hq
            have HA2 : Hid (∀ y ∈ (l.take k).take (j + 1), y ≠ s) := fun y hy => by
              rw [HNx.out] at hy
              rcases List.mem_append.1 hy with h | h
              · exact HAll.out y h
              · rw [List.mem_singleton.1 h]; exact hne
            clear HAll HNx HMem hne
            go_wp2_with fail
            go_roundw
            case rel => exact ⟨j + 1, hjt, by rw [Int.natCast_add]; rfl, (by first | rfl | trivial), HA2.out⟩
            case measure => simp [intOf]; omega
          · have hex : x = s := (eqB_iff x s).1 hq
            have hA := HA.out
            rw [if_pos (amid_iff.2 (by rw [← hex]; exact HMem.out))] at hA
            have hRR := HR.out
            rw [HM.out, hA, if_pos (by decide)] at hRR
            have HR2 := Lib.hid hRR
            clear hRR hA HA HM HR HAll HNx HMem hex
            go_wp2_with fail
            go_ret
            exact ⟨by rw [HR2.out]; rfl, bel⟩
        · obtain rfl : j = k := by omega
          have hi9 : ¬ (j : Int) < j := by omega
          have hno : amid (l.take j) s = false := by
            cases hm : amid (l.take j) s with
            | false => rfl
            | true => exact absurd rfl (HAll.out s (by rw [List.take_of_length_le (by rw [List.length_take]; omega)]; exact amid_iff.1 hm))
          have hA := HA.out
          rw [hno, if_neg (by decide)] at hA
          have hmm := HM.out
          rw [hA, if_neg (by simp)] at hmm
          have HM2 := Lib.hid hmm
          clear hmm hA HA HM HAll hno
          go_wp2_with fail
          go_roundw
          case rel => exact ⟨j + 1, hlt, by rw [Int.natCast_add]; rfl, HM2.out, bel⟩
          case measure => simp [intOf]; omega
    · obtain rfl : k = l.length := by omega
      have hj : ¬ (l.length : Int) < l.length := by omega
      rw [List.take_length, List.drop_length] at hm
      have hRR := HR.out
      rw [hm] at hRR
      have hR0 : R = 0 := hRR
      subst hR0
      clear hm hRR HR
      go_wp2_with fail
      go_ret
      exact ⟨rfl, bel⟩
end Go.Proofs.YthigdhiebogffaaDoor

/- Plain mathematics of the document's own reckoning: a ring of sixteen words; the choice and the majority in other words. No program is named here. -/
namespace Go.Proofs.YthigdhiebogffaaDoor

theorem sched_keep (l : List UInt8) (n : Nat) : ∀ d i, i < n + 16 → (schedTo l (n + d)).getD i 0 = (schedTo l n).getD i 0 := by
  intro d
  induction d with
  | zero => intro i _; rfl
  | succ d ih =>
    intro i hi
    rw [← Nat.add_assoc, schedTo, List.getD_eq_getElem?_getD, List.getElem?_set_ne (by omega), ← List.getD_eq_getElem?_getD]
    exact ih i hi
theorem sched_rec (l : List UInt8) (n : Nat) (h : n < 48) : (schedTo l 48).getD (n + 16) 0 =
    (schedTo l 48).getD n 0 + sig0 ((schedTo l 48).getD (n + 1) 0) + (schedTo l 48).getD (n + 9) 0 + sig1 ((schedTo l 48).getD (n + 14) 0) := by
  have k := fun i hi => sched_keep l n (48 - n) i hi
  have k1 := sched_keep l (n + 1) (48 - (n + 1)) (n + 16) (by omega)
  rw [show n + (48 - n) = 48 from by omega] at k
  rw [show n + 1 + (48 - (n + 1)) = 48 from by omega] at k1
  rw [k n (by omega), k (n + 1) (by omega), k (n + 9) (by omega), k (n + 14) (by omega), k1, schedTo, List.getD_eq_getElem?_getD, List.getElem?_set_self (by rw [schedTo_length]; omega)]
  rfl

/-- which word lies at place j of the ring, m words having been taken in -/
def idx (m j : Nat) : Nat := m - 1 - (m - 1 - j) % 16
def ring (S : List UInt32) (m : Nat) : List UInt32 := (List.range 16).map fun j => S.getD (idx m j) 0
theorem ring_length (S : List UInt32) (m : Nat) : (ring S m).length = 16 := by simp [ring]
theorem ring_at (S : List UInt32) (m j : Nat) (h : j < 16) : (ring S m).getD j 0 = S.getD (idx m j) 0 := by
  simp [ring, h]
theorem ring_first (S : List UInt32) (h : S.length = 64) : ring S 16 = S.take 16 := by
  apply List.ext_getElem?
  intro j
  by_cases hj : j < 16
  · have e : idx 16 j = j := by unfold idx; omega
    simp [ring, hj, e]
    rw [List.getElem?_eq_getElem (by omega)]
    rfl
  · rw [List.getElem?_eq_none (by rw [ring_length]; omega), List.getElem?_eq_none (by simp; omega)]
theorem ring_own (S : List UInt32) (i : Nat) (h : 16 ≤ i) : (ring S i).getD (i % 16) 0 = S.getD (i - 16) 0 := by
  rw [ring_at _ _ _ (by omega)]; congr 1; unfold idx; omega
theorem ring_1 (S : List UInt32) (i : Nat) (h : 16 ≤ i) : (ring S i).getD ((i + 1) % 16) 0 = S.getD (i - 15) 0 := by
  rw [ring_at _ _ _ (by omega)]; congr 1; unfold idx; omega
theorem ring_9 (S : List UInt32) (i : Nat) (h : 16 ≤ i) : (ring S i).getD ((i + 9) % 16) 0 = S.getD (i - 7) 0 := by
  rw [ring_at _ _ _ (by omega)]; congr 1; unfold idx; omega
theorem ring_14 (S : List UInt32) (i : Nat) (h : 16 ≤ i) : (ring S i).getD ((i + 14) % 16) 0 = S.getD (i - 2) 0 := by
  rw [ring_at _ _ _ (by omega)]; congr 1; unfold idx; omega
theorem ring_next (S : List UInt32) (i : Nat) (h : 16 ≤ i) : (ring S i).set (i % 16) (S.getD i 0) = ring S (i + 1) := by
  apply List.ext_getElem?
  intro j
  rw [List.getElem?_set, ring_length]
  by_cases hj : j < 16
  · by_cases e : i % 16 = j
    · subst e
      have e2 : idx (i + 1) (i % 16) = i := by unfold idx; omega
      simp [ring, hj, e2]
    · have e2 : idx (i + 1) j = idx i j := by unfold idx; omega
      simp [ring, hj, e, e2]
  · rw [if_neg (by omega), List.getElem?_eq_none (by rw [ring_length]; omega), List.getElem?_eq_none (by rw [ring_length]; omega)]
theorem ring_new (S : List UInt32) (i : Nat) : (ring S (i + 1)).getD (i % 16) 0 = S.getD i 0 ∨ i < 16 := by
  by_cases h : i < 16
  · exact .inr h
  · rw [ring_at _ _ _ (by omega)]; left; congr 1; unfold idx; omega

theorem choice_eq (e f g : UInt32) : g ^^^ (e &&& (f ^^^ g)) = (e &&& f) ^^^ (~~~e &&& g) := by
  apply UInt32.toBitVec_inj.1
  apply BitVec.eq_of_getLsbD_eq
  intro i hi
  simp only [UInt32.toBitVec_xor, UInt32.toBitVec_and, UInt32.toBitVec_not, BitVec.getLsbD_xor, BitVec.getLsbD_and, BitVec.getLsbD_not, hi, decide_true, Bool.true_and]
  generalize e.toBitVec.getLsbD i = a
  generalize f.toBitVec.getLsbD i = b
  generalize g.toBitVec.getLsbD i = c
  cases a <;> cases b <;> cases c <;> rfl
theorem major_eq (a b c : UInt32) : (a &&& b) ||| (c &&& (a ||| b)) = (a &&& b) ^^^ (a &&& c) ^^^ (b &&& c) := by
  apply UInt32.toBitVec_inj.1
  apply BitVec.eq_of_getLsbD_eq
  intro i hi
  simp only [UInt32.toBitVec_xor, UInt32.toBitVec_and, UInt32.toBitVec_or, BitVec.getLsbD_xor, BitVec.getLsbD_and, BitVec.getLsbD_or]
  generalize a.toBitVec.getLsbD i = x
  generalize b.toBitVec.getLsbD i = y
  generalize c.toBitVec.getLsbD i = z
  cases x <;> cases y <;> cases z <;> rfl
/-- the round in the document's own words -/
theorem round_ref (k w : UInt32) (s : H8) :
    s.h + (rotr s.e 6 ^^^ rotr s.e 11 ^^^ rotr s.e 25) + (s.g ^^^ (s.e &&& (s.f ^^^ s.g))) + k + w = rx k w s ∧
    rx k w s + (rotr s.a 2 ^^^ rotr s.a 13 ^^^ rotr s.a 22) + ((s.a &&& s.b) ||| (s.c &&& (s.a ||| s.b))) = (round k w s).a := by
  constructor
  · rw [choice_eq]; rfl
  · rw [major_eq, UInt32.add_assoc]; rfl
end Go.Proofs.YthigdhiebogffaaDoor
