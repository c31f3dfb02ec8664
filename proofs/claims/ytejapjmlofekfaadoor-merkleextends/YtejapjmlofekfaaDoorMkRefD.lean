/- Texts in one: MkRefB, MkRefC, MkRefD. -/
import Derived.Test.YtejapjmlofekfaaDoorMkRefA
import Derived.Test.YtejapjmlofekfaaDoorOSame
import Derived.Deep.CutBlock
/- ref.Check: its contract. -/
namespace Go.Proofs.YtejapjmlofekfaaDoor
open Go.RowKit

/-- where the document's Check stands: k sums of the path are used -/
def CkRel (root lf : ByteArray) (a0 z0 : Nat) (P : List ByteArray) (w : World) (r a z i : Value) (wr : World) : Prop :=
  ∃ (k : Nat) (r' : ByteArray) (a' z' : Nat), r = .string r' ∧ a = .int .i64 (a' : Int) ∧ z = .int .i64 (z' : Int) ∧ i = .int .i64 (k : Int) ∧ k ≤ P.length ∧ a' ≤ z' ∧ z' ≤ z0 ∧ r'.size ≤ 140737488355328 ∧
    ((P.length = (sidesU a0 z0).length ∧ foldD (sidesU a0 z0) P lf = root) ↔ ((P.drop k).length = (sidesU a' z').length ∧ foldD (sidesU a' z') (P.drop k) r' = root)) ∧ Below w.heap.size w wr
/-- where the stripping stands -/
def EvRel (a0 z0 : Nat) (wr : World) (a z : Value) (W : World) : Prop :=
  ∃ a' z' : Nat, a = .int .i64 (a' : Int) ∧ z = .int .i64 (z' : Int) ∧ evS a0 z0 = evS a' z' ∧ a' ≤ a0 ∧ z' ≤ z0 ∧ W = wr
theorem sidesU_step {a z : Nat} {P : List ByteArray} {p r root : ByteArray} {c : Bool} {cs : List Bool} (h : sidesU a z = c :: cs) :
    ((p :: P).length = (sidesU a z).length ∧ foldD (sidesU a z) (p :: P) r = root) ↔ (P.length = cs.length ∧ foldD cs P (stepD c p r) = root) := by
  rw [h]
  simp [foldD]
set_option maxRecDepth 100000 in
set_option maxHeartbeats 2000000 in
theorem refCheck_in (root s : ByteArray) (n i : Nat) (P : List ByteArray) (hn : n ≤ 1099511627776) (hi : i < n) (hsz : s.size ≤ 140737488355328) (hs : Short P) (hm : P.length ≤ 140737488355328) (A : Option Addr) (c : Nat) (w : World) (hT : Txs w w.heap.size A P) :
    Calls Tryd.prog 21 #[.string root, .int .i64 (n : Int), .int .i64 (i : Int), .string s, .slice A P.length c] w (BEnd w (checkD root (n : Int) (i : Int) s P)) := by
  have HK : Hid (checkD root n i s P = decide (P.length = (sidesU i (n - 1)).length ∧ foldD (sidesU i (n - 1)) P (leafD s) = root)) := by
    show _ = _
    unfold checkD
    congr 1
    apply propext
    simp only [Int.toNat_natCast]
    rw [sidesN_up n n i (Nat.le_refl _) hi]
    exact ⟨fun ⟨_, _, _, _, e⟩ => e, fun e => ⟨by omega, by omega, by omega, by omega, e⟩⟩
  have C0 := Lib.hid (refLeaf_any s (by omega) w)
  have zl := leafD_small s
  generalize leafD s = lf at *
  have a1 : ¬ (n : Int) < 1 := by omega
  have a2 : ¬ 1099511627776 < (n : Int) := by omega
  have a4 : ¬ (n : Int) ≤ i := by omega
  have h1 : ∀ W, Below w.heap.size w W → Hid (CkRel root lf i (n - 1) P w (.string lf) (.int .i64 (i : Int)) (.int .i64 ((n : Int) - 1)) (.int .i64 0) W) := fun W b => ⟨0, lf, i, n - 1, rfl, rfl, by congr 1; omega, rfl, Nat.zero_le _, by omega, Nat.le_refl _, zl, by rw [List.drop_zero], b⟩
  have HT := Lib.hid hT
  clear hT
  go_enter Tryd.func21, Tryd.ntmps21
  go_wp2_with fail
  (with_reducible refine C0.out.mono ?_)
  rintro _ w1 ⟨rfl, b1⟩
  have HR := h1 w1 b1
  clear h1
  go_wp2_with fail
  go_loopw [11, 12, 13, 38] (fun r a z i' wr => CkRel root lf i (n - 1) P w r a z i' wr) (fun _ _ _ i' _ => P.length - (intOf i').toNat)
  case atStart => exact HR.out
  case round =>
    clear HR
    obtain ⟨k, r', a', z', rfl, rfl, rfl, rfl, hk, haz, hz0, hr', hiff, hB⟩ := hrel
    have HI := Lib.hid hiff
    clear hiff
    by_cases hlt : k < P.length
    · have hk2 : (k : Int) < P.length := by omega
      have hx : P[k]? = some P[k] := List.getElem?_eq_getElem hlt
      obtain ⟨ad, rfl, hbl, h0⟩ := HT.out _ _ hx
      have g0 := (hB.cell hbl).trans h0
      have hps := hs _ (List.getElem_mem hlt)
      have HD := Lib.hid (List.drop_eq_getElem_cons hlt)
      clear hx h0
      generalize P[k] = p at *
      by_cases hz : z' = 0
      · subst hz
        have HF : Hid (checkD root n i s P = false) := by
          show _ = _
          rw [HK.out]
          refine decide_eq_false (fun h => ?_)
          have := (HI.out.1 h).1
          rw [HD.out, sidesU_end] at this
          simp at this
        go_wp2_with fail
        go_ret
        exact ⟨by rw [HF.out]; rfl, hB⟩
      · have hzi : ((z' : Int) == 0) = false := by rw [beq_eq_false_iff_ne]; omega
        by_cases hl : a' % 2 = 1 ∨ a' = z'
        · have HS := Lib.hid (sidesU_left (a := a') (z := z') (by omega) hl)
          have CT := Lib.hid (refTwo_any p r' (by omega) (by omega) wr)
          have hev := evS_le a' a' z' (Nat.le_refl _) haz
          have hE : ∀ W, Hid (EvRel a' z' W (.int .i64 (a' : Int)) (.int .i64 (z' : Int)) W) := fun W => ⟨a', z', rfl, rfl, rfl, Nat.le_refl _, Nat.le_refl _, rfl⟩
          have HI3 : Hid (∀ a2 z2, evS a' z' = evS a2 z2 → (a2 % 2 = 1 ∨ a2 = 0) → a2 ≤ z2 ∧ ((P.length = (sidesU i (n - 1)).length ∧ foldD (sidesU i (n - 1)) P lf = root) ↔ ((P.drop (k + 1)).length = (sidesU (a2 / 2) (z2 / 2)).length ∧ foldD (sidesU (a2 / 2) (z2 / 2)) (P.drop (k + 1)) (nodeD p r') = root))) := fun a2 z2 he hs2 => by
            rw [he, evS_no hs2] at HS hev
            refine ⟨hev.1, ?_⟩
            rw [HI.out, HD.out, sidesU_step HS.out]; rfl
          clear HI HD HS hev
          have hodd : ((a' : Int) % 2 == 1) = true ∨ (((a' : Int) % 2 == 1) = false ∧ ((a' : Int) == z') = true) := by
            by_cases ha : a' % 2 = 1
            · exact .inl (by rw [beq_iff_eq]; omega)
            · exact .inr ⟨by rw [beq_eq_false_iff_ne]; omega, by rw [beq_iff_eq]; omega⟩
          have zn := nodeD_small p r'
          generalize nodeD p r' = q at *
          clear hl hz hs HK
          rcases hodd with o1 | ⟨o1, o2⟩
          all_goals
            go_wp2_with fail
            (with_reducible refine CT.out.mono ?_)
            rintro _ w2 ⟨rfl, b3⟩
            have HE2 := hE w2
            have B3 := Lib.hid (hB.trans (b3.mono hB.size))
            clear b3 hE CT g0
            go_wp2_with fail
            go_loopw [12, 13] (fun a z W => EvRel a' z' w2 a z W) (fun a _ _ => (intOf a).toNat)
            case atStart => exact HE2.out
            case round =>
              clear HE2
              obtain ⟨a2, z2, rfl, rfl, he, l1, l2, rfl⟩ := hrel
              have HE := Lib.hid he
              clear he
              by_cases hst : a2 % 2 = 0 ∧ 0 < a2
              · have s1 : ((a2 : Int) % 2 == 0) = true := by rw [beq_iff_eq]; omega
                have s2 : (0 : Int) < a2 := by omega
                have HN := Lib.hid (evS_yes hst.1 hst.2 z2)
                clear hst
                go_wp2_with fail
                refine ⟨⟨a2 / 2, z2 / 2, by congr 1, by congr 1, by rw [HE.out, HN.out], by omega, by omega, rfl⟩, by simp [intOf]; omega⟩
              · have hs2 : a2 % 2 = 1 ∨ a2 = 0 := by omega
                have HZ := Lib.hid (HI3.out a2 z2 HE.out hs2)
                clear hst HE HI3
                rcases hs2 with hs2 | hs2
                · have s1 : ((a2 : Int) % 2 == 0) = false := by rw [beq_eq_false_iff_ne]; omega
                  clear hs2
                  go_wp2_with fail
                  refine ⟨⟨k + 1, q, a2 / 2, z2 / 2, rfl, by congr 1, by congr 1, by go_num, by omega, by have := HZ.out.1; omega, by omega, zn, HZ.out.2, B3.out⟩, by simp [intOf]; omega⟩
                · subst hs2
                  go_wp2_with fail
                  refine ⟨⟨k + 1, q, 0 / 2, z2 / 2, rfl, by congr 1, by congr 1, by go_num, by omega, by have := HZ.out.1; omega, by omega, zn, HZ.out.2, B3.out⟩, by simp [intOf]; omega⟩
        · have HS := Lib.hid (sidesU_ev (a := a') (z := z') (by omega) (by omega) (by omega))
          have CT := Lib.hid (refTwo_any r' p (by omega) (by omega) wr)
          have b1 : ((a' : Int) % 2 == 1) = false := by rw [beq_eq_false_iff_ne]; omega
          have b2 : ((a' : Int) == z') = false := by rw [beq_eq_false_iff_ne]; omega
          go_wp2_with fail
          (with_reducible refine CT.out.mono ?_)
          rintro _ w2 ⟨rfl, b3⟩
          go_wp2_with fail
          refine ⟨⟨k + 1, nodeD r' p, a' / 2, z' / 2, rfl, by congr 1, by congr 1, by go_num, by omega, by omega, by omega, nodeD_small _ _, ?_, hB.trans (b3.mono hB.size)⟩, by simp [intOf]; omega⟩
          rw [HI.out, HD.out, sidesU_step HS.out]; rfl
    · obtain rfl : k = P.length := by omega
      have hk2 : ¬ ((P.length : Int) < P.length) := by omega
      have HI2 : Hid (decide (P.length = (sidesU i (n - 1)).length ∧ foldD (sidesU i (n - 1)) P lf = root) = decide (z' = 0 ∧ r' = root)) := by
        show _ = _
        congr 1
        apply propext
        rw [HI.out, List.drop_length]
        by_cases hz : z' = 0
        · subst hz
          rw [sidesU_end]
          exact ⟨fun h => ⟨rfl, h.2⟩, fun h => ⟨rfl, h.2⟩⟩
        · have hne := sidesU_none (a := a') (z := z') (by omega) haz
          constructor
          · rintro ⟨h, _⟩
            exact absurd (List.eq_nil_of_length_eq_zero h.symm) hne
          · rintro ⟨h, _⟩
            exact absurd h hz
      clear HT
      by_cases hz : z' = 0
      · have hzi : ((z' : Int) == 0) = true := by rw [beq_iff_eq]; omega
        cases hq : r'.toList == root.toList
        · have HF : Hid (checkD root n i s P = false) := by
            show _ = _
            rw [HK.out, HI2.out]; exact decide_eq_false (fun h => ne_toList hq h.2)
          clear hz
          go_wp2_with fail
          go_ret
          exact ⟨by rw [HF.out]; rfl, hB⟩
        · have HF : Hid (checkD root n i s P = true) := by
            show _ = _
            rw [HK.out, HI2.out]; exact decide_eq_true ⟨hz, eq_toList hq⟩
          clear hz
          go_wp2_with fail
          go_ret
          exact ⟨by rw [HF.out]; rfl, hB⟩
      · have hzi : ((z' : Int) == 0) = false := by rw [beq_eq_false_iff_ne]; omega
        have HF : Hid (checkD root n i s P = false) := by
          show _ = _
          rw [HK.out, HI2.out]; exact decide_eq_false (fun h => hz h.1)
        clear hz
        go_wp2_with fail
        go_ret
        exact ⟨by rw [HF.out]; rfl, hB⟩
set_option maxRecDepth 100000 in
theorem refCheck_no (root s : ByteArray) (n i : Int) (P : List ByteArray) (h : n < 1 ∨ 1099511627776 < n ∨ i < 0 ∨ n ≤ i) (A : Option Addr) (c : Nat) (w : World) :
    Calls Tryd.prog 21 #[.string root, .int .i64 n, .int .i64 i, .string s, .slice A P.length c] w (BEnd w (checkD root n i s P)) := by
  rw [checkD_no h]
  by_cases h0 : n < 1
  · clear h
    go_enter Tryd.func21, Tryd.ntmps21
    go_wp2_with fail
    go_ret
    exact ⟨rfl, Below.refl _ _⟩
  by_cases h1 : 1099511627776 < n
  · clear h
    go_enter Tryd.func21, Tryd.ntmps21
    go_wp2_with fail
    go_ret
    exact ⟨rfl, Below.refl _ _⟩
  by_cases h2 : i < 0
  · clear h
    go_enter Tryd.func21, Tryd.ntmps21
    go_wp2_with fail
    go_ret
    exact ⟨rfl, Below.refl _ _⟩
  have h3 : n ≤ i := by omega
  clear h
  go_enter Tryd.func21, Tryd.ntmps21
  go_wp2_with fail
  go_ret
  exact ⟨rfl, Below.refl _ _⟩
theorem refCheck_any (root s : ByteArray) (n i : Int) (P : List ByteArray) (hsz : s.size ≤ 140737488355328) (hs : Short P) (hm : P.length ≤ 140737488355328) (A : Option Addr) (c : Nat) (w : World) (hT : Txs w w.heap.size A P) :
    Calls Tryd.prog 21 #[.string root, .int .i64 n, .int .i64 i, .string s, .slice A P.length c] w (BEnd w (checkD root n i s P)) := by
  by_cases hno : n < 1 ∨ 1099511627776 < n ∨ i < 0 ∨ n ≤ i
  · exact refCheck_no root s n i P hno A c w
  obtain ⟨n', rfl⟩ : ∃ n' : Nat, n = (n' : Int) := ⟨n.toNat, by omega⟩
  obtain ⟨i', rfl⟩ : ∃ i' : Nat, i = (i' : Int) := ⟨i.toNat, by omega⟩
  exact refCheck_in root s n' i' P (by omega) (by omega) hsz hs hm A c w hT
end Go.Proofs.YtejapjmlofekfaaDoor

/- ref.Extends: its contract. -/
namespace Go.Proofs.YtejapjmlofekfaaDoor
open Go.RowKit

/-- where the document's Extends stands: k sums are used -/
def ExRel (old root hd : ByteArray) (a0 z0 : Nat) (Q : List ByteArray) (ad : Addr) (w : World) (x y a z i : Value) (wr : World) : Prop :=
  ∃ (k : Nat) (x' y' : ByteArray) (a' z' : Nat), x = .string x' ∧ y = .string y' ∧ a = .int .i64 (a' : Int) ∧ z = .int .i64 (z' : Int) ∧ i = .int .i64 (k : Int) ∧ k ≤ Q.length ∧ a' ≤ z' ∧ z' ≤ z0 ∧ x'.size ≤ 140737488355328 ∧ y'.size ≤ 140737488355328 ∧
    ((Q.length = (sidesU a0 z0).length ∧ foldG (sidesU a0 z0) Q (hd, hd) = (old, root)) ↔ ((Q.drop k).length = (sidesU a' z').length ∧ foldG (sidesU a' z') (Q.drop k) (x', y') = (old, root))) ∧ Below w.heap.size w wr ∧ Txs wr wr.heap.size (some ad) Q
theorem sidesU_stepG {a z : Nat} {P : List ByteArray} {p : ByteArray} {r t : ByteArray × ByteArray} {c : Bool} {cs : List Bool} (h : sidesU a z = c :: cs) :
    ((p :: P).length = (sidesU a z).length ∧ foldG (sidesU a z) (p :: P) r = t) ↔ (P.length = cs.length ∧ foldG cs P (stepG c p r) = t) := by
  rw [h]
  simp [foldG]
/-- where the stripping of odd places stands -/
def OdRel (m n : Nat) (w : World) (a z : Value) (W : World) : Prop :=
  ∃ a' z' : Nat, a = .int .i64 (a' : Int) ∧ z = .int .i64 (z' : Int) ∧ oddS (m - 1) (n - 1) = oddS a' z' ∧ a' < z' ∧ z' < n ∧ W = w
/-- the answer, by the first sum and the others -/
theorem ext_zero {old root : ByteArray} {m n z0 : Nat} {P : List ByteArray} (h0 : 0 < m) (hmn : m < n) (hn : n ≤ 1099511627776) (ho : oddS (m - 1) (n - 1) = (0, z0)) :
    extendsD old (m : Int) root (n : Int) P = decide (P.length = (sidesU 0 z0).length ∧ foldG (sidesU 0 z0) P (old, old) = (old, root)) := by
  unfold extendsD
  congr 1
  apply propext
  simp only [Int.toNat_natCast]
  have e1 : sidesM m n = sidesU 0 z0 := by rw [sidesM_up n m n (Nat.le_refl _) h0 hmn]; unfold sidesO; rw [ho]
  have e2 : proofN m n = (sidesU 0 z0).length := by rw [proofN_up h0 hmn]; unfold sidesO; rw [ho]; simp
  rw [e2]
  unfold growD
  rw [e1]
  constructor
  · rintro ⟨_, _, _, h | h⟩
    · omega
    · have h2 := h.2.2
      rw [if_pos (by omega)] at h2
      exact ⟨h.2.1, h2⟩
  · rintro ⟨h, h'⟩
    exact ⟨by omega, by omega, by omega, .inr ⟨by omega, h, by rw [if_pos (by omega)]; exact h'⟩⟩
theorem ext_some {old root hd : ByteArray} {m n a0 z0 : Nat} {Q : List ByteArray} (h0 : 0 < m) (hmn : m < n) (hn : n ≤ 1099511627776) (ho : oddS (m - 1) (n - 1) = (a0, z0)) (ha : 0 < a0) :
    extendsD old (m : Int) root (n : Int) (hd :: Q) = decide (Q.length = (sidesU a0 z0).length ∧ foldG (sidesU a0 z0) Q (hd, hd) = (old, root)) := by
  unfold extendsD
  congr 1
  apply propext
  simp only [Int.toNat_natCast]
  have e1 : sidesM m n = sidesU a0 z0 := by rw [sidesM_up n m n (Nat.le_refl _) h0 hmn]; unfold sidesO; rw [ho]
  have e2 : proofN m n = (sidesU a0 z0).length + 1 := by rw [proofN_up h0 hmn]; unfold sidesO; rw [ho, if_pos ha]
  rw [e2]
  unfold growD
  rw [e1, List.length_cons]
  constructor
  · rintro ⟨_, _, _, h | h⟩
    · omega
    · have h1 := h.2.1
      have h2 := h.2.2
      rw [if_neg (by omega)] at h2
      exact ⟨by omega, h2⟩
  · rintro ⟨h, h'⟩
    exact ⟨by omega, by omega, by omega, .inr ⟨by omega, by omega, by rw [if_neg (by omega)]; exact h'⟩⟩
theorem ext_none {old root : ByteArray} {m n a0 z0 : Nat} (h0 : 0 < m) (hmn : m < n) (ho : oddS (m - 1) (n - 1) = (a0, z0)) (ha : 0 < a0) : extendsD old (m : Int) root (n : Int) [] = false := by
  unfold extendsD
  refine decide_eq_false (fun ⟨_, _, _, h⟩ => ?_)
  simp only [Int.toNat_natCast] at h
  have e2 : proofN m n = (sidesU a0 z0).length + 1 := by rw [proofN_up h0 hmn]; unfold sidesO; rw [ho, if_pos ha]
  rcases h with h | h
  · omega
  · have := h.2.1
    rw [e2] at this
    simp at this
theorem Txs.tail {w : World} {B : Nat} {ad : Addr} {x : ByteArray} {Q : List ByteArray} (h : Txs w B (some ad) (x :: Q)) : Txs w B (some (ad.add 1)) Q := by
  have := h.drop 1
  simpa using this
theorem cell_behind {w : World} {ad : Addr} {k : Nat} {v : Value} (h : w.cell? ((ad.add 1).add k) = some v) : w.cell? ⟨ad.block, ad.off + 1 + k, none⟩ = some v := by
  rw [Addr.add_add] at h
  rw [← h]
  unfold Addr.add
  rw [if_neg (by omega), Nat.add_assoc]
set_option maxRecDepth 100000 in
set_option maxHeartbeats 4000000 in
theorem refExt_in (old root : ByteArray) (m n : Nat) (h0 : 0 < m) (hmn : m < n) (hn : n ≤ 1099511627776) (P : List ByteArray) (hold : old.size ≤ 140737488355328) (hs : Short P) (hm : P.length * 16 + 16 ≤ 140737488355328) (A : Option Addr) (c : Nat) (w : World) (hT : Txs w w.heap.size A P) (hc : P.length ≤ c) :
    Calls Tryd.prog 27 #[.string old, .int .i64 (m : Int), .string root, .int .i64 (n : Int), .slice A P.length c] w (BEnd w (extendsD old (m : Int) root (n : Int) P)) := by
  obtain ⟨si, hsi, sz0, sz1, sz2⟩ := info_parts info_str
  have Hsi := Lib.hid hsi
  have Sz0 := Lib.hid sz0
  have Sz1 := Lib.hid sz1
  have Sz2 := Lib.hid sz2
  clear hsi sz0 sz1 sz2
  have hod := oddS_le (m - 1) (m - 1) (n - 1) (Nat.le_refl _) (by omega)
  have hE1 : Hid (OdRel m n w (.int .i64 ((m : Int) - 1)) (.int .i64 ((n : Int) - 1)) w) := ⟨m - 1, n - 1, by congr 1; omega, by congr 1; omega, rfl, by omega, by omega, rfl⟩
  have HZ : Hid (∀ z0, oddS (m - 1) (n - 1) = (0, z0) → extendsD old (m : Int) root (n : Int) P = decide (P.length = (sidesU 0 z0).length ∧ foldG (sidesU 0 z0) P (old, old) = (old, root))) := fun z0 ho => ext_zero h0 hmn hn ho
  have HS1 : Hid (∀ hd Q a0 z0, P = hd :: Q → oddS (m - 1) (n - 1) = (a0, z0) → 0 < a0 → extendsD old (m : Int) root (n : Int) P = decide (Q.length = (sidesU a0 z0).length ∧ foldG (sidesU a0 z0) Q (hd, hd) = (old, root))) := fun hd Q a0 z0 hp ho ha => by rw [hp]; exact ext_some h0 hmn hn ho ha
  have HN1 : Hid (∀ a0 z0, P = [] → oddS (m - 1) (n - 1) = (a0, z0) → 0 < a0 → extendsD old (m : Int) root (n : Int) P = false) := fun a0 z0 hp ho ha => by rw [hp]; exact ext_none h0 hmn ho ha
  generalize extendsD old (m : Int) root (n : Int) P = ans at *
  have a1 : ¬ (m : Int) < 0 := by omega
  have a2 : ¬ (n : Int) < m := by omega
  have a3 : ¬ 1099511627776 < (n : Int) := by omega
  have a4 : ((m : Int) == n) = false := by rw [beq_eq_false_iff_ne]; omega
  have a5 : ((m : Int) == 0) = false := by rw [beq_eq_false_iff_ne]; omega
  have HT := Lib.hid hT
  clear hT hod
  go_enter Tryd.func27, Tryd.ntmps27
  go_wp2_with fail
  go_loopw [11, 12] (fun a z W => OdRel m n w a z W) (fun a _ _ => (intOf a).toNat)
  case atStart => exact hE1.out
  case round =>
    clear hE1
    obtain ⟨a0, z0, rfl, rfl, ho, laz, hzn, rfl⟩ := hrel
    have HO := Lib.hid ho
    clear ho
    by_cases hodd : a0 % 2 = 1
    · have s1 : ((a0 : Int) % 2 == 1) = true := by rw [beq_iff_eq]; omega
      have HN := Lib.hid (oddS_yes hodd z0)
      have l3 : a0 / 2 < z0 / 2 := by omega
      have l4 : a0 / 2 < a0 := by omega
      clear HZ HS1 HN1
      clear hodd
      go_wp2_with fail
      refine ⟨⟨a0 / 2, z0 / 2, by congr 1, by congr 1, by rw [HO.out, HN.out], l3, by omega, rfl⟩, by simp [intOf]; omega⟩
    have s1 : ((a0 : Int) % 2 == 1) = false := by rw [beq_eq_false_iff_ne]; omega
    have ho2 : Hid (oddS (m - 1) (n - 1) = (a0, z0)) := by show _ = _; rw [HO.out]; exact oddS_no (by omega) z0
    clear HO
    by_cases hz : a0 = 0
    · have HK : Hid (ans = decide (P.length = (sidesU a0 z0).length ∧ foldG (sidesU a0 z0) P (old, old) = (old, root))) := by
        show _ = _
        have := ho2.out
        rw [hz] at this ⊢
        exact HZ.out z0 this
      have hzb : ((a0 : Int) == 0) = true := by rw [beq_iff_eq]; omega
      clear HZ HS1 HN1 ho2 hz
      have HNP := Lib.hid (show News (wr.alloc (.cells #[.string old] 9)) A P.length (P.map sv) from (HT.out.below ((Below.refl _ _).alloc (Nat.le_refl _) _)).news)
      have R1 := Lib.hid (TRow.single wr old (Nat.le_refl _))
      have k1 : wr.heap.size ≤ (wr.alloc (.cells #[.string old] 9)).heap.size := (new_below wr old).size
      go_wp2_with (at_builtin; refine wpList_app _ rfl _ _ 22 rfl wr.heap.size 9 si _ 1 16 Tryd.underlying22 Hsi.out Sz0.out Sz1.out Sz2.out rfl (by decide) (.slice (some ⟨wr.heap.size, 0, none⟩) 1 1) 1 [.string old] rfl R1.out A P.length c (P.map sv) rfl (by rw [List.length_map]; omega) HNP.out (sv_one _) (by unfold maxLen; omega) (by omega) k1 ?_)
      intro v3 w3 own3 g3
      have hown : TRow w3 wr.heap.size v3 (old :: P) := by unfold TRow; rw [List.length_cons, Nat.add_comm]; exact own3
      have k3 : Below wr.heap.size wr w3 := row_below R1.out (Nat.le_refl _) (new_below wr old) g3
      obtain ⟨A3, c3, rfl, hc3, hT3, _⟩ := own_texts hown
      rw [List.length_cons] at hc3 ⊢
      obtain ⟨ad, rfl, _, g0⟩ := hT3 0 old rfl
      rw [show ad.add 0 = ad from by simp [Addr.add]] at g0
      have hhd := hold
      have hsQ := hs
      clear own3 hown g3 HNP R1 k1 HT
      by_cases hcq : c3 = 1
      · have hP0 : P = [] := List.eq_nil_of_length_eq_zero (by omega)
        have HTq : Txs w3 w3.heap.size (some ad) P := by rw [hP0]; exact Txs.nil _ _ _
        clear hP0 hT3
        have hl0 : ((P.length : Int) + 1 == 0) = false := by rw [beq_eq_false_iff_ne]; omega
        go_wp2_with fail
        go_quiet (fail)
        have HR := Lib.hid (show ∀ W, Below wr.heap.size wr W → Txs W W.heap.size (some ad) P → ExRel old root old a0 z0 P ad wr (.string old) (.string old) (.int .i64 (a0 : Int)) (.int .i64 (z0 : Int)) (.int .i64 0) W from fun W b q => ⟨0, old, old, a0, z0, rfl, rfl, rfl, rfl, rfl, Nat.zero_le _, Nat.le_of_lt laz, Nat.le_refl _, hhd, hhd, by rw [List.drop_zero], b, q⟩)
        have BD := Lib.hid (show ∀ j, Below wr.heap.size wr (w3.drewN j) from fun j => below_drewN k3 j)
        have HQ := Lib.hid (show ∀ j, Txs (w3.drewN j) (w3.drewN j).heap.size (some ad) P from fun _ => HTq)
        go_wp2_with fail
        go_loopw [13, 14, 11, 12, 87] (fun x y a z i' wx => ExRel old root old a0 z0 P ad wr x y a z i' wx) (fun _ _ _ _ i' _ => P.length - (intOf i').toNat)
        case atStart => exact HR.out _ (BD.out _) (HQ.out _)
        case round =>
          clear HR BD HQ
          obtain ⟨k, x', y', a', z', rfl, rfl, rfl, rfl, rfl, hk, haz, hz0, hx', hy', hiff, hB, HTk⟩ := hrel
          have HI := Lib.hid hiff
          clear hiff
          by_cases hlt : k < P.length
          · exact absurd hlt (by omega)
          · obtain rfl : k = P.length := by omega
            have hk2 : ¬ ((P.length : Int) < P.length) := by omega
            have HI2 : Hid (decide (P.length = (sidesU a0 z0).length ∧ foldG (sidesU a0 z0) P (old, old) = (old, root)) = decide (z' = 0 ∧ x' = old ∧ y' = root)) := by
              show _ = _
              congr 1
              apply propext
              rw [HI.out, List.drop_length]
              by_cases hzz : z' = 0
              · subst hzz
                rw [sidesU_end]
                constructor
                · intro h
                  have h2 : (x', y') = (old, root) := h.2
                  exact ⟨rfl, congrArg Prod.fst h2, congrArg Prod.snd h2⟩
                · intro h
                  refine ⟨rfl, ?_⟩
                  show (x', y') = (old, root)
                  rw [h.2.1, h.2.2]
              · have hne := sidesU_none (a := a') (z := z') (by omega) haz
                constructor
                · rintro ⟨h, _⟩
                  exact absurd (List.eq_nil_of_length_eq_zero h.symm) hne
                · rintro ⟨h, _⟩
                  exact absurd h hzz
            clear HTk
            by_cases hzz : z' = 0
            · have hzi : ((z' : Int) == 0) = true := by rw [beq_iff_eq]; omega
              cases hq : x'.toList == old.toList
              · have HF : Hid (ans = false) := by
                  show _ = _
                  rw [HK.out, HI2.out]; exact decide_eq_false (fun h => ne_toList hq h.2.1)
                clear hzz
                go_wp2_with fail
                go_ret
                exact ⟨by rw [HF.out]; rfl, hB⟩
              · cases hq2 : y'.toList == root.toList
                · have HF : Hid (ans = false) := by
                    show _ = _
                    rw [HK.out, HI2.out]; exact decide_eq_false (fun h => ne_toList hq2 h.2.2)
                  clear hzz
                  go_wp2_with fail
                  go_ret
                  exact ⟨by rw [HF.out]; rfl, hB⟩
                · have HF : Hid (ans = true) := by
                    show _ = _
                    rw [HK.out, HI2.out]; exact decide_eq_true ⟨hzz, eq_toList hq, eq_toList hq2⟩
                  clear hzz
                  go_wp2_with fail
                  go_ret
                  exact ⟨by rw [HF.out]; rfl, hB⟩
            · have hzi : ((z' : Int) == 0) = false := by rw [beq_eq_false_iff_ne]; omega
              have HF : Hid (ans = false) := by
                show _ = _
                rw [HK.out, HI2.out]; exact decide_eq_false (fun h => hzz h.1)
              clear hzz
              go_wp2_with fail
              go_ret
              exact ⟨by rw [HF.out]; rfl, hB⟩
      · have HTq : Txs w3 w3.heap.size (some (ad.add 1)) P := hT3.tail
        clear hT3
        have hl0 : ((P.length : Int) + 1 == 0) = false := by rw [beq_eq_false_iff_ne]; omega
        go_wp2_with fail
        go_quiet (fail)
        have HR := Lib.hid (show ∀ W, Below wr.heap.size wr W → Txs W W.heap.size (some (ad.add 1)) P → ExRel old root old a0 z0 P (ad.add 1) wr (.string old) (.string old) (.int .i64 (a0 : Int)) (.int .i64 (z0 : Int)) (.int .i64 0) W from fun W b q => ⟨0, old, old, a0, z0, rfl, rfl, rfl, rfl, rfl, Nat.zero_le _, Nat.le_of_lt laz, Nat.le_refl _, hhd, hhd, by rw [List.drop_zero], b, q⟩)
        have BD := Lib.hid (show ∀ j, Below wr.heap.size wr (w3.drewN j) from fun j => below_drewN k3 j)
        have HQ := Lib.hid (show ∀ j, Txs (w3.drewN j) (w3.drewN j).heap.size (some (ad.add 1)) P from fun _ => HTq)
        go_wp2_with fail
        go_loopw [13, 14, 11, 12, 87] (fun x y a z i' wx => ExRel old root old a0 z0 P (ad.add 1) wr x y a z i' wx) (fun _ _ _ _ i' _ => P.length - (intOf i').toNat)
        case atStart => exact HR.out _ (BD.out _) (HQ.out _)
        case round =>
          clear HR BD HQ
          obtain ⟨k, x', y', a', z', rfl, rfl, rfl, rfl, rfl, hk, haz, hz0, hx', hy', hiff, hB, HTk⟩ := hrel
          have HI := Lib.hid hiff
          clear hiff
          by_cases hlt : k < P.length
          · have hk2 : (k : Int) < P.length := by omega
            have hx : P[k]? = some P[k] := List.getElem?_eq_getElem hlt
            obtain ⟨adk, hadk, hbl, g1⟩ := HTk _ _ hx
            cases hadk
            have g2 := cell_behind g1
            have hps := hsQ _ (List.getElem_mem hlt)
            have HD := Lib.hid (List.drop_eq_getElem_cons hlt)
            clear hx
            generalize P[k] = p at *
            by_cases hzz : z' = 0
            · subst hzz
              have HF : Hid (ans = false) := by
                show _ = _
                rw [HK.out]
                refine decide_eq_false (fun h => ?_)
                have := (HI.out.1 h).1
                rw [HD.out, sidesU_end] at this
                simp at this
              clear HTk
              go_wp2_with fail
              go_ret
              exact ⟨by rw [HF.out]; rfl, hB⟩
            · have hzi : ((z' : Int) == 0) = false := by rw [beq_eq_false_iff_ne]; omega
              have HTh := Lib.hid HTk
              clear HTk
              by_cases hl : a' % 2 = 1 ∨ a' = z'
              · have HS := Lib.hid (sidesU_left (a := a') (z := z') (by omega) hl)
                have CT1 := fun W => Lib.hid (refTwo_any p x' (by omega) (by omega) W)
                have CT2 := fun W => Lib.hid (refTwo_any p y' (by omega) (by omega) W)
                have hev := evS_le a' a' z' (Nat.le_refl _) haz
                have hE : ∀ W, Hid (EvRel a' z' W (.int .i64 (a' : Int)) (.int .i64 (z' : Int)) W) := fun W => ⟨a', z', rfl, rfl, rfl, Nat.le_refl _, Nat.le_refl _, rfl⟩
                have HI3 : Hid (∀ a2 z2, evS a' z' = evS a2 z2 → (a2 % 2 = 1 ∨ a2 = 0) → a2 ≤ z2 ∧ ((P.length = (sidesU a0 z0).length ∧ foldG (sidesU a0 z0) P (old, old) = (old, root)) ↔ ((P.drop (k + 1)).length = (sidesU (a2 / 2) (z2 / 2)).length ∧ foldG (sidesU (a2 / 2) (z2 / 2)) (P.drop (k + 1)) (nodeD p x', nodeD p y') = (old, root)))) := fun a2 z2 he hs2 => by
                  rw [he, evS_no hs2] at HS hev
                  refine ⟨hev.1, ?_⟩
                  rw [HI.out, HD.out, sidesU_stepG HS.out]; rfl
                clear HI HD HS hev
                have hodd : ((a' : Int) % 2 == 1) = true ∨ (((a' : Int) % 2 == 1) = false ∧ ((a' : Int) == z') = true) := by
                  by_cases ha : a' % 2 = 1
                  · exact .inl (by rw [beq_iff_eq]; omega)
                  · exact .inr ⟨by rw [beq_eq_false_iff_ne]; omega, by rw [beq_iff_eq]; omega⟩
                have zn1 := nodeD_small p x'
                have zn2 := nodeD_small p y'
                generalize nodeD p x' = q1 at *
                generalize nodeD p y' = q2 at *
                clear hl hzz hsQ HK
                rcases hodd with o1 | ⟨o1, o2⟩
                all_goals
                  go_wp2_with fail
                  (with_reducible refine (CT1 _).out.mono ?_)
                  rintro _ v1 ⟨rfl, k1⟩
                  go_wp2_with fail
                  (with_reducible refine (CT2 _).out.mono ?_)
                  rintro _ v2 ⟨rfl, k2⟩
                  have HE2 := hE v2
                  have k12 := k1.trans (k2.mono k1.size)
                  have B3 := Lib.hid (hB.trans (k12.mono hB.size))
                  have HT3 := Lib.hid ((HTh.out.below k12).mono k12.size)
                  clear k1 k2 k12 hE CT1 CT2 g1 g2 HTh
                  go_wp2_with fail
                  go_loopw [11, 12] (fun a z W => EvRel a' z' v2 a z W) (fun a _ _ => (intOf a).toNat)
                  case atStart => exact HE2.out
                  case round =>
                    clear HE2
                    obtain ⟨a2, z2, rfl, rfl, he, l1, l2, rfl⟩ := hrel
                    have HE := Lib.hid he
                    clear he
                    by_cases hst : a2 % 2 = 0 ∧ 0 < a2
                    · have s1 : ((a2 : Int) % 2 == 0) = true := by rw [beq_iff_eq]; omega
                      have s2 : (0 : Int) < a2 := by omega
                      have HN := Lib.hid (evS_yes hst.1 hst.2 z2)
                      have l3 : a2 / 2 < a2 := by omega
                      clear hst
                      go_wp2_with fail
                      refine ⟨⟨a2 / 2, z2 / 2, by congr 1, by congr 1, by rw [HE.out, HN.out], by omega, by omega, rfl⟩, by simp [intOf]; omega⟩
                    · have hs2 : a2 % 2 = 1 ∨ a2 = 0 := by omega
                      have HZ2 := Lib.hid (HI3.out a2 z2 HE.out hs2)
                      clear hst HE HI3
                      rcases hs2 with hs2 | hs2
                      · have s1 : ((a2 : Int) % 2 == 0) = false := by rw [beq_eq_false_iff_ne]; omega
                        clear hs2
                        go_wp2_with fail
                        refine ⟨⟨k + 1, q1, q2, a2 / 2, z2 / 2, rfl, rfl, by congr 1, by congr 1, by go_num, by omega, by have := HZ2.out.1; omega, by omega, zn1, zn2, HZ2.out.2, B3.out, HT3.out⟩, by simp [intOf]; omega⟩
                      · subst hs2
                        go_wp2_with fail
                        refine ⟨⟨k + 1, q1, q2, 0 / 2, z2 / 2, rfl, rfl, by congr 1, by congr 1, by go_num, by omega, by have := HZ2.out.1; omega, by omega, zn1, zn2, HZ2.out.2, B3.out, HT3.out⟩, by simp [intOf]; omega⟩
              · have HS := Lib.hid (sidesU_ev (a := a') (z := z') (by omega) (by omega) (by omega))
                have CT := Lib.hid (refTwo_any y' p (by omega) (by omega) wr)
                have b1 : ((a' : Int) % 2 == 1) = false := by rw [beq_eq_false_iff_ne]; omega
                have b2 : ((a' : Int) == z') = false := by rw [beq_eq_false_iff_ne]; omega
                go_wp2_with fail
                (with_reducible refine CT.out.mono ?_)
                rintro _ v2 ⟨rfl, b3⟩
                have HT3 := Lib.hid ((HTh.out.below b3).mono b3.size)
                go_wp2_with fail
                refine ⟨⟨k + 1, x', nodeD y' p, a' / 2, z' / 2, rfl, rfl, by congr 1, by congr 1, by go_num, by omega, by omega, by omega, hx', nodeD_small _ _, ?_, hB.trans (b3.mono hB.size), HT3.out⟩, by simp [intOf]; omega⟩
                rw [HI.out, HD.out, sidesU_stepG HS.out]; rfl
          · obtain rfl : k = P.length := by omega
            have hk2 : ¬ ((P.length : Int) < P.length) := by omega
            have HI2 : Hid (decide (P.length = (sidesU a0 z0).length ∧ foldG (sidesU a0 z0) P (old, old) = (old, root)) = decide (z' = 0 ∧ x' = old ∧ y' = root)) := by
              show _ = _
              congr 1
              apply propext
              rw [HI.out, List.drop_length]
              by_cases hzz : z' = 0
              · subst hzz
                rw [sidesU_end]
                constructor
                · intro h
                  have h2 : (x', y') = (old, root) := h.2
                  exact ⟨rfl, congrArg Prod.fst h2, congrArg Prod.snd h2⟩
                · intro h
                  refine ⟨rfl, ?_⟩
                  show (x', y') = (old, root)
                  rw [h.2.1, h.2.2]
              · have hne := sidesU_none (a := a') (z := z') (by omega) haz
                constructor
                · rintro ⟨h, _⟩
                  exact absurd (List.eq_nil_of_length_eq_zero h.symm) hne
                · rintro ⟨h, _⟩
                  exact absurd h hzz
            clear HTk
            by_cases hzz : z' = 0
            · have hzi : ((z' : Int) == 0) = true := by rw [beq_iff_eq]; omega
              cases hq : x'.toList == old.toList
              · have HF : Hid (ans = false) := by
                  show _ = _
                  rw [HK.out, HI2.out]; exact decide_eq_false (fun h => ne_toList hq h.2.1)
                clear hzz
                go_wp2_with fail
                go_ret
                exact ⟨by rw [HF.out]; rfl, hB⟩
              · cases hq2 : y'.toList == root.toList
                · have HF : Hid (ans = false) := by
                    show _ = _
                    rw [HK.out, HI2.out]; exact decide_eq_false (fun h => ne_toList hq2 h.2.2)
                  clear hzz
                  go_wp2_with fail
                  go_ret
                  exact ⟨by rw [HF.out]; rfl, hB⟩
                · have HF : Hid (ans = true) := by
                    show _ = _
                    rw [HK.out, HI2.out]; exact decide_eq_true ⟨hzz, eq_toList hq, eq_toList hq2⟩
                  clear hzz
                  go_wp2_with fail
                  go_ret
                  exact ⟨by rw [HF.out]; rfl, hB⟩
            · have hzi : ((z' : Int) == 0) = false := by rw [beq_eq_false_iff_ne]; omega
              have HF : Hid (ans = false) := by
                show _ = _
                rw [HK.out, HI2.out]; exact decide_eq_false (fun h => hzz h.1)
              clear hzz
              go_wp2_with fail
              go_ret
              exact ⟨by rw [HF.out]; rfl, hB⟩
    · have hzb : ((a0 : Int) == 0) = false := by rw [beq_eq_false_iff_ne]; omega
      have hpos : 0 < a0 := by omega
      match P, hs, hm, hc, HT, HS1, HN1 with
      | [], hs, hm, hc, HT, HS1, HN1 =>
        have HF := Lib.hid (HN1.out a0 z0 rfl ho2.out hpos)
        clear HZ HS1 HN1 ho2 hz hpos
        rw [List.length_nil]
        go_wp2_with fail
        go_ret
        exact ⟨by rw [HF.out]; rfl, Below.refl _ _⟩
      | hd :: Q, hs, hm, hc, HT, HS1, HN1 =>
        have HK := Lib.hid (HS1.out hd Q a0 z0 rfl ho2.out hpos)
        clear HZ HS1 HN1 ho2 hz hpos
        rw [List.length_cons] at hc hm ⊢
        obtain ⟨ad, rfl, _, g0⟩ := HT.out 0 hd rfl
        rw [show ad.add 0 = ad from by simp [Addr.add]] at g0
        have hhd := hs hd List.mem_cons_self
        have hsQ : Short Q := fun x hx => hs x (List.mem_cons_of_mem _ hx)
        have k3 : Below wr.heap.size wr wr := Below.refl _ _
        have hT3 := HT.out
        clear HT hs
        by_cases hcq : c = 1
        · have hP0 : Q = [] := List.eq_nil_of_length_eq_zero (by omega)
          have HTq : Txs wr wr.heap.size (some ad) Q := by rw [hP0]; exact Txs.nil _ _ _
          clear hP0 hT3
          have hl0 : ((Q.length : Int) + 1 == 0) = false := by rw [beq_eq_false_iff_ne]; omega
          go_wp2_with fail
          go_quiet (fail)
          have HR := Lib.hid (show ∀ W, Below wr.heap.size wr W → Txs W W.heap.size (some ad) Q → ExRel old root hd a0 z0 Q ad wr (.string hd) (.string hd) (.int .i64 (a0 : Int)) (.int .i64 (z0 : Int)) (.int .i64 0) W from fun W b q => ⟨0, hd, hd, a0, z0, rfl, rfl, rfl, rfl, rfl, Nat.zero_le _, Nat.le_of_lt laz, Nat.le_refl _, hhd, hhd, by rw [List.drop_zero], b, q⟩)
          have BD := Lib.hid (show ∀ j, Below wr.heap.size wr (wr.drewN j) from fun j => below_drewN k3 j)
          have HQ := Lib.hid (show ∀ j, Txs (wr.drewN j) (wr.drewN j).heap.size (some ad) Q from fun _ => HTq)
          go_wp2_with fail
          go_loopw [13, 14, 11, 12, 87] (fun x y a z i' wx => ExRel old root hd a0 z0 Q ad wr x y a z i' wx) (fun _ _ _ _ i' _ => Q.length - (intOf i').toNat)
          case atStart => exact HR.out _ (BD.out _) (HQ.out _)
          case round =>
            clear HR BD HQ
            obtain ⟨k, x', y', a', z', rfl, rfl, rfl, rfl, rfl, hk, haz, hz0, hx', hy', hiff, hB, HTk⟩ := hrel
            have HI := Lib.hid hiff
            clear hiff
            by_cases hlt : k < Q.length
            · exact absurd hlt (by omega)
            · obtain rfl : k = Q.length := by omega
              have hk2 : ¬ ((Q.length : Int) < Q.length) := by omega
              have HI2 : Hid (decide (Q.length = (sidesU a0 z0).length ∧ foldG (sidesU a0 z0) Q (hd, hd) = (old, root)) = decide (z' = 0 ∧ x' = old ∧ y' = root)) := by
                show _ = _
                congr 1
                apply propext
                rw [HI.out, List.drop_length]
                by_cases hzz : z' = 0
                · subst hzz
                  rw [sidesU_end]
                  constructor
                  · intro h
                    have h2 : (x', y') = (old, root) := h.2
                    exact ⟨rfl, congrArg Prod.fst h2, congrArg Prod.snd h2⟩
                  · intro h
                    refine ⟨rfl, ?_⟩
                    show (x', y') = (old, root)
                    rw [h.2.1, h.2.2]
                · have hne := sidesU_none (a := a') (z := z') (by omega) haz
                  constructor
                  · rintro ⟨h, _⟩
                    exact absurd (List.eq_nil_of_length_eq_zero h.symm) hne
                  · rintro ⟨h, _⟩
                    exact absurd h hzz
              clear HTk
              by_cases hzz : z' = 0
              · have hzi : ((z' : Int) == 0) = true := by rw [beq_iff_eq]; omega
                cases hq : x'.toList == old.toList
                · have HF : Hid (ans = false) := by
                    show _ = _
                    rw [HK.out, HI2.out]; exact decide_eq_false (fun h => ne_toList hq h.2.1)
                  clear hzz
                  go_wp2_with fail
                  go_ret
                  exact ⟨by rw [HF.out]; rfl, hB⟩
                · cases hq2 : y'.toList == root.toList
                  · have HF : Hid (ans = false) := by
                      show _ = _
                      rw [HK.out, HI2.out]; exact decide_eq_false (fun h => ne_toList hq2 h.2.2)
                    clear hzz
                    go_wp2_with fail
                    go_ret
                    exact ⟨by rw [HF.out]; rfl, hB⟩
                  · have HF : Hid (ans = true) := by
                      show _ = _
                      rw [HK.out, HI2.out]; exact decide_eq_true ⟨hzz, eq_toList hq, eq_toList hq2⟩
                    clear hzz
                    go_wp2_with fail
                    go_ret
                    exact ⟨by rw [HF.out]; rfl, hB⟩
              · have hzi : ((z' : Int) == 0) = false := by rw [beq_eq_false_iff_ne]; omega
                have HF : Hid (ans = false) := by
                  show _ = _
                  rw [HK.out, HI2.out]; exact decide_eq_false (fun h => hzz h.1)
                clear hzz
                go_wp2_with fail
                go_ret
                exact ⟨by rw [HF.out]; rfl, hB⟩
        · have HTq : Txs wr wr.heap.size (some (ad.add 1)) Q := hT3.tail
          clear hT3
          have hl0 : ((Q.length : Int) + 1 == 0) = false := by rw [beq_eq_false_iff_ne]; omega
          go_wp2_with fail
          go_quiet (fail)
          have HR := Lib.hid (show ∀ W, Below wr.heap.size wr W → Txs W W.heap.size (some (ad.add 1)) Q → ExRel old root hd a0 z0 Q (ad.add 1) wr (.string hd) (.string hd) (.int .i64 (a0 : Int)) (.int .i64 (z0 : Int)) (.int .i64 0) W from fun W b q => ⟨0, hd, hd, a0, z0, rfl, rfl, rfl, rfl, rfl, Nat.zero_le _, Nat.le_of_lt laz, Nat.le_refl _, hhd, hhd, by rw [List.drop_zero], b, q⟩)
          have BD := Lib.hid (show ∀ j, Below wr.heap.size wr (wr.drewN j) from fun j => below_drewN k3 j)
          have HQ := Lib.hid (show ∀ j, Txs (wr.drewN j) (wr.drewN j).heap.size (some (ad.add 1)) Q from fun _ => HTq)
          go_wp2_with fail
          go_loopw [13, 14, 11, 12, 87] (fun x y a z i' wx => ExRel old root hd a0 z0 Q (ad.add 1) wr x y a z i' wx) (fun _ _ _ _ i' _ => Q.length - (intOf i').toNat)
          case atStart => exact HR.out _ (BD.out _) (HQ.out _)
          case round =>
            clear HR BD HQ
            obtain ⟨k, x', y', a', z', rfl, rfl, rfl, rfl, rfl, hk, haz, hz0, hx', hy', hiff, hB, HTk⟩ := hrel
            have HI := Lib.hid hiff
            clear hiff
            by_cases hlt : k < Q.length
            · have hk2 : (k : Int) < Q.length := by omega
              have hx : Q[k]? = some Q[k] := List.getElem?_eq_getElem hlt
              obtain ⟨adk, hadk, hbl, g1⟩ := HTk _ _ hx
              cases hadk
              have g2 := cell_behind g1
              have hps := hsQ _ (List.getElem_mem hlt)
              have HD := Lib.hid (List.drop_eq_getElem_cons hlt)
              clear hx
              generalize Q[k] = p at *
              by_cases hzz : z' = 0
              · subst hzz
                have HF : Hid (ans = false) := by
                  show _ = _
                  rw [HK.out]
                  refine decide_eq_false (fun h => ?_)
                  have := (HI.out.1 h).1
                  rw [HD.out, sidesU_end] at this
                  simp at this
                clear HTk
                go_wp2_with fail
                go_ret
                exact ⟨by rw [HF.out]; rfl, hB⟩
              · have hzi : ((z' : Int) == 0) = false := by rw [beq_eq_false_iff_ne]; omega
                have HTh := Lib.hid HTk
                clear HTk
                by_cases hl : a' % 2 = 1 ∨ a' = z'
                · have HS := Lib.hid (sidesU_left (a := a') (z := z') (by omega) hl)
                  have CT1 := fun W => Lib.hid (refTwo_any p x' (by omega) (by omega) W)
                  have CT2 := fun W => Lib.hid (refTwo_any p y' (by omega) (by omega) W)
                  have hev := evS_le a' a' z' (Nat.le_refl _) haz
                  have hE : ∀ W, Hid (EvRel a' z' W (.int .i64 (a' : Int)) (.int .i64 (z' : Int)) W) := fun W => ⟨a', z', rfl, rfl, rfl, Nat.le_refl _, Nat.le_refl _, rfl⟩
                  have HI3 : Hid (∀ a2 z2, evS a' z' = evS a2 z2 → (a2 % 2 = 1 ∨ a2 = 0) → a2 ≤ z2 ∧ ((Q.length = (sidesU a0 z0).length ∧ foldG (sidesU a0 z0) Q (hd, hd) = (old, root)) ↔ ((Q.drop (k + 1)).length = (sidesU (a2 / 2) (z2 / 2)).length ∧ foldG (sidesU (a2 / 2) (z2 / 2)) (Q.drop (k + 1)) (nodeD p x', nodeD p y') = (old, root)))) := fun a2 z2 he hs2 => by
                    rw [he, evS_no hs2] at HS hev
                    refine ⟨hev.1, ?_⟩
                    rw [HI.out, HD.out, sidesU_stepG HS.out]; rfl
                  clear HI HD HS hev
                  have hodd : ((a' : Int) % 2 == 1) = true ∨ (((a' : Int) % 2 == 1) = false ∧ ((a' : Int) == z') = true) := by
                    by_cases ha : a' % 2 = 1
                    · exact .inl (by rw [beq_iff_eq]; omega)
                    · exact .inr ⟨by rw [beq_eq_false_iff_ne]; omega, by rw [beq_iff_eq]; omega⟩
                  have zn1 := nodeD_small p x'
                  have zn2 := nodeD_small p y'
                  generalize nodeD p x' = q1 at *
                  generalize nodeD p y' = q2 at *
                  clear hl hzz hsQ HK
                  rcases hodd with o1 | ⟨o1, o2⟩
                  all_goals
                    go_wp2_with fail
                    (with_reducible refine (CT1 _).out.mono ?_)
                    rintro _ v1 ⟨rfl, k1⟩
                    go_wp2_with fail
                    (with_reducible refine (CT2 _).out.mono ?_)
                    rintro _ v2 ⟨rfl, k2⟩
                    have HE2 := hE v2
                    have k12 := k1.trans (k2.mono k1.size)
                    have B3 := Lib.hid (hB.trans (k12.mono hB.size))
                    have HT3 := Lib.hid ((HTh.out.below k12).mono k12.size)
                    clear k1 k2 k12 hE CT1 CT2 g1 g2 HTh
                    go_wp2_with fail
                    go_loopw [11, 12] (fun a z W => EvRel a' z' v2 a z W) (fun a _ _ => (intOf a).toNat)
                    case atStart => exact HE2.out
                    case round =>
                      clear HE2
                      obtain ⟨a2, z2, rfl, rfl, he, l1, l2, rfl⟩ := hrel
                      have HE := Lib.hid he
                      clear he
                      by_cases hst : a2 % 2 = 0 ∧ 0 < a2
                      · have s1 : ((a2 : Int) % 2 == 0) = true := by rw [beq_iff_eq]; omega
                        have s2 : (0 : Int) < a2 := by omega
                        have HN := Lib.hid (evS_yes hst.1 hst.2 z2)
                        have l3 : a2 / 2 < a2 := by omega
                        clear hst
                        go_wp2_with fail
                        refine ⟨⟨a2 / 2, z2 / 2, by congr 1, by congr 1, by rw [HE.out, HN.out], by omega, by omega, rfl⟩, by simp [intOf]; omega⟩
                      · have hs2 : a2 % 2 = 1 ∨ a2 = 0 := by omega
                        have HZ2 := Lib.hid (HI3.out a2 z2 HE.out hs2)
                        clear hst HE HI3
                        rcases hs2 with hs2 | hs2
                        · have s1 : ((a2 : Int) % 2 == 0) = false := by rw [beq_eq_false_iff_ne]; omega
                          clear hs2
                          go_wp2_with fail
                          refine ⟨⟨k + 1, q1, q2, a2 / 2, z2 / 2, rfl, rfl, by congr 1, by congr 1, by go_num, by omega, by have := HZ2.out.1; omega, by omega, zn1, zn2, HZ2.out.2, B3.out, HT3.out⟩, by simp [intOf]; omega⟩
                        · subst hs2
                          go_wp2_with fail
                          refine ⟨⟨k + 1, q1, q2, 0 / 2, z2 / 2, rfl, rfl, by congr 1, by congr 1, by go_num, by omega, by have := HZ2.out.1; omega, by omega, zn1, zn2, HZ2.out.2, B3.out, HT3.out⟩, by simp [intOf]; omega⟩
                · have HS := Lib.hid (sidesU_ev (a := a') (z := z') (by omega) (by omega) (by omega))
                  have CT := Lib.hid (refTwo_any y' p (by omega) (by omega) wr)
                  have b1 : ((a' : Int) % 2 == 1) = false := by rw [beq_eq_false_iff_ne]; omega
                  have b2 : ((a' : Int) == z') = false := by rw [beq_eq_false_iff_ne]; omega
                  go_wp2_with fail
                  (with_reducible refine CT.out.mono ?_)
                  rintro _ v2 ⟨rfl, b3⟩
                  have HT3 := Lib.hid ((HTh.out.below b3).mono b3.size)
                  go_wp2_with fail
                  refine ⟨⟨k + 1, x', nodeD y' p, a' / 2, z' / 2, rfl, rfl, by congr 1, by congr 1, by go_num, by omega, by omega, by omega, hx', nodeD_small _ _, ?_, hB.trans (b3.mono hB.size), HT3.out⟩, by simp [intOf]; omega⟩
                  rw [HI.out, HD.out, sidesU_stepG HS.out]; rfl
            · obtain rfl : k = Q.length := by omega
              have hk2 : ¬ ((Q.length : Int) < Q.length) := by omega
              have HI2 : Hid (decide (Q.length = (sidesU a0 z0).length ∧ foldG (sidesU a0 z0) Q (hd, hd) = (old, root)) = decide (z' = 0 ∧ x' = old ∧ y' = root)) := by
                show _ = _
                congr 1
                apply propext
                rw [HI.out, List.drop_length]
                by_cases hzz : z' = 0
                · subst hzz
                  rw [sidesU_end]
                  constructor
                  · intro h
                    have h2 : (x', y') = (old, root) := h.2
                    exact ⟨rfl, congrArg Prod.fst h2, congrArg Prod.snd h2⟩
                  · intro h
                    refine ⟨rfl, ?_⟩
                    show (x', y') = (old, root)
                    rw [h.2.1, h.2.2]
                · have hne := sidesU_none (a := a') (z := z') (by omega) haz
                  constructor
                  · rintro ⟨h, _⟩
                    exact absurd (List.eq_nil_of_length_eq_zero h.symm) hne
                  · rintro ⟨h, _⟩
                    exact absurd h hzz
              clear HTk
              by_cases hzz : z' = 0
              · have hzi : ((z' : Int) == 0) = true := by rw [beq_iff_eq]; omega
                cases hq : x'.toList == old.toList
                · have HF : Hid (ans = false) := by
                    show _ = _
                    rw [HK.out, HI2.out]; exact decide_eq_false (fun h => ne_toList hq h.2.1)
                  clear hzz
                  go_wp2_with fail
                  go_ret
                  exact ⟨by rw [HF.out]; rfl, hB⟩
                · cases hq2 : y'.toList == root.toList
                  · have HF : Hid (ans = false) := by
                      show _ = _
                      rw [HK.out, HI2.out]; exact decide_eq_false (fun h => ne_toList hq2 h.2.2)
                    clear hzz
                    go_wp2_with fail
                    go_ret
                    exact ⟨by rw [HF.out]; rfl, hB⟩
                  · have HF : Hid (ans = true) := by
                      show _ = _
                      rw [HK.out, HI2.out]; exact decide_eq_true ⟨hzz, eq_toList hq, eq_toList hq2⟩
                    clear hzz
                    go_wp2_with fail
                    go_ret
                    exact ⟨by rw [HF.out]; rfl, hB⟩
              · have hzi : ((z' : Int) == 0) = false := by rw [beq_eq_false_iff_ne]; omega
                have HF : Hid (ans = false) := by
                  show _ = _
                  rw [HK.out, HI2.out]; exact decide_eq_false (fun h => hzz h.1)
                clear hzz
                go_wp2_with fail
                go_ret
                exact ⟨by rw [HF.out]; rfl, hB⟩
end Go.Proofs.YtejapjmlofekfaaDoor

/- ref.Extends where the proof is trivial; law.MerkleExtends, law.MerkleChecks: the walks. -/
namespace Go.Proofs.YtejapjmlofekfaaDoor
open Go.RowKit

set_option maxRecDepth 100000 in
theorem refExt_no (old root : ByteArray) (m n : Int) (P : List ByteArray) (h : m < 0 ∨ n < m ∨ 1099511627776 < n) (A : Option Addr) (c : Nat) (w : World) :
    Calls Tryd.prog 27 #[.string old, .int .i64 m, .string root, .int .i64 n, .slice A P.length c] w (BEnd w (extendsD old m root n P)) := by
  have he : extendsD old m root n P = false := by
    unfold extendsD
    exact decide_eq_false (fun ⟨a, b, c, _⟩ => by omega)
  rw [he]
  by_cases h0 : m < 0
  · clear h
    go_enter Tryd.func27, Tryd.ntmps27
    go_wp2_with fail
    go_ret
    exact ⟨rfl, Below.refl _ _⟩
  by_cases h1 : n < m
  · clear h
    go_enter Tryd.func27, Tryd.ntmps27
    go_wp2_with fail
    go_ret
    exact ⟨rfl, Below.refl _ _⟩
  have h2 : 1099511627776 < n := by omega
  clear h
  go_enter Tryd.func27, Tryd.ntmps27
  go_wp2_with fail
  go_ret
  exact ⟨rfl, Below.refl _ _⟩
theorem RefSum_none (w : World) : Calls Tryd.prog 36 #[.string ⟨#[]⟩] w (TEnd w (dg ⟨#[]⟩)) := RefSum_any ⟨#[]⟩ (by decide) w
set_option maxRecDepth 100000 in
theorem refExt_same (old root : ByteArray) (n : Nat) (hn : n ≤ 1099511627776) (P : List ByteArray) (A : Option Addr) (c : Nat) (w : World) :
    Calls Tryd.prog 27 #[.string old, .int .i64 (n : Int), .string root, .int .i64 (n : Int), .slice A P.length c] w (BEnd w (extendsD old (n : Int) root (n : Int) P)) := by
  have he : extendsD old (n : Int) root (n : Int) P = decide (P = [] ∧ old = root ∧ (0 < n ∨ old = dg ⟨#[]⟩)) := by
    unfold extendsD
    congr 1
    apply propext
    simp only [Int.toNat_natCast]
    have e1 := sidesM_all (Nat.le_refl n)
    have e2 : proofN n n = 0 := by unfold proofN; rw [e1]; rfl
    rw [e2]
    constructor
    · rintro ⟨_, _, _, h | h⟩
      · exact ⟨h.2.1, (h.2.2.2 h.1).symm, .inr h.2.2.1⟩
      · have hp : P = [] := List.eq_nil_of_length_eq_zero h.2.1
        have hg := h.2.2
        rw [hp] at hg
        unfold growD at hg
        rw [e1] at hg
        have hg2 : (old, old) = (old, root) := hg
        exact ⟨hp, congrArg Prod.snd hg2, .inl (by omega)⟩
    · rintro ⟨h1, h2, h3⟩
      refine ⟨by omega, by omega, by omega, ?_⟩
      by_cases h0 : n = 0
      · refine .inl ⟨by omega, h1, ?_, fun _ => h2.symm⟩
        rcases h3 with h3 | h3
        · omega
        · exact h3
      · refine .inr ⟨by omega, by rw [h1]; rfl, ?_⟩
        rw [h1]
        unfold growD
        rw [e1]
        show (old, old) = (old, root)
        rw [h2]
  have HE := Lib.hid he
  clear he
  have a1 : ¬ (n : Int) < 0 := by omega
  have a3 : ¬ 1099511627776 < (n : Int) := by omega
  have a4 : ((n : Int) == n) = true := by simp
  have CS := Lib.hid (RefSum_none w)
  generalize dg ⟨#[]⟩ = d at *
  generalize extendsD old (n : Int) root (n : Int) P = ans at *
  cases P with
  | cons y P =>
    have HF : Hid (ans = false) := by
      show _ = _
      rw [HE.out]; exact decide_eq_false (fun h => by cases h.1)
    simp only [List.length_cons]
    clear HE
    go_enter Tryd.func27, Tryd.ntmps27
    go_wp2_with fail
    go_ret
    exact ⟨by rw [HF.out]; rfl, Below.refl _ _⟩
  | nil =>
    rw [List.length_nil]
    cases hq : old.toList == root.toList
    · have HF : Hid (ans = false) := by
        show _ = _
        rw [HE.out]; exact decide_eq_false (fun h => ne_toList hq h.2.1)
      clear HE
      go_enter Tryd.func27, Tryd.ntmps27
      go_wp2_with fail
      go_ret
      exact ⟨by rw [HF.out]; rfl, Below.refl _ _⟩
    · have hq2 := Lib.hid (eq_toList hq)
      by_cases h0 : 0 < n
      · have HF : Hid (ans = true) := by
          show _ = _
          rw [HE.out]; exact decide_eq_true ⟨rfl, hq2.out, .inl h0⟩
        have hpos : (0 : Int) < n := by omega
        clear HE
        go_enter Tryd.func27, Tryd.ntmps27
        go_wp2_with fail
        go_ret
        exact ⟨by rw [HF.out]; rfl, Below.refl _ _⟩
      · have hpos : ¬ (0 : Int) < n := by omega
        cases hr : old.toList == d.toList
        · have HF : Hid (ans = false) := by
            show _ = _
            rw [HE.out]; exact decide_eq_false (fun h => h.2.2.elim h0 (fun e => ne_toList hr e))
          clear HE h0
          go_enter Tryd.func27, Tryd.ntmps27
          go_wp2_with fail
          (with_reducible refine CS.out.mono ?_)
          rintro _ w1 ⟨rfl, b1⟩
          go_wp2_with fail
          go_ret
          exact ⟨by rw [HF.out]; rfl, b1⟩
        · have HF : Hid (ans = true) := by
            show _ = _
            rw [HE.out]; exact decide_eq_true ⟨rfl, hq2.out, .inr (eq_toList hr)⟩
          clear HE h0
          go_enter Tryd.func27, Tryd.ntmps27
          go_wp2_with fail
          (with_reducible refine CS.out.mono ?_)
          rintro _ w1 ⟨rfl, b1⟩
          go_wp2_with fail
          go_ret
          exact ⟨by rw [HF.out]; rfl, b1⟩
set_option maxRecDepth 100000 in
theorem refExt_zero (old root : ByteArray) (n : Nat) (h0 : 0 < n) (hn : n ≤ 1099511627776) (P : List ByteArray) (A : Option Addr) (c : Nat) (w : World) :
    Calls Tryd.prog 27 #[.string old, .int .i64 0, .string root, .int .i64 (n : Int), .slice A P.length c] w (BEnd w (extendsD old 0 root (n : Int) P)) := by
  have he : extendsD old 0 root (n : Int) P = decide (P = [] ∧ old = dg ⟨#[]⟩) := by
    unfold extendsD
    congr 1
    apply propext
    constructor
    · rintro ⟨_, _, _, h | h⟩
      · exact ⟨h.2.1, h.2.2.1⟩
      · omega
    · intro h
      exact ⟨by omega, by omega, by omega, .inl ⟨rfl, h.1, h.2, fun e => by omega⟩⟩
  have HE := Lib.hid he
  clear he
  have a1 : ¬ (n : Int) < 0 := by omega
  have a3 : ¬ 1099511627776 < (n : Int) := by omega
  have a4 : ((0 : Int) == n) = false := by rw [beq_eq_false_iff_ne]; omega
  have CS := Lib.hid (RefSum_none w)
  generalize dg ⟨#[]⟩ = d at *
  generalize extendsD old 0 root (n : Int) P = ans at *
  cases P with
  | cons y P =>
    have HF : Hid (ans = false) := by
      show _ = _
      rw [HE.out]; exact decide_eq_false (fun h => by cases h.1)
    simp only [List.length_cons]
    clear HE
    go_enter Tryd.func27, Tryd.ntmps27
    go_wp2_with fail
    go_ret
    exact ⟨by rw [HF.out]; rfl, Below.refl _ _⟩
  | nil =>
    rw [List.length_nil]
    cases hr : old.toList == d.toList
    · have HF : Hid (ans = false) := by
        show _ = _
        rw [HE.out]; exact decide_eq_false (fun h => ne_toList hr h.2)
      clear HE
      go_enter Tryd.func27, Tryd.ntmps27
      go_wp2_with fail
      (with_reducible refine CS.out.mono ?_)
      rintro _ w1 ⟨rfl, b1⟩
      go_wp2_with fail
      go_ret
      exact ⟨by rw [HF.out]; rfl, b1⟩
    · have HF : Hid (ans = true) := by
        show _ = _
        rw [HE.out]; exact decide_eq_true ⟨rfl, eq_toList hr⟩
      clear HE
      go_enter Tryd.func27, Tryd.ntmps27
      go_wp2_with fail
      (with_reducible refine CS.out.mono ?_)
      rintro _ w1 ⟨rfl, b1⟩
      go_wp2_with fail
      go_ret
      exact ⟨by rw [HF.out]; rfl, b1⟩
theorem refExt_any (old root : ByteArray) (m n : Int) (P : List ByteArray) (hold : old.size ≤ 140737488355328) (hs : Short P) (hm : P.length * 16 + 16 ≤ 140737488355328) (A : Option Addr) (c : Nat) (w : World) (hT : Txs w w.heap.size A P) (hc : P.length ≤ c) :
    Calls Tryd.prog 27 #[.string old, .int .i64 m, .string root, .int .i64 n, .slice A P.length c] w (BEnd w (extendsD old m root n P)) := by
  by_cases hno : m < 0 ∨ n < m ∨ 1099511627776 < n
  · exact refExt_no old root m n P hno A c w
  obtain ⟨n', rfl⟩ : ∃ n' : Nat, n = (n' : Int) := ⟨n.toNat, by omega⟩
  obtain ⟨m', rfl⟩ : ∃ m' : Nat, m = (m' : Int) := ⟨m.toNat, by omega⟩
  by_cases he : m' = n'
  · subst he
    exact refExt_same old root m' (by omega) P A c w
  · by_cases h0 : m' = 0
    · subst h0
      exact refExt_zero old root n' (by omega) (by omega) P A c w
    · exact refExt_in old root m' n' (by omega) (by omega) (by omega) P hold hs hm A c w hT hc
/-- the path that came in, the table -/
structure OneL (w : World) (P : List ByteArray) (A : Option Addr) (W : World) : Prop where
  a : Txs W W.heap.size A P
  tab : Tab W
  bel : Below w.heap.size w W
theorem OneL.below {w W W' : World} {P : List ByteArray} {A : Option Addr} (h : OneL w P A W) (k : Below W.heap.size W W') : OneL w P A W' := ⟨(h.a.below k).mono k.size, h.tab.below k h.tab.1, h.bel.trans (k.mono h.bel.size)⟩
theorem strings_ls (T : List ByteArray) (A : Option Addr) (c : Nat) (w : World) (hT : Txs w w.heap.size A T) (hl : T.length * 16 ≤ 140737488355328) :
    Calls Tryd.prog 13 #[.slice A T.length c] w (LsEnd w T) := by
  obtain ⟨si, hsi, sz0, sz1, sz2⟩ := info_parts info_str
  have Hsi := Lib.hid hsi
  have Sz0 := Lib.hid sz0
  have Sz1 := Lib.hid sz1
  have Sz2 := Lib.hid sz2
  clear hsi sz0 sz1 sz2
  go_enter Tryd.func13, Tryd.ntmps13
  go_wp2_with (at_builtin; refine wpList_app _ rfl _ _ 22 rfl w.heap.size 9 si _ 1 16 Tryd.underlying22 Hsi.out Sz0.out Sz1.out Sz2.out rfl (by decide) _ _ _ rfl (own_nil _ _ _ _) A T.length c (T.map sv) rfl (by rw [List.length_map]; omega) hT.news (sv_one _) (by unfold maxLen; omega) (by omega) (Nat.le_refl _) ?_)
  intro v1 w1 hown hgrow
  obtain ⟨A1, c1, rfl, hc1, hx, _⟩ := own_texts hown
  go_wp2_with fail
  go_ret
  exact ⟨A1, c1, rfl, hx, hc1, (Below.refl _ _).grown hgrow (Nat.le_refl _) (by intro k hk; cases hk)⟩
set_option maxRecDepth 100000 in
theorem MerkleExtends_any (old root : ByteArray) (m n : Int) (P : List ByteArray) (hold : old.size ≤ 140737488355328) (hs : ∀ x ∈ P, x.size ≤ 140737488355328) (hm : P.length * 16 + 16 ≤ 140737488355328) (A : Option Addr) (c : Nat) (w : World) (hT : Txs w w.heap.size A P) (hc : P.length ≤ c) (ht : Tab w) :
    Calls Tryd.prog 5 #[.string old, .int .i64 m, .string root, .int .i64 n, .slice A P.length c] w (BEnd w true) := by
  have C1 := fun W h => Lib.hid (strings_ls P A c W h (by omega))
  have C2 : ∀ W A2 c2, Hid (OneL w P A2 W → P.length ≤ c2 → Calls Tryd.prog 26 #[.string old, .int .i64 m, .string root, .int .i64 n, .slice A2 P.length c2] W (BEnd W (extendsD old m root n P))) := fun W A2 c2 h q => Extends_any old root m n P hold hs (by omega) A2 c2 W h.a q h.tab
  have C3 : ∀ W, Hid (OneL w P A W → Calls Tryd.prog 27 #[.string old, .int .i64 m, .string root, .int .i64 n, .slice A P.length c] W (BEnd W (extendsD old m root n P))) := fun W h => refExt_any old root m n P hold hs hm A c W h.a hc
  have CR := fun W h => Lib.hid (lroots_any W h)
  generalize extendsD old m root n P = ans at *
  have h0 : OneL w P A w := ⟨hT, ht, Below.refl _ _⟩
  unfold LsEnd at C1
  clear hT ht hs
  go_enter Tryd.func5, Tryd.ntmps5
  go_wp2_with fail
  (with_reducible refine (C1 _ h0.a).out.mono ?_)
  rintro _ w1 ⟨A2, c2, rfl, hT2, hc2, b1⟩
  have h1 := h0.below b1
  have h1c : OneL w P A2 w1 := ⟨hT2, h1.tab, h1.bel⟩
  clear hT2 b1 C1
  go_wp2_with fail
  (with_reducible refine ((C2 _ _ _).out h1c hc2).mono ?_)
  rintro _ w2 ⟨rfl, b2⟩
  have h2 := h1.below b2
  clear h1c b2 C2
  go_wp2_with fail
  (with_reducible refine ((C3 _).out h2).mono ?_)
  rintro _ w3 ⟨rfl, b3⟩
  have h3 := h2.below b3
  clear b3 C3
  cases ans
  all_goals
    go_wp2_with fail
    (with_reducible refine (CR _ h3.tab).out.mono ?_)
    rintro _ w4 ⟨rfl, b4⟩
    go_wp2_with fail
    go_ret
    exact ⟨rfl, (h3.below b4).bel⟩
set_option maxRecDepth 100000 in
theorem MerkleChecks_any (root : ByteArray) (n i : Int) (s : ByteArray) (P : List ByteArray) (hroot : root.size ≤ 140737488355328) (hsz : s.size ≤ 140737488355328) (hs : ∀ x ∈ P, x.size ≤ 140737488355328) (hm : P.length * 16 ≤ 140737488355328) (A : Option Addr) (c : Nat) (w : World) (hT : Txs w w.heap.size A P) (ht : Tab w) :
    Calls Tryd.prog 4 #[.string root, .int .i64 n, .int .i64 i, .string s, .slice A P.length c] w (BEnd w true) := by
  have C1 := fun W h => Lib.hid (strings_ls P A c W h (by omega))
  have C2 : ∀ W A2 c2, Hid (OneL w P A2 W → P.length ≤ c2 → Calls Tryd.prog 20 #[.string root, .int .i64 n, .int .i64 i, .string s, .slice A2 P.length c2] W (BEnd W (checkD root n i s P))) := fun W A2 c2 h q => Check_any root s n i P hsz hs (by omega) A2 c2 W h.a q h.tab
  have C3 : ∀ W, Hid (OneL w P A W → Calls Tryd.prog 21 #[.string root, .int .i64 n, .int .i64 i, .string s, .slice A P.length c] W (BEnd W (checkD root n i s P))) := fun W h => refCheck_any root s n i P hsz hs (by omega) A c W h.a
  have C4 : ∀ W, Hid (OneL w P A W → Calls Tryd.prog 22 #[.string s] W (TEnd W (leafD s))) := fun W h => Leaf_any s (by omega) W h.tab
  have C5 : ∀ W, Hid (Calls Tryd.prog 23 #[.string s] W (TEnd W (leafD s))) := fun W => refLeaf_any s (by omega) W
  have C6 : ∀ W, Hid (OneL w P A W → Calls Tryd.prog 24 #[.string root, .string s] W (TEnd W (nodeD root s))) := fun W h => Node_any root s (by omega) (by omega) W h.tab
  have C7 : ∀ W, Hid (Calls Tryd.prog 25 #[.string root, .string s] W (TEnd W (nodeD root s))) := fun W => refTwo_any root s (by omega) (by omega) W
  have CR := fun W h => Lib.hid (lroots_any W h)
  generalize checkD root n i s P = ans at *
  generalize leafD s = lf at *
  generalize nodeD root s = nd at *
  have h0 : OneL w P A w := ⟨hT, ht, Below.refl _ _⟩
  unfold LsEnd at C1
  clear hT ht hs
  go_enter Tryd.func4, Tryd.ntmps4
  go_wp2_with fail
  (with_reducible refine (C1 _ h0.a).out.mono ?_)
  rintro _ w1 ⟨A2, c2, rfl, hT2, hc2, b1⟩
  have h1 := h0.below b1
  have h1c : OneL w P A2 w1 := ⟨hT2, h1.tab, h1.bel⟩
  clear hT2 b1 C1
  go_wp2_with fail
  (with_reducible refine ((C2 _ _ _).out h1c hc2).mono ?_)
  rintro _ w2 ⟨rfl, b2⟩
  have h2 := h1.below b2
  clear h1c b2 C2
  go_wp2_with fail
  (with_reducible refine ((C3 _).out h2).mono ?_)
  rintro _ w3 ⟨rfl, b3⟩
  have h3 := h2.below b3
  clear b3 C3
  cases ans
  all_goals
    go_wp2_with fail
    (with_reducible refine ((C4 _).out h3).mono ?_)
    rintro _ w4 ⟨rfl, b4⟩
    have h4 := h3.below b4
    go_wp2_with fail
    (with_reducible refine (C5 _).out.mono ?_)
    rintro _ w5 ⟨rfl, b5⟩
    have h5 := h4.below b5
    go_wp2_with fail
    (with_reducible refine ((C6 _).out h5).mono ?_)
    rintro _ w6 ⟨rfl, b6⟩
    have h6 := h5.below b6
    go_wp2_with fail
    (with_reducible refine (C7 _).out.mono ?_)
    rintro _ w7 ⟨rfl, b7⟩
    have h7 := h6.below b7
    go_wp2_with fail
    (with_reducible refine (CR _ h7.tab).out.mono ?_)
    rintro _ w8 ⟨rfl, b8⟩
    go_wp2_with fail
    go_ret
    exact ⟨rfl, (h7.below b8).bel⟩
end Go.Proofs.YtejapjmlofekfaaDoor
