/- ref.Path, ref.Proof: their contracts; law.MerkleRoots: the walk. -/
import Derived.Test.YtlokfeoihnlkkaaDoorMkRefE
import Derived.Test.YtlokfeoihnlkkaaDoorMkRefA
import Derived.Test.YtlokfeoihnlkkaaDoorOSame
namespace Go.Proofs.YtlokfeoihnlkkaaDoor
open Go.RowKit

/-- where the document's Path stands -/
def RpRel (T : List ByteArray) (i : Nat) (w : World) (l j d : Value) (wr : World) : Prop :=
  ∃ (l' D : List ByteArray) (A : Option Addr) (c i' : Nat) (d0 : Value), l = .slice A l'.length c ∧ j = .int .i64 (i' : Int) ∧ d0 = d ∧ i' < l'.length ∧ l'.length ≤ c ∧ Short l' ∧ l'.length + D.length ≤ T.length ∧ Txs w w.heap.size A l' ∧ pathL T i = pathL l' i' ++ D.reverse ∧ TRow wr w.heap.size d0 D ∧ Below w.heap.size w wr
theorem rev_more (D : List ByteArray) (r : ByteArray) : (D ++ [r]).reverse = r :: D.reverse := by simp
set_option maxRecDepth 100000 in
set_option maxHeartbeats 4000000 in
theorem refPath_in (T : List ByteArray) (i : Nat) (hl : T.length ≤ 1000) (hs : Short T) (hi : i < T.length) (A : Option Addr) (c : Nat) (w : World) (hT : Txs w w.heap.size A T) (hc : T.length ≤ c) :
    Calls Tryd.prog 10 #[.slice A T.length c, .int .i64 (i : Int)] w (REnd w (pathL T i)) := by
  have h1 : Hid (RpRel T i w (.slice A T.length c) (.int .i64 (i : Int)) (.slice none 0 0) w) := ⟨T, [], A, c, i, _, rfl, rfl, rfl, hi, hc, hs, by simp, hT, by simp, TRow.nil _ _, Below.refl _ _⟩
  have q1 : ¬ (i : Int) < 0 := by omega
  have q2 : ¬ (T.length : Int) ≤ i := by omega
  clear hT
  go_enter Tryd.func10, Tryd.ntmps10
  go_wp2_with fail
  go_loopw [0, 1, 5] (fun l j d wr => RpRel T i w l j d wr) (fun l _ _ _ => slLen l)
  case atStart => exact h1.out
  case round =>
    clear h1
    obtain ⟨l', D, A', c', i', dv, rfl, rfl, rfl, hi', hc', hs', hlD, hT', hP, hR, hB⟩ := hrel
    by_cases h2 : 2 ≤ l'.length
    · have h2i : (1 : Int) < l'.length := by omega
      obtain ⟨ad, rfl, z1, z2⟩ := hT' 0 l'[0] (List.getElem?_eq_getElem (by omega))
      clear z1 z2
      have k1 := spl_lt h2
      have k0 := spl_pos l'.length
      have e1 : (l'.take (spl l'.length)).length = spl l'.length := by rw [List.length_take]; omega
      have e2 : (l'.drop (spl l'.length)).length = l'.length - spl l'.length := by rw [List.length_drop]
      have C0 := Lib.hid (parting_any l'.length h2 (by omega) wr)
      have HTw := (hT'.below hB).mono hB.size
      by_cases hk : i' < spl l'.length
      · have CR := refRoot_any (l'.drop (spl l'.length)) (by omega) (hs'.drop _) (some (ad.add (spl l'.length))) (c' - spl l'.length) wr (HTw.drop _)
        rw [e2] at CR
        have HCR := Lib.hid CR
        have hS := pathL_lo h2 hk
        have hfin : Hid (∀ (d3 : Value) (w3 : World), TRow w3 w.heap.size d3 (D ++ [rootL (l'.drop (spl l'.length))]) → Below w.heap.size w w3 → RpRel T i w (.slice (some ad) (spl l'.length) c') (.int .i64 (i' : Int)) d3 w3) := fun d3 w3 r b =>
          ⟨l'.take (spl l'.length), D ++ [rootL (l'.drop (spl l'.length))], some ad, c', i', d3, by rw [e1], rfl, rfl, by omega, by omega, hs'.take _, by rw [e1, List.length_append, List.length_singleton]; omega, hT'.take _, by rw [hP, hS, rev_more, List.append_assoc]; rfl, r, b⟩
        have hki : (i' : Int) < ((spl l'.length : Nat) : Int) := by omega
        have hD : D.length ≤ 1000 := by omega
        clear CR hS hP hT' HTw e1 e2 hs'
        generalize rootL (l'.drop (spl l'.length)) = r at *
        generalize hkk : spl l'.length = k at *
        have n1 : k ≤ l'.length := by omega
        have n2 : k ≤ c' := by omega
        have n3 : ¬ (c' = k) := by omega
        clear hkk
        go_wp2_with fail
        (with_reducible refine C0.out.mono ?_)
        rintro _ _ ⟨rfl, rfl⟩
        go_wp2_with fail
        (with_reducible refine HCR.out.mono ?_)
        rintro _ w2 ⟨rfl, b2⟩
        have hR2 := (hR.up b2).new r
        have B2 := Lib.hid (hB.trans (b2.mono hB.size))
        have B3 := Lib.hid (B2.out.trans ((new_below w2 r).mono B2.out.size))
        clear hR b2
        go_wp2_with (at_builtin; refine wpList_app_keep rfl _ _ rfl w.heap.size _ D rfl hR2 ⟨w2.heap.size, 0, none⟩ 1 r rfl (new_cell w2 r) (by omega) B3.out.size ?_)
        intro v3 w3 own3 old3 g3
        have B4 := Lib.hid (row_below hR2 (Nat.le_refl _) B3.out g3)
        have HR := Lib.hid (hfin.out v3 w3 own3 B4.out)
        clear old3 g3 own3 hR2 hfin
        go_wp2_with fail
        exact ⟨HR.out, by simp [slLen]; omega⟩
      · have CR := refRoot_any (l'.take (spl l'.length)) (by omega) (hs'.take _) (some ad) c' wr (HTw.take _)
        rw [e1] at CR
        have HCR := Lib.hid CR
        have hS := pathL_hi (i := i') h2 hi' (by omega)
        have hfin : Hid (∀ (d3 : Value) (w3 : World), TRow w3 w.heap.size d3 (D ++ [rootL (l'.take (spl l'.length))]) → Below w.heap.size w w3 → RpRel T i w (.slice (some (ad.add (spl l'.length))) (l'.length - spl l'.length) (c' - spl l'.length)) (.int .i64 ((i' : Int) - ((spl l'.length : Nat) : Int))) d3 w3) := fun d3 w3 r b =>
          ⟨l'.drop (spl l'.length), D ++ [rootL (l'.take (spl l'.length))], some (ad.add (spl l'.length)), c' - spl l'.length, i' - spl l'.length, d3, by rw [e2], by congr 1; omega, rfl, by omega, by omega, hs'.drop _, by rw [e2, List.length_append, List.length_singleton]; omega, hT'.drop _, by rw [hP, hS, rev_more, List.append_assoc]; rfl, r, b⟩
        have hki : ¬ (i' : Int) < ((spl l'.length : Nat) : Int) := by omega
        have hD : D.length ≤ 1000 := by omega
        clear CR hS hP hT' HTw e1 e2 hs'
        generalize rootL (l'.take (spl l'.length)) = r at *
        generalize hkk : spl l'.length = k at *
        have n1 : k ≤ l'.length := by omega
        have n2 : k ≤ c' := by omega
        have n3 : ¬ (c' = k) := by omega
        clear hkk
        go_wp2_with fail
        (with_reducible refine C0.out.mono ?_)
        rintro _ _ ⟨rfl, rfl⟩
        go_wp2_with fail
        (with_reducible refine HCR.out.mono ?_)
        rintro _ w2 ⟨rfl, b2⟩
        have hR2 := (hR.up b2).new r
        have B2 := Lib.hid (hB.trans (b2.mono hB.size))
        have B3 := Lib.hid (B2.out.trans ((new_below w2 r).mono B2.out.size))
        clear hR b2
        go_wp2_with (at_builtin; refine wpList_app_keep rfl _ _ rfl w.heap.size _ D rfl hR2 ⟨w2.heap.size, 0, none⟩ 1 r rfl (new_cell w2 r) (by omega) B3.out.size ?_)
        intro v3 w3 own3 old3 g3
        have B4 := Lib.hid (row_below hR2 (Nat.le_refl _) B3.out g3)
        have HR := Lib.hid (hfin.out v3 w3 own3 B4.out)
        clear old3 g3 own3 hR2 hfin
        go_wp2_with fail
        exact ⟨HR.out, by simp [slLen]; omega⟩
    · have h2i : ¬ (1 : Int) < l'.length := by omega
      have hP2 : Hid (pathL T i = D.reverse) := by show _ = _; rw [hP, pathL_no (.inl (by omega))]; rfl
      obtain ⟨DA, dc, rfl, hdc, hDT, _⟩ := own_texts hR
      have CT := Lib.hid (turned_any D (by omega) DA dc wr hDT)
      clear hP hT' hR hDT
      go_wp2_with fail
      (with_reducible refine CT.out.mono ?_)
      rintro _ w2 ⟨v2, rfl, own2, b2⟩
      go_wp2_with fail
      go_ret
      refine ⟨v2, rfl, ?_, hB.trans (b2.mono hB.size)⟩
      rw [hP2.out]
      exact own2.less hB.size
theorem refPath_no (T : List ByteArray) (i : Int) (hi : i < 0 ∨ (T.length : Int) ≤ i) (A : Option Addr) (c : Nat) (w : World) :
    Calls Tryd.prog 10 #[.slice A T.length c, .int .i64 i] w (REnd w []) := by
  by_cases h0 : i < 0
  · go_enter Tryd.func10, Tryd.ntmps10
    go_wp2_with fail
    go_ret
    exact ⟨_, rfl, TRow.nil _ _, Below.refl _ _⟩
  · have h1 : (T.length : Int) ≤ i := by omega
    go_enter Tryd.func10, Tryd.ntmps10
    go_wp2_with fail
    go_ret
    exact ⟨_, rfl, TRow.nil _ _, Below.refl _ _⟩
/-- where the document's Proof stands -/
def RfRel (T : List ByteArray) (m : Nat) (w : World) (l j d f : Value) (wr : World) : Prop :=
  ∃ (l' D : List ByteArray) (A : Option Addr) (c m' : Nat) (d0 : Value) (b : Bool), l = .slice A l'.length c ∧ j = .int .i64 (m' : Int) ∧ d0 = d ∧ f = .bool b ∧ 0 < m' ∧ m' ≤ l'.length ∧ l'.length ≤ c ∧ Short l' ∧ l'.length + D.length ≤ T.length ∧ Txs w w.heap.size A l' ∧ proofL T m true = proofL l' m' b ++ D.reverse ∧ TRow wr w.heap.size d0 D ∧ Below w.heap.size w wr
set_option maxRecDepth 100000 in
set_option maxHeartbeats 4000000 in
theorem refProof_in (T : List ByteArray) (m : Nat) (hl : T.length ≤ 1000) (hs : Short T) (h0 : 0 < m) (hi : m ≤ T.length) (A : Option Addr) (c : Nat) (w : World) (hT : Txs w w.heap.size A T) (hc : T.length ≤ c) :
    Calls Tryd.prog 12 #[.slice A T.length c, .int .i64 (m : Int)] w (REnd w (proofL T m true)) := by
  have h1 : Hid (RfRel T m w (.slice A T.length c) (.int .i64 (m : Int)) (.slice none 0 0) (.bool true) w) := ⟨T, [], A, c, m, _, true, rfl, rfl, rfl, rfl, h0, hi, hc, hs, by simp, hT, by simp, TRow.nil _ _, Below.refl _ _⟩
  have q1 : ¬ (m : Int) < 1 := by omega
  have q2 : ¬ (T.length : Int) < m := by omega
  clear hT
  go_enter Tryd.func12, Tryd.ntmps12
  go_wp2_with fail
  go_loopw [0, 1, 5, 6] (fun l j d f wr => RfRel T m w l j d f wr) (fun l _ _ _ _ => slLen l)
  case atStart => exact h1.out
  case round =>
    clear h1
    obtain ⟨l', D, A', c', m', dv, fb, rfl, rfl, rfl, rfl, hm0, hi', hc', hs', hlD, hT', hP, hR, hB⟩ := hrel
    have HTw := (hT'.below hB).mono hB.size
    by_cases h2 : m' < l'.length
    · have h2i : (m' : Int) < l'.length := by omega
      have h22 : 2 ≤ l'.length := by omega
      obtain ⟨ad, rfl, z1, z2⟩ := hT' 0 l'[0] (List.getElem?_eq_getElem (by omega))
      clear z1 z2
      have k1 := spl_lt h22
      have k0 := spl_pos l'.length
      have e1 : (l'.take (spl l'.length)).length = spl l'.length := by rw [List.length_take]; omega
      have e2 : (l'.drop (spl l'.length)).length = l'.length - spl l'.length := by rw [List.length_drop]
      have C0 := Lib.hid (parting_any l'.length h22 (by omega) wr)
      by_cases hk : m' ≤ spl l'.length
      · have CR := refRoot_any (l'.drop (spl l'.length)) (by omega) (hs'.drop _) (some (ad.add (spl l'.length))) (c' - spl l'.length) wr (HTw.drop _)
        rw [e2] at CR
        have HCR := Lib.hid CR
        have hS := proofL_lo h2 hm0 hk fb
        have hfin : Hid (∀ (d3 : Value) (w3 : World), TRow w3 w.heap.size d3 (D ++ [rootL (l'.drop (spl l'.length))]) → Below w.heap.size w w3 → RfRel T m w (.slice (some ad) (spl l'.length) c') (.int .i64 (m' : Int)) d3 (.bool fb) w3) := fun d3 w3 r b =>
          ⟨l'.take (spl l'.length), D ++ [rootL (l'.drop (spl l'.length))], some ad, c', m', d3, fb, by rw [e1], rfl, rfl, rfl, hm0, by omega, by omega, hs'.take _, by rw [e1, List.length_append, List.length_singleton]; omega, hT'.take _, by rw [hP, hS, rev_more, List.append_assoc]; rfl, r, b⟩
        have hki : (m' : Int) ≤ ((spl l'.length : Nat) : Int) := by omega
        have hD : D.length ≤ 1000 := by omega
        clear CR hS hP hT' HTw e1 e2 hs'
        generalize rootL (l'.drop (spl l'.length)) = r at *
        generalize hkk : spl l'.length = k at *
        have n1 : k ≤ l'.length := by omega
        have n2 : k ≤ c' := by omega
        have n3 : ¬ (c' = k) := by omega
        clear hkk
        go_wp2_with fail
        (with_reducible refine C0.out.mono ?_)
        rintro _ _ ⟨rfl, rfl⟩
        go_wp2_with fail
        (with_reducible refine HCR.out.mono ?_)
        rintro _ w2 ⟨rfl, b2⟩
        have hR2 := (hR.up b2).new r
        have B2 := Lib.hid (hB.trans (b2.mono hB.size))
        have B3 := Lib.hid (B2.out.trans ((new_below w2 r).mono B2.out.size))
        clear hR b2
        go_wp2_with (at_builtin; refine wpList_app_keep rfl _ _ rfl w.heap.size _ D rfl hR2 ⟨w2.heap.size, 0, none⟩ 1 r rfl (new_cell w2 r) (by omega) B3.out.size ?_)
        intro v3 w3 own3 old3 g3
        have B4 := Lib.hid (row_below hR2 (Nat.le_refl _) B3.out g3)
        have HR := Lib.hid (hfin.out v3 w3 own3 B4.out)
        clear old3 g3 own3 hR2 hfin
        go_wp2_with fail
        exact ⟨HR.out, by simp [slLen]; omega⟩
      · have CR := refRoot_any (l'.take (spl l'.length)) (by omega) (hs'.take _) (some ad) c' wr (HTw.take _)
        rw [e1] at CR
        have HCR := Lib.hid CR
        have hS := proofL_hi h2 hm0 (by omega) fb
        have hfin : Hid (∀ (d3 : Value) (w3 : World), TRow w3 w.heap.size d3 (D ++ [rootL (l'.take (spl l'.length))]) → Below w.heap.size w w3 → RfRel T m w (.slice (some (ad.add (spl l'.length))) (l'.length - spl l'.length) (c' - spl l'.length)) (.int .i64 ((m' : Int) - ((spl l'.length : Nat) : Int))) d3 (.bool false) w3) := fun d3 w3 r b =>
          ⟨l'.drop (spl l'.length), D ++ [rootL (l'.take (spl l'.length))], some (ad.add (spl l'.length)), c' - spl l'.length, m' - spl l'.length, d3, false, by rw [e2], by congr 1; omega, rfl, rfl, by omega, by omega, by omega, hs'.drop _, by rw [e2, List.length_append, List.length_singleton]; omega, hT'.drop _, by rw [hP, hS, rev_more, List.append_assoc]; rfl, r, b⟩
        have hki : ¬ (m' : Int) ≤ ((spl l'.length : Nat) : Int) := by omega
        have hD : D.length ≤ 1000 := by omega
        clear CR hS hP hT' HTw e1 e2 hs'
        generalize rootL (l'.take (spl l'.length)) = r at *
        generalize hkk : spl l'.length = k at *
        have n1 : k ≤ l'.length := by omega
        have n2 : k ≤ c' := by omega
        have n3 : ¬ (c' = k) := by omega
        clear hkk
        go_wp2_with fail
        (with_reducible refine C0.out.mono ?_)
        rintro _ _ ⟨rfl, rfl⟩
        go_wp2_with fail
        (with_reducible refine HCR.out.mono ?_)
        rintro _ w2 ⟨rfl, b2⟩
        have hR2 := (hR.up b2).new r
        have B2 := Lib.hid (hB.trans (b2.mono hB.size))
        have B3 := Lib.hid (B2.out.trans ((new_below w2 r).mono B2.out.size))
        clear hR b2
        go_wp2_with (at_builtin; refine wpList_app_keep rfl _ _ rfl w.heap.size _ D rfl hR2 ⟨w2.heap.size, 0, none⟩ 1 r rfl (new_cell w2 r) (by omega) B3.out.size ?_)
        intro v3 w3 own3 old3 g3
        have B4 := Lib.hid (row_below hR2 (Nat.le_refl _) B3.out g3)
        have HR := Lib.hid (hfin.out v3 w3 own3 B4.out)
        clear old3 g3 own3 hR2 hfin
        go_wp2_with fail
        exact ⟨HR.out, by simp [slLen]; omega⟩
    · have h2i : ¬ (m' : Int) < l'.length := by omega
      have hall := proofL_all (l := l') (m := m') (by omega) fb
      rw [hall] at hP
      clear hall hT'
      cases fb with
      | true =>
        have hP2 : Hid (proofL T m true = D.reverse) := by show _ = _; rw [hP]; rfl
        obtain ⟨DA, dc, rfl, hdc, hDT, _⟩ := own_texts hR
        have CT := Lib.hid (turned_any D (by omega) DA dc wr hDT)
        clear hP hR hDT HTw
        go_wp2_with fail
        (with_reducible refine CT.out.mono ?_)
        rintro _ w2 ⟨v2, rfl, own2, b2⟩
        go_wp2_with fail
        go_ret
        refine ⟨v2, rfl, ?_, hB.trans (b2.mono hB.size)⟩
        rw [hP2.out]
        exact own2.less hB.size
      | false =>
        have hP2 : Hid (proofL T m true = (D ++ [rootL l']).reverse) := by show _ = _; rw [hP, rev_more]; rfl
        have CR := Lib.hid (refRoot_any l' (by omega) hs' A' c' wr HTw)
        have hD : D.length + 1 ≤ 1000 := by omega
        clear hP HTw hs'
        generalize rootL l' = r at *
        go_wp2_with fail
        (with_reducible refine CR.out.mono ?_)
        rintro _ w2 ⟨rfl, b2⟩
        have hR2 := (hR.up b2).new r
        have B2 := Lib.hid (hB.trans (b2.mono hB.size))
        have B3 := Lib.hid (B2.out.trans ((new_below w2 r).mono B2.out.size))
        clear hR b2
        go_wp2_with (at_builtin; refine wpList_app_keep rfl _ _ rfl w.heap.size _ D rfl hR2 ⟨w2.heap.size, 0, none⟩ 1 r rfl (new_cell w2 r) (by omega) B3.out.size ?_)
        intro v3 w3 own3 old3 g3
        have B4 := Lib.hid (row_below hR2 (Nat.le_refl _) B3.out g3)
        obtain ⟨DA, dc, rfl, hdc, hDT, _⟩ := own_texts own3
        have CT := Lib.hid (turned_any (D ++ [r]) (by rw [List.length_append, List.length_singleton]; omega) DA dc w3 hDT)
        rw [List.length_append, List.length_singleton] at CT
        clear old3 g3 own3 hR2 hDT
        go_wp2_with fail
        (with_reducible refine CT.out.mono ?_)
        rintro _ w4 ⟨v4, rfl, own4, b4⟩
        go_wp2_with fail
        go_ret
        refine ⟨v4, rfl, ?_, B4.out.trans (b4.mono B4.out.size)⟩
        rw [hP2.out]
        exact own4.less B4.out.size
theorem refProof_no (T : List ByteArray) (m : Int) (h : m < 1 ∨ (T.length : Int) < m) (A : Option Addr) (c : Nat) (w : World) :
    Calls Tryd.prog 12 #[.slice A T.length c, .int .i64 m] w (REnd w []) := by
  by_cases h0 : m < 1
  · go_enter Tryd.func12, Tryd.ntmps12
    go_wp2_with fail
    go_ret
    exact ⟨_, rfl, TRow.nil _ _, Below.refl _ _⟩
  · have h1 : (T.length : Int) < m := by omega
    go_enter Tryd.func12, Tryd.ntmps12
    go_wp2_with fail
    go_ret
    exact ⟨_, rfl, TRow.nil _ _, Below.refl _ _⟩
end Go.Proofs.YtlokfeoihnlkkaaDoor
