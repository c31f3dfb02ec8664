/- Texts in one: SpDec, WRefGet, WRefText, WStep. -/
import Derived.Test.YtbpmgpbmeganoaaDoorSpRdr
import Derived.Test.YtbpmgpbmeganoaaDoorDkCh2
import Derived.Test.YtbpmgpbmeganoaaDoorWLaw
import Derived.Test.YtbpmgpbmeganoaaDoorWRead
/- step.Decode: its contract. -/
namespace Go.Proofs.YtbpmgpbmeganoaaDoor
open Go.RowKit

/-- what Sign, Decode leave -/
def SdEnd (w : World) (R : Sp × Int) (x : Ending) (w' : World) : Prop := ∃ p, x = .returned (.tuple #[.agg (spArr R.1 p), .int .i64 R.2]) ∧ SpIn w' w'.heap.size R.1 p ∧ Below w.heap.size w w'
theorem SdEnd_eq {w : World} {a : Sp × Int} {s : Sp} {e : Int} (h : a = (s, e)) {x : Ending} {w' : World} (k : SdEnd w (s, e) x w') : SdEnd w a x w' := by rw [h]; exact k
theorem stTxt_n {l : List UInt8} (h : rdText l = none) : stTxt (some l) = (⟨#[]⟩, none) := by simp [stTxt, h]
theorem stTxt_s {l r : List UInt8} {t : ByteArray} (h : rdText l = some (t, r)) : stTxt (some l) = (t, some r) := by simp [stTxt, h]
theorem stTxt_o : stTxt none = (⟨#[]⟩, none) := rfl
theorem stSgs_o : stSgs none = ([], none) := rfl
def stStep (l : List UInt8) : Sp × St :=
  (⟨(stTxt (some l)).1, (stTxt (stTxt (some l)).2).1, (stTxt (stTxt (stTxt (some l)).2).2).1, (stSgs (stTxt (stTxt (stTxt (some l)).2).2).2).1.map Prod.fst, (stSgs (stTxt (stTxt (stTxt (some l)).2).2).2).1.map Prod.snd⟩,
    (stSgs (stTxt (stTxt (stTxt (some l)).2).2).2).2)
theorem spRead_st (l : List UInt8) : spRead l = match (stStep l).2 with | none => none | some r => if r = [] then some (stStep l).1 else none := by
  unfold spRead stStep
  simp only
  cases h1 : rdText l with
  | none => rw [stTxt_n h1]; rfl
  | some y =>
    obtain ⟨a, r1⟩ := y
    rw [stTxt_s h1]
    simp only
    cases h2 : rdText r1 with
    | none => rw [stTxt_n h2]; rfl
    | some y =>
      obtain ⟨o, r2⟩ := y
      rw [stTxt_s h2]
      simp only
      cases h3 : rdText r2 with
      | none => rw [stTxt_n h3]; rfl
      | some y =>
        obtain ⟨n, r3⟩ := y
        rw [stTxt_s h3]
        simp only [stSgs]
        cases h4 : rdNum r3 with
        | none => rfl
        | some y =>
          obtain ⟨k, r4⟩ := y
          simp only
          cases h5 : rdSgs k r4 with
          | none => rfl
          | some y => rfl
theorem rdSgs_len : ∀ (n : Nat) (l r : List UInt8) (L : List Sg), rdSgs n l = some (L, r) → 33 * L.length + r.length ≤ l.length
  | 0, l, r, L, h => by
    rw [rdSgs] at h
    simp only [Option.some.injEq, Prod.mk.injEq] at h
    rw [← h.1, ← h.2]
    simp
  | n + 1, l, r, L, h => by
    rw [rdSgs] at h
    cases h1 : rdNum l with
    | none => simp [h1] at h
    | some y =>
      obtain ⟨x, r1⟩ := y
      simp only [h1] at h
      cases h2 : rdId r1 with
      | none => simp [h2] at h
      | some y =>
        obtain ⟨t, r2⟩ := y
        simp only [h2] at h
        cases h3 : rdSgs n r2 with
        | none => simp [h3] at h
        | some y =>
          obtain ⟨L2, r3⟩ := y
          simp only [h3, Option.some.injEq, Prod.mk.injEq] at h
          have ih := rdSgs_len n r2 r3 L2 h3
          have e1 := rdNum_less h1
          have e2 := rdId_len h2
          rw [← h.1, ← h.2, List.length_cons]
          omega
theorem stTxt_le {n : Nat} {st : St} (h : ∀ l, st = some l → l.length ≤ n) : ∀ l, (stTxt st).2 = some l → l.length ≤ n := fun l hl => by
  cases st with
  | none => cases hl
  | some l0 =>
    have h0 := h l0 rfl
    cases h1 : rdText l0 with
    | none => rw [stTxt_n h1] at hl; cases hl
    | some y =>
      obtain ⟨t, r⟩ := y
      rw [stTxt_s h1] at hl
      cases hl
      have := rdText_less h1
      omega
theorem stSgs_le {n : Nat} {st : St} (h : ∀ l, st = some l → l.length ≤ n) : (stSgs st).1.length ≤ n := by
  cases st with
  | none => exact Nat.zero_le _
  | some l =>
    have h0 := h l rfl
    unfold stSgs
    simp only
    cases h1 : rdNum l with
    | none => exact Nat.zero_le _
    | some y =>
      obtain ⟨k, r⟩ := y
      simp only
      cases h2 : rdSgs k r with
      | none => exact Nat.zero_le _
      | some y =>
        obtain ⟨L, r2⟩ := y
        simp only
        have := rdSgs_len k r r2 L h2
        have := rdNum_less h1
        omega
/-- where Decode stands: the result's block, the reader, the step -/
def Dt (w : World) (g q : Nat) (cs : Array Value) (st : St) (W : World) : Prop :=
  Arr W w.heap.size 25 spZero ∧ Arr W q 25 cs ∧ RG W g st ∧ Below w.heap.size w W ∧ w.heap.size < g ∧ g < q
theorem Dt.kept {w W W' : World} {g q : Nat} {cs : Array Value} {st st' : St} (h : Dt w g q cs st W) (k : W.grownBy W' (some g)) (h' : RG W' g st') : Dt w g q cs st' W' := by
  obtain ⟨h1, h2, _, h4, h5, h6⟩ := h
  exact ⟨h1.kept k (fun e => by have := Option.some.inj e; omega), h2.kept k (fun e => by have := Option.some.inj e; omega), h', below_gb h4 k (by omega) h4.size, h5, h6⟩
theorem Dt.put {w W : World} {g q i : Nat} {cs : Array Value} {st : St} (h : Dt w g q cs st W) (v : Value) : Dt w g q (cs.setIfInBounds i v) st (W.setCell ⟨q, i, none⟩ v) := by
  obtain ⟨h1, h2, h3, h4, h5, h6⟩ := h
  have k := gb_set (w := W) q i v
  exact ⟨h1.kept k (fun e => by have := Option.some.inj e; omega), h2.put i v, h3.kept k (fun e => by have := Option.some.inj e; omega), below_gb h4 k (by omega) h4.size, h5, h6⟩
set_option maxRecDepth 100000 in
set_option maxHeartbeats 2000000 in
theorem SpDecode_any (s : ByteArray) (hs : s.size ≤ 140737488355328) (w : World) : Calls Tryd.prog 21 #[.string s] w (SdEnd w (spDec s)) := by
  have hE : spDec s = match spRead s.data.toList with | none => (spZ, 2) | some s => if spGood s ≠ 0 then (spZ, spGood s) else (s, 0) := rfl
  rw [spRead_st] at hE
  unfold stStep at hE
  simp only at hE
  have hl : s.data.toList.length ≤ 140737488355328 := hs
  have hl0 : ∀ l, (some s.data.toList : St) = some l → l.length ≤ 140737488355328 := fun l e => by cases e; exact hl
  have hLen := stSgs_le (stTxt_le (stTxt_le (stTxt_le hl0)))
  have HLen := Lib.hid hLen
  have HE := Lib.hid hE
  have C0 := Lib.hid (Read_any s)
  have hR0 : ∀ W g, Rd W g s 0 → RG W g (some s.data.toList) := fun W g h => ⟨by rw [bs_of]; exact h, hl⟩
  have HR0 := Lib.hid hR0
  clear hE hl hl0 hLen hR0
  generalize spDec s = R at *
  generalize s.data.toList = l at *
  go_enter Tryd.func21, Tryd.ntmps21
  go_upto_region 1 with fail
  refine wp_forget (fun W => Arr W w.heap.size 25 spZero ∧ Below w.heap.size w W) ⟨Arr.new _ _ _, (Below.refl _ _).alloc (Nat.le_refl _) _⟩ ?_
  rintro W ⟨A0, b0⟩
  go_wp2_with fail
  (with_reducible refine (C0.out W).mono ?_)
  rintro _ W1 ⟨rfl, hRd, b1⟩
  have hg : w.heap.size < W.heap.size := A0.lt
  have hD0 : Arr W1 w.heap.size 25 spZero ∧ RG W1 W.heap.size (some l) ∧ Below w.heap.size w W1 := ⟨A0.below b1 A0.lt, HR0.out _ _ hRd, b0.trans (b1.mono b0.size)⟩
  clear A0 b0 hRd b1 C0 HR0
  generalize W.heap.size = g at *
  go_upto_region 3 with fail
  refine wp_forget (fun V => Dt w g W1.heap.size spZero (some l) V) ?_ ?_
  · have bb : Below W1.heap.size W1 (W1.alloc (.cells spZero 25)) := (Below.refl _ _).alloc (Nat.le_refl _) _
    exact ⟨hD0.1.below bb hD0.1.lt, Arr.new _ _ _, hD0.2.1.below bb, hD0.2.2.trans (bb.mono hD0.2.2.size), hg, hD0.2.1.lt⟩
  generalize W1.heap.size = q
  clear hD0 hg W1 W
  intro V hV
  have C1 := Lib.hid (rg_txt g (some l) V hV.2.2.1)
  generalize hs1 : stTxt (some l) = s1 at *
  clear hs1
  go_wp2_with fail
  (with_reducible refine C1.out.mono ?_)
  clear C1
  rintro _ V1 ⟨rfl, h1, k1⟩
  have hV1 := hV.kept k1 h1
  clear hV h1 k1
  have c0 : V1.cell? ⟨q, 0, none⟩ = some (.string ⟨#[]⟩) := hV1.2.1.cell 0
  have f0 := hV1.2.1.free 0
  have hP1 := hV1.put (i := 0) (.string s1.1)
  go_upto_region 4 with fail
  refine wp_forget (Dt w g q #[.string s1.1, .string ⟨#[]⟩, .string ⟨#[]⟩, .slice none 0 0, .slice none 0 0] s1.2) hP1 ?_
  clear hV1 c0 f0 hP1 V V1
  intro V hV
  have C1 := Lib.hid (rg_txt g s1.2 V hV.2.2.1)
  generalize stTxt s1.2 = s2 at *
  go_wp2_with fail
  (with_reducible refine C1.out.mono ?_)
  clear C1
  rintro _ V1 ⟨rfl, h1, k1⟩
  have hV1 := hV.kept k1 h1
  clear hV h1 k1
  have c0 : V1.cell? ⟨q, 1, none⟩ = some (.string ⟨#[]⟩) := hV1.2.1.cell 1
  have f0 := hV1.2.1.free 1
  have hP1 := hV1.put (i := 1) (.string s2.1)
  go_upto_region 5 with fail
  refine wp_forget (Dt w g q #[.string s1.1, .string s2.1, .string ⟨#[]⟩, .slice none 0 0, .slice none 0 0] s2.2) hP1 ?_
  clear hV1 c0 f0 hP1 V V1
  intro V hV
  have C1 := Lib.hid (rg_txt g s2.2 V hV.2.2.1)
  generalize stTxt s2.2 = s3 at *
  go_wp2_with fail
  (with_reducible refine C1.out.mono ?_)
  clear C1
  rintro _ V1 ⟨rfl, h1, k1⟩
  have hV1 := hV.kept k1 h1
  clear hV h1 k1
  have c0 : V1.cell? ⟨q, 2, none⟩ = some (.string ⟨#[]⟩) := hV1.2.1.cell 2
  have f0 := hV1.2.1.free 2
  have hP1 := hV1.put (i := 2) (.string s3.1)
  go_upto_region 6 with fail
  refine wp_forget (Dt w g q #[.string s1.1, .string s2.1, .string s3.1, .slice none 0 0, .slice none 0 0] s3.2) hP1 ?_
  clear hV1 c0 f0 hP1 V V1
  intro V hV
  have C1 := Lib.hid (readSeals_any g s3.2 V hV.2.2.1)
  generalize stSgs s3.2 = s4 at *
  obtain ⟨L, st⟩ := s4
  simp only at HLen HE
  have hNl : (L.map Prod.fst).length = L.length := List.length_map _
  have hTl : (L.map Prod.snd).length = L.length := List.length_map _
  go_wp2_with fail
  (with_reducible refine C1.out.mono ?_)
  clear C1
  rintro _ V1 ⟨v, v2, rfl, o1, o2, h1, k1⟩
  simp only at o1 o2 h1
  generalize L.map Prod.fst = N at *
  generalize L.map Prod.snd = T at *
  have HNl := Lib.hid hNl
  have HTl := Lib.hid hTl
  clear hNl hTl
  have hqV := hV.2.1.lt
  have hV1 := hV.kept k1 h1
  obtain ⟨A3, a3, rfl, ha3, _⟩ := own_nums o1
  obtain ⟨A4, a4, rfl, ha4, _, _⟩ := own_texts o2
  have c0 : V1.cell? ⟨q, 3, none⟩ = some (.slice none 0 0) := hV1.2.1.cell 3
  have f0 := hV1.2.1.free 3
  have hP1 := hV1.put (i := 3) (.slice A3 N.length a3)
  have c1 : (V1.setCell ⟨q, 3, none⟩ (.slice A3 N.length a3)).cell? ⟨q, 4, none⟩ = some (.slice none 0 0) := hP1.2.1.cell 4
  have f1 := hP1.2.1.free 4
  have hP2 := hP1.put (i := 4) (.slice A4 T.length a4)
  have o12 := ownsRow_setCell_below (ownsRow_setCell_below o1 (a := ⟨q, 3, none⟩) hqV (.slice A3 N.length a3)) (a := ⟨q, 4, none⟩) hqV (.slice A4 T.length a4)
  have o22 := ownsRow_setCell_below (ownsRow_setCell_below o2 (a := ⟨q, 3, none⟩) hqV (.slice A3 N.length a3)) (a := ⟨q, 4, none⟩) hqV (.slice A4 T.length a4)
  have hbase : q < V.heap.size := hqV
  have HB0 : Hid (w.heap.size < V.heap.size) := by have := hV.2.2.2.2.1; have := hV.2.2.2.2.2; show _ < _; omega
  clear o1 o2 k1 h1 hV
  go_upto_region 7 with fail
  refine wp_forget (fun W => Dt w g q #[.string s1.1, .string s2.1, .string s3.1, .slice A3 N.length a3, .slice A4 T.length a4] st W ∧ W.ownsRow V.heap.size 3 1 (.slice A3 N.length a3) N.length (N.map iv) ∧
    W.ownsRow V.heap.size 9 1 (.slice A4 T.length a4) T.length (T.map sv)) ⟨hP2, o12, o22⟩ ?_
  clear hP1 hP2 o12 o22 c0 c1 f0 f1 hV1 hqV
  generalize V.heap.size = base at *
  rintro V ⟨hV, o1, o2⟩
  have hno : ∀ (z : Int) (W : World), Dt w g q #[.string s1.1, .string s2.1, .string s3.1, .slice A3 N.length a3, .slice A4 T.length a4] st W → SdEnd w (spZ, z) (.returned (.tuple #[.agg (spArr spZ pZ), .int .i64 z])) (W.setRow w.heap.size (spArr spZ pZ)) := fun z W h =>
    ⟨pZ, rfl, spZ_in _ _, below_setRow h.2.2.2.1 (Nat.le_refl _) _⟩
  have HNo := Lib.hid hno
  clear hno
  cases st with
  | none =>
    have hR : R = (spZ, 2) := HE.out
    have HR := Lib.hid hR
    clear HE hR
    have CB := Lib.hid (rg_bad g none V hV.2.2.1)
    go_wp2_with fail
    (with_reducible refine CB.out.mono ?_)
    rintro _ _ ⟨⟨e, rfl, he⟩, rfl⟩
    rw [Option.isNone_none] at he
    go_wp2_with (refine wpList_store_row rfl 25 _ _ rfl w.heap.size (spArr spZ pZ) rfl rfl 25 spZero hV.1 (spInfo _ _) rfl (spArr_one _ _) ?_)
    refine bodyPost_ret (v := .tuple #[.agg (spArr spZ pZ), .int .i64 2]) ?_ rfl (SdEnd_eq HR.out (HNo.out 2 _ hV))
    rw [results_cell_tmp Tryd.results21]
    have hld := run_loadVar_row (P := Tryd.prog) _ _ _ 25 _ _ _ (hV.1.row (spArr spZ pZ)) Tryd.underlying25 rfl (spInfo spZ pZ)
    simp [asAddr, hld, Result.andThen]
  | some r =>
    have CB := Lib.hid (rg_bad g (some r) V hV.2.2.1)
    have CL := Lib.hid (rg_left g r V hV.2.2.1)
    by_cases hr : r ≠ []
    · have hR : R = (spZ, 2) := by
        rw [HE.out]
        simp only
        rw [if_neg hr]
      have hri : (0 : Int) < r.length := by
        have : 0 < r.length := List.length_pos_iff.2 hr
        omega
      have HR := Lib.hid hR
      clear HE hR hr
      go_wp2_with fail
      (with_reducible refine CB.out.mono ?_)
      rintro _ _ ⟨⟨e, rfl, he⟩, rfl⟩
      rw [Option.isNone_some] at he
      go_wp2_with fail
      (with_reducible refine CL.out.mono ?_)
      rintro _ _ ⟨rfl, rfl⟩
      go_wp2_with (refine wpList_store_row rfl 25 _ _ rfl w.heap.size (spArr spZ pZ) rfl rfl 25 spZero hV.1 (spInfo _ _) rfl (spArr_one _ _) ?_)
      refine bodyPost_ret (v := .tuple #[.agg (spArr spZ pZ), .int .i64 2]) ?_ rfl (SdEnd_eq HR.out (HNo.out 2 _ hV))
      rw [results_cell_tmp Tryd.results21]
      have hld := run_loadVar_row (P := Tryd.prog) _ _ _ 25 _ _ _ (hV.1.row (spArr spZ pZ)) Tryd.underlying25 rfl (spInfo spZ pZ)
      simp [asAddr, hld, Result.andThen]
    replace hr : r = [] := Decidable.byContradiction hr
    subst hr
    have hR : R = if spGood ⟨s1.1, s2.1, s3.1, N, T⟩ ≠ 0 then (spZ, spGood ⟨s1.1, s2.1, s3.1, N, T⟩) else (⟨s1.1, s2.1, s3.1, N, T⟩, 0) := HE.out
    have HR := Lib.hid hR
    clear HE hR
    obtain ⟨S, hS⟩ : ∃ S : Sp, S = ⟨s1.1, s2.1, s3.1, N, T⟩ := ⟨_, rfl⟩
    obtain ⟨p, hp⟩ : ∃ p : SpAt, p = ⟨A3, a3, A4, a4⟩ := ⟨_, rfl⟩
    have harr : #[.string s1.1, .string s2.1, .string s3.1, .slice A3 N.length a3, .slice A4 T.length a4] = spArr S p := by rw [hS, hp]; rfl
    have hlen : S.who.length ≤ 140737488355328 ∧ S.seals.length ≤ 140737488355328 := by
      have h1 := HLen.out
      have h2 := HNl.out
      have h3 := HTl.out
      rw [hS]
      show N.length ≤ _ ∧ T.length ≤ _
      omega
    have hin : ∀ W : World, W.ownsRow base 3 1 (.slice A3 N.length a3) N.length (N.map iv) → W.ownsRow base 9 1 (.slice A4 T.length a4) T.length (T.map sv) → SpIn W W.heap.size S p := fun W o1 o2 => by
      obtain ⟨A, c, e1, hc, hN⟩ := own_nums o1
      obtain ⟨A', c', e2, hc', hT, _⟩ := own_texts o2
      cases e1
      cases e2
      rw [hS, hp]
      exact ⟨hN, hT, hc, hc'⟩
    rw [harr] at hV HNo
    rw [← hS] at HR
    have HIn := Lib.hid hin
    have CG := Lib.hid (SpGood_any S p V (hin V o1 o2) hlen.1 hlen.2)
    have HO1 := Lib.hid o1
    have HO2 := Lib.hid o2
    clear hin harr hS hp hlen o1 o2 HLen HNl HTl
    generalize spGood S = G at *
    go_wp2_with fail
    (with_reducible refine CB.out.mono ?_)
    rintro _ _ ⟨⟨e, rfl, he⟩, rfl⟩
    rw [Option.isNone_some] at he
    go_wp2_with fail
    (with_reducible refine CL.out.mono ?_)
    rintro _ _ ⟨rfl, rfl⟩
    clear CB CL
    go_wp2_with (refine wpList_load_row rfl 25 _ rfl q rfl 25 _ (0, 0) _ hV.2.1 Tryd.underlying25 rfl (spInfo S p) ?_)
    (with_reducible refine CG.out.mono ?_)
    clear CG
    rintro _ V2 ⟨rfl, b2⟩
    have hV2 : Dt w g q (spArr S p) (some []) V2 := ⟨hV.1.below b2 hV.1.lt, hV.2.1.below b2 hV.2.1.lt, hV.2.2.1.below b2, hV.2.2.2.1.trans (b2.mono hV.2.2.2.1.size), hV.2.2.2.2⟩
    have o3 := own_kp HO1.out (Kp.bel (X := fun _ => False) b2) (fun _ _ x => x)
    have o4 := own_kp HO2.out (Kp.bel (X := fun _ => False) b2) (fun _ _ x => x)
    have HO3 := Lib.hid o3
    have HO4 := Lib.hid o4
    clear hV b2 o3 o4 HO1 HO2
    cases hG : G != 0
    case true =>
      have hG2 : G ≠ 0 := by simpa using hG
      rw [if_pos hG2] at HR
      go_wp2_with (refine wpList_store_row rfl 25 _ _ rfl w.heap.size (spArr spZ pZ) rfl rfl 25 spZero hV2.1 (spInfo _ _) rfl (spArr_one _ _) ?_)
      refine bodyPost_ret (v := .tuple #[.agg (spArr spZ pZ), .int .i64 G]) ?_ rfl (SdEnd_eq HR.out (HNo.out G _ hV2))
      rw [results_cell_tmp Tryd.results21]
      have hld := run_loadVar_row (P := Tryd.prog) _ _ _ 25 _ _ _ (hV2.1.row (spArr spZ pZ)) Tryd.underlying25 rfl (spInfo spZ pZ)
      simp [asAddr, hld, Result.andThen]
    have hG2 : G = 0 := by simpa using hG
    subst hG2
    rw [if_neg (by simp)] at HR
    clear hG HNo
    have hfin : SpIn (V2.setRow w.heap.size (spArr S p)) (V2.setRow w.heap.size (spArr S p)).heap.size S p := HIn.out _
      (own_kp HO3.out (Kp.gb (gb_row w.heap.size (spArr S p))) (fun k hk e => by have := own_row_ge HO3.out k hk; have := HB0.out; have := Option.some.inj e; omega))
      (own_kp HO4.out (Kp.gb (gb_row w.heap.size (spArr S p))) (fun k hk e => by have := own_row_ge HO4.out k hk; have := HB0.out; have := Option.some.inj e; omega))
    have HFin := Lib.hid hfin
    clear hfin HIn HO3 HO4
    go_wp2_with (first
      | refine wpList_load_row rfl 25 _ rfl q rfl 25 _ (0, 0) _ hV2.2.1 Tryd.underlying25 rfl (spInfo S p) ?_
      | refine wpList_store_row rfl 25 _ _ rfl w.heap.size (spArr S p) rfl rfl 25 spZero hV2.1 (spInfo S p) rfl (spArr_one S p) ?_)
    refine bodyPost_ret (v := .tuple #[.agg (spArr S p), .int .i64 0]) ?_ rfl (SdEnd_eq HR.out ⟨p, rfl, HFin.out, below_setRow hV2.2.2.2.1 (Nat.le_refl _) _⟩)
    rw [results_cell_tmp Tryd.results21]
    have hld := run_loadVar_row (P := Tryd.prog) _ _ _ 25 _ _ _ (hV2.1.row (spArr S p)) Tryd.underlying25 rfl (spInfo S p)
    simp [asAddr, hld, Result.andThen]
end Go.Proofs.YtbpmgpbmeganoaaDoor

/- ref.Get, ref.GetText: their contracts. -/
namespace Go.Proofs.YtbpmgpbmeganoaaDoor
open Go.RowKit

theorem last_num (n : Nat) (h : 1 < (num n).length) : lastOf (num n) ≠ 0 := by
  rcases (num_ended n).2.1 with h1 | h1
  · omega
  · exact h1
def RGRel (s : ByteArray) (w : World) (n p i : Value) (wr : World) : Prop :=
  ∃ k : Nat, k ≤ s.size ∧ k ≤ 8 ∧ i = .int .i64 (k : Int) ∧ p = .int .i64 ((128 ^ k : Nat) : Int) ∧ n = .int .i64 (val (s.data.toList.take k) : Int) ∧ (∀ x ∈ s.data.toList.take k, 128 ≤ x.toNat) ∧ Below w.heap.size w wr

theorem sum_groups (v b p v2 : Nat) (hp : p ≤ 72057594037927936) (hv : v < p) (h : v2 = v + b % 128 * p) :
    wrap64 ((v : Int) + wrap64 ((b : Int) % 128 * (p : Int))) = (v2 : Int) := by
  have hx : b % 128 * p ≤ 127 * 72057594037927936 := Nat.mul_le_mul (by omega) hp
  have e : (b : Int) % 128 * (p : Int) = ((b % 128 * p : Nat) : Int) := by simp
  rw [e, IntWalk.wrap64_in ((b % 128 * p : Nat) : Int) (by omega), IntWalk.wrap64_in _ (by omega), h]
  omega
/-- what Number makes of what was read is what stands there, just where the last byte is not idle -/
theorem same_bytes (s : ByteArray) (k : Nat) (h : k < s.size) (ho : ∀ x ∈ s.data.toList.take k, 128 ≤ x.toNat) (hb : s[k].toNat < 128) :
    if 0 < k ∧ s[k].toNat = 0 then ((bs (num (val (s.data.toList.take (k + 1))))).toList == (s.extract 0 (k + 1)).toList) = false else bs (num (val (s.data.toList.take (k + 1)))) = s.extract 0 (k + 1) := by
  have he := ended_snoc _ _ ho hb
  rw [← take_snoc s k h] at he
  have hl : (s.data.toList.take (k + 1)).length = k + 1 := by rw [List.length_take]; have : s.data.toList.length = s.size := rfl; omega
  have hlast : lastOf (s.data.toList.take (k + 1)) = s[k].toNat := by rw [take_snoc s k h, lastOf_snoc]
  split
  · rename_i hc
    rw [beq_eq_false_iff_ne]
    intro e
    rw [ByteArray.toList_eq, ByteArray.toList_eq, bs_list, extract_drop, List.drop_zero, Nat.sub_zero] at e
    have h1 := last_num (val (s.data.toList.take (k + 1))) (by rw [e, hl]; omega)
    rw [e, hlast] at h1
    exact h1 hc.2
  · rename_i hc
    rw [(val_ended _ he (by rw [hl, hlast]; omega)).1, bs_extract]

set_option maxRecDepth 100000 in
set_option maxHeartbeats 1000000 in
theorem RefGet_any (s : ByteArray) (hs : s.size ≤ 281474976710656) (w : World) :
    Calls Tryd.prog 79 #[.string s] w fun e w' => GR (got s.data.toList) e ∧ Below w.heap.size w w' := by
  go_enter Tryd.func79, Tryd.ntmps79
  go_wp2_with fail
  go_loopw [5, 6, 7] (fun n p i wr => RGRel s w n p i wr) (fun _ _ i _ => 9 - (intOf i).toNat)
  case atStart => exact ⟨0, by omega, by omega, rfl, rfl, rfl, (fun x hx => by simp at hx), Below.refl _ _⟩
  case round =>
    obtain ⟨k, hk, hk8, rfl, rfl, rfl, ho, hB⟩ := hrel
    have HO := Lib.hid ho
    clear ho
    by_cases hlt : k < s.size
    · have h1 : (k : Int) < 9 := by omega
      have h2 : (k : Int) < s.size := by omega
      have hb := s[k].toNat_lt
      have hv := val_lt (s.data.toList.take k)
      rw [List.length_take, Nat.min_eq_left (show k ≤ s.data.toList.length from hk)] at hv
      have hp : (128 : Nat) ^ k ≤ 72057594037927936 := by
        have : (128 : Nat) ^ k ≤ 128 ^ 8 := Nat.pow_le_pow_right (by decide) (by omega)
        omega
      have hp7 : k < 8 → (128 : Nat) ^ k ≤ 562949953421312 := fun h => by
        have : (128 : Nat) ^ k ≤ 128 ^ 7 := Nat.pow_le_pow_right (by decide) (by omega)
        omega
      have hp8 : k = 8 → (128 : Nat) ^ k = 72057594037927936 := fun h => by subst h; rfl
      have HPS : Hid ((128 : Nat) ^ (k + 1) = 128 ^ k * 128) := by show _ = _; rw [Nat.pow_succ]
      have hv2 : val (s.data.toList.take (k + 1)) = val (s.data.toList.take k) + s[k].toNat % 128 * 128 ^ k := by
        rw [take_snoc s k hlt, val_snoc, List.length_take, Nat.min_eq_left (show k ≤ s.data.toList.length from hk)]
      have hj := sum_groups _ _ _ _ hp hv hv2
      by_cases hg : 128 ≤ s[k].toNat
      · have HG : Hid (k = 8 → got s.data.toList = none) := fun h8 => got_open s 9 (.inr rfl) (by omega) (by
          rw [show 9 = k + 1 from by omega, take_snoc s k hlt]
          intro x hx
          rw [List.mem_append, List.mem_singleton] at hx
          rcases hx with hx | rfl
          · exact HO.out x hx
          · exact hg) (by omega)
        have hg' : 128 ≤ (s[k].toNat : Int) := by omega
        clear hv2 hv
        generalize val (s.data.toList.take k) = v at *
        generalize hV2 : val (s.data.toList.take (k + 1)) = v2 at *
        have HV2 := Lib.hid hV2
        clear hV2
        by_cases h8 : k = 8
        · have HG2 := Lib.hid (HG.out h8)
          have h8' : ((k : Int) == 8) = true := by rw [beq_iff_eq]; omega
          have hg2 : 64 ≤ (s[k].toNat : Int) := by omega
          clear hp8 hp7 HG h8 HPS
          generalize (128 : Nat) ^ k = p at *
          go_wp2_with fail
          go_ret3
          exact ⟨GR_none rfl HG2.out, hB⟩
        · have hp' := hp7 (by omega)
          have h8' : ((k : Int) == 8) = false := by rw [beq_eq_false_iff_ne]; omega
          have h8'' : (k : Int) < 8 := by omega
          have hk7 : k < 8 := by omega
          clear hp8 hp7 HG h8 hp
          generalize hP : (128 : Nat) ^ k = p at *
          have HP := Lib.hid hP
          clear hP
          go_wp2_with fail
          refine ⟨⟨k + 1, hlt, hk7, by go_num, by rw [HPS.out]; go_num, by rw [HV2.out, hj], ?_, hB⟩, by simp [intOf]; omega⟩
          intro x hx
          rw [take_snoc s k hlt, List.mem_append, List.mem_singleton] at hx
          rcases hx with hx | rfl
          · exact HO.out x hx
          · exact hg
      · have hg' : (s[k].toNat : Int) < 128 := by omega
        have HG := Lib.hid (got_at s k hlt (by omega) HO.out (by omega))
        have HS := Lib.hid (same_bytes s k hlt HO.out (by omega))
        have hmod : s[k].toNat % 128 = s[k].toNat := by omega
        rw [hmod] at hv2
        clear hmod
        by_cases h8 : k = 8 ∧ 64 ≤ s[k].toNat
        · obtain ⟨e8, h64⟩ := h8
          have hpe := hp8 e8
          have hbig : 4611686018427387904 ≤ val (s.data.toList.take (k + 1)) := by
            rw [hv2, hpe]; omega
          have HG2 : Hid (got s.data.toList = none) := by show _ = _; rw [HG.out, if_pos (.inr hbig)]
          have h8' : ((k : Int) == 8) = true := by rw [beq_iff_eq]; omega
          have hg2 : 64 ≤ (s[k].toNat : Int) := by omega
          clear HG HS hp8 hp7 hbig hpe hv2 HPS hv e8 h64
          generalize val (s.data.toList.take k) = v at *
          generalize val (s.data.toList.take (k + 1)) = v2 at *
          generalize (128 : Nat) ^ k = p at *
          go_wp2_with fail
          go_ret3
          exact ⟨GR_none rfl HG2.out, hB⟩
        · have hsmall : val (s.data.toList.take (k + 1)) < 4611686018427387904 := by
            rw [hv2]
            by_cases e8 : k = 8
            · rw [hp8 e8] at hv ⊢
              omega
            · have h7 := hp7 (by omega)
              have hx : s[k].toNat * 128 ^ k ≤ 127 * 562949953421312 := Nat.mul_le_mul (by omega) h7
              omega
          have h8' : ((k : Int) == 8) = false ∨ (((k : Int) == 8) = true ∧ ¬ (64 ≤ (s[k].toNat : Int))) := by
            by_cases e : k = 8
            · exact .inr ⟨by rw [beq_iff_eq]; omega, by omega⟩
            · exact .inl (by rw [beq_eq_false_iff_ne]; omega)
          have HN := Lib.hid (RefNumber_yes _ hsmall)
          have w1 : IntKind.i64.wrap ((k : Int) + 1) = (k : Int) + 1 := IntWalk.i64_in _ (by omega)
          have w2 : ((k : Int) + 1).toNat = k + 1 := by omega
          have w3 : (k : Int) + 1 ≤ s.size := by omega
          have w4 : 0 ≤ (k : Int) + 1 := by omega
          have W1 := Lib.hid w1
          have W2 := Lib.hid w2
          clear w1 w2 hp8 hp7 HPS hv hv2 h8
          by_cases hz : 0 < k ∧ s[k].toNat = 0
          · have hne := HS.out
            rw [if_pos hz] at hne
            have HG2 : Hid (got s.data.toList = none) := by show _ = _; rw [HG.out, if_pos (.inl hz)]
            have HNE := Lib.hid hne
            clear HG HS hz hsmall hne HO
            generalize val (s.data.toList.take k) = v at *
            generalize val (s.data.toList.take (k + 1)) = v2 at *
            generalize (128 : Nat) ^ k = p at *
            generalize bs (num v2) = x at *
            rcases h8' with h8' | ⟨h8', h8''⟩
            all_goals
              go_wp2_with fail
              try rw [hj]
              clear hp hj
              have w1 := W1.out
              have w2 := W2.out
              have hne := HNE.out
              go_region_with (first
                | (go_at_call 42
                   (with_reducible refine (HN.out _).mono ?_)
                   rintro e w5 ⟨rfl, b5⟩))
              all_goals
                clear w1 w2 hne
                go_wp2_with fail
                go_ret3
                exact ⟨GR_none rfl HG2.out, (hB.drew).trans (b5.mono (by have := hB.size; simpa using this))⟩
          · have heq := HS.out
            rw [if_neg hz] at heq
            have HG2 : Hid (got s.data.toList = some (val (s.data.toList.take (k + 1)), k + 1)) := by show _ = _; rw [HG.out, if_neg (by omega)]
            rw [heq] at HN
            clear HG HS hz hsmall heq HO
            generalize val (s.data.toList.take k) = v at *
            generalize val (s.data.toList.take (k + 1)) = v2 at *
            generalize (128 : Nat) ^ k = p at *
            rcases h8' with h8' | ⟨h8', h8''⟩
            all_goals
              go_wp2_with fail
              try rw [hj]
              clear hp hj
              have w1 := W1.out
              have w2 := W2.out
              go_region_with (first
                | (go_at_call 42
                   (with_reducible refine (HN.out _).mono ?_)
                   rintro e w5 ⟨rfl, b5⟩))
              all_goals
                clear w1 w2
                go_wp2_with fail
                go_ret3
                exact ⟨GR_some (by go_num) HG2.out, (hB.drew).trans (b5.mono (by have := hB.size; simpa using this))⟩
    · have HG := Lib.hid (got_open s k (by omega) hk HO.out (by omega))
      have h2 : ¬ (k : Int) < s.size := by omega
      clear HO
      generalize (128 : Nat) ^ k = p at *
      go_wp2_with fail
      go_ret3
      exact ⟨GR_none rfl HG.out, hB⟩
end Go.Proofs.YtbpmgpbmeganoaaDoor

/- ref.GetText: its contract; both read alike. -/
namespace Go.Proofs.YtbpmgpbmeganoaaDoor
open Go.RowKit

def RefGetIs (s : ByteArray) (n k : Nat) (e : Int) : Prop := ∀ W, Calls Tryd.prog 79 #[.string s] W fun x w' => x = .returned (.tuple #[.int .i64 (n : Int), .int .i64 (k : Int), .int .i64 e]) ∧ Below W.heap.size W w'
theorem refGetIs_some (s : ByteArray) (hs : s.size ≤ 281474976710656) (n k : Nat) (h : got s.data.toList = some (n, k)) : RefGetIs s n k 0 := fun W => by
  have q := RefGet_any s hs W
  rw [h] at q
  exact q
theorem refGetIs_none (s : ByteArray) (hs : s.size ≤ 281474976710656) (h : got s.data.toList = none) : RefGetIs s 0 0 2 := fun W => by
  have q := RefGet_any s hs W
  rw [h] at q
  exact q
def RefGetTextIs (s r : ByteArray) (k : Nat) (e : Int) : Prop := ∀ W, Calls Tryd.prog 78 #[.string s] W fun x w' => x = .returned (.tuple #[.string r, .int .i64 (k : Int), .int .i64 e]) ∧ Below W.heap.size W w'

set_option maxRecDepth 100000 in
theorem refText_none (s : ByteArray) (hs : s.size ≤ 281474976710656) (h : got s.data.toList = none) : RefGetTextIs s ⟨#[]⟩ 0 2 := fun w => by
  have C := refGetIs_none s hs h
  clear h
  go_enter Tryd.func78, Tryd.ntmps78
  go_wp2_with fail
  have c1 := C w
  (with_reducible refine c1.mono ?_)
  clear c1
  rintro e w1 ⟨rfl, b1⟩
  go_wp2_with fail
  go_ret3
  exact ⟨rfl, b1⟩
set_option maxRecDepth 100000 in
theorem refText_long (s : ByteArray) (hs : s.size ≤ 281474976710656) (n k : Nat) (h : got s.data.toList = some (n, k)) (hn : 4096 < n) : RefGetTextIs s ⟨#[]⟩ 0 1 := fun w => by
  have C := refGetIs_some s hs n k h
  have hn1 : (4096 : Int) < n := by omega
  clear h
  go_enter Tryd.func78, Tryd.ntmps78
  go_wp2_with fail
  have c1 := C w
  (with_reducible refine c1.mono ?_)
  clear c1
  rintro e w1 ⟨rfl, b1⟩
  go_wp2_with fail
  go_ret3
  exact ⟨rfl, b1⟩
set_option maxRecDepth 100000 in
theorem refText_short (s : ByteArray) (hs : s.size ≤ 281474976710656) (n k : Nat) (h : got s.data.toList = some (n, k)) (hn : n ≤ 4096) (hl : s.size < k + n) : RefGetTextIs s ⟨#[]⟩ 0 2 := fun w => by
  have C := refGetIs_some s hs n k h
  have hk : k ≤ 9 := (got_some _ _ _ h).2.2.2.1
  have hn1 : ¬ ((4096 : Int) < n) := by omega
  have hn2 : ((s.size : Int) - k) < n := by omega
  clear h
  go_enter Tryd.func78, Tryd.ntmps78
  go_wp2_with fail
  have c1 := C w
  (with_reducible refine c1.mono ?_)
  clear c1
  rintro e w1 ⟨rfl, b1⟩
  go_wp2_with fail
  go_ret3
  exact ⟨rfl, b1⟩
set_option maxRecDepth 100000 in
theorem refText_yes (s : ByteArray) (hs : s.size ≤ 281474976710656) (n k : Nat) (h : got s.data.toList = some (n, k)) (hn : n ≤ 4096) (hl : k + n ≤ s.size) : RefGetTextIs s (s.extract k (k + n)) (k + n) 0 := fun w => by
  have C := refGetIs_some s hs n k h
  have hk : k ≤ 9 := (got_some _ _ _ h).2.2.2.1
  have hn1 : ¬ ((4096 : Int) < n) := by omega
  have hn2 : ¬ ((s.size : Int) - k) < n := by omega
  clear h
  go_enter Tryd.func78, Tryd.ntmps78
  go_wp2_with fail
  have c1 := C w
  (with_reducible refine c1.mono ?_)
  clear c1
  rintro e w1 ⟨rfl, b1⟩
  go_wp2_with fail
  go_ret3
  exact ⟨rfl, b1⟩

/-- both read a number alike -/
theorem gets_alike (s : ByteArray) (hs : s.size ≤ 281474976710656) : ∃ (n k : Nat) (e : Int), GetIs s n k e ∧ RefGetIs s n k e ∧ k ≤ s.size := by
  cases hg : got s.data.toList with
  | none => exact ⟨0, 0, 2, getIs_none s hs hg, refGetIs_none s hs hg, Nat.zero_le _⟩
  | some nk =>
    obtain ⟨n, k⟩ := nk
    exact ⟨n, k, 0, getIs_some s hs n k hg, refGetIs_some s hs n k hg, (got_some _ _ _ hg).2.2.2.2⟩
/-- both read a text alike -/
theorem texts_alike (s : ByteArray) (hs : s.size ≤ 281474976710656) : ∃ (r : ByteArray) (k : Nat) (e : Int), TextIs s r k e ∧ RefGetTextIs s r k e ∧ k ≤ s.size := by
  cases hg : got s.data.toList with
  | none => exact ⟨_, 0, 2, text_none s hs hg, refText_none s hs hg, Nat.zero_le _⟩
  | some nk =>
    obtain ⟨n, k⟩ := nk
    by_cases h1 : 4096 < n
    · exact ⟨_, 0, 1, text_long s hs n k hg h1, refText_long s hs n k hg h1, Nat.zero_le _⟩
    · by_cases h2 : s.size < k + n
      · exact ⟨_, 0, 2, text_short s hs n k hg (by omega) h2, refText_short s hs n k hg (by omega) h2, Nat.zero_le _⟩
      · exact ⟨_, k + n, 0, text_yes s hs n k hg (by omega) (by omega), refText_yes s hs n k hg (by omega) (by omega), by omega⟩
end Go.Proofs.YtbpmgpbmeganoaaDoor

/- A reader and the document's own cursor, step by step: both answer alike. -/
namespace Go.Proofs.YtbpmgpbmeganoaaDoor
open Go.RowKit

/-- the document's own cursor: what is left, what went wrong -/
def Cu (w : World) (g : Nat) (s : ByteArray) (e : Int) : Prop := Arr w g 78 #[.string s, .int .i64 e]
theorem Cu.c0 {w : World} {g : Nat} {s : ByteArray} {e : Int} (h : Cu w g s e) : w.cell? ⟨g, 0, none⟩ = some (.string s) := h.cell 0
theorem Cu.c1 {w : World} {g : Nat} {s : ByteArray} {e : Int} (h : Cu w g s e) : w.cell? ⟨g, 1, none⟩ = some (.int .i64 e) := h.cell 1
theorem Cu.set {w : World} {g : Nat} {s : ByteArray} {e : Int} (h : Cu w g s e) (s2 : ByteArray) : Cu (w.setCell ⟨g, 0, none⟩ (.string s2)) g s2 e := h.put 0 _
theorem Cu.err {w : World} {g : Nat} {s : ByteArray} {e : Int} (h : Cu w g s e) (e2 : Int) : Cu (w.setCell ⟨g, 1, none⟩ (.int .i64 e2)) g s e2 := h.put 1 _
def AfterC (w : World) (g : Nat) (v : Value) (s : ByteArray) (e : Int) (x : Ending) (w' : World) : Prop := x = .returned v ∧ Cu w' g s e ∧ w.grownBy w' (some g)

theorem cnumber_go (g : Nat) (s : ByteArray) (n k : Nat) (e : Int) (C : RefGetIs s n k e) (hk : k ≤ s.size) (w : World) (h : Cu w g s 0) :
    Calls Tryd.prog 54 #[.pointer (some ⟨g, 0, none⟩)] w (AfterC w g (.int .i64 (n : Int)) (s.extract k s.size) e) := by
  have c0 := h.c0
  have c1 := h.c1
  go_enter Tryd.func54, Tryd.ntmps54
  go_wp2_with fail
  have q := C w
  (with_reducible refine q.mono ?_)
  clear q
  rintro x w1 ⟨rfl, b1⟩
  have h1 : Cu w1 g s 0 := Arr.below h b1 h.lt
  have d0 := h1.c0
  have f0 := h1.free 0
  have h2 := h1.set (s.extract k s.size)
  have d1 := h1.c1
  have f1 := h1.free 1
  have h3 := h2.err e
  clear c0 c1
  go_wp2_with fail
  go_ret
  exact ⟨rfl, h3, gb_trans (gb_below b1) (gb_trans (gb_set _ _ _) (gb_set _ _ _))⟩
theorem cnumber_bad (g : Nat) (s : ByteArray) (e : Int) (he : (e != 0) = true) (w : World) (h : Cu w g s e) :
    Calls Tryd.prog 54 #[.pointer (some ⟨g, 0, none⟩)] w (AfterC w g (.int .i64 0) s e) := by
  have c1 := h.c1
  go_enter Tryd.func54, Tryd.ntmps54
  go_wp2_with fail
  go_ret
  exact ⟨rfl, h, World.grownBy.refl _ _⟩
theorem ctext_go (g : Nat) (s r : ByteArray) (k : Nat) (e : Int) (C : RefGetTextIs s r k e) (hk : k ≤ s.size) (w : World) (h : Cu w g s 0) :
    Calls Tryd.prog 53 #[.pointer (some ⟨g, 0, none⟩)] w (AfterC w g (.string r) (s.extract k s.size) e) := by
  have c0 := h.c0
  have c1 := h.c1
  go_enter Tryd.func53, Tryd.ntmps53
  go_wp2_with fail
  have q := C w
  (with_reducible refine q.mono ?_)
  clear q
  rintro x w1 ⟨rfl, b1⟩
  have h1 : Cu w1 g s 0 := Arr.below h b1 h.lt
  have d0 := h1.c0
  have f0 := h1.free 0
  have h2 := h1.set (s.extract k s.size)
  have d1 := h1.c1
  have f1 := h1.free 1
  have h3 := h2.err e
  clear c0 c1
  go_wp2_with fail
  go_ret
  exact ⟨rfl, h3, gb_trans (gb_below b1) (gb_trans (gb_set _ _ _) (gb_set _ _ _))⟩
theorem ctext_bad (g : Nat) (s : ByteArray) (e : Int) (he : (e != 0) = true) (w : World) (h : Cu w g s e) :
    Calls Tryd.prog 53 #[.pointer (some ⟨g, 0, none⟩)] w (AfterC w g (.string ⟨#[]⟩) s e) := by
  have c1 := h.c1
  go_enter Tryd.func53, Tryd.ntmps53
  go_wp2_with fail
  go_ret
  exact ⟨rfl, h, World.grownBy.refl _ _⟩
theorem ctake_bad (g : Nat) (s : ByteArray) (n e : Int) (he : (e != 0) = true) (he2 : (e == 0) = false) (w : World) (h : Cu w g s e) :
    Calls Tryd.prog 55 #[.pointer (some ⟨g, 0, none⟩), .int .i64 n] w (AfterC w g (.string ⟨#[]⟩) s e) := by
  have c1 := h.c1
  go_enter Tryd.func55, Tryd.ntmps55
  go_wp2_with fail
  go_ret
  exact ⟨rfl, h, World.grownBy.refl _ _⟩
theorem ctake_no (g : Nat) (s : ByteArray) (n : Int) (hn : n < 0 ∨ (s.size : Int) < n) (w : World) (h : Cu w g s 0) :
    Calls Tryd.prog 55 #[.pointer (some ⟨g, 0, none⟩), .int .i64 n] w (AfterC w g (.string ⟨#[]⟩) s 2) := by
  have c0 := h.c0
  have c1 := h.c1
  have f1 := h.free 1
  have h2 := h.err 2
  rcases hn with hn | hn
  · go_enter Tryd.func55, Tryd.ntmps55
    go_wp2_with fail
    go_ret
    exact ⟨rfl, h2, gb_set _ _ _⟩
  · have hn2 : ¬ n < 0 := by omega
    go_enter Tryd.func55, Tryd.ntmps55
    go_wp2_with fail
    go_ret
    exact ⟨rfl, h2, gb_set _ _ _⟩
theorem ctake_go (g : Nat) (s : ByteArray) (n : Nat) (hn : n ≤ s.size) (w : World) (h : Cu w g s 0) :
    Calls Tryd.prog 55 #[.pointer (some ⟨g, 0, none⟩), .int .i64 (n : Int)] w (AfterC w g (.string (s.extract 0 n)) (s.extract n s.size) 0) := by
  have c0 := h.c0
  have c1 := h.c1
  have f0 := h.free 0
  have h2 := h.set (s.extract n s.size)
  have hn2 : ¬ (n : Int) < 0 := by omega
  have hn3 : ¬ (s.size : Int) < n := by omega
  go_enter Tryd.func55, Tryd.ntmps55
  go_wp2_with fail
  go_ret
  exact ⟨rfl, h2, gb_set _ _ _⟩

/-- what a step answers, what is left, what went wrong -/
def stN (s : ByteArray) (e : Int) : Int × ByteArray × Int :=
  if e = 0 then (match got s.data.toList with | some (n, k) => ((n : Int), s.extract k s.size, 0) | none => (0, s.extract 0 s.size, 2)) else (0, s, e)
def stT (s : ByteArray) (e : Int) : ByteArray × ByteArray × Int :=
  if e = 0 then (match got s.data.toList with
    | some (n, k) => if 4096 < n then (⟨#[]⟩, s.extract 0 s.size, 1) else if s.size < k + n then (⟨#[]⟩, s.extract 0 s.size, 2) else (s.extract k (k + n), s.extract (k + n) s.size, 0)
    | none => (⟨#[]⟩, s.extract 0 s.size, 2)) else (⟨#[]⟩, s, e)
def stB (s : ByteArray) (e n : Int) : ByteArray × ByteArray × Int :=
  if e = 0 then (if n < 0 ∨ (s.size : Int) < n then (⟨#[]⟩, s, 2) else (s.extract 0 n.toNat, s.extract n.toNat s.size, 0)) else (⟨#[]⟩, s, e)

theorem both_num (s : ByteArray) (e : Int) (hs : s.size ≤ 281474976710656) : (stN s e).2.1.size ≤ s.size ∧
    (∀ W g, Rd W g s e → Calls Tryd.prog 76 #[.pointer (some ⟨g, 0, none⟩)] W (After W g (.int .i64 (stN s e).1) (stN s e).2.1 (stN s e).2.2)) ∧
    (∀ W g, Cu W g s e → Calls Tryd.prog 54 #[.pointer (some ⟨g, 0, none⟩)] W (AfterC W g (.int .i64 (stN s e).1) (stN s e).2.1 (stN s e).2.2)) := by
  by_cases he : e = 0
  · subst he
    cases hg : got s.data.toList with
    | none =>
      have hst : stN s 0 = (0, s.extract 0 s.size, 2) := by unfold stN; rw [if_pos rfl, hg]
      rw [hst]
      exact ⟨by simp, fun W g h => Number_go g s 0 0 2 (getIs_none s hs hg) (Nat.zero_le _) W h, fun W g h => cnumber_go g s 0 0 2 (refGetIs_none s hs hg) (Nat.zero_le _) W h⟩
    | some nk =>
      obtain ⟨n, k⟩ := nk
      have hk : k ≤ s.size := (got_some _ _ _ hg).2.2.2.2
      have hst : stN s 0 = ((n : Int), s.extract k s.size, 0) := by unfold stN; rw [if_pos rfl, hg]
      rw [hst]
      exact ⟨by simp, fun W g h => Number_go g s n k 0 (getIs_some s hs n k hg) hk W h, fun W g h => cnumber_go g s n k 0 (refGetIs_some s hs n k hg) hk W h⟩
  · have hst : stN s e = (0, s, e) := by unfold stN; rw [if_neg he]
    have he1 : (e != 0) = true := by rw [bne_iff_ne]; exact he
    rw [hst]
    exact ⟨Nat.le_refl _, fun W g h => Number_bad g s e he1 W h, fun W g h => cnumber_bad g s e he1 W h⟩
theorem both_text (s : ByteArray) (e : Int) (hs : s.size ≤ 281474976710656) : (stT s e).2.1.size ≤ s.size ∧
    (∀ W g, Rd W g s e → Calls Tryd.prog 49 #[.pointer (some ⟨g, 0, none⟩)] W (After W g (.string (stT s e).1) (stT s e).2.1 (stT s e).2.2)) ∧
    (∀ W g, Cu W g s e → Calls Tryd.prog 53 #[.pointer (some ⟨g, 0, none⟩)] W (AfterC W g (.string (stT s e).1) (stT s e).2.1 (stT s e).2.2)) := by
  by_cases he : e = 0
  · subst he
    cases hg : got s.data.toList with
    | none =>
      have hst : stT s 0 = (⟨#[]⟩, s.extract 0 s.size, 2) := by unfold stT; rw [if_pos rfl, hg]
      rw [hst]
      exact ⟨by simp, fun W g h => Text_go g s _ 0 2 (text_none s hs hg) (Nat.zero_le _) W h, fun W g h => ctext_go g s _ 0 2 (refText_none s hs hg) (Nat.zero_le _) W h⟩
    | some nk =>
      obtain ⟨n, k⟩ := nk
      by_cases h1 : 4096 < n
      · have hst : stT s 0 = (⟨#[]⟩, s.extract 0 s.size, 1) := by unfold stT; rw [if_pos rfl, hg]; simp only; rw [if_pos h1]
        rw [hst]
        exact ⟨by simp, fun W g h => Text_go g s _ 0 1 (text_long s hs n k hg h1) (Nat.zero_le _) W h, fun W g h => ctext_go g s _ 0 1 (refText_long s hs n k hg h1) (Nat.zero_le _) W h⟩
      · by_cases h2 : s.size < k + n
        · have hst : stT s 0 = (⟨#[]⟩, s.extract 0 s.size, 2) := by unfold stT; rw [if_pos rfl, hg]; simp only; rw [if_neg h1, if_pos h2]
          rw [hst]
          exact ⟨by simp, fun W g h => Text_go g s _ 0 2 (text_short s hs n k hg (by omega) h2) (Nat.zero_le _) W h, fun W g h => ctext_go g s _ 0 2 (refText_short s hs n k hg (by omega) h2) (Nat.zero_le _) W h⟩
        · have hst : stT s 0 = (s.extract k (k + n), s.extract (k + n) s.size, 0) := by unfold stT; rw [if_pos rfl, hg]; simp only; rw [if_neg h1, if_neg h2]
          rw [hst]
          exact ⟨by simp, fun W g h => Text_go g s _ (k + n) 0 (text_yes s hs n k hg (by omega) (by omega)) (by omega) W h, fun W g h => ctext_go g s _ (k + n) 0 (refText_yes s hs n k hg (by omega) (by omega)) (by omega) W h⟩
  · have hst : stT s e = (⟨#[]⟩, s, e) := by unfold stT; rw [if_neg he]
    have he1 : (e != 0) = true := by rw [bne_iff_ne]; exact he
    rw [hst]
    exact ⟨Nat.le_refl _, fun W g h => Text_bad g s e he1 W h, fun W g h => ctext_bad g s e he1 W h⟩
theorem both_bytes (s : ByteArray) (e n : Int) : (stB s e n).2.1.size ≤ s.size ∧
    (∀ W g, Rd W g s e → Calls Tryd.prog 77 #[.pointer (some ⟨g, 0, none⟩), .int .i64 n] W (After W g (.string (stB s e n).1) (stB s e n).2.1 (stB s e n).2.2)) ∧
    (∀ W g, Cu W g s e → Calls Tryd.prog 55 #[.pointer (some ⟨g, 0, none⟩), .int .i64 n] W (AfterC W g (.string (stB s e n).1) (stB s e n).2.1 (stB s e n).2.2)) := by
  by_cases he : e = 0
  · subst he
    by_cases hn : n < 0 ∨ (s.size : Int) < n
    · have hst : stB s 0 n = (⟨#[]⟩, s, 2) := by unfold stB; rw [if_pos rfl, if_pos hn]
      rw [hst]
      exact ⟨Nat.le_refl _, fun W g h => Bytes_no g s n hn W h, fun W g h => ctake_no g s n hn W h⟩
    · obtain ⟨m, rfl⟩ := Int.eq_ofNat_of_zero_le (show 0 ≤ n by omega)
      have hst : stB s 0 (m : Int) = (s.extract 0 m, s.extract m s.size, 0) := by unfold stB; rw [if_pos rfl, if_neg hn, Int.toNat_natCast]
      rw [hst]
      exact ⟨by simp, fun W g h => Bytes_go g s m (by omega) W h, fun W g h => ctake_go g s m (by omega) W h⟩
  · have hst : stB s e n = (⟨#[]⟩, s, e) := by unfold stB; rw [if_neg he]
    have he1 : (e != 0) = true := by rw [bne_iff_ne]; exact he
    have he2 : (e == 0) = false := by rw [beq_eq_false_iff_ne]; exact he
    rw [hst]
    exact ⟨Nat.le_refl _, fun W g h => Bytes_bad g s n e he1 W h, fun W g h => ctake_bad g s n e he1 he2 W h⟩
end Go.Proofs.YtbpmgpbmeganoaaDoor
