/- Texts in one: SpRefD, SpRefD2, OSame, ORefSame. -/
import Derived.Test.YtbpmgpbmeganoaaDoorDkCh4
import Derived.Test.YtbpmgpbmeganoaaDoorWStep
import Derived.Test.YtbpmgpbmeganoaaDoorORefCur
import Derived.Test.YtbpmgpbmeganoaaDoorOMem
import Derived.Test.YtbpmgpbmeganoaaDoorWDone
import Derived.Deep.Cut
/- ref.DecodeStep: its contract. -/
namespace Go.Proofs.YtbpmgpbmeganoaaDoor
open Go.RowKit

def CGs (w : World) (g : Nat) : St → Prop
  | some l => Cu w g (bs l) 0 ∧ l.length ≤ 140737488355328
  | none => ∃ s e, (e != 0) = true ∧ Cu w g s e
theorem CGs.lt {w : World} {g : Nat} {st : St} (h : CGs w g st) : g < w.heap.size := by
  cases st with
  | none => obtain ⟨s, e, _, h⟩ := h; exact Arr.lt h
  | some l => exact Arr.lt h.1
theorem CGs.kept {w w' : World} {g : Nat} {st : St} {r : Option Nat} (h : CGs w g st) (k : w.grownBy w' r) (hr : some g ≠ r) : CGs w' g st := by
  cases st with
  | none => obtain ⟨s, e, he, h⟩ := h; exact ⟨s, e, he, Arr.kept h k hr⟩
  | some l => exact ⟨Arr.kept h.1 k hr, h.2⟩
theorem CGs.below {w w' : World} {g : Nat} {st : St} (h : CGs w g st) (b : Below w.heap.size w w') : CGs w' g st := h.kept (r := none) (gb_below b) (fun e => by cases e)
/-- the cursor's two cells -/
theorem CGs.cells {w : World} {g : Nat} {st : St} (h : CGs w g st) : ∃ s e, w.cell? ⟨g, 0, none⟩ = some (.string s) ∧ w.cell? ⟨g, 1, none⟩ = some (.int .i64 e) ∧ (e != 0) = st.isNone ∧ (e == 0) = !st.isNone ∧ ∀ l, st = some l → s = bs l := by
  cases st with
  | none =>
    obtain ⟨s, e, he, h⟩ := h
    refine ⟨s, e, h.c0, h.c1, he, ?_, fun l e => by cases e⟩
    rw [Option.isNone_none, Bool.not_true, beq_eq_false_iff_ne]
    exact (bne_iff_ne).1 he
  | some l => exact ⟨bs l, 0, h.1.c0, h.1.c1, rfl, rfl, fun l' e => by cases e; rfl⟩
def Cge (w : World) (g : Nat) (v : Value) (st : St) (x : Ending) (w' : World) : Prop := x = .returned v ∧ CGs w' g st ∧ w.grownBy w' (some g)
theorem cg_num (g : Nat) (st : St) (w : World) (h : CGs w g st) : Calls Tryd.prog 54 #[.pointer (some ⟨g, 0, none⟩)] w (Cge w g (.int .i64 ((stNum st).1 : Int)) (stNum st).2) := by
  cases st with
  | none =>
    obtain ⟨s, e, he, h⟩ := h
    exact (cnumber_bad g s e he w h).mono fun x w' ⟨h1, h2, h3⟩ => ⟨h1, ⟨s, e, he, h2⟩, h3⟩
  | some l =>
    obtain ⟨h, hl⟩ := h
    have hs : (bs l).size ≤ 281474976710656 := by rw [bs_size]; omega
    cases hg : got l with
    | none =>
      rw [show stNum (some l) = (0, none) from by simp [stNum, rdNum, hg]]
      exact (cnumber_go g (bs l) 0 0 2 (refGetIs_none _ hs (by rw [bs_list]; exact hg)) (by omega) w h).mono fun x w' ⟨h1, h2, h3⟩ => ⟨h1, ⟨_, 2, by decide, h2⟩, h3⟩
    | some y =>
      obtain ⟨n, k⟩ := y
      have hk := got_some _ _ _ hg
      rw [show stNum (some l) = (n, some (l.drop k)) from by simp [stNum, rdNum, hg]]
      refine (cnumber_go g (bs l) n k 0 (refGetIs_some _ hs n k (by rw [bs_list]; exact hg)) (by rw [bs_size]; exact hk.2.2.2.2) w h).mono fun x w' ⟨h1, h2, h3⟩ => ⟨h1, ⟨?_, by rw [List.length_drop]; omega⟩, h3⟩
      rw [bs_drop] at h2
      exact h2
theorem cg_id (g : Nat) (st : St) (w : World) (h : CGs w g st) : Calls Tryd.prog 55 #[.pointer (some ⟨g, 0, none⟩), .int .i64 32] w (Cge w g (.string (stId st).1) (stId st).2) := by
  cases st with
  | none =>
    obtain ⟨s, e, he, h⟩ := h
    exact (ctake_bad g s 32 e he (by rw [beq_eq_false_iff_ne]; exact (bne_iff_ne).1 he) w h).mono fun x w' ⟨h1, h2, h3⟩ => ⟨h1, ⟨s, e, he, h2⟩, h3⟩
  | some l =>
    obtain ⟨h, hl⟩ := h
    by_cases h5 : 32 ≤ l.length
    · rw [show stId (some l) = (bs (l.take 32), some (l.drop 32)) from by simp only [stId, rdId]; rw [if_pos h5]]
      refine (ctake_go g (bs l) 32 (by rw [bs_size]; exact h5) w h).mono fun x w' ⟨h1, h2, h3⟩ => ⟨?_, ⟨?_, ?_⟩, h3⟩
      · rw [h1, bs_head]
      · rw [bs_drop] at h2; exact h2
      · rw [List.length_drop]; omega
    · rw [show stId (some l) = (⟨#[]⟩, none) from by simp only [stId, rdId]; rw [if_neg h5]]
      exact (ctake_no g (bs l) 32 (.inr (by rw [bs_size]; omega)) w h).mono fun x w' ⟨h1, h2, h3⟩ => ⟨h1, ⟨_, 2, by decide, h2⟩, h3⟩
theorem cg_txt (g : Nat) (st : St) (w : World) (h : CGs w g st) : Calls Tryd.prog 53 #[.pointer (some ⟨g, 0, none⟩)] w (Cge w g (.string (stTxt st).1) (stTxt st).2) := by
  cases st with
  | none =>
    obtain ⟨s, e, he, h⟩ := h
    exact (ctext_bad g s e he w h).mono fun x w' ⟨h1, h2, h3⟩ => ⟨h1, ⟨s, e, he, h2⟩, h3⟩
  | some l =>
    obtain ⟨h, hl⟩ := h
    have hs : (bs l).size ≤ 281474976710656 := by rw [bs_size]; omega
    cases hg : got l with
    | none =>
      rw [show stTxt (some l) = (⟨#[]⟩, none) from by simp [stTxt, rdText, rdNum, hg]]
      exact (ctext_go g (bs l) ⟨#[]⟩ 0 2 (refText_none _ hs (by rw [bs_list]; exact hg)) (by omega) w h).mono fun x w' ⟨h1, h2, h3⟩ => ⟨h1, ⟨_, 2, by decide, h2⟩, h3⟩
    | some y =>
      obtain ⟨n, k⟩ := y
      have hk := (got_some _ _ _ hg).2.2.2.2
      by_cases h4 : n ≤ 4096
      · by_cases h5 : n ≤ (l.drop k).length
        · rw [show stTxt (some l) = (bs ((l.drop k).take n), some ((l.drop k).drop n)) from by simp only [stTxt, rdText, rdNum, hg]; rw [if_pos ⟨h4, h5⟩]]
          rw [List.length_drop] at h5
          refine (ctext_go g (bs l) _ (k + n) 0 (refText_yes _ hs n k (by rw [bs_list]; exact hg) h4 (by rw [bs_size]; omega)) (by rw [bs_size]; omega) w h).mono fun x w' ⟨h1, h2, h3⟩ => ⟨?_, ⟨?_, ?_⟩, h3⟩
          · rw [h1, bs_mid]
          · rw [bs_drop] at h2
            rw [List.drop_drop]
            exact h2
          · simp only [List.length_drop]; omega
        · rw [show stTxt (some l) = (⟨#[]⟩, none) from by simp only [stTxt, rdText, rdNum, hg]; rw [if_neg (fun q => h5 q.2)]]
          rw [List.length_drop] at h5
          exact (ctext_go g (bs l) ⟨#[]⟩ 0 2 (refText_short _ hs n k (by rw [bs_list]; exact hg) h4 (by rw [bs_size]; omega)) (by omega) w h).mono fun x w' ⟨h1, h2, h3⟩ => ⟨h1, ⟨_, 2, by decide, h2⟩, h3⟩
      · rw [show stTxt (some l) = (⟨#[]⟩, none) from by simp only [stTxt, rdText, rdNum, hg]; rw [if_neg (fun q => h4 q.1)]]
        exact (ctext_go g (bs l) ⟨#[]⟩ 0 1 (refText_long _ hs n k (by rw [bs_list]; exact hg) (by omega)) (by omega) w h).mono fun x w' ⟨h1, h2, h3⟩ => ⟨h1, ⟨_, 1, by decide, h2⟩, h3⟩
/-- where the document's own Decode stands -/
structure Dd (w : World) (g q : Nat) (a b c : ByteArray) (st : St) (v v2 : Value) (N : List Int) (T : List ByteArray) (W : World) : Prop where
  res : Arr W w.heap.size 25 spZero
  box : Arr W q 25 #[.string a, .string b, .string c, v, v2]
  cur : CGs W g st
  own : W.ownsRow (q + 1) 3 1 v N.length (N.map iv)
  own2 : W.ownsRow (q + 1) 9 1 v2 T.length (T.map sv)
  bel : Below w.heap.size w W
  l0 : w.heap.size < g
  l1 : g < q
section
variable {w W W' : World} {g q : Nat} {a b c : ByteArray} {st st' : St} {v v2 : Value} {N : List Int} {T : List ByteArray}
theorem Dd.step (h : Dd w g q a b c st v v2 N T W) (k : W.grownBy W' (some g)) (h' : CGs W' g st') : Dd w g q a b c st' v v2 N T W' :=
  ⟨h.res.kept k (fun e => by have := Option.some.inj e; have := h.l0; omega), h.box.kept k (fun e => by have := Option.some.inj e; have := h.l1; omega), h',
    own_kp h.own (Kp.gb k) (fun i hi e => by have := own_row_ge h.own i hi; have := Option.some.inj e; have := h.l1; omega),
    own_kp h.own2 (Kp.gb k) (fun i hi e => by have := own_row_ge h.own2 i hi; have := Option.some.inj e; have := h.l1; omega),
    below_gb h.bel k (by have := h.l0; omega) h.bel.size, h.l0, h.l1⟩
theorem Dd.below (h : Dd w g q a b c st v v2 N T W) (k : Below W.heap.size W W') : Dd w g q a b c st v v2 N T W' :=
  ⟨h.res.below k h.res.lt, h.box.below k h.box.lt, h.cur.below k, own_kp h.own (Kp.bel (X := fun _ => False) k) (fun _ _ x => x), own_kp h.own2 (Kp.bel (X := fun _ => False) k) (fun _ _ x => x), h.bel.trans (k.mono h.bel.size), h.l0, h.l1⟩
theorem Dd.app {x : Int} {v3 : Value} (h : Dd w g q a b c st v v2 N T W) (o : W'.ownsRow (q + 1) 3 1 v3 (N.length + 1) (N.map iv ++ [.int .i64 x])) (k : W.grownBy W' v.ownBlock) :
    Arr W' q 25 #[.string a, .string b, .string c, v, v2] ∧ Dd w g q a b c st v3 v2 (N ++ [x]) T (W'.setCell ⟨q, 3, none⟩ v3) := by
  have hge : ∀ i, v.ownBlock = some i → q + 1 ≤ i := fun i hi => own_row_ge h.own i hi
  have l0 := h.l0
  have l1 := h.l1
  have B := h.box.kept k (fun e => by have := hge q e.symm; omega)
  have s := gb_set (w := W') q 3 v3
  have R := h.res.kept k (fun e => by have := hge _ e.symm; omega)
  have C := h.cur.kept k (fun e => by have := hge _ e.symm; omega)
  have O2 := own_kp h.own2 (Kp.gb k) (own_row h.own2 h.own (by decide))
  have bel : Below w.heap.size w W' := h.bel.grown k h.bel.size (fun i hi => by have := hge i hi; omega)
  refine ⟨B, R.kept s (fun e => by have := Option.some.inj e; omega), B.put 3 v3, C.kept s (fun e => by have := Option.some.inj e; omega), ?_, ?_, below_gb bel s (by omega) bel.size, l0, l1⟩
  · rw [List.length_append, List.map_append]
    exact ownsRow_setCell_below o (a := ⟨q, 3, none⟩) (by simp) v3
  · exact ownsRow_setCell_below O2 (a := ⟨q, 3, none⟩) (by simp) v3
theorem Dd.app2 {x : ByteArray} {v3 : Value} (h : Dd w g q a b c st v v2 N T W) (o : W'.ownsRow (q + 1) 9 1 v3 (T.length + 1) (T.map sv ++ [.string x])) (k : W.grownBy W' v2.ownBlock) :
    Arr W' q 25 #[.string a, .string b, .string c, v, v2] ∧ Dd w g q a b c st v v3 N (T ++ [x]) (W'.setCell ⟨q, 4, none⟩ v3) := by
  have hge : ∀ i, v2.ownBlock = some i → q + 1 ≤ i := fun i hi => own_row_ge h.own2 i hi
  have l0 := h.l0
  have l1 := h.l1
  have B := h.box.kept k (fun e => by have := hge q e.symm; omega)
  have s := gb_set (w := W') q 4 v3
  have R := h.res.kept k (fun e => by have := hge _ e.symm; omega)
  have C := h.cur.kept k (fun e => by have := hge _ e.symm; omega)
  have O1 := own_kp h.own (Kp.gb k) (own_row h.own h.own2 (by decide))
  have bel : Below w.heap.size w W' := h.bel.grown k h.bel.size (fun i hi => by have := hge i hi; omega)
  refine ⟨B, R.kept s (fun e => by have := Option.some.inj e; omega), B.put 4 v3, C.kept s (fun e => by have := Option.some.inj e; omega), ?_, ?_, below_gb bel s (by omega) bel.size, l0, l1⟩
  · exact ownsRow_setCell_below O1 (a := ⟨q, 4, none⟩) (by simp) v3
  · rw [List.length_append, List.map_append]
    exact ownsRow_setCell_below o (a := ⟨q, 4, none⟩) (by simp) v3
end
end Go.Proofs.YtbpmgpbmeganoaaDoor

/- ref.DecodeStep: its contract, walked. -/
namespace Go.Proofs.YtbpmgpbmeganoaaDoor
open Go.RowKit

/-- a region at the end of a block -/
theorem wp_met_in {n : Nat} {P : Program} {c : Code} {K : Act → World → Prop} {Q : Exit → Act → World → Prop} {a : Act} {w : World} {act : Option Addr → Nat → World → Act} (R : Option Addr → Nat → World → Prop)
    (h : ∀ K' : Act → World → Prop, (∀ A c U V, R A c V → K' (act A c U) V) → c.wp P (Exit.inBlock n (Exit.then K' Q)) a w) (k : ∀ A c U V, R A c V → Exit.inBlock n (Exit.then K Q) .normal (act A c U) V) : c.wp P (Exit.inBlock n (Exit.then K Q)) a w := h K k
/-- where the loop stands: on the way, or something went wrong -/
def DlRel (n : Nat) (l0 : List UInt8) (w : World) (g q : Nat) (a b c : ByteArray) (bad : Prop) (i : Value) (wr : World) : Prop :=
  (∃ (L : List Sg) (lc : List UInt8) (v v2 : Value), L.length ≤ n ∧ i = .int .i64 (L.length : Int) ∧ Dd w g q a b c (some lc) v v2 (L.map Prod.fst) (L.map Prod.snd) wr ∧ 33 * L.length + lc.length ≤ l0.length ∧ rdSgs n l0 = (rdSgs (n - L.length) lc).map (fun y => (L ++ y.1, y.2))) ∨
  (∃ (k : Nat) (v v2 : Value) (N : List Int) (T : List ByteArray), k ≤ n ∧ i = .int .i64 (k : Int) ∧ Dd w g q a b c none v v2 N T wr ∧ bad)
def stepOr (a b c : ByteArray) (L : List Sg) : Sp × Int :=
  if spGood ⟨a, b, c, L.map Prod.fst, L.map Prod.snd⟩ ≠ 0 then (spZ, spGood ⟨a, b, c, L.map Prod.fst, L.map Prod.snd⟩) else (⟨a, b, c, L.map Prod.fst, L.map Prod.snd⟩, 0)
/-- the cases of what is read -/
theorem dec_cases {R : Sp × Int} {s1 s2 s3 : ByteArray × St} (hL : ∀ l, s3.2 = some l → l.length ≤ 140737488355328)
    (h : R = match (match (stSgs s3.2).2 with | none => none | some r => if r = [] then some (⟨s1.1, s2.1, s3.1, (stSgs s3.2).1.map Prod.fst, (stSgs s3.2).1.map Prod.snd⟩ : Sp) else none) with | none => (spZ, 2) | some s => if spGood s ≠ 0 then (spZ, spGood s) else (s, 0)) :
    ((stNum s3.2).2 = none ∧ (stNum s3.2).1 = 0 ∧ R = (spZ, 2)) ∨ ∃ l0, (stNum s3.2).2 = some l0 ∧ l0.length ≤ 140737488355328 ∧ (stNum s3.2).1 < 4611686018427387904 ∧ (rdSgs (stNum s3.2).1 l0 = none → R = (spZ, 2)) ∧
      ∀ L r, rdSgs (stNum s3.2).1 l0 = some (L, r) → R = if r = [] then stepOr s1.1 s2.1 s3.1 L else (spZ, 2) := by
  cases h3 : s3.2 with
  | none => rw [h3] at h; exact .inl ⟨rfl, rfl, h⟩
  | some l3 =>
    have hl3 := hL l3 h3
    rw [h3] at h
    cases hn : rdNum l3 with
    | none =>
      have e1 : stNum (some l3) = (0, none) := by simp [stNum, hn]
      have e2 : stSgs (some l3) = ([], none) := by simp [stSgs, hn]
      rw [e2] at h
      rw [e1]
      exact .inl ⟨rfl, rfl, h⟩
    | some y =>
      obtain ⟨n, l0⟩ := y
      have e1 : stNum (some l3) = (n, some l0) := by simp [stNum, hn]
      have e2 : stSgs (some l3) = match rdSgs n l0 with | none => ([], none) | some (L, r2) => (L, some r2) := by
        simp only [stSgs, hn]
        cases rdSgs n l0 <;> rfl
      rw [e2] at h
      rw [e1]
      refine .inr ⟨l0, rfl, by have := rdNum_less hn; omega, rdNum_lt hn, fun e => ?_, fun L r e => ?_⟩
      · simp only at e
        rw [e] at h
        exact h
      · simp only at e
        rw [e] at h
        simp only at h
        rw [h]
        by_cases hr : r = []
        · rw [if_pos hr, if_pos hr]
          rfl
        · rw [if_neg hr, if_neg hr]
set_option maxRecDepth 100000 in
set_option maxHeartbeats 8000000 in
theorem RefDecode_any (s : ByteArray) (hs : s.size ≤ 140737488355328) (w : World) : Calls Tryd.prog 22 #[.string s] w (SdEnd w (spDec s)) := by
  have hE : spDec s = match spRead s.data.toList with | none => (spZ, 2) | some s => if spGood s ≠ 0 then (spZ, spGood s) else (s, 0) := rfl
  rw [spRead_st] at hE
  unfold stStep at hE
  simp only at hE
  have hl : s.data.toList.length ≤ 140737488355328 := hs
  have hl0 : ∀ l, (some s.data.toList : St) = some l → l.length ≤ 140737488355328 := fun l e => by cases e; exact hl
  have hL3 := stTxt_le (stTxt_le (stTxt_le hl0))
  have HS1 : Hid ((stTxt (some s.data.toList)).1.size ≤ 140737488355328) := by have := txt_small (some s.data.toList); show _ ≤ _; omega
  have HL3 := Lib.hid hL3
  have HE := Lib.hid hE
  have hR0 : ∀ W g, Cu W g s 0 → CGs W g (some s.data.toList) := fun W g h => ⟨by rw [bs_of]; exact h, hl⟩
  have HR0 := Lib.hid hR0
  clear hE hl hl0 hR0 hL3
  generalize spDec s = R at *
  generalize s.data.toList = l at *
  go_enter Tryd.func22, Tryd.ntmps22
  go_upto_region 1 with fail
  refine wp_forget (fun W => Arr W w.heap.size 25 spZero ∧ Below w.heap.size w W) ⟨Arr.new _ _ _, (Below.refl _ _).alloc (Nat.le_refl _) _⟩ ?_
  rintro W ⟨A0, b0⟩
  have hg : w.heap.size < W.heap.size := A0.lt
  have hst : Hid (Arr (W.alloc (.cells #[.string s, .int .i64 0] 78)) w.heap.size 25 spZero ∧ CGs (W.alloc (.cells #[.string s, .int .i64 0] 78)) W.heap.size (some l) ∧ Below w.heap.size w (W.alloc (.cells #[.string s, .int .i64 0] 78))) := by
    have bz : Below W.heap.size W (W.alloc (.cells #[.string s, .int .i64 0] 78)) := (Below.refl _ _).alloc (Nat.le_refl _) _
    exact ⟨A0.below bz A0.lt, HR0.out _ _ (Arr.new _ _ _), b0.trans (bz.mono b0.size)⟩
  clear A0 b0 HR0
  generalize hgg : W.heap.size = g at *
  go_upto_region 2 with fail
  refine wp_forget (fun V => Arr V w.heap.size 25 spZero ∧ CGs V g (some l) ∧ Below w.heap.size w V) (by first | exact hst.out | (rw [hgg]; exact hst.out)) ?_
  clear hst hgg
  rintro V ⟨A0, hC, b0⟩
  have C1 := Lib.hid (cg_txt g (some l) V hC)
  generalize hs1 : stTxt (some l) = s1 at *
  clear hs1
  go_wp2_with fail
  (with_reducible refine C1.out.mono ?_)
  clear C1
  rintro _ V1 ⟨rfl, h1, k1⟩
  have A1 := A0.kept k1 (fun e => by have := Option.some.inj e; omega)
  have b1 := below_gb b0 k1 (by omega) b0.size
  have C1 := Lib.hid (cg_txt g s1.2 V1 h1)
  clear A0 hC b0 k1 h1
  generalize stTxt s1.2 = s2 at *
  go_wp2_with fail
  (with_reducible refine C1.out.mono ?_)
  clear C1
  rintro _ V2 ⟨rfl, h1, k1⟩
  have A2 := A1.kept k1 (fun e => by have := Option.some.inj e; omega)
  have b2 := below_gb b1 k1 (by omega) b1.size
  have C1 := Lib.hid (cg_txt g s2.2 V2 h1)
  clear A1 b1 k1 h1
  generalize stTxt s2.2 = s3 at *
  go_wp2_with fail
  (with_reducible refine C1.out.mono ?_)
  clear C1
  rintro _ V3 ⟨rfl, h1, k1⟩
  have A3 := A2.kept k1 (fun e => by have := Option.some.inj e; omega)
  have b3 := below_gb b2 k1 (by omega) b2.size
  have hgl := h1.lt
  have hst : Hid (Dd w g V3.heap.size s1.1 s2.1 s3.1 s3.2 (.slice none 0 0) (.slice none 0 0) [] [] ((V3.alloc (.cells spZero 25)).setRow V3.heap.size (spArr ⟨s1.1, s2.1, s3.1, [], []⟩ pZ))) := by
    have Z0 : Arr (V3.alloc (.cells spZero 25)) V3.heap.size 25 spZero := Arr.new _ _ _
    have bz : Below V3.heap.size V3 ((V3.alloc (.cells spZero 25)).setRow V3.heap.size (spArr ⟨s1.1, s2.1, s3.1, [], []⟩ pZ)) := below_setRow ((Below.refl _ _).alloc (Nat.le_refl _) _) (Nat.le_refl _) _
    exact ⟨A3.below bz A3.lt, Z0.row _, h1.below bz, own_nil _ _ _ _, own_nil _ _ _ _, b3.trans (bz.mono b3.size), hg, hgl⟩
  have Z0 : Arr (V3.alloc (.cells spZero 25)) V3.heap.size 25 spZero := Arr.new _ _ _
  clear A2 b2 k1
  go_upto_region 3 with (refine wpList_store_row rfl 25 _ _ rfl V3.heap.size (spArr ⟨s1.1, s2.1, s3.1, [], []⟩ pZ) rfl rfl 25 spZero Z0 (spInfo _ _) rfl (spArr_one _ _) ?_)
  refine wp_forget (Dd w g V3.heap.size s1.1 s2.1 s3.1 s3.2 (.slice none 0 0) (.slice none 0 0) [] []) (by exact hst.out) ?_
  clear hst Z0 A3 b3 h1 hgl
  generalize V3.heap.size = q
  intro W2 hW2
  have C1 := Lib.hid (cg_num g s3.2 W2 hW2.cur)
  have hcs := dec_cases HL3.out HE.out
  clear HE HL3
  generalize stNum s3.2 = y at *
  obtain ⟨n, st4⟩ := y
  simp only at hcs C1
  obtain ⟨si, hsi, sz0, sz1, sz2⟩ := info_parts info_str
  have Hsi := Lib.hid hsi
  have Sz0 := Lib.hid sz0
  have Sz1 := Lib.hid sz1
  have Sz2 := Lib.hid sz2
  obtain ⟨ii, hii, iz0, iz1, iz2⟩ := info_parts info_int
  have Hii := Lib.hid hii
  have Iz0 := Lib.hid iz0
  have Iz1 := Lib.hid iz1
  have Iz2 := Lib.hid iz2
  clear hsi sz0 sz1 sz2 hii iz0 iz1 iz2
  rcases hcs with ⟨rfl, rfl, hR⟩ | ⟨l0, rfl, hl0, hn62, hno, hyes⟩
  · have HR := Lib.hid hR
    clear hR
    go_wp2_with fail
    (with_reducible refine C1.out.mono ?_)
    clear C1
    rintro _ W3 ⟨rfl, h1, k1⟩
    have hW3 := hW2.step k1 h1
    clear hW2 h1 k1
    go_wp2_with fail
    go_loopw [7] (fun i wr => i = .int .i64 0 ∧ wr = W3) (fun _ _ => 0)
    case atStart => exact ⟨rfl, rfl⟩
    case round =>
      obtain ⟨rfl, rfl⟩ := hrel
      obtain ⟨_, _, x0, x1, he, he2, _⟩ := hW3.cur.cells
      rw [Option.isNone_none] at he
      rw [Option.isNone_none] at he2
      have WE := hW3
      go_wp2_with (refine wpList_store_row rfl 25 _ _ rfl w.heap.size (spArr spZ pZ) rfl rfl 25 spZero WE.res (spInfo _ _) rfl (spArr_one _ _) ?_)
      refine bodyPost_ret (v := .tuple #[.agg (spArr spZ pZ), .int .i64 2]) ?_ rfl (SdEnd_eq HR.out ⟨pZ, rfl, spZ_in _ _, below_setRow WE.bel (Nat.le_refl _) _⟩)
      rw [results_cell_tmp Tryd.results22]
      have hld := run_loadVar_row (P := Tryd.prog) _ _ _ 25 _ _ _ (WE.res.row (spArr spZ pZ)) Tryd.underlying25 rfl (spInfo spZ pZ)
      simp [asAddr, hld, Result.andThen]
  · have HNo := Lib.hid hno
    have HYes := Lib.hid hyes
    clear hno hyes
    go_wp2_with fail
    (with_reducible refine C1.out.mono ?_)
    clear C1
    rintro _ W3 ⟨rfl, h1, k1⟩
    have hW3 := hW2.step k1 h1
    clear hW2 h1 k1
    have hst : Hid (DlRel n l0 w g q s1.1 s2.1 s3.1 (R = (spZ, 2)) (.int .i64 0) W3) := .inl ⟨[], l0, _, _, Nat.zero_le _, rfl, hW3, by simp, by rw [List.length_nil, Nat.sub_zero]; cases rdSgs n l0 <;> rfl⟩
    clear hW3
    go_wp2_with fail
    go_loopw [7] (fun i wr => DlRel n l0 w g q s1.1 s2.1 s3.1 (R = (spZ, 2)) i wr) (fun i _ => n - (intOf i).toNat)
    case atStart => exact hst.out
    case round =>
      clear hst
      rcases hrel with ⟨L, lc, v, v2, hk, rfl, hX, hm, he⟩ | ⟨k, v, v2, N, T, hk, rfl, hX, hbad⟩
      · have HE := Lib.hid he
        clear he
        by_cases hlt : L.length < n
        · have hj : (L.length : Int) < n := by omega
          have x0 : wr.cell? ⟨g, 0, none⟩ = some (.string (bs lc)) := hX.cur.1.c0
          have x1 : wr.cell? ⟨g, 1, none⟩ = some (.int .i64 0) := hX.cur.1.c1
          have hl1 : (L.map Prod.fst).length = L.length := List.length_map _
          have hl2 : (L.map Prod.snd).length = L.length := List.length_map _
          have CN := Lib.hid (cg_num g (some lc) wr.drew (by have := hX.cur; exact this))
          have hx62 := stNum_lt (some lc)
          have hround : ((stId (stNum (some lc)).2).2 = none ∧ R = (spZ, 2)) ∨ ∃ r2, (stId (stNum (some lc)).2).2 = some r2 ∧ r2.length + 33 ≤ lc.length ∧
              rdSgs n l0 = (rdSgs (n - (L ++ [(((stNum (some lc)).1 : Int), (stId (stNum (some lc)).2).1)]).length) r2).map (fun y => ((L ++ [(((stNum (some lc)).1 : Int), (stId (stNum (some lc)).2).1)]) ++ y.1, y.2)) := by
            cases hr : rdNum lc with
            | none =>
              rw [show stNum (some lc) = (0, none) from by simp [stNum, hr]]
              exact .inl ⟨rfl, HNo.out (sgs_bad HE.out hlt hr)⟩
            | some y =>
              obtain ⟨x, r⟩ := y
              rw [show stNum (some lc) = (x, some r) from by simp [stNum, hr]]
              simp only
              cases hr2 : rdId r with
              | none =>
                rw [show stId (some r) = (⟨#[]⟩, none) from by simp [stId, hr2]]
                exact .inl ⟨rfl, HNo.out (sgs_bad2 HE.out hlt hr hr2)⟩
              | some y2 =>
                obtain ⟨t, r2⟩ := y2
                rw [show stId (some r) = (t, some r2) from by simp [stId, hr2]]
                exact .inr ⟨r2, rfl, by have := rdNum_less hr; have := rdId_len hr2; omega, sgs_more HE.out hlt hr hr2⟩
          have HRound := Lib.hid hround
          clear hround HE
          generalize stNum (some lc) = y1 at *
          obtain ⟨x, st1⟩ := y1
          simp only at HRound hx62 CN
          generalize hN : L.map Prod.fst = N at *
          generalize hT : L.map Prod.snd = T at *
          have HN := Lib.hid hN
          have HTt := Lib.hid hT
          have HX := Lib.hid hX
          clear hN hT
          have hlN : (N ++ [(x : Int)]).length = L.length + 1 := by rw [List.length_append, hl1]; rfl
          have d3 : wr.drew.cell? ⟨q, 3, none⟩ = some v := hX.box.cell 3
          have hrd : wr.grownBy wr.drew (some g) := gb_below ((Below.refl _ wr).drew)
          clear hX
          go_upto_region 7 with fail
          apply wp_met (R := fun A c V => Dd w g q s1.1 s2.1 s3.1 st1 (.slice A (L.length + 1) c) v2 (N ++ [(x : Int)]) T V)
          case h =>
            intro K' hK'
            go_region_law (first
              | (go_simp; go_at_call 54; (with_reducible refine CN.out.mono ?_); rintro _ W5 ⟨rfl, h5, k5⟩
                 have hD5 := HX.out.step (gb_trans hrd k5) h5
                 have y3 : W5.cell? ⟨q, 3, none⟩ = some v := hD5.box.cell 3
                 have ba : Below W5.heap.size W5 (W5.alloc (.cells #[.int .i64 (x : Int)] 3)) := (Below.refl _ _).alloc (Nat.le_refl _) _
                 have hD6 := hD5.below ba
                 have N6 := news_int W5 x
                 have z3 : (W5.alloc (.cells #[.int .i64 (x : Int)] 3)).cell? ⟨q, 3, none⟩ = some v := hD6.box.cell 3
                 have hsz6 : q + 1 ≤ (W5.alloc (.cells #[.int .i64 (x : Int)] 3)).heap.size := hD6.box.lt)
              | (refine step_app _ rfl _ _ 22 rfl (q + 1) 3 ii _ 1 8 Tryd.underlying22 Hii.out Iz0.out Iz1.out Iz2.out rfl (by decide) v N.length (N.map iv) rfl hD6.own (some ⟨W5.heap.size, 0, none⟩) 1 1 [.int .i64 (x : Int)] rfl rfl N6 (by intro u hu; simp at hu; subst hu; rfl) (by unfold maxLen; omega) (by omega) hsz6 ?_
                 intro v3 W7 o7 g7
                 obtain ⟨hB7, hD7⟩ := hD6.app o7 g7
                 obtain ⟨A9, c9, rfl, _, _⟩ := own_nums (N := N ++ [(x : Int)]) (by have := o7; rw [List.length_append, List.map_append]; exact this)
                 rw [hlN] at hD7
                 have w3 : W7.cell? ⟨q, 3, none⟩ = some v := hB7.cell 3
                 have f3 := hB7.free 3))
            all_goals (go_simp; exact hK' A9 c9 W5 _ hD7)
          case k =>
            intro A9 c9 _ V5 hV5
            have CI := Lib.hid (cg_id g st1 V5.drew (by have := hV5.cur; exact this))
            generalize stId st1 = y2 at *
            obtain ⟨t, st2⟩ := y2
            simp only at HRound CI
            have hlT : (T ++ [t]).length = L.length + 1 := by rw [List.length_append, hl2]; rfl
            have HX2 := Lib.hid hV5
            have d4 : V5.drew.cell? ⟨q, 4, none⟩ = some v2 := hV5.box.cell 4
            have hrd2 : V5.grownBy V5.drew (some g) := gb_below ((Below.refl _ V5).drew)
            clear hV5 d3 CN HX
            go_upto_region 8 with fail
            apply wp_met_in (R := fun A c V => Dd w g q s1.1 s2.1 s3.1 st2 (.slice A9 (L.length + 1) c9) (.slice A (L.length + 1) c) (N ++ [(x : Int)]) (T ++ [t]) V)
            case h =>
              intro K' hK'
              go_region_law (first
                | (go_simp; go_at_call 55; (with_reducible refine CI.out.mono ?_); rintro _ W5 ⟨rfl, h5, k5⟩
                   have hD5 := HX2.out.step (gb_trans hrd2 k5) h5
                   have y3 : W5.cell? ⟨q, 4, none⟩ = some v2 := hD5.box.cell 4
                   have ba : Below W5.heap.size W5 (W5.alloc (.cells #[.string t] 9)) := (Below.refl _ _).alloc (Nat.le_refl _) _
                   have hD6 := hD5.below ba
                   have N6 := news_str W5 t
                   have z3 : (W5.alloc (.cells #[.string t] 9)).cell? ⟨q, 4, none⟩ = some v2 := hD6.box.cell 4
                   have hsz6 : q + 1 ≤ (W5.alloc (.cells #[.string t] 9)).heap.size := hD6.box.lt)
                | (refine step_app _ rfl _ _ 23 rfl (q + 1) 9 si _ 1 16 Tryd.underlying23 Hsi.out Sz0.out Sz1.out Sz2.out rfl (by decide) v2 T.length (T.map sv) rfl hD6.own2 (some ⟨W5.heap.size, 0, none⟩) 1 1 [.string t] rfl rfl N6 (by intro u hu; simp at hu; subst hu; rfl) (by unfold maxLen; omega) (by omega) hsz6 ?_
                   intro v3 W7 o7 g7
                   obtain ⟨hB7, hD7⟩ := hD6.app2 o7 g7
                   obtain ⟨A10, c10, rfl, _, _, _⟩ := own_texts (T := T ++ [t]) (by have := o7; rw [List.length_append, List.map_append]; exact this)
                   rw [hlT] at hD7
                   have w3 : W7.cell? ⟨q, 4, none⟩ = some v2 := hB7.cell 4
                   have f3 := hB7.free 4))
              all_goals (go_simp; exact hK' A10 c10 W5 _ hD7)
            case k =>
              intro A10 c10 _ V6 hV6
              have hkn : L.length + 1 ≤ n := hlt
              clear d4 CI HX2
              have hnx : Hid (DlRel n l0 w g q s1.1 s2.1 s3.1 (R = (spZ, 2)) (.int .i64 ((L.length : Int) + 1)) V6) := by
                rcases HRound.out with ⟨h1, h2⟩ | ⟨r2, h1, h2, h3⟩
                · rw [h1] at hV6
                  exact .inr ⟨L.length + 1, .slice A9 (L.length + 1) c9, .slice A10 (L.length + 1) c10, N ++ [(x : Int)], T ++ [t], hkn, by rw [Int.natCast_add]; rfl, hV6, h2⟩
                · rw [h1] at hV6
                  refine .inl ⟨L ++ [((x : Int), t)], r2, .slice A9 (L.length + 1) c9, .slice A10 (L.length + 1) c10, by rw [List.length_append]; exact hkn, by rw [List.length_append]; simp, ?_, by rw [List.length_append]; simp; omega, h3⟩
                  rw [List.map_append, List.map_append, HN.out, HTt.out]
                  exact hV6
              clear HRound HNo HYes hV6
              go_wp2_with fail
              go_roundw
              case rel => exact hnx.out
              case measure => simp [intOf]; omega
        · have hj : ¬ (L.length : Int) < n := by omega
          have hdone := HYes.out _ _ (sgs_done HE.out hlt hk)
          have x0 : wr.cell? ⟨g, 0, none⟩ = some (.string (bs lc)) := hX.cur.1.c0
          have x1 : wr.cell? ⟨g, 1, none⟩ = some (.int .i64 0) := hX.cur.1.c1
          by_cases hlc : lc = []
          · subst hlc
            rw [if_pos rfl] at hdone
            unfold stepOr at hdone
            replace x0 : wr.cell? ⟨g, 0, none⟩ = some (.string ⟨#[]⟩) := x0
            obtain ⟨S, hS⟩ : ∃ S : Sp, S = ⟨s1.1, s2.1, s3.1, L.map Prod.fst, L.map Prod.snd⟩ := ⟨_, rfl⟩
            rw [← hS] at hdone
            obtain ⟨A3, a3, rfl, ha3, _⟩ := own_nums hX.own
            obtain ⟨A4, a4, rfl, ha4, _, _⟩ := own_texts hX.own2
            obtain ⟨p, hp⟩ : ∃ p : SpAt, p = ⟨A3, a3, A4, a4⟩ := ⟨_, rfl⟩
            have harr : #[.string s1.1, .string s2.1, .string s3.1, .slice A3 (L.map Prod.fst).length a3, .slice A4 (L.map Prod.snd).length a4] = spArr S p := by rw [hS, hp]; rfl
            have hlen : S.who.length ≤ 140737488355328 ∧ S.seals.length ≤ 140737488355328 ∧ S.ref.size ≤ 140737488355328 := by
              rw [hS]
              simp only [List.length_map]
              exact ⟨by omega, by omega, HS1.out⟩
            have hin : ∀ W : World, W.ownsRow (q + 1) 3 1 (.slice A3 (L.map Prod.fst).length a3) (L.map Prod.fst).length ((L.map Prod.fst).map iv) → W.ownsRow (q + 1) 9 1 (.slice A4 (L.map Prod.snd).length a4) (L.map Prod.snd).length ((L.map Prod.snd).map sv) → SpIn W W.heap.size S p := fun W o1 o2 => by
              obtain ⟨A, c, e1, hc, hN⟩ := own_nums o1
              obtain ⟨A', c', e2, hc', hT, _⟩ := own_texts o2
              cases e1
              cases e2
              rw [hS, hp]
              exact ⟨hN, hT, hc, hc'⟩
            have hbx := hX.box
            rw [harr] at hbx
            have HIn := Lib.hid hin
            have CG := Lib.hid (GoodStep_any S p wr (hin wr hX.own hX.own2) hlen.2.2 hlen.1 hlen.2.1)
            have HD := Lib.hid hdone
            have HO := Lib.hid hX
            have hne : w.heap.size < q := by have := hX.l0; have := hX.l1; omega
            clear hdone hS hp harr hlen hin hX HE HYes HNo
            generalize spGood S = G at *
            go_wp2_with (refine wpList_load_row rfl 25 _ rfl q rfl 25 _ (0, 0) _ hbx Tryd.underlying25 rfl (spInfo S p) ?_)
            (with_reducible refine CG.out.mono ?_)
            clear CG
            rintro _ V2 ⟨rfl, b2⟩
            have hV2 := HO.out.below b2
            have hbx2 := hbx.below b2 hbx.lt
            clear hbx x0 x1 b2
            cases hG : G != 0
            case true =>
              have hG2 : G ≠ 0 := by simpa using hG
              rw [if_pos hG2] at HD
              go_wp2_with (refine wpList_store_row rfl 25 _ _ rfl w.heap.size (spArr spZ pZ) rfl rfl 25 spZero hV2.res (spInfo _ _) rfl (spArr_one _ _) ?_)
              refine bodyPost_ret (v := .tuple #[.agg (spArr spZ pZ), .int .i64 G]) ?_ rfl (SdEnd_eq HD.out ⟨pZ, rfl, spZ_in _ _, below_setRow hV2.bel (Nat.le_refl _) _⟩)
              rw [results_cell_tmp Tryd.results22]
              have hld := run_loadVar_row (P := Tryd.prog) _ _ _ 25 _ _ _ (hV2.res.row (spArr spZ pZ)) Tryd.underlying25 rfl (spInfo spZ pZ)
              simp [asAddr, hld, Result.andThen]
            have hG2 : G = 0 := by simpa using hG
            subst hG2
            rw [if_neg (by simp)] at HD
            clear hG
            have hfin : SpIn (V2.setRow w.heap.size (spArr S p)) (V2.setRow w.heap.size (spArr S p)).heap.size S p := HIn.out _
              (own_kp hV2.own (Kp.gb (gb_row w.heap.size (spArr S p))) (fun k hk e => by have := own_row_ge hV2.own k hk; have := Option.some.inj e; omega))
              (own_kp hV2.own2 (Kp.gb (gb_row w.heap.size (spArr S p))) (fun k hk e => by have := own_row_ge hV2.own2 k hk; have := Option.some.inj e; omega))
            have HFin := Lib.hid hfin
            clear hfin HIn
            go_wp2_with (first
              | refine wpList_load_row rfl 25 _ rfl q rfl 25 _ (0, 0) _ hbx2 Tryd.underlying25 rfl (spInfo S p) ?_
              | refine wpList_store_row rfl 25 _ _ rfl w.heap.size (spArr S p) rfl rfl 25 spZero hV2.res (spInfo S p) rfl (spArr_one S p) ?_)
            refine bodyPost_ret (v := .tuple #[.agg (spArr S p), .int .i64 0]) ?_ rfl (SdEnd_eq HD.out ⟨p, rfl, HFin.out, below_setRow hV2.bel (Nat.le_refl _) _⟩)
            rw [results_cell_tmp Tryd.results22]
            have hld := run_loadVar_row (P := Tryd.prog) _ _ _ 25 _ _ _ (hV2.res.row (spArr S p)) Tryd.underlying25 rfl (spInfo S p)
            simp [asAddr, hld, Result.andThen]
          · rw [if_neg hlc] at hdone
            have HD := Lib.hid hdone
            have hz : (bs lc).data.toList = lc := bs_list lc
            have he : (bs lc).toList.isEmpty = false := by
              rw [toList_data, hz]
              cases lc with
              | nil => exact absurd rfl hlc
              | cons a l => rfl
            have he2 : ¬ (bs lc).toList = [] := fun q => by rw [q] at he; cases he
            have hne : ¬ bs lc = ⟨#[]⟩ := fun q => hlc (by rw [← hz, q])
            clear hdone hz HE HYes HNo hlc
            generalize bs lc = B at *
            go_wp2_with (refine wpList_store_row rfl 25 _ _ rfl w.heap.size (spArr spZ pZ) rfl rfl 25 spZero hX.res (spInfo _ _) rfl (spArr_one _ _) ?_)
            refine bodyPost_ret (v := .tuple #[.agg (spArr spZ pZ), .int .i64 2]) ?_ rfl (SdEnd_eq HD.out ⟨pZ, rfl, spZ_in _ _, below_setRow hX.bel (Nat.le_refl _) _⟩)
            rw [results_cell_tmp Tryd.results22]
            have hld := run_loadVar_row (P := Tryd.prog) _ _ _ 25 _ _ _ (hX.res.row (spArr spZ pZ)) Tryd.underlying25 rfl (spInfo spZ pZ)
            simp [asAddr, hld, Result.andThen]
      · have HB := Lib.hid hbad
        clear hbad
        by_cases hlt : k < n
        · have hj : (k : Int) < n := by omega
          obtain ⟨_, _, x0, x1, he, he2, _⟩ := hX.cur.cells
          rw [Option.isNone_none] at he
          rw [Option.isNone_none] at he2
          have WE := hX
          go_wp2_with (refine wpList_store_row rfl 25 _ _ rfl w.heap.size (spArr spZ pZ) rfl rfl 25 spZero WE.res (spInfo _ _) rfl (spArr_one _ _) ?_)
          refine bodyPost_ret (v := .tuple #[.agg (spArr spZ pZ), .int .i64 2]) ?_ rfl (SdEnd_eq HB.out ⟨pZ, rfl, spZ_in _ _, below_setRow WE.bel (Nat.le_refl _) _⟩)
          rw [results_cell_tmp Tryd.results22]
          have hld := run_loadVar_row (P := Tryd.prog) _ _ _ 25 _ _ _ (WE.res.row (spArr spZ pZ)) Tryd.underlying25 rfl (spInfo spZ pZ)
          simp [asAddr, hld, Result.andThen]
        · have hj : ¬ (k : Int) < n := by omega
          obtain ⟨_, _, x0, x1, he, he2, _⟩ := hX.cur.cells
          rw [Option.isNone_none] at he
          rw [Option.isNone_none] at he2
          have WE := hX
          go_wp2_with (refine wpList_store_row rfl 25 _ _ rfl w.heap.size (spArr spZ pZ) rfl rfl 25 spZero WE.res (spInfo _ _) rfl (spArr_one _ _) ?_)
          refine bodyPost_ret (v := .tuple #[.agg (spArr spZ pZ), .int .i64 2]) ?_ rfl (SdEnd_eq HB.out ⟨pZ, rfl, spZ_in _ _, below_setRow WE.bel (Nat.le_refl _) _⟩)
          rw [results_cell_tmp Tryd.results22]
          have hld := run_loadVar_row (P := Tryd.prog) _ _ _ 25 _ _ _ (WE.res.row (spArr spZ pZ)) Tryd.underlying25 rfl (spInfo spZ pZ)
          simp [asAddr, hld, Result.andThen]
end Go.Proofs.YtbpmgpbmeganoaaDoor

/- Objects compared. -/
namespace Go.Proofs.YtbpmgpbmeganoaaDoor
open Go.RowKit

def neE (x y : Ent) : Bool := !(eqB x.name y.name && x.dir == y.dir && eqB x.id y.id)
theorem neE_iff (x y : Ent) : neE x y = false ↔ x = y := by
  unfold neE
  obtain ⟨a, b, c⟩ := x
  obtain ⟨a', b', c'⟩ := y
  simp [eqB_iff, and_assoc]
theorem take_eq_step {α : Type} {T U : List α} {k : Nat} (h : T.take k = U.take k) (h1 : k < T.length) (h2 : k < U.length) (e : T[k] = U[k]) : T.take (k + 1) = U.take (k + 1) := by
  rw [List.take_succ_eq_append_getElem h1, List.take_succ_eq_append_getElem h2, h, e]
set_option maxRecDepth 100000 in
set_option maxHeartbeats 1000000 in
theorem keepStrings_any (T U : List ByteArray) (hl : T.length ≤ 281474976710656) (hu : U.length ≤ 281474976710656) (A A' : Option Addr) (c c' : Nat) (w : World) (hP : Txs w w.heap.size A T) (hQ : Txs w w.heap.size A' U) :
    Calls Tryd.prog 65 #[.slice A T.length c, .slice A' U.length c'] w fun e w' => e = .returned (.bool (decide (T = U))) ∧ Below w.heap.size w w' := by
  by_cases hlen : T.length = U.length
  · have hlb : ((T.length : Int) != U.length) = false := by rw [hlen]; simp
    rw [hlen] at hlb ⊢
    go_enter Tryd.func65, Tryd.ntmps65
    go_wp2_with fail
    go_loopw [5] (fun i wr => ∃ k : Nat, k ≤ U.length ∧ i = .int .i64 (k : Int) ∧ T.take k = U.take k ∧ Below w.heap.size w wr) (fun i _ => U.length - (intOf i).toNat)
    case atStart => exact ⟨0, Nat.zero_le _, rfl, rfl, Below.refl _ _⟩
    case round =>
      obtain ⟨k, hk, rfl, ht, hB⟩ := hrel
      have HT := Lib.hid ht
      clear ht
      by_cases hlt : k < U.length
      · have hlt2 : k < T.length := by omega
        obtain ⟨ad, rfl, hbl, h0⟩ := hP k T[k] (List.getElem?_eq_getElem hlt2)
        obtain ⟨ad2, rfl, hbl2, h1⟩ := hQ k U[k] (List.getElem?_eq_getElem hlt)
        have g0 := (hB.cell hbl).trans h0
        have g1 := (hB.cell hbl2).trans h1
        have hi : (k : Int) < U.length := by omega
        have HS := Lib.hid (fun e => take_eq_step HT.out hlt2 hlt e)
        have HN : Hid (T[k] ≠ U[k] → T ≠ U) := fun h e => by subst e; exact h rfl
        clear h0 h1 hP hQ HT
        generalize T[k] = x at *
        generalize U[k] = y at *
        cases hq : x.toList == y.toList
        · have hne : Hid (decide (T = U) = false) := decide_eq_false (HN.out (fun e => by rw [e] at hq; simp at hq))
          clear HS HN hlb
          go_wp2_with fail
          go_quiet (fail)
          go_wp2_with fail
          go_ret
          exact ⟨by rw [hne.out]; rfl, below_drewN hB _⟩
        · have HS2 := Lib.hid (HS.out ((eqB_iff x y).1 hq))
          clear HS HN hlb
          go_wp2_with fail
          go_quiet (fail)
          go_wp2_with fail
          refine ⟨⟨k + 1, hlt, by go_num, HS2.out, below_drewN hB _⟩, by simp [intOf]; omega⟩
      · obtain rfl : k = U.length := by omega
        have hi : ¬ (U.length : Int) < U.length := by omega
        have heq : Hid (decide (T = U) = true) := decide_eq_true (by have := HT.out; rwa [List.take_length, List.take_of_length_le (by omega)] at this)
        clear hP hQ HT hlb
        go_wp2_with fail
        go_ret
        exact ⟨by rw [heq.out]; rfl, hB⟩
  · have hlb : ((T.length : Int) != U.length) = true := by rw [bne_iff_ne]; omega
    have hne : Hid (decide (T = U) = false) := decide_eq_false (fun e => hlen (by rw [e]))
    clear hP hQ hlen
    go_enter Tryd.func65, Tryd.ntmps65
    go_wp2_with fail
    go_ret
    exact ⟨by rw [hne.out]; rfl, Below.refl _ _⟩
end Go.Proofs.YtbpmgpbmeganoaaDoor

/- ref.SameStrings: its contract. -/
namespace Go.Proofs.YtbpmgpbmeganoaaDoor
open Go.RowKit

set_option maxRecDepth 100000 in
set_option maxHeartbeats 1000000 in
theorem RefStrings_any (T U : List ByteArray) (hl : T.length ≤ 281474976710656) (hu : U.length ≤ 281474976710656) (A A' : Option Addr) (c c' : Nat) (w : World) (hP : Txs w w.heap.size A T) (hQ : Txs w w.heap.size A' U) :
    Calls Tryd.prog 56 #[.slice A T.length c, .slice A' U.length c'] w fun e w' => e = .returned (.bool (decide (T = U))) ∧ Below w.heap.size w w' := by
  by_cases hlen : T.length = U.length
  · have hlb : ((T.length : Int) != U.length) = false := by rw [hlen]; simp
    rw [hlen] at hlb ⊢
    go_enter Tryd.func56, Tryd.ntmps56
    go_wp2_with fail
    go_loopw [13] (fun i wr => ∃ k : Nat, k ≤ U.length ∧ i = .int .i64 (k : Int) ∧ T.take k = U.take k ∧ Below w.heap.size w wr) (fun i _ => U.length - (intOf i).toNat)
    case atStart => exact ⟨0, Nat.zero_le _, rfl, rfl, Below.refl _ _⟩
    case round =>
      obtain ⟨k, hk, rfl, ht, hB⟩ := hrel
      have HT := Lib.hid ht
      clear ht
      by_cases hlt : k < U.length
      · have hlt2 : k < T.length := by omega
        obtain ⟨ad, rfl, hbl, h0⟩ := hP k T[k] (List.getElem?_eq_getElem hlt2)
        obtain ⟨ad2, rfl, hbl2, h1⟩ := hQ k U[k] (List.getElem?_eq_getElem hlt)
        have g0 := (hB.cell hbl).trans h0
        have g1 := (hB.cell hbl2).trans h1
        have hi : (k : Int) < U.length := by omega
        have HS := Lib.hid (fun e => take_eq_step HT.out hlt2 hlt e)
        have HN : Hid (T[k] ≠ U[k] → T ≠ U) := fun h e => by subst e; exact h rfl
        clear h0 h1 hP hQ HT
        generalize T[k] = x at *
        generalize U[k] = y at *
        cases hq : x.toList == y.toList
        · have hne : Hid (decide (T = U) = false) := decide_eq_false (HN.out (fun e => by rw [e] at hq; simp at hq))
          clear HS HN hlb
          go_wp2_with fail
          go_quiet (fail)
          go_wp2_with fail
          go_ret
          exact ⟨by rw [hne.out]; rfl, below_drewN hB _⟩
        · have HS2 := Lib.hid (HS.out ((eqB_iff x y).1 hq))
          clear HS HN hlb
          go_wp2_with fail
          go_quiet (fail)
          go_wp2_with fail
          refine ⟨⟨k + 1, hlt, by go_num, HS2.out, below_drewN hB _⟩, by simp [intOf]; omega⟩
      · obtain rfl : k = U.length := by omega
        have hi : ¬ (U.length : Int) < U.length := by omega
        have heq : Hid (decide (T = U) = true) := decide_eq_true (by have := HT.out; rwa [List.take_length, List.take_of_length_le (by omega)] at this)
        clear hP hQ HT hlb
        go_wp2_with fail
        go_ret
        exact ⟨by rw [heq.out]; rfl, hB⟩
  · have hlb : ((T.length : Int) != U.length) = true := by rw [bne_iff_ne]; omega
    have hne : Hid (decide (T = U) = false) := decide_eq_false (fun e => hlen (by rw [e]))
    clear hP hQ hlen
    go_enter Tryd.func56, Tryd.ntmps56
    go_wp2_with fail
    go_ret
    exact ⟨by rw [hne.out]; rfl, Below.refl _ _⟩
end Go.Proofs.YtbpmgpbmeganoaaDoor
