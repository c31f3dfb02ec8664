/- Texts in one: SpApply, RfRefC, RfSame. -/
import Derived.Test.YtbpmgpbmeganoaaDoorSpCheck
import Derived.Test.YtbpmgpbmeganoaaDoorSpPartP
import Derived.Test.YtbpmgpbmeganoaaDoorDkDel
import Derived.Test.YtbpmgpbmeganoaaDoorRfRefB
import Derived.Test.YtbpmgpbmeganoaaDoorRfMem
import Derived.Test.YtbpmgpbmeganoaaDoorDkRefA
/- step.apply: its contract. -/
namespace Go.Proofs.YtbpmgpbmeganoaaDoor
open Go.RowKit

theorem Ck.start {k : Ky} {q : KyAt} {s : Sp} {p : SpAt} {w : World} (hK : KyIn w w.heap.size k q) (hP : SpIn w w.heap.size s p) (ht : Tab w) :
    Ck w k q s p ((w.alloc (.cells (kyArr k q) 41)).alloc (.cells (spArr s p) 25)) := by
  have A0 : Arr (w.alloc (.cells (kyArr k q) 41)) w.heap.size 41 (kyArr k q) := Arr.new _ _ _
  have b0 : Below w.heap.size w (w.alloc (.cells (kyArr k q) 41)) := (Below.refl _ _).alloc (Nat.le_refl _) _
  have hz : (w.alloc (.cells (kyArr k q) 41)).heap.size = w.heap.size + 1 := World.size_alloc _ _
  generalize w.alloc (.cells (kyArr k q) 41) = V at *
  have A1 : Arr (V.alloc (.cells (spArr s p) 25)) V.heap.size 25 (spArr s p) := Arr.new _ _ _
  have b1 : Below V.heap.size V (V.alloc (.cells (spArr s p) 25)) := (Below.refl _ _).alloc (Nat.le_refl _) _
  have bb := b0.trans (b1.mono b0.size)
  rw [hz] at A1
  exact ⟨A0.below b1 A0.lt, A1, hK.below bb, hP.below bb, bb, ht.below bb ht.1⟩
set_option maxRecDepth 100000 in
set_option maxHeartbeats 4000000 in
theorem apply_any (k : Ky) (q : KyAt) (L : List Rf) (A : Option Addr) (c : Nat) (i : Int) (s : Sp) (p : SpAt) (w : World) (hK : KyIn w w.heap.size k q) (hP : SpIn w w.heap.size s p) (hL : Rfs w w.heap.size A L) (hc : L.length ≤ c) (hl : L.length ≤ 140737488355328)
    (hks : k.sig.length ≤ 140737488351232) (hke : ∀ t ∈ k.sig, t.size ≤ 140737488355328) (hb : s.who.length ≤ 140737488355328) (hb2 : s.seals.length ≤ 140737488355328) (ht : Tab w) :
    Calls Tryd.prog 63 #[.agg (kyArr k q), .slice A L.length c, .int .i64 i, .agg (spArr s p)] w (SrEnd w (spApply k.sig k.need i L s)) := by
  have h1 := Lib.hid (Ck.start hK hP ht)
  have CC : Hid (∀ V, Ck w k q s p V → Calls Tryd.prog 26 #[.agg (kyArr k q), .int .i64 i, .agg (spArr s p)] V fun e w' => e = .returned (.int .i64 (spCheck k.sig k.need i s)) ∧ Below V.heap.size V w') :=
    fun V h => SpCheck_wide k q s p i V (hK.up h.2.2.2.2.1) (hP.up h.2.2.2.2.1) hks hke hb hb2 h.2.2.2.2.2
  have CS : Hid (∀ V, Below w.heap.size w V → Calls Tryd.prog 86 #[.slice A L.length c, .string s.ref, .string s.old, .string s.new] V (SrEnd V (setR L s.ref s.old s.new))) :=
    fun V b => SetR_any L s.ref s.old s.new A c V (hL.up b) hc hl
  have hE : spApply k.sig k.need i L s = if spCheck k.sig k.need i s ≠ 0 then ([], spCheck k.sig k.need i s) else setR L s.ref s.old s.new := rfl
  have HE := Lib.hid hE
  clear hE hK hP hL ht hke
  generalize spApply k.sig k.need i L s = R at *
  generalize spCheck k.sig k.need i s = z at *
  generalize setR L s.ref s.old s.new = G at *
  obtain ⟨wa, wc, sa, sc⟩ := p
  obtain ⟨ka, kc, ka2, kc2⟩ := q
  generalize hA : spArr s ⟨wa, wc, sa, sc⟩ = arr at *
  generalize hA2 : kyArr k ⟨ka, kc, ka2, kc2⟩ = arr2 at *
  have HA := Lib.hid hA
  have HA2 := Lib.hid hA2
  clear hA hA2
  go_enter Tryd.func63, Tryd.ntmps63
  go_upto_region 1 with fail
  refine wp_forget (Ck w k ⟨ka, kc, ka2, kc2⟩ s ⟨wa, wc, sa, sc⟩) h1.out ?_
  clear h1
  intro W hW
  have hA := HA.out
  have hA2 := HA2.out
  clear HA HA2
  subst hA hA2
  go_wp2_with (first
    | refine wpList_load_row rfl 41 _ rfl w.heap.size rfl 41 _ (0, 0) _ hW.1 Tryd.underlying41 rfl (kyInfo _ _) ?_
    | refine wpList_load_row rfl 25 _ rfl (w.heap.size + 1) rfl 25 _ (0, 0) _ hW.2.1 Tryd.underlying25 rfl (spInfo s _) ?_)
  (with_reducible refine (CC.out W hW).mono ?_)
  rintro _ W2 ⟨rfl, b2⟩
  have hW2 := hW.below b2
  clear hW b2 CC
  by_cases hz : z = 0
  · subst hz
    rw [if_neg (by simp)] at HE
    have c0 : W2.cell? ⟨w.heap.size + 1, 0, none⟩ = some (.string s.ref) := hW2.2.1.cell 0
    have c1 : W2.cell? ⟨w.heap.size + 1, 1, none⟩ = some (.string s.old) := hW2.2.1.cell 1
    have c2 : W2.cell? ⟨w.heap.size + 1, 2, none⟩ = some (.string s.new) := hW2.2.1.cell 2
    have C := Lib.hid (CS.out W2 hW2.2.2.2.2.1)
    have HW := Lib.hid hW2
    clear CS hW2
    go_wp2_with fail
    (with_reducible refine C.out.mono ?_)
    rintro _ W3 ⟨A3, c3, rfl, hR, hc3, b3⟩
    have H3 : Hid (SrEnd w R (.returned (.tuple #[.slice A3 G.1.length c3, .int .i64 G.2])) W3) := by
      show SrEnd _ _ _ _
      rw [HE.out]
      exact ⟨A3, c3, rfl, hR, hc3, HW.out.2.2.2.2.1.trans (b3.mono HW.out.2.2.2.2.1.size)⟩
    clear HW hR hc3 b3 c0 c1 c2 C
    go_wp2_with fail
    go_ret2
    exact H3.out
  · rw [if_pos hz] at HE
    have hz2 : (z != 0) = true := by rw [bne_iff_ne]; exact hz
    have H3 : Hid (SrEnd w R (.returned (.tuple #[.slice none 0 0, .int .i64 z])) W2) := by
      show SrEnd _ _ _ _
      rw [HE.out]
      exact sr_no w W2 z hW2.2.2.2.2.1
    clear hW2
    go_wp2_with fail
    go_ret2
    exact H3.out
end Go.Proofs.YtbpmgpbmeganoaaDoor

/- ref.SetRef: its contract. -/
namespace Go.Proofs.YtbpmgpbmeganoaaDoor
open Go.RowKit

def aheadR (n : ByteArray) (L : List Rf) : List Rf := L.filter fun f => ltB f.name n
def behindR (n : ByteArray) (L : List Rf) : List Rf := L.filter fun f => ltB n f.name
theorem ahead_none {n b : ByteArray} {L : List Rf} (h : rrs b L) (hb : ltB b n = false) (hne : b ≠ n → ltB n b = true) : aheadR n L = [] := by
  unfold aheadR
  rw [List.filter_eq_nil_iff]
  intro f hf
  have h1 := rrs_lt h f hf
  rw [Bool.not_eq_true]
  by_cases e : b = n
  · subst e; exact ltB_asym h1
  · exact ltB_asym (ltB_trans (hne e) h1)
theorem behind_all {n b : ByteArray} {L : List Rf} (h : rrs b L) (hb : b = n ∨ ltB n b = true) : behindR n L = L := by
  unfold behindR
  rw [List.filter_eq_self]
  intro f hf
  have h1 := rrs_lt h f hf
  rcases hb with rfl | hb
  · exact h1
  · exact ltB_trans hb h1
theorem put_parts (f : Rf) : ∀ (L : List Rf) (b : ByteArray), rrs b L → putR f L = aheadR f.name L ++ f :: behindR f.name L
  | [], _, _ => rfl
  | x :: l, b, h => by
    have ih := put_parts f l x.name h.2
    unfold putR
    cases hl : ltB x.name f.name with
    | true =>
      have e1 : aheadR f.name (x :: l) = x :: aheadR f.name l := by unfold aheadR; rw [List.filter_cons, hl]; rfl
      have e2 : behindR f.name (x :: l) = behindR f.name l := by unfold behindR; rw [List.filter_cons, ltB_asym hl]; rfl
      rw [e1, e2, ih]
      rfl
    | false =>
      have e1 : aheadR f.name (x :: l) = [] := by
        have : aheadR f.name l = [] := ahead_none h.2 hl (fun hne => by
          rcases ltB_tri x.name f.name with k | k | k
          · rw [hl] at k; cases k
          · exact absurd k hne
          · exact k)
        unfold aheadR at this ⊢
        rw [List.filter_cons, hl, this]
        rfl
      rw [e1]
      by_cases e : x.name = f.name
      · have e2 : behindR f.name (x :: l) = l := by
          have : behindR f.name l = l := behind_all h.2 (.inl e)
          unfold behindR at this ⊢
          rw [List.filter_cons, this, e, ltB_irr]
          rfl
        rw [e2]
        simp [e]
      · have hgt : ltB f.name x.name = true := by
          rcases ltB_tri x.name f.name with k | k | k
          · rw [hl] at k; cases k
          · exact absurd k e
          · exact k
        have e2 : behindR f.name (x :: l) = x :: l := by
          have : behindR f.name l = l := behind_all h.2 (.inr hgt)
          unfold behindR at this ⊢
          rw [List.filter_cons, this, hgt]
          rfl
        rw [e2]
        simp [e]
theorem del_parts (n : ByteArray) (L : List Rf) : ∀ (b : ByteArray), rrs b L → delR n L = aheadR n L ++ behindR n L := by
  induction L with
  | nil => intro _ _; rfl
  | cons x l ih =>
    intro b h
    have ih := ih x.name h.2
    rcases ltB_tri x.name n with k | k | k
    · have hne : ¬ x.name = n := ltB_ne k
      have e1 : aheadR n (x :: l) = x :: aheadR n l := by unfold aheadR; rw [List.filter_cons, k]; rfl
      have e2 : behindR n (x :: l) = behindR n l := by unfold behindR; rw [List.filter_cons, ltB_asym k]; rfl
      have e3 : delR n (x :: l) = x :: delR n l := by unfold delR; rw [List.filter_cons]; simp [hne]
      rw [e1, e2, e3, ih]
      rfl
    · subst k
      have e1 : aheadR x.name (x :: l) = [] := by
        have : aheadR x.name l = [] := ahead_none h.2 (ltB_irr _) (fun hne => absurd rfl hne)
        unfold aheadR at this ⊢
        rw [List.filter_cons, ltB_irr, this]
        rfl
      have e2 : behindR x.name (x :: l) = l := by
        have : behindR x.name l = l := behind_all h.2 (.inl rfl)
        unfold behindR at this ⊢
        rw [List.filter_cons, this, ltB_irr]
        rfl
      have e4 : behindR x.name l = l := behind_all h.2 (.inl rfl)
      have e5 : aheadR x.name l = [] := ahead_none h.2 (ltB_irr _) (fun hne => absurd rfl hne)
      have e3 : delR x.name (x :: l) = delR x.name l := by unfold delR; rw [List.filter_cons]; simp
      rw [e1, e2, e3, ih, e4, e5]
    · have hne : ¬ x.name = n := fun e => ltB_ne k e.symm
      have hlt := ltB_asym k
      have e4 : behindR n l = l := behind_all h.2 (.inr k)
      have e5 : aheadR n l = [] := ahead_none h.2 hlt (fun _ => k)
      have e1 : aheadR n (x :: l) = [] := by
        unfold aheadR at e5 ⊢
        rw [List.filter_cons, hlt, e5]
        rfl
      have e2 : behindR n (x :: l) = x :: l := by
        unfold behindR at e4 ⊢
        rw [List.filter_cons, e4, k]
        rfl
      have e3 : delR n (x :: l) = x :: delR n l := by unfold delR; rw [List.filter_cons]; simp [hne]
      rw [e1, e2, e3, ih, e4, e5]
      rfl
theorem changed_parts {L : List Rf} {b : ByteArray} (h : rrs b L) (n i : ByteArray) : changed L n i = aheadR n L ++ (if i.size = 0 then [] else [⟨n, i⟩]) ++ behindR n L := by
  unfold changed
  split
  · rw [List.append_nil]; exact del_parts n L b h
  · rw [put_parts ⟨n, i⟩ L b h]; simp
theorem idAt_zero {L : List Rf} (h : goodR L = true) (n : ByteArray) : (idAt n L).size = 0 ↔ (getRf n L).isSome = false := by
  unfold idAt
  cases hg : getRf n L with
  | none => exact ⟨fun _ => rfl, fun _ => rfl⟩
  | some f =>
    have := ((goodR_iff L).1 h).2.2 f (getR_name hg).2
    simp only [Option.isSome_some]
    constructor
    · intro h0; omega
    · intro h0; cases h0
theorem full_iff {L : List Rf} (h : goodR L = true) (n i : ByteArray) : 32 < (changed L n i).length ↔ (idAt n L).size = 0 ∧ ¬ i.size = 0 ∧ L.length = 32 := by
  obtain ⟨hl, hr, _⟩ := (goodR_iff L).1 h
  rw [idAt_zero h]
  unfold changed
  split
  · rename_i h0
    have : (delR n L).length ≤ L.length := List.length_filter_le _ _
    constructor
    · intro h1; omega
    · intro h1; exact absurd h0 h1.2.1
  · rename_i h0
    rw [putR_len ⟨n, i⟩ L _ hr]
    cases hg : (getRf n L).isSome with
    | true => simp; omega
    | false => simp [h0]; omega
theorem ahead_next {n : ByteArray} {L : List Rf} {k : Nat} {x : Rf} (h : L[k]? = some x) : aheadR n (L.take (k + 1)) = aheadR n (L.take k) ++ (if ltB x.name n then [x] else []) := by
  obtain ⟨hk, rfl⟩ := List.getElem?_eq_some_iff.1 h
  unfold aheadR
  rw [List.take_succ_eq_append_getElem hk, List.filter_append, List.filter_cons]
  cases ltB L[k].name n <;> rfl
theorem behind_next {n : ByteArray} {L : List Rf} {k : Nat} {x : Rf} (h : L[k]? = some x) : behindR n (L.take (k + 1)) = behindR n (L.take k) ++ (if ltB n x.name then [x] else []) := by
  obtain ⟨hk, rfl⟩ := List.getElem?_eq_some_iff.1 h
  unfold behindR
  rw [List.take_succ_eq_append_getElem hk, List.filter_append, List.filter_cons]
  cases ltB n L[k].name <;> rfl
theorem ahead_le (n : ByteArray) (L : List Rf) (k : Nat) : (aheadR n (L.take k)).length ≤ L.length := Nat.le_trans (List.length_filter_le _ _) (by rw [List.length_take]; omega)
theorem behind_le (n : ByteArray) (L : List Rf) (k : Nat) : (behindR n (L.take k)).length ≤ L.length := Nat.le_trans (List.length_filter_le _ _) (by rw [List.length_take]; omega)
/-- one more ref, appended -/
theorem app_ref {w V : World} {v : Value} {T : List Rf} {x : Rf} (own : V.ownsRow w.heap.size 89 2 v T.length (rfCells T)) (bel : Below w.heap.size w V) :
    News (V.alloc (.cells (rfArr x) 89)) (some ⟨V.heap.size, 0, none⟩) 1 (rfArr x).toList ∧ (V.alloc (.cells (rfArr x) 89)).ownsRow w.heap.size 89 2 v T.length (rfCells T) ∧ w.heap.size ≤ (V.alloc (.cells (rfArr x) 89)).heap.size ∧
      ∀ v' w', w'.ownsRow w.heap.size 89 2 v' (T.length + 1) (rfCells T ++ (rfArr x).toList) → (V.alloc (.cells (rfArr x) 89)).grownBy w' v.ownBlock → w'.ownsRow w.heap.size 89 2 v' (T ++ [x]).length (rfCells (T ++ [x])) ∧ Below w.heap.size w w' := by
  have A0 : Arr (V.alloc (.cells (rfArr x) 89)) V.heap.size 89 (rfArr x) := Arr.new _ _ _
  have bq : Below V.heap.size V (V.alloc (.cells (rfArr x) 89)) := (Below.refl _ _).alloc (Nat.le_refl _) _
  have own2 : (V.alloc (.cells (rfArr x) 89)).ownsRow w.heap.size 89 2 v T.length (rfCells T) := by
    refine ⟨own.1, ?_⟩
    rcases own.2 with hn | ⟨g, cap, cur, hv, hbs, hg, rest⟩
    · exact .inl hn
    · exact .inr ⟨g, cap, cur, hv, hbs, (bq.block g (Array.getElem?_eq_some_iff.1 hg).1).trans hg, rest⟩
  have b2 := bel.trans (bq.mono bel.size)
  refine ⟨⟨fun e => (by cases e), fun ad e j u hu => ?_⟩, own2, b2.size, fun v' w' h1 h2 => ⟨?_, b2.grown h2 b2.size (fun q hq => own_at own q hq)⟩⟩
  · cases e
    rw [zero_add, A0.cell j, ← Array.getElem?_toList]
    exact hu
  · rw [List.length_append, rfCells_app]
    simp only [rfCells, List.append_nil, List.length_singleton]
    exact h1
def SfRel (L : List Rf) (P : List Rf) (F : List Rf → List Rf) (w : World) (v i : Value) (wr : World) : Prop :=
  ∃ (k : Nat) (v0 : Value), k ≤ L.length ∧ i = .int .i64 (k : Int) ∧ v0 = v ∧ wr.ownsRow w.heap.size 89 2 v0 (P ++ F (L.take k)).length (rfCells (P ++ F (L.take k))) ∧ Below w.heap.size w wr
theorem own_up {w w' : World} {base : Nat} {e : TypeId} {size n : Nat} {v : Value} {xs : List Value} (h : w.ownsRow base e size v n xs) (hb : Below w.heap.size w w') : w'.ownsRow base e size v n xs := by
  refine ⟨h.1, ?_⟩
  rcases h.2 with hn | ⟨g, cap, cur, hv, hbs, hg, rest⟩
  · exact .inl hn
  · exact .inr ⟨g, cap, cur, hv, hbs, (hb.block g (Array.getElem?_eq_some_iff.1 hg).1).trans hg, rest⟩
theorem rfArr_ones (x : Rf) : ∀ u ∈ (rfArr x).toList, u.oneCell' = true := fun u hu => by
  simp [rfArr] at hu
  rcases hu with rfl | rfl <;> rfl
theorem str_empty (i : ByteArray) : i.toList.isEmpty = decide (i.size = 0) := by
  rw [toList_data]
  have hz : i.data.toList.length = i.size := rfl
  cases hq : i.data.toList with
  | nil => rw [hq] at hz; simp at hz; rw [decide_eq_true (by omega)]; rfl
  | cons a l => rw [hq] at hz; simp at hz; rw [decide_eq_false (by omega)]; rfl
theorem str_same (a b : ByteArray) : (a.toList == b.toList) = decide (a = b) := by
  have := sameB_iff a b
  unfold sameB at this
  cases hq : (a.toList == b.toList) with
  | true => rw [decide_eq_true (this.1 hq)]
  | false => rw [decide_eq_false (fun e => by rw [this.2 e] at hq; cases hq)]
set_option maxRecDepth 100000 in
set_option maxHeartbeats 2000000 in
theorem SetRef_any (L : List Rf) (n o i : ByteArray) (A : Option Addr) (c : Nat) (w : World) (hP : Rfs w w.heap.size A L) (hz : SizedR L) (hl : L.length ≤ 140737488355328) (hzn : n.size ≤ 140737488355328) :
    Calls Tryd.prog 64 #[.slice A L.length c, .string n, .string o, .string i] w (SrEnd w (setR L n o i)) := by
  have C1 := Lib.hid (GoodRefs_any L A c w hP hz hl)
  have HS := Lib.hid hP
  cases hG : goodR L
  · rw [hG] at C1
    have HE : Hid (setR L n o i = ([], 3)) := by show _ = _; unfold setR; rw [hG]; rfl
    clear hP
    go_enter Tryd.func64, Tryd.ntmps64
    go_wp2_with fail
    (with_reducible refine C1.out.mono ?_)
    rintro _ V ⟨rfl, b1⟩
    go_wp2_with fail
    go_ret2
    rw [HE.out]
    exact sr_no _ _ _ b1
  rw [hG] at C1
  obtain ⟨hl2, hr, _⟩ := (goodR_iff L).1 hG
  have HCP := Lib.hid (changed_parts hr n i)
  have HFU := Lib.hid (full_iff hG n i)
  have CN := Lib.hid (fun V => RefNameR_any n (by omega) V)
  have CO := Lib.hid (fun V => maybe_any o V)
  have CI := Lib.hid (fun V => maybe_any i V)
  have CG : Hid (∀ V, Below w.heap.size w V → Calls Tryd.prog 88 #[.slice A L.length c, .string n] V fun e w' => e = .returned (.string (idAt n L)) ∧ Below V.heap.size V w') := fun V b => GetRef_any L n A c V (HS.out.up b) hl
  have HE : Hid (setR L n o i = if !namedR n || !isId o || !isId i then ([], 2) else if idAt n L ≠ o then ([], 9) else if 32 < (changed L n i).length then ([], 6) else (changed L n i, 0)) := by show _ = _; unfold setR; rw [hG]; rfl
  clear hG hr
  generalize setR L n o i = R at *
  cases hn : namedR n
  · rw [hn] at CN HE
    clear hP
    go_enter Tryd.func64, Tryd.ntmps64
    go_wp2_with fail
    (with_reducible refine C1.out.mono ?_)
    rintro _ V ⟨rfl, b1⟩
    go_wp2_with fail
    (with_reducible refine (CN.out V).mono ?_)
    rintro _ V2 ⟨rfl, b2⟩
    replace b1 := b1.trans (b2.mono b1.size)
    go_wp2_with fail
    go_ret2
    rw [HE.out]
    exact sr_no _ _ _ b1
  rw [hn] at CN HE
  cases ho : isId o
  · rw [ho] at CO HE
    clear hP
    go_enter Tryd.func64, Tryd.ntmps64
    go_wp2_with fail
    (with_reducible refine C1.out.mono ?_)
    rintro _ V ⟨rfl, b1⟩
    go_wp2_with fail
    (with_reducible refine (CN.out V).mono ?_)
    rintro _ V2 ⟨rfl, b2⟩
    replace b1 := b1.trans (b2.mono b1.size)
    go_wp2_with fail
    (with_reducible refine (CO.out V2).mono ?_)
    rintro _ V3 ⟨rfl, rfl⟩
    go_wp2_with fail
    go_ret2
    rw [HE.out]
    exact sr_no _ _ _ b1
  rw [ho] at CO HE
  cases hi : isId i
  · rw [hi] at CI HE
    clear hP
    go_enter Tryd.func64, Tryd.ntmps64
    go_wp2_with fail
    (with_reducible refine C1.out.mono ?_)
    rintro _ V ⟨rfl, b1⟩
    go_wp2_with fail
    (with_reducible refine (CN.out V).mono ?_)
    rintro _ V2 ⟨rfl, b2⟩
    replace b1 := b1.trans (b2.mono b1.size)
    go_wp2_with fail
    (with_reducible refine (CO.out V2).mono ?_)
    rintro _ V3 ⟨rfl, rfl⟩
    go_wp2_with fail
    (with_reducible refine (CI.out V3).mono ?_)
    rintro _ V4 ⟨rfl, rfl⟩
    go_wp2_with fail
    go_ret2
    rw [HE.out]
    exact sr_no _ _ _ b1
  rw [hi] at CI HE
  clear hn ho hi
  have HQ := str_same (idAt n L) o
  have hoe := str_empty o
  have hie := str_empty i
  go_enter Tryd.func64, Tryd.ntmps64
  go_wp2_with fail
  (with_reducible refine C1.out.mono ?_)
  rintro _ V ⟨rfl, b1⟩
  go_wp2_with fail
  (with_reducible refine (CN.out V).mono ?_)
  rintro _ V2 ⟨rfl, b2⟩
  replace b1 := b1.trans (b2.mono b1.size)
  go_wp2_with fail
  (with_reducible refine (CO.out V2).mono ?_)
  rintro _ V3 ⟨rfl, rfl⟩
  go_wp2_with fail
  (with_reducible refine (CI.out V3).mono ?_)
  rintro _ V4 ⟨rfl, rfl⟩
  clear CN CO CI C1
  have C5 := Lib.hid (CG.out V4 b1)
  go_wp2_with fail
  (with_reducible refine C5.out.mono ?_)
  clear C5 b2 CG
  rintro _ V5 ⟨rfl, b2⟩
  replace b1 := b1.trans (b2.mono b1.size)
  clear b2
  by_cases hq : ¬ idAt n L = o
  · rw [decide_eq_false hq] at HQ
    have HE2 : Hid (R = ([], 9)) := by show _ = _; rw [HE.out]; simp [hq]
    clear HE
    go_wp2_with fail
    go_ret2
    rw [HE2.out]
    exact sr_no _ _ _ b1
  replace hq : idAt n L = o := Decidable.byContradiction hq
  rw [decide_eq_true hq] at HQ
  have HE2 : Hid (R = if o.size = 0 ∧ ¬ i.size = 0 ∧ L.length = 32 then ([], 6) else (changed L n i, 0)) := by
    show _ = _
    rw [HE.out]
    have := HFU.out
    rw [hq] at this
    simp only [hq, ne_eq, not_true, if_false, Bool.not_true, Bool.or_false, Bool.false_eq_true]
    by_cases h6 : 32 < (changed L n i).length
    · rw [if_pos h6, if_pos (this.1 h6)]
    · rw [if_neg h6, if_neg (fun q => h6 (this.2 q))]
  clear HE HFU hq
  rw [HCP.out] at HE2
  clear HCP
  by_cases h6 : o.size = 0 ∧ ¬ i.size = 0 ∧ L.length = 32
  · have HE3 : Hid (R = ([], 6)) := by show _ = _; rw [HE2.out, if_pos h6]
    obtain ⟨h7, h8, h9⟩ := h6
    rw [decide_eq_true h7] at hoe
    rw [decide_eq_false h8] at hie
    have h10 : (((L.length : Nat) : Int) == 32) = true := by rw [h9]; rfl
    clear HE2 h7 h8 h9
    go_wp2_with fail
    go_ret2
    rw [HE3.out]
    exact sr_no _ _ _ b1
  have HE3 : Hid (R = (aheadR n L ++ (if i.size = 0 then [] else [⟨n, i⟩]) ++ behindR n L, 0)) := by show _ = _; rw [HE2.out, if_neg h6]
  clear HE2
  have h10 : (((L.length : Nat) : Int) == 32) = decide (L.length = 32) := by
    by_cases h : L.length = 32
    · rw [decide_eq_true h, h]; rfl
    · rw [decide_eq_false h, beq_eq_false_iff_ne]; omega
  have h0 : Hid (SfRel L [] (aheadR n) w (.slice none 0 0) (.int .i64 0) V5) := ⟨0, _, Nat.zero_le _, rfl, rfl, own_nil _ _ _ _, b1⟩
  obtain ⟨si, hsi, sz0, sz1, sz2⟩ := info_parts info_ref
  have Hsi := Lib.hid hsi
  have Sz0 := Lib.hid sz0
  have Sz1 := Lib.hid sz1
  have Sz2 := Lib.hid sz2
  clear hsi sz0 sz1 sz2
  clear HS
  by_cases h8 : i.size = 0
  · rw [decide_eq_true h8] at hie
    rw [if_pos h8] at HE3
    by_cases h7 : o.size = 0
    · rw [decide_eq_true h7] at hoe
      clear h7 h8 h6 h10
      have HPl : Hid (([] : List Rf).length ≤ 100) := Nat.zero_le _
      go_wp2_with fail
      go_loopw [10, 49] (fun v j wr => SfRel L [] (aheadR n) w v j wr) (fun _ j _ => L.length - (intOf j).toNat)
      case atStart => exact h0.out
      case round =>
        clear h0
        obtain ⟨k, v, hk, rfl, rfl, own, bel⟩ := hrel
        by_cases hlt : k < L.length
        · have hj : (k : Int) < L.length := by omega
          have hx : L[k]? = some L[k] := List.getElem?_eq_getElem hlt
          obtain ⟨ad, rfl, hbl, h0, h1⟩ := hP k L[k] hx
          have g0 := (bel.cell hbl).trans h0
          have g1 := (bel.cell (p := ⟨(ad.add (k * 2)).block, (ad.add (k * 2)).off + 1, none⟩) hbl).trans h1
          have HN := Lib.hid (ahead_next (n := n) hx)
          have hle : ([] ++ aheadR n (L.take k)).length ≤ 1000 := by have := ahead_le n L k; have := HPl.out; rw [List.length_append]; omega
          clear h0 h1 hx
          generalize L[k] = x at *
          have bb : Below wr.heap.size wr ((wr.alloc (.cells rfZero 89)).setRow wr.heap.size (rfArr x)) := below_setRow ((Below.refl _ _).alloc (Nat.le_refl _) _) (Nat.le_refl _) _
          have AX : Arr ((wr.alloc (.cells rfZero 89)).setRow wr.heap.size (rfArr x)) wr.heap.size 89 (rfArr x) := (Arr.new _ _ _).row _
          go_upto_region 13 with (refine wpList_store_row rfl 89 _ _ rfl wr.heap.size (rfArr x) rfl rfl 89 rfZero (Arr.new wr _ _) (rfInfo _) rfl (rfArr_one _) ?_)
          refine wp_forget (fun V => Below w.heap.size w V ∧ Arr V wr.heap.size 89 (rfArr x) ∧ V.ownsRow w.heap.size 89 2 v ([] ++ aheadR n (L.take k)).length (rfCells ([] ++ aheadR n (L.take k)))) (by exact ⟨bel.trans (bb.mono bel.size), AX, own_up own bb⟩) ?_
          clear bb AX bel own g0 g1
          generalize wr.heap.size = q
          rintro V ⟨bel, AX, own⟩
          have c0 : V.cell? ⟨q, 0, none⟩ = some (.string x.name) := AX.cell 0
          have c1 : V.cell? ⟨q, 1, none⟩ = some (.string x.id) := AX.cell 1
          clear AX
          have hq2 : ltB x.name n = Op.bytesLess x.name.toList n.toList := rfl
          rw [hq2] at HN
          clear hq2
          cases hq : Op.bytesLess x.name.toList n.toList
          · rw [hq] at HN
            have HO : Hid (V.ownsRow w.heap.size 89 2 v ([] ++ aheadR n (L.take (k + 1))).length (rfCells ([] ++ aheadR n (L.take (k + 1))))) := by
              have := HN.out
              simp only [Bool.false_eq_true, if_false, List.append_nil] at this
              show World.ownsRow _ _ _ _ _ _ _
              rw [this]
              exact own
            clear own HN
            go_wp2_with fail
            go_roundw
            case rel => exact ⟨k + 1, _, hlt, by rw [Int.natCast_add]; rfl, rfl, HO.out, bel⟩
            case measure => simp [intOf]; omega
          · rw [hq] at HN
            have HT : Hid ([] ++ aheadR n (L.take (k + 1)) = ([] ++ aheadR n (L.take k)) ++ [x]) := by
              have := HN.out
              simp only [if_true] at this
              show _ = _
              rw [this]
              exact (List.append_assoc _ _ _).symm
            clear HN
            obtain ⟨n1, n2, n3, n4⟩ := app_ref (x := x) own bel
            have N1 := Lib.hid n1
            have N2 := Lib.hid n2
            have N3 := Lib.hid n3
            have N4 := Lib.hid n4
            clear n1 n2 n3 n4 own
            have HG2 : Hid (([] ++ aheadR n (L.take k)).length ≤ 1000) := hle
            clear hle
            generalize ([] ++ aheadR n (L.take k)) = T at *
            have hle := HG2.out
            go_wp2_with (at_builtin; refine wpList_app _ rfl _ _ 46 rfl w.heap.size 89 si _ 2 32 Tryd.underlying46 Hsi.out Sz0.out Sz1.out Sz2.out rfl (by decide) _ _ _ rfl N2.out (some ⟨V.heap.size, 0, none⟩) 1 1 (rfArr x).toList rfl rfl N1.out (rfArr_ones x) (by unfold maxLen; omega) (by omega) N3.out ?_)
            intro v' w' h1 h2
            obtain ⟨h3, h4⟩ := N4.out v' w' h1 h2
            have H3 := Lib.hid h3
            clear h1 h2 h3 N1 N2 N3 N4
            go_wp2_with fail
            go_roundw
            case rel => exact ⟨k + 1, _, hlt, by rw [Int.natCast_add]; rfl, rfl, by rw [HT.out]; exact H3.out, h4⟩
            case measure => simp [intOf]; omega
        · obtain rfl : k = L.length := by omega
          have hj : ¬ (L.length : Int) < L.length := by omega
          rw [List.take_length] at own
          clear HPl
          have h0 : Hid (SfRel L (aheadR n L ++ []) (behindR n) w v (.int .i64 0) wr) := ⟨0, _, Nat.zero_le _, rfl, rfl, by simp only [List.take_zero]; simpa [behindR] using own, bel⟩
          have HPl : Hid ((aheadR n L ++ []).length ≤ 100) := by show _ ≤ _; have := ahead_le n L L.length; rw [List.take_length] at this; simp only [List.length_append, List.length_nil]; omega
          clear own
          go_wp2_with fail
          go_loopw [10, 72] (fun v j wr => SfRel L (aheadR n L ++ []) (behindR n) w v j wr) (fun _ j _ => L.length - (intOf j).toNat)
          case atStart => exact h0.out
          case round =>
            clear h0
            obtain ⟨k, v, hk, rfl, rfl, own, bel⟩ := hrel
            by_cases hlt : k < L.length
            · have hj : (k : Int) < L.length := by omega
              have hx : L[k]? = some L[k] := List.getElem?_eq_getElem hlt
              obtain ⟨ad, rfl, hbl, h0, h1⟩ := hP k L[k] hx
              have g0 := (bel.cell hbl).trans h0
              have g1 := (bel.cell (p := ⟨(ad.add (k * 2)).block, (ad.add (k * 2)).off + 1, none⟩) hbl).trans h1
              have HN := Lib.hid (behind_next (n := n) hx)
              have hle : ((aheadR n L ++ []) ++ behindR n (L.take k)).length ≤ 1000 := by have := behind_le n L k; have := HPl.out; rw [List.length_append]; omega
              clear h0 h1 hx
              generalize L[k] = x at *
              have bb : Below wr.heap.size wr ((wr.alloc (.cells rfZero 89)).setRow wr.heap.size (rfArr x)) := below_setRow ((Below.refl _ _).alloc (Nat.le_refl _) _) (Nat.le_refl _) _
              have AX : Arr ((wr.alloc (.cells rfZero 89)).setRow wr.heap.size (rfArr x)) wr.heap.size 89 (rfArr x) := (Arr.new _ _ _).row _
              go_upto_region 21 with (refine wpList_store_row rfl 89 _ _ rfl wr.heap.size (rfArr x) rfl rfl 89 rfZero (Arr.new wr _ _) (rfInfo _) rfl (rfArr_one _) ?_)
              refine wp_forget (fun V => Below w.heap.size w V ∧ Arr V wr.heap.size 89 (rfArr x) ∧ V.ownsRow w.heap.size 89 2 v ((aheadR n L ++ []) ++ behindR n (L.take k)).length (rfCells ((aheadR n L ++ []) ++ behindR n (L.take k)))) (by exact ⟨bel.trans (bb.mono bel.size), AX, own_up own bb⟩) ?_
              clear bb AX bel own g0 g1
              generalize wr.heap.size = q
              rintro V ⟨bel, AX, own⟩
              have c0 : V.cell? ⟨q, 0, none⟩ = some (.string x.name) := AX.cell 0
              have c1 : V.cell? ⟨q, 1, none⟩ = some (.string x.id) := AX.cell 1
              clear AX
              have hq2 : ltB n x.name = Op.bytesLess n.toList x.name.toList := rfl
              rw [hq2] at HN
              clear hq2
              cases hq : Op.bytesLess n.toList x.name.toList
              · rw [hq] at HN
                cases h5 : Op.bytesLess x.name.toList n.toList
                · have h6 := leq_yes hq h5
                  clear hq
                  have HO : Hid (V.ownsRow w.heap.size 89 2 v ((aheadR n L ++ []) ++ behindR n (L.take (k + 1))).length (rfCells ((aheadR n L ++ []) ++ behindR n (L.take (k + 1))))) := by
                    have := HN.out
                    simp only [Bool.false_eq_true, if_false, List.append_nil] at this
                    show World.ownsRow _ _ _ _ _ _ _
                    rw [this]
                    exact own
                  clear own HN
                  go_wp2_with fail
                  go_roundw
                  case rel => exact ⟨k + 1, _, hlt, by rw [Int.natCast_add]; rfl, rfl, HO.out, bel⟩
                  case measure => simp [intOf]; omega
                · clear hq
                  have HO : Hid (V.ownsRow w.heap.size 89 2 v ((aheadR n L ++ []) ++ behindR n (L.take (k + 1))).length (rfCells ((aheadR n L ++ []) ++ behindR n (L.take (k + 1))))) := by
                    have := HN.out
                    simp only [Bool.false_eq_true, if_false, List.append_nil] at this
                    show World.ownsRow _ _ _ _ _ _ _
                    rw [this]
                    exact own
                  clear own HN
                  go_wp2_with fail
                  go_roundw
                  case rel => exact ⟨k + 1, _, hlt, by rw [Int.natCast_add]; rfl, rfl, HO.out, bel⟩
                  case measure => simp [intOf]; omega
              · rw [hq] at HN
                obtain ⟨h5, h6⟩ := leq_no hq
                clear hq
                have HT : Hid ((aheadR n L ++ []) ++ behindR n (L.take (k + 1)) = ((aheadR n L ++ []) ++ behindR n (L.take k)) ++ [x]) := by
                  have := HN.out
                  simp only [if_true] at this
                  show _ = _
                  rw [this]
                  exact (List.append_assoc _ _ _).symm
                clear HN
                obtain ⟨n1, n2, n3, n4⟩ := app_ref (x := x) own bel
                have N1 := Lib.hid n1
                have N2 := Lib.hid n2
                have N3 := Lib.hid n3
                have N4 := Lib.hid n4
                clear n1 n2 n3 n4 own
                have HG2 : Hid (((aheadR n L ++ []) ++ behindR n (L.take k)).length ≤ 1000) := hle
                clear hle
                generalize ((aheadR n L ++ []) ++ behindR n (L.take k)) = T at *
                have hle := HG2.out
                go_wp2_with (at_builtin; refine wpList_app _ rfl _ _ 46 rfl w.heap.size 89 si _ 2 32 Tryd.underlying46 Hsi.out Sz0.out Sz1.out Sz2.out rfl (by decide) _ _ _ rfl N2.out (some ⟨V.heap.size, 0, none⟩) 1 1 (rfArr x).toList rfl rfl N1.out (rfArr_ones x) (by unfold maxLen; omega) (by omega) N3.out ?_)
                intro v' w' h1 h2
                obtain ⟨h3, h4⟩ := N4.out v' w' h1 h2
                have H3 := Lib.hid h3
                clear h1 h2 h3 N1 N2 N3 N4
                go_wp2_with fail
                go_roundw
                case rel => exact ⟨k + 1, _, hlt, by rw [Int.natCast_add]; rfl, rfl, by rw [HT.out]; exact H3.out, h4⟩
                case measure => simp [intOf]; omega
            · obtain rfl : k = L.length := by omega
              have hj : ¬ (L.length : Int) < L.length := by omega
              rw [List.take_length] at own
              obtain ⟨A9, c9, rfl, hc9, hF9⟩ := own_refs own
              have HH : Hid (SrEnd w R (.returned (.tuple #[.slice A9 ((aheadR n L ++ []) ++ behindR n L).length c9, .int .i64 0])) wr) := by
                show SrEnd _ _ _ _
                rw [HE3.out]
                exact ⟨A9, c9, rfl, hF9, hc9, bel⟩
              clear own hF9 hc9
              generalize ((aheadR n L ++ []) ++ behindR n L).length = m9 at *
              go_wp2_with fail
              go_ret2
              exact HH.out
    · rw [decide_eq_false h7] at hoe
      clear h7 h8 h6 h10
      have HPl : Hid (([] : List Rf).length ≤ 100) := Nat.zero_le _
      go_wp2_with fail
      go_loopw [10, 49] (fun v j wr => SfRel L [] (aheadR n) w v j wr) (fun _ j _ => L.length - (intOf j).toNat)
      case atStart => exact h0.out
      case round =>
        clear h0
        obtain ⟨k, v, hk, rfl, rfl, own, bel⟩ := hrel
        by_cases hlt : k < L.length
        · have hj : (k : Int) < L.length := by omega
          have hx : L[k]? = some L[k] := List.getElem?_eq_getElem hlt
          obtain ⟨ad, rfl, hbl, h0, h1⟩ := hP k L[k] hx
          have g0 := (bel.cell hbl).trans h0
          have g1 := (bel.cell (p := ⟨(ad.add (k * 2)).block, (ad.add (k * 2)).off + 1, none⟩) hbl).trans h1
          have HN := Lib.hid (ahead_next (n := n) hx)
          have hle : ([] ++ aheadR n (L.take k)).length ≤ 1000 := by have := ahead_le n L k; have := HPl.out; rw [List.length_append]; omega
          clear h0 h1 hx
          generalize L[k] = x at *
          have bb : Below wr.heap.size wr ((wr.alloc (.cells rfZero 89)).setRow wr.heap.size (rfArr x)) := below_setRow ((Below.refl _ _).alloc (Nat.le_refl _) _) (Nat.le_refl _) _
          have AX : Arr ((wr.alloc (.cells rfZero 89)).setRow wr.heap.size (rfArr x)) wr.heap.size 89 (rfArr x) := (Arr.new _ _ _).row _
          go_upto_region 13 with (refine wpList_store_row rfl 89 _ _ rfl wr.heap.size (rfArr x) rfl rfl 89 rfZero (Arr.new wr _ _) (rfInfo _) rfl (rfArr_one _) ?_)
          refine wp_forget (fun V => Below w.heap.size w V ∧ Arr V wr.heap.size 89 (rfArr x) ∧ V.ownsRow w.heap.size 89 2 v ([] ++ aheadR n (L.take k)).length (rfCells ([] ++ aheadR n (L.take k)))) (by exact ⟨bel.trans (bb.mono bel.size), AX, own_up own bb⟩) ?_
          clear bb AX bel own g0 g1
          generalize wr.heap.size = q
          rintro V ⟨bel, AX, own⟩
          have c0 : V.cell? ⟨q, 0, none⟩ = some (.string x.name) := AX.cell 0
          have c1 : V.cell? ⟨q, 1, none⟩ = some (.string x.id) := AX.cell 1
          clear AX
          have hq2 : ltB x.name n = Op.bytesLess x.name.toList n.toList := rfl
          rw [hq2] at HN
          clear hq2
          cases hq : Op.bytesLess x.name.toList n.toList
          · rw [hq] at HN
            have HO : Hid (V.ownsRow w.heap.size 89 2 v ([] ++ aheadR n (L.take (k + 1))).length (rfCells ([] ++ aheadR n (L.take (k + 1))))) := by
              have := HN.out
              simp only [Bool.false_eq_true, if_false, List.append_nil] at this
              show World.ownsRow _ _ _ _ _ _ _
              rw [this]
              exact own
            clear own HN
            go_wp2_with fail
            go_roundw
            case rel => exact ⟨k + 1, _, hlt, by rw [Int.natCast_add]; rfl, rfl, HO.out, bel⟩
            case measure => simp [intOf]; omega
          · rw [hq] at HN
            have HT : Hid ([] ++ aheadR n (L.take (k + 1)) = ([] ++ aheadR n (L.take k)) ++ [x]) := by
              have := HN.out
              simp only [if_true] at this
              show _ = _
              rw [this]
              exact (List.append_assoc _ _ _).symm
            clear HN
            obtain ⟨n1, n2, n3, n4⟩ := app_ref (x := x) own bel
            have N1 := Lib.hid n1
            have N2 := Lib.hid n2
            have N3 := Lib.hid n3
            have N4 := Lib.hid n4
            clear n1 n2 n3 n4 own
            have HG2 : Hid (([] ++ aheadR n (L.take k)).length ≤ 1000) := hle
            clear hle
            generalize ([] ++ aheadR n (L.take k)) = T at *
            have hle := HG2.out
            go_wp2_with (at_builtin; refine wpList_app _ rfl _ _ 46 rfl w.heap.size 89 si _ 2 32 Tryd.underlying46 Hsi.out Sz0.out Sz1.out Sz2.out rfl (by decide) _ _ _ rfl N2.out (some ⟨V.heap.size, 0, none⟩) 1 1 (rfArr x).toList rfl rfl N1.out (rfArr_ones x) (by unfold maxLen; omega) (by omega) N3.out ?_)
            intro v' w' h1 h2
            obtain ⟨h3, h4⟩ := N4.out v' w' h1 h2
            have H3 := Lib.hid h3
            clear h1 h2 h3 N1 N2 N3 N4
            go_wp2_with fail
            go_roundw
            case rel => exact ⟨k + 1, _, hlt, by rw [Int.natCast_add]; rfl, rfl, by rw [HT.out]; exact H3.out, h4⟩
            case measure => simp [intOf]; omega
        · obtain rfl : k = L.length := by omega
          have hj : ¬ (L.length : Int) < L.length := by omega
          rw [List.take_length] at own
          clear HPl
          have h0 : Hid (SfRel L (aheadR n L ++ []) (behindR n) w v (.int .i64 0) wr) := ⟨0, _, Nat.zero_le _, rfl, rfl, by simp only [List.take_zero]; simpa [behindR] using own, bel⟩
          have HPl : Hid ((aheadR n L ++ []).length ≤ 100) := by show _ ≤ _; have := ahead_le n L L.length; rw [List.take_length] at this; simp only [List.length_append, List.length_nil]; omega
          clear own
          go_wp2_with fail
          go_loopw [10, 72] (fun v j wr => SfRel L (aheadR n L ++ []) (behindR n) w v j wr) (fun _ j _ => L.length - (intOf j).toNat)
          case atStart => exact h0.out
          case round =>
            clear h0
            obtain ⟨k, v, hk, rfl, rfl, own, bel⟩ := hrel
            by_cases hlt : k < L.length
            · have hj : (k : Int) < L.length := by omega
              have hx : L[k]? = some L[k] := List.getElem?_eq_getElem hlt
              obtain ⟨ad, rfl, hbl, h0, h1⟩ := hP k L[k] hx
              have g0 := (bel.cell hbl).trans h0
              have g1 := (bel.cell (p := ⟨(ad.add (k * 2)).block, (ad.add (k * 2)).off + 1, none⟩) hbl).trans h1
              have HN := Lib.hid (behind_next (n := n) hx)
              have hle : ((aheadR n L ++ []) ++ behindR n (L.take k)).length ≤ 1000 := by have := behind_le n L k; have := HPl.out; rw [List.length_append]; omega
              clear h0 h1 hx
              generalize L[k] = x at *
              have bb : Below wr.heap.size wr ((wr.alloc (.cells rfZero 89)).setRow wr.heap.size (rfArr x)) := below_setRow ((Below.refl _ _).alloc (Nat.le_refl _) _) (Nat.le_refl _) _
              have AX : Arr ((wr.alloc (.cells rfZero 89)).setRow wr.heap.size (rfArr x)) wr.heap.size 89 (rfArr x) := (Arr.new _ _ _).row _
              go_upto_region 21 with (refine wpList_store_row rfl 89 _ _ rfl wr.heap.size (rfArr x) rfl rfl 89 rfZero (Arr.new wr _ _) (rfInfo _) rfl (rfArr_one _) ?_)
              refine wp_forget (fun V => Below w.heap.size w V ∧ Arr V wr.heap.size 89 (rfArr x) ∧ V.ownsRow w.heap.size 89 2 v ((aheadR n L ++ []) ++ behindR n (L.take k)).length (rfCells ((aheadR n L ++ []) ++ behindR n (L.take k)))) (by exact ⟨bel.trans (bb.mono bel.size), AX, own_up own bb⟩) ?_
              clear bb AX bel own g0 g1
              generalize wr.heap.size = q
              rintro V ⟨bel, AX, own⟩
              have c0 : V.cell? ⟨q, 0, none⟩ = some (.string x.name) := AX.cell 0
              have c1 : V.cell? ⟨q, 1, none⟩ = some (.string x.id) := AX.cell 1
              clear AX
              have hq2 : ltB n x.name = Op.bytesLess n.toList x.name.toList := rfl
              rw [hq2] at HN
              clear hq2
              cases hq : Op.bytesLess n.toList x.name.toList
              · rw [hq] at HN
                cases h5 : Op.bytesLess x.name.toList n.toList
                · have h6 := leq_yes hq h5
                  clear hq
                  have HO : Hid (V.ownsRow w.heap.size 89 2 v ((aheadR n L ++ []) ++ behindR n (L.take (k + 1))).length (rfCells ((aheadR n L ++ []) ++ behindR n (L.take (k + 1))))) := by
                    have := HN.out
                    simp only [Bool.false_eq_true, if_false, List.append_nil] at this
                    show World.ownsRow _ _ _ _ _ _ _
                    rw [this]
                    exact own
                  clear own HN
                  go_wp2_with fail
                  go_roundw
                  case rel => exact ⟨k + 1, _, hlt, by rw [Int.natCast_add]; rfl, rfl, HO.out, bel⟩
                  case measure => simp [intOf]; omega
                · clear hq
                  have HO : Hid (V.ownsRow w.heap.size 89 2 v ((aheadR n L ++ []) ++ behindR n (L.take (k + 1))).length (rfCells ((aheadR n L ++ []) ++ behindR n (L.take (k + 1))))) := by
                    have := HN.out
                    simp only [Bool.false_eq_true, if_false, List.append_nil] at this
                    show World.ownsRow _ _ _ _ _ _ _
                    rw [this]
                    exact own
                  clear own HN
                  go_wp2_with fail
                  go_roundw
                  case rel => exact ⟨k + 1, _, hlt, by rw [Int.natCast_add]; rfl, rfl, HO.out, bel⟩
                  case measure => simp [intOf]; omega
              · rw [hq] at HN
                obtain ⟨h5, h6⟩ := leq_no hq
                clear hq
                have HT : Hid ((aheadR n L ++ []) ++ behindR n (L.take (k + 1)) = ((aheadR n L ++ []) ++ behindR n (L.take k)) ++ [x]) := by
                  have := HN.out
                  simp only [if_true] at this
                  show _ = _
                  rw [this]
                  exact (List.append_assoc _ _ _).symm
                clear HN
                obtain ⟨n1, n2, n3, n4⟩ := app_ref (x := x) own bel
                have N1 := Lib.hid n1
                have N2 := Lib.hid n2
                have N3 := Lib.hid n3
                have N4 := Lib.hid n4
                clear n1 n2 n3 n4 own
                have HG2 : Hid (((aheadR n L ++ []) ++ behindR n (L.take k)).length ≤ 1000) := hle
                clear hle
                generalize ((aheadR n L ++ []) ++ behindR n (L.take k)) = T at *
                have hle := HG2.out
                go_wp2_with (at_builtin; refine wpList_app _ rfl _ _ 46 rfl w.heap.size 89 si _ 2 32 Tryd.underlying46 Hsi.out Sz0.out Sz1.out Sz2.out rfl (by decide) _ _ _ rfl N2.out (some ⟨V.heap.size, 0, none⟩) 1 1 (rfArr x).toList rfl rfl N1.out (rfArr_ones x) (by unfold maxLen; omega) (by omega) N3.out ?_)
                intro v' w' h1 h2
                obtain ⟨h3, h4⟩ := N4.out v' w' h1 h2
                have H3 := Lib.hid h3
                clear h1 h2 h3 N1 N2 N3 N4
                go_wp2_with fail
                go_roundw
                case rel => exact ⟨k + 1, _, hlt, by rw [Int.natCast_add]; rfl, rfl, by rw [HT.out]; exact H3.out, h4⟩
                case measure => simp [intOf]; omega
            · obtain rfl : k = L.length := by omega
              have hj : ¬ (L.length : Int) < L.length := by omega
              rw [List.take_length] at own
              obtain ⟨A9, c9, rfl, hc9, hF9⟩ := own_refs own
              have HH : Hid (SrEnd w R (.returned (.tuple #[.slice A9 ((aheadR n L ++ []) ++ behindR n L).length c9, .int .i64 0])) wr) := by
                show SrEnd _ _ _ _
                rw [HE3.out]
                exact ⟨A9, c9, rfl, hF9, hc9, bel⟩
              clear own hF9 hc9
              generalize ((aheadR n L ++ []) ++ behindR n L).length = m9 at *
              go_wp2_with fail
              go_ret2
              exact HH.out
  · rw [decide_eq_false h8] at hie
    rw [if_neg h8] at HE3
    by_cases h7 : o.size = 0
    · rw [decide_eq_true h7] at hoe
      rw [decide_eq_false (fun h9 => h6 ⟨h7, h8, h9⟩)] at h10
      clear h7 h8 h6
      have HPl : Hid (([] : List Rf).length ≤ 100) := Nat.zero_le _
      go_wp2_with fail
      go_loopw [10, 49] (fun v j wr => SfRel L [] (aheadR n) w v j wr) (fun _ j _ => L.length - (intOf j).toNat)
      case atStart => exact h0.out
      case round =>
        clear h0
        obtain ⟨k, v, hk, rfl, rfl, own, bel⟩ := hrel
        by_cases hlt : k < L.length
        · have hj : (k : Int) < L.length := by omega
          have hx : L[k]? = some L[k] := List.getElem?_eq_getElem hlt
          obtain ⟨ad, rfl, hbl, h0, h1⟩ := hP k L[k] hx
          have g0 := (bel.cell hbl).trans h0
          have g1 := (bel.cell (p := ⟨(ad.add (k * 2)).block, (ad.add (k * 2)).off + 1, none⟩) hbl).trans h1
          have HN := Lib.hid (ahead_next (n := n) hx)
          have hle : ([] ++ aheadR n (L.take k)).length ≤ 1000 := by have := ahead_le n L k; have := HPl.out; rw [List.length_append]; omega
          clear h0 h1 hx
          generalize L[k] = x at *
          have bb : Below wr.heap.size wr ((wr.alloc (.cells rfZero 89)).setRow wr.heap.size (rfArr x)) := below_setRow ((Below.refl _ _).alloc (Nat.le_refl _) _) (Nat.le_refl _) _
          have AX : Arr ((wr.alloc (.cells rfZero 89)).setRow wr.heap.size (rfArr x)) wr.heap.size 89 (rfArr x) := (Arr.new _ _ _).row _
          go_upto_region 13 with (refine wpList_store_row rfl 89 _ _ rfl wr.heap.size (rfArr x) rfl rfl 89 rfZero (Arr.new wr _ _) (rfInfo _) rfl (rfArr_one _) ?_)
          refine wp_forget (fun V => Below w.heap.size w V ∧ Arr V wr.heap.size 89 (rfArr x) ∧ V.ownsRow w.heap.size 89 2 v ([] ++ aheadR n (L.take k)).length (rfCells ([] ++ aheadR n (L.take k)))) (by exact ⟨bel.trans (bb.mono bel.size), AX, own_up own bb⟩) ?_
          clear bb AX bel own g0 g1
          generalize wr.heap.size = q
          rintro V ⟨bel, AX, own⟩
          have c0 : V.cell? ⟨q, 0, none⟩ = some (.string x.name) := AX.cell 0
          have c1 : V.cell? ⟨q, 1, none⟩ = some (.string x.id) := AX.cell 1
          clear AX
          have hq2 : ltB x.name n = Op.bytesLess x.name.toList n.toList := rfl
          rw [hq2] at HN
          clear hq2
          cases hq : Op.bytesLess x.name.toList n.toList
          · rw [hq] at HN
            have HO : Hid (V.ownsRow w.heap.size 89 2 v ([] ++ aheadR n (L.take (k + 1))).length (rfCells ([] ++ aheadR n (L.take (k + 1))))) := by
              have := HN.out
              simp only [Bool.false_eq_true, if_false, List.append_nil] at this
              show World.ownsRow _ _ _ _ _ _ _
              rw [this]
              exact own
            clear own HN
            go_wp2_with fail
            go_roundw
            case rel => exact ⟨k + 1, _, hlt, by rw [Int.natCast_add]; rfl, rfl, HO.out, bel⟩
            case measure => simp [intOf]; omega
          · rw [hq] at HN
            have HT : Hid ([] ++ aheadR n (L.take (k + 1)) = ([] ++ aheadR n (L.take k)) ++ [x]) := by
              have := HN.out
              simp only [if_true] at this
              show _ = _
              rw [this]
              exact (List.append_assoc _ _ _).symm
            clear HN
            obtain ⟨n1, n2, n3, n4⟩ := app_ref (x := x) own bel
            have N1 := Lib.hid n1
            have N2 := Lib.hid n2
            have N3 := Lib.hid n3
            have N4 := Lib.hid n4
            clear n1 n2 n3 n4 own
            have HG2 : Hid (([] ++ aheadR n (L.take k)).length ≤ 1000) := hle
            clear hle
            generalize ([] ++ aheadR n (L.take k)) = T at *
            have hle := HG2.out
            go_wp2_with (at_builtin; refine wpList_app _ rfl _ _ 46 rfl w.heap.size 89 si _ 2 32 Tryd.underlying46 Hsi.out Sz0.out Sz1.out Sz2.out rfl (by decide) _ _ _ rfl N2.out (some ⟨V.heap.size, 0, none⟩) 1 1 (rfArr x).toList rfl rfl N1.out (rfArr_ones x) (by unfold maxLen; omega) (by omega) N3.out ?_)
            intro v' w' h1 h2
            obtain ⟨h3, h4⟩ := N4.out v' w' h1 h2
            have H3 := Lib.hid h3
            clear h1 h2 h3 N1 N2 N3 N4
            go_wp2_with fail
            go_roundw
            case rel => exact ⟨k + 1, _, hlt, by rw [Int.natCast_add]; rfl, rfl, by rw [HT.out]; exact H3.out, h4⟩
            case measure => simp [intOf]; omega
        · obtain rfl : k = L.length := by omega
          have hj : ¬ (L.length : Int) < L.length := by omega
          rw [List.take_length] at own
          clear HPl
          obtain ⟨n1, n2, n3, n4⟩ := app_ref (x := ⟨n, i⟩) own bel
          simp only [List.nil_append] at n2 n4
          have N1 := Lib.hid n1
          have N2 := Lib.hid n2
          have N3 := Lib.hid n3
          have N4 := Lib.hid n4
          have hle : (aheadR n L).length ≤ 100 := by have := ahead_le n L L.length; rw [List.take_length] at this; omega
          have HPl : Hid ((aheadR n L ++ [(⟨n, i⟩ : Rf)]).length ≤ 200) := by show _ ≤ _; simp only [List.length_append, List.length_singleton]; omega
          clear n1 n2 n3 n4 own
          go_wp2_with (at_builtin; refine wpList_app _ rfl _ _ 46 rfl w.heap.size 89 si _ 2 32 Tryd.underlying46 Hsi.out Sz0.out Sz1.out Sz2.out rfl (by decide) _ _ _ rfl N2.out (some ⟨wr.heap.size, 0, none⟩) 1 1 (rfArr ⟨n, i⟩).toList rfl rfl N1.out (rfArr_ones _) (by unfold maxLen; omega) (by omega) N3.out ?_)
          intro v' w' h1 h2
          obtain ⟨h3, h4⟩ := N4.out v' w' h1 h2
          have h0 : Hid (SfRel L (aheadR n L ++ [(⟨n, i⟩ : Rf)]) (behindR n) w v' (.int .i64 0) w') := ⟨0, _, Nat.zero_le _, rfl, rfl, by simp only [List.take_zero]; simpa [behindR] using h3, h4⟩
          clear h1 h2 h3 h4 N1 N2 N3 N4 bel hle
          go_wp2_with fail
          go_loopw [10, 72] (fun v j wr => SfRel L (aheadR n L ++ [(⟨n, i⟩ : Rf)]) (behindR n) w v j wr) (fun _ j _ => L.length - (intOf j).toNat)
          case atStart => exact h0.out
          case round =>
            clear h0
            obtain ⟨k, v, hk, rfl, rfl, own, bel⟩ := hrel
            by_cases hlt : k < L.length
            · have hj : (k : Int) < L.length := by omega
              have hx : L[k]? = some L[k] := List.getElem?_eq_getElem hlt
              obtain ⟨ad, rfl, hbl, h0, h1⟩ := hP k L[k] hx
              have g0 := (bel.cell hbl).trans h0
              have g1 := (bel.cell (p := ⟨(ad.add (k * 2)).block, (ad.add (k * 2)).off + 1, none⟩) hbl).trans h1
              have HN := Lib.hid (behind_next (n := n) hx)
              have hle : ((aheadR n L ++ [(⟨n, i⟩ : Rf)]) ++ behindR n (L.take k)).length ≤ 1000 := by have := behind_le n L k; have := HPl.out; rw [List.length_append]; omega
              clear h0 h1 hx
              generalize L[k] = x at *
              have bb : Below wr.heap.size wr ((wr.alloc (.cells rfZero 89)).setRow wr.heap.size (rfArr x)) := below_setRow ((Below.refl _ _).alloc (Nat.le_refl _) _) (Nat.le_refl _) _
              have AX : Arr ((wr.alloc (.cells rfZero 89)).setRow wr.heap.size (rfArr x)) wr.heap.size 89 (rfArr x) := (Arr.new _ _ _).row _
              go_upto_region 21 with (refine wpList_store_row rfl 89 _ _ rfl wr.heap.size (rfArr x) rfl rfl 89 rfZero (Arr.new wr _ _) (rfInfo _) rfl (rfArr_one _) ?_)
              refine wp_forget (fun V => Below w.heap.size w V ∧ Arr V wr.heap.size 89 (rfArr x) ∧ V.ownsRow w.heap.size 89 2 v ((aheadR n L ++ [(⟨n, i⟩ : Rf)]) ++ behindR n (L.take k)).length (rfCells ((aheadR n L ++ [(⟨n, i⟩ : Rf)]) ++ behindR n (L.take k)))) (by exact ⟨bel.trans (bb.mono bel.size), AX, own_up own bb⟩) ?_
              clear bb AX bel own g0 g1
              generalize wr.heap.size = q
              rintro V ⟨bel, AX, own⟩
              have c0 : V.cell? ⟨q, 0, none⟩ = some (.string x.name) := AX.cell 0
              have c1 : V.cell? ⟨q, 1, none⟩ = some (.string x.id) := AX.cell 1
              clear AX
              have hq2 : ltB n x.name = Op.bytesLess n.toList x.name.toList := rfl
              rw [hq2] at HN
              clear hq2
              cases hq : Op.bytesLess n.toList x.name.toList
              · rw [hq] at HN
                cases h5 : Op.bytesLess x.name.toList n.toList
                · have h6 := leq_yes hq h5
                  clear hq
                  have HO : Hid (V.ownsRow w.heap.size 89 2 v ((aheadR n L ++ [(⟨n, i⟩ : Rf)]) ++ behindR n (L.take (k + 1))).length (rfCells ((aheadR n L ++ [(⟨n, i⟩ : Rf)]) ++ behindR n (L.take (k + 1))))) := by
                    have := HN.out
                    simp only [Bool.false_eq_true, if_false, List.append_nil] at this
                    show World.ownsRow _ _ _ _ _ _ _
                    rw [this]
                    exact own
                  clear own HN
                  go_wp2_with fail
                  go_roundw
                  case rel => exact ⟨k + 1, _, hlt, by rw [Int.natCast_add]; rfl, rfl, HO.out, bel⟩
                  case measure => simp [intOf]; omega
                · clear hq
                  have HO : Hid (V.ownsRow w.heap.size 89 2 v ((aheadR n L ++ [(⟨n, i⟩ : Rf)]) ++ behindR n (L.take (k + 1))).length (rfCells ((aheadR n L ++ [(⟨n, i⟩ : Rf)]) ++ behindR n (L.take (k + 1))))) := by
                    have := HN.out
                    simp only [Bool.false_eq_true, if_false, List.append_nil] at this
                    show World.ownsRow _ _ _ _ _ _ _
                    rw [this]
                    exact own
                  clear own HN
                  go_wp2_with fail
                  go_roundw
                  case rel => exact ⟨k + 1, _, hlt, by rw [Int.natCast_add]; rfl, rfl, HO.out, bel⟩
                  case measure => simp [intOf]; omega
              · rw [hq] at HN
                obtain ⟨h5, h6⟩ := leq_no hq
                clear hq
                have HT : Hid ((aheadR n L ++ [(⟨n, i⟩ : Rf)]) ++ behindR n (L.take (k + 1)) = ((aheadR n L ++ [(⟨n, i⟩ : Rf)]) ++ behindR n (L.take k)) ++ [x]) := by
                  have := HN.out
                  simp only [if_true] at this
                  show _ = _
                  rw [this]
                  exact (List.append_assoc _ _ _).symm
                clear HN
                obtain ⟨n1, n2, n3, n4⟩ := app_ref (x := x) own bel
                have N1 := Lib.hid n1
                have N2 := Lib.hid n2
                have N3 := Lib.hid n3
                have N4 := Lib.hid n4
                clear n1 n2 n3 n4 own
                have HG2 : Hid (((aheadR n L ++ [(⟨n, i⟩ : Rf)]) ++ behindR n (L.take k)).length ≤ 1000) := hle
                clear hle
                generalize ((aheadR n L ++ [(⟨n, i⟩ : Rf)]) ++ behindR n (L.take k)) = T at *
                have hle := HG2.out
                go_wp2_with (at_builtin; refine wpList_app _ rfl _ _ 46 rfl w.heap.size 89 si _ 2 32 Tryd.underlying46 Hsi.out Sz0.out Sz1.out Sz2.out rfl (by decide) _ _ _ rfl N2.out (some ⟨V.heap.size, 0, none⟩) 1 1 (rfArr x).toList rfl rfl N1.out (rfArr_ones x) (by unfold maxLen; omega) (by omega) N3.out ?_)
                intro v' w' h1 h2
                obtain ⟨h3, h4⟩ := N4.out v' w' h1 h2
                have H3 := Lib.hid h3
                clear h1 h2 h3 N1 N2 N3 N4
                go_wp2_with fail
                go_roundw
                case rel => exact ⟨k + 1, _, hlt, by rw [Int.natCast_add]; rfl, rfl, by rw [HT.out]; exact H3.out, h4⟩
                case measure => simp [intOf]; omega
            · obtain rfl : k = L.length := by omega
              have hj : ¬ (L.length : Int) < L.length := by omega
              rw [List.take_length] at own
              obtain ⟨A9, c9, rfl, hc9, hF9⟩ := own_refs own
              have HH : Hid (SrEnd w R (.returned (.tuple #[.slice A9 ((aheadR n L ++ [(⟨n, i⟩ : Rf)]) ++ behindR n L).length c9, .int .i64 0])) wr) := by
                show SrEnd _ _ _ _
                rw [HE3.out]
                exact ⟨A9, c9, rfl, hF9, hc9, bel⟩
              clear own hF9 hc9
              generalize ((aheadR n L ++ [(⟨n, i⟩ : Rf)]) ++ behindR n L).length = m9 at *
              go_wp2_with fail
              go_ret2
              exact HH.out
    · rw [decide_eq_false h7] at hoe
      clear h7 h8 h6 h10
      have HPl : Hid (([] : List Rf).length ≤ 100) := Nat.zero_le _
      go_wp2_with fail
      go_loopw [10, 49] (fun v j wr => SfRel L [] (aheadR n) w v j wr) (fun _ j _ => L.length - (intOf j).toNat)
      case atStart => exact h0.out
      case round =>
        clear h0
        obtain ⟨k, v, hk, rfl, rfl, own, bel⟩ := hrel
        by_cases hlt : k < L.length
        · have hj : (k : Int) < L.length := by omega
          have hx : L[k]? = some L[k] := List.getElem?_eq_getElem hlt
          obtain ⟨ad, rfl, hbl, h0, h1⟩ := hP k L[k] hx
          have g0 := (bel.cell hbl).trans h0
          have g1 := (bel.cell (p := ⟨(ad.add (k * 2)).block, (ad.add (k * 2)).off + 1, none⟩) hbl).trans h1
          have HN := Lib.hid (ahead_next (n := n) hx)
          have hle : ([] ++ aheadR n (L.take k)).length ≤ 1000 := by have := ahead_le n L k; have := HPl.out; rw [List.length_append]; omega
          clear h0 h1 hx
          generalize L[k] = x at *
          have bb : Below wr.heap.size wr ((wr.alloc (.cells rfZero 89)).setRow wr.heap.size (rfArr x)) := below_setRow ((Below.refl _ _).alloc (Nat.le_refl _) _) (Nat.le_refl _) _
          have AX : Arr ((wr.alloc (.cells rfZero 89)).setRow wr.heap.size (rfArr x)) wr.heap.size 89 (rfArr x) := (Arr.new _ _ _).row _
          go_upto_region 13 with (refine wpList_store_row rfl 89 _ _ rfl wr.heap.size (rfArr x) rfl rfl 89 rfZero (Arr.new wr _ _) (rfInfo _) rfl (rfArr_one _) ?_)
          refine wp_forget (fun V => Below w.heap.size w V ∧ Arr V wr.heap.size 89 (rfArr x) ∧ V.ownsRow w.heap.size 89 2 v ([] ++ aheadR n (L.take k)).length (rfCells ([] ++ aheadR n (L.take k)))) (by exact ⟨bel.trans (bb.mono bel.size), AX, own_up own bb⟩) ?_
          clear bb AX bel own g0 g1
          generalize wr.heap.size = q
          rintro V ⟨bel, AX, own⟩
          have c0 : V.cell? ⟨q, 0, none⟩ = some (.string x.name) := AX.cell 0
          have c1 : V.cell? ⟨q, 1, none⟩ = some (.string x.id) := AX.cell 1
          clear AX
          have hq2 : ltB x.name n = Op.bytesLess x.name.toList n.toList := rfl
          rw [hq2] at HN
          clear hq2
          cases hq : Op.bytesLess x.name.toList n.toList
          · rw [hq] at HN
            have HO : Hid (V.ownsRow w.heap.size 89 2 v ([] ++ aheadR n (L.take (k + 1))).length (rfCells ([] ++ aheadR n (L.take (k + 1))))) := by
              have := HN.out
              simp only [Bool.false_eq_true, if_false, List.append_nil] at this
              show World.ownsRow _ _ _ _ _ _ _
              rw [this]
              exact own
            clear own HN
            go_wp2_with fail
            go_roundw
            case rel => exact ⟨k + 1, _, hlt, by rw [Int.natCast_add]; rfl, rfl, HO.out, bel⟩
            case measure => simp [intOf]; omega
          · rw [hq] at HN
            have HT : Hid ([] ++ aheadR n (L.take (k + 1)) = ([] ++ aheadR n (L.take k)) ++ [x]) := by
              have := HN.out
              simp only [if_true] at this
              show _ = _
              rw [this]
              exact (List.append_assoc _ _ _).symm
            clear HN
            obtain ⟨n1, n2, n3, n4⟩ := app_ref (x := x) own bel
            have N1 := Lib.hid n1
            have N2 := Lib.hid n2
            have N3 := Lib.hid n3
            have N4 := Lib.hid n4
            clear n1 n2 n3 n4 own
            have HG2 : Hid (([] ++ aheadR n (L.take k)).length ≤ 1000) := hle
            clear hle
            generalize ([] ++ aheadR n (L.take k)) = T at *
            have hle := HG2.out
            go_wp2_with (at_builtin; refine wpList_app _ rfl _ _ 46 rfl w.heap.size 89 si _ 2 32 Tryd.underlying46 Hsi.out Sz0.out Sz1.out Sz2.out rfl (by decide) _ _ _ rfl N2.out (some ⟨V.heap.size, 0, none⟩) 1 1 (rfArr x).toList rfl rfl N1.out (rfArr_ones x) (by unfold maxLen; omega) (by omega) N3.out ?_)
            intro v' w' h1 h2
            obtain ⟨h3, h4⟩ := N4.out v' w' h1 h2
            have H3 := Lib.hid h3
            clear h1 h2 h3 N1 N2 N3 N4
            go_wp2_with fail
            go_roundw
            case rel => exact ⟨k + 1, _, hlt, by rw [Int.natCast_add]; rfl, rfl, by rw [HT.out]; exact H3.out, h4⟩
            case measure => simp [intOf]; omega
        · obtain rfl : k = L.length := by omega
          have hj : ¬ (L.length : Int) < L.length := by omega
          rw [List.take_length] at own
          clear HPl
          obtain ⟨n1, n2, n3, n4⟩ := app_ref (x := ⟨n, i⟩) own bel
          simp only [List.nil_append] at n2 n4
          have N1 := Lib.hid n1
          have N2 := Lib.hid n2
          have N3 := Lib.hid n3
          have N4 := Lib.hid n4
          have hle : (aheadR n L).length ≤ 100 := by have := ahead_le n L L.length; rw [List.take_length] at this; omega
          have HPl : Hid ((aheadR n L ++ [(⟨n, i⟩ : Rf)]).length ≤ 200) := by show _ ≤ _; simp only [List.length_append, List.length_singleton]; omega
          clear n1 n2 n3 n4 own
          go_wp2_with (at_builtin; refine wpList_app _ rfl _ _ 46 rfl w.heap.size 89 si _ 2 32 Tryd.underlying46 Hsi.out Sz0.out Sz1.out Sz2.out rfl (by decide) _ _ _ rfl N2.out (some ⟨wr.heap.size, 0, none⟩) 1 1 (rfArr ⟨n, i⟩).toList rfl rfl N1.out (rfArr_ones _) (by unfold maxLen; omega) (by omega) N3.out ?_)
          intro v' w' h1 h2
          obtain ⟨h3, h4⟩ := N4.out v' w' h1 h2
          have h0 : Hid (SfRel L (aheadR n L ++ [(⟨n, i⟩ : Rf)]) (behindR n) w v' (.int .i64 0) w') := ⟨0, _, Nat.zero_le _, rfl, rfl, by simp only [List.take_zero]; simpa [behindR] using h3, h4⟩
          clear h1 h2 h3 h4 N1 N2 N3 N4 bel hle
          go_wp2_with fail
          go_loopw [10, 72] (fun v j wr => SfRel L (aheadR n L ++ [(⟨n, i⟩ : Rf)]) (behindR n) w v j wr) (fun _ j _ => L.length - (intOf j).toNat)
          case atStart => exact h0.out
          case round =>
            clear h0
            obtain ⟨k, v, hk, rfl, rfl, own, bel⟩ := hrel
            by_cases hlt : k < L.length
            · have hj : (k : Int) < L.length := by omega
              have hx : L[k]? = some L[k] := List.getElem?_eq_getElem hlt
              obtain ⟨ad, rfl, hbl, h0, h1⟩ := hP k L[k] hx
              have g0 := (bel.cell hbl).trans h0
              have g1 := (bel.cell (p := ⟨(ad.add (k * 2)).block, (ad.add (k * 2)).off + 1, none⟩) hbl).trans h1
              have HN := Lib.hid (behind_next (n := n) hx)
              have hle : ((aheadR n L ++ [(⟨n, i⟩ : Rf)]) ++ behindR n (L.take k)).length ≤ 1000 := by have := behind_le n L k; have := HPl.out; rw [List.length_append]; omega
              clear h0 h1 hx
              generalize L[k] = x at *
              have bb : Below wr.heap.size wr ((wr.alloc (.cells rfZero 89)).setRow wr.heap.size (rfArr x)) := below_setRow ((Below.refl _ _).alloc (Nat.le_refl _) _) (Nat.le_refl _) _
              have AX : Arr ((wr.alloc (.cells rfZero 89)).setRow wr.heap.size (rfArr x)) wr.heap.size 89 (rfArr x) := (Arr.new _ _ _).row _
              go_upto_region 21 with (refine wpList_store_row rfl 89 _ _ rfl wr.heap.size (rfArr x) rfl rfl 89 rfZero (Arr.new wr _ _) (rfInfo _) rfl (rfArr_one _) ?_)
              refine wp_forget (fun V => Below w.heap.size w V ∧ Arr V wr.heap.size 89 (rfArr x) ∧ V.ownsRow w.heap.size 89 2 v ((aheadR n L ++ [(⟨n, i⟩ : Rf)]) ++ behindR n (L.take k)).length (rfCells ((aheadR n L ++ [(⟨n, i⟩ : Rf)]) ++ behindR n (L.take k)))) (by exact ⟨bel.trans (bb.mono bel.size), AX, own_up own bb⟩) ?_
              clear bb AX bel own g0 g1
              generalize wr.heap.size = q
              rintro V ⟨bel, AX, own⟩
              have c0 : V.cell? ⟨q, 0, none⟩ = some (.string x.name) := AX.cell 0
              have c1 : V.cell? ⟨q, 1, none⟩ = some (.string x.id) := AX.cell 1
              clear AX
              have hq2 : ltB n x.name = Op.bytesLess n.toList x.name.toList := rfl
              rw [hq2] at HN
              clear hq2
              cases hq : Op.bytesLess n.toList x.name.toList
              · rw [hq] at HN
                cases h5 : Op.bytesLess x.name.toList n.toList
                · have h6 := leq_yes hq h5
                  clear hq
                  have HO : Hid (V.ownsRow w.heap.size 89 2 v ((aheadR n L ++ [(⟨n, i⟩ : Rf)]) ++ behindR n (L.take (k + 1))).length (rfCells ((aheadR n L ++ [(⟨n, i⟩ : Rf)]) ++ behindR n (L.take (k + 1))))) := by
                    have := HN.out
                    simp only [Bool.false_eq_true, if_false, List.append_nil] at this
                    show World.ownsRow _ _ _ _ _ _ _
                    rw [this]
                    exact own
                  clear own HN
                  go_wp2_with fail
                  go_roundw
                  case rel => exact ⟨k + 1, _, hlt, by rw [Int.natCast_add]; rfl, rfl, HO.out, bel⟩
                  case measure => simp [intOf]; omega
                · clear hq
                  have HO : Hid (V.ownsRow w.heap.size 89 2 v ((aheadR n L ++ [(⟨n, i⟩ : Rf)]) ++ behindR n (L.take (k + 1))).length (rfCells ((aheadR n L ++ [(⟨n, i⟩ : Rf)]) ++ behindR n (L.take (k + 1))))) := by
                    have := HN.out
                    simp only [Bool.false_eq_true, if_false, List.append_nil] at this
                    show World.ownsRow _ _ _ _ _ _ _
                    rw [this]
                    exact own
                  clear own HN
                  go_wp2_with fail
                  go_roundw
                  case rel => exact ⟨k + 1, _, hlt, by rw [Int.natCast_add]; rfl, rfl, HO.out, bel⟩
                  case measure => simp [intOf]; omega
              · rw [hq] at HN
                obtain ⟨h5, h6⟩ := leq_no hq
                clear hq
                have HT : Hid ((aheadR n L ++ [(⟨n, i⟩ : Rf)]) ++ behindR n (L.take (k + 1)) = ((aheadR n L ++ [(⟨n, i⟩ : Rf)]) ++ behindR n (L.take k)) ++ [x]) := by
                  have := HN.out
                  simp only [if_true] at this
                  show _ = _
                  rw [this]
                  exact (List.append_assoc _ _ _).symm
                clear HN
                obtain ⟨n1, n2, n3, n4⟩ := app_ref (x := x) own bel
                have N1 := Lib.hid n1
                have N2 := Lib.hid n2
                have N3 := Lib.hid n3
                have N4 := Lib.hid n4
                clear n1 n2 n3 n4 own
                have HG2 : Hid (((aheadR n L ++ [(⟨n, i⟩ : Rf)]) ++ behindR n (L.take k)).length ≤ 1000) := hle
                clear hle
                generalize ((aheadR n L ++ [(⟨n, i⟩ : Rf)]) ++ behindR n (L.take k)) = T at *
                have hle := HG2.out
                go_wp2_with (at_builtin; refine wpList_app _ rfl _ _ 46 rfl w.heap.size 89 si _ 2 32 Tryd.underlying46 Hsi.out Sz0.out Sz1.out Sz2.out rfl (by decide) _ _ _ rfl N2.out (some ⟨V.heap.size, 0, none⟩) 1 1 (rfArr x).toList rfl rfl N1.out (rfArr_ones x) (by unfold maxLen; omega) (by omega) N3.out ?_)
                intro v' w' h1 h2
                obtain ⟨h3, h4⟩ := N4.out v' w' h1 h2
                have H3 := Lib.hid h3
                clear h1 h2 h3 N1 N2 N3 N4
                go_wp2_with fail
                go_roundw
                case rel => exact ⟨k + 1, _, hlt, by rw [Int.natCast_add]; rfl, rfl, by rw [HT.out]; exact H3.out, h4⟩
                case measure => simp [intOf]; omega
            · obtain rfl : k = L.length := by omega
              have hj : ¬ (L.length : Int) < L.length := by omega
              rw [List.take_length] at own
              obtain ⟨A9, c9, rfl, hc9, hF9⟩ := own_refs own
              have HH : Hid (SrEnd w R (.returned (.tuple #[.slice A9 ((aheadR n L ++ [(⟨n, i⟩ : Rf)]) ++ behindR n L).length c9, .int .i64 0])) wr) := by
                show SrEnd _ _ _ _
                rw [HE3.out]
                exact ⟨A9, c9, rfl, hF9, hc9, bel⟩
              clear own hF9 hc9
              generalize ((aheadR n L ++ [(⟨n, i⟩ : Rf)]) ++ behindR n L).length = m9 at *
              go_wp2_with fail
              go_ret2
              exact HH.out
end Go.Proofs.YtbpmgpbmeganoaaDoor

/- keep.sameRefs, ref.SameRefs: their contracts. -/
namespace Go.Proofs.YtbpmgpbmeganoaaDoor
open Go.RowKit

def neR (x y : Rf) : Bool := !(sameB x.name y.name && sameB x.id y.id)
theorem neR_iff (x y : Rf) : neR x y = false ↔ x = y := by
  unfold neR
  obtain ⟨a, b⟩ := x
  obtain ⟨a', b'⟩ := y
  simp [sameB_iff]
set_option maxRecDepth 100000 in
theorem neR_run (a a' b b' : ByteArray) (w : World) :
    (binOp .neq 89 (.agg #[.string a, .string b]) (.agg #[.string a', .string b'])).run Tryd.prog w = .ok (.bool (neR ⟨a, b⟩ ⟨a', b'⟩)) w := by
  unfold neR sameB
  go_simp
  repeat' split
  all_goals simp_all
def SrRel (w : World) (L M : List Rf) (i : Value) (wr : World) : Prop :=
  ∃ k : Nat, k ≤ M.length ∧ i = .int .i64 (k : Int) ∧ L.take k = M.take k ∧ Below w.heap.size w wr
set_option maxRecDepth 100000 in
set_option maxHeartbeats 1000000 in
theorem SameRefs_any (L M : List Rf) (A B : Option Addr) (c d : Nat) (w : World) (hP : Rfs w w.heap.size A L) (hQ : Rfs w w.heap.size B M) (hl : L.length ≤ 140737488355328) (hm : M.length ≤ 140737488355328) :
    Calls Tryd.prog 32 #[.slice A L.length c, .slice B M.length d] w fun e w' => e = .returned (.bool (decide (L = M))) ∧ Below w.heap.size w w' := by
  have HI : Hid (∀ b : Bool, (L = M ↔ b = true) → decide (L = M) = b) := fun b hb => by
    cases b with
    | true => exact decide_eq_true (hb.2 rfl)
    | false => exact decide_eq_false (fun e => by have := hb.1 e; cases this)
  generalize decide (L = M) = D at *
  by_cases hlen : ¬ L.length = M.length
  · have hlb : ((L.length : Int) != M.length) = true := by rw [bne_iff_ne]; omega
    have HF : Hid (D = false) := HI.out false ⟨fun e => absurd (by rw [e]) hlen, fun e => by cases e⟩
    clear hlen HI
    go_enter Tryd.func32, Tryd.ntmps32
    go_wp2_with fail
    go_ret
    exact ⟨by rw [HF.out]; rfl, Below.refl _ _⟩
  replace hlen : L.length = M.length := Decidable.byContradiction hlen
  have hlb : ((L.length : Int) != M.length) = false := by rw [hlen]; simp
  have HR : Hid (SrRel w L M (.int .i64 0) w) := ⟨0, Nat.zero_le _, rfl, rfl, Below.refl _ _⟩
  have HLn := Lib.hid hlen
  clear hlen
  go_enter Tryd.func32, Tryd.ntmps32
  go_wp2_with fail
  clear hlb
  go_loopw [13] (fun i wr => SrRel w L M i wr) (fun i _ => M.length - (intOf i).toNat)
  case atStart => exact HR.out
  case round =>
    clear HR
    obtain ⟨k, hk, rfl, ht, bel⟩ := hrel
    have hlen := HLn.out
    have HT := Lib.hid ht
    clear ht
    by_cases hlt : k < M.length
    · have hlt2 : k < L.length := by omega
      have hj : (k : Int) < L.length := by omega
      have hj2 : (k : Int) < M.length := by omega
      obtain ⟨ad, rfl, hbl, h0, h1⟩ := hP k L[k] (List.getElem?_eq_getElem hlt2)
      obtain ⟨ad2, rfl, hbl2, h0', h1'⟩ := hQ k M[k] (List.getElem?_eq_getElem hlt)
      have g0 := (bel.cell hbl).trans h0
      have g1 := (bel.cell (p := ⟨(ad.add (k * 2)).block, (ad.add (k * 2)).off + 1, none⟩) hbl).trans h1
      have g3 := (bel.cell hbl2).trans h0'
      have g4 := (bel.cell (p := ⟨(ad2.add (k * 2)).block, (ad2.add (k * 2)).off + 1, none⟩) hbl2).trans h1'
      have HS := Lib.hid (fun e => take_same HT.out hlt2 hlt e)
      have HN : Hid (L[k] ≠ M[k] → D = false) := fun h => HI.out false ⟨fun e => by subst e; exact absurd rfl h, fun e => by cases e⟩
      clear h0 h1 h0' h1' HT hlen
      generalize L[k] = x at *
      generalize M[k] = x' at *
      obtain ⟨x1, x2⟩ := x
      obtain ⟨y1, y2⟩ := x'
      simp only at g0 g1 g3 g4
      have hne := neR_run x1 y1 x2 y2
      cases hq : neR ⟨x1, x2⟩ ⟨y1, y2⟩
      · have HS2 := Lib.hid (HS.out ((neR_iff _ _).1 hq))
        rw [hq] at hne
        clear HS HN hq
        go_wp2_with fail
        go_quiet (fail)
        go_wp2_with fail
        refine ⟨⟨k + 1, hlt, by go_num, HS2.out, below_drewN bel _⟩, by simp [intOf]; omega⟩
      · have HF := Lib.hid (HN.out (fun e => by have := (neR_iff _ _).2 e; rw [this] at hq; cases hq))
        rw [hq] at hne
        clear HS HN hq
        go_wp2_with fail
        go_quiet (fail)
        go_wp2_with fail
        go_ret
        exact ⟨by rw [HF.out]; rfl, below_drewN bel _⟩
    · obtain rfl : k = M.length := by omega
      have hj : ¬ (M.length : Int) < L.length := by omega
      have HF : Hid (D = true) := HI.out true ⟨fun _ => rfl, fun _ => by
        have := HT.out
        rwa [List.take_length, List.take_of_length_le (by omega)] at this⟩
      clear HT hlen
      go_wp2_with fail
      go_ret
      exact ⟨by rw [HF.out]; rfl, bel⟩
end Go.Proofs.YtbpmgpbmeganoaaDoor
