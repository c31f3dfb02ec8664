/- Texts in one: ODecB, SMap, IMap. -/
import Derived.Test.YtmikfmcgddmplaaGreatDoorODec
import Derived.Deep.AppendLies
import Derived.Test.YtmikfmcgddmplaaGreatDoorOMap
import Derived.Maps.RangeRun
import Derived.MapKept
/- Reading parents and entries. -/
namespace Go.Proofs.YtmikfmcgddmplaaGreatDoor
open Go.RowKit

def sv (t : ByteArray) : Value := .string t
theorem info_str : (Tryz.prog.info? 9).map (fun i => (i.zero, i.size, i.bytes)) = some (some (.string ⟨#[]⟩), 1, 16) := by kernel_rfl
theorem info_ent : (Tryz.prog.info? 79).map (fun i => (i.zero, i.size, i.bytes)) = some (some (.agg #[.string ⟨#[]⟩, .bool false, .string ⟨#[]⟩]), 3, 40) := by kernel_rfl
def entCells : List Ent → List Value
  | [] => []
  | e :: l => .string e.name :: .bool e.dir :: .string e.id :: entCells l
theorem entCells_len : ∀ l : List Ent, (entCells l).length = l.length * 3
  | [] => rfl
  | e :: l => by simp only [entCells, List.length_cons, entCells_len l]; omega
theorem entCells_app : ∀ (a : List Ent) (e : Ent), entCells (a ++ [e]) = entCells a ++ [.string e.name, .bool e.dir, .string e.id]
  | [], e => rfl
  | x :: a, e => by rw [List.cons_append, entCells, entCells_app a e]; rfl
theorem entCells_at : ∀ (l : List Ent) (k : Nat) (x : Ent), l[k]? = some x → (entCells l)[k * 3]? = some (.string x.name) ∧ (entCells l)[k * 3 + 1]? = some (.bool x.dir) ∧ (entCells l)[k * 3 + 2]? = some (.string x.id)
  | [], k, x, h => by simp at h
  | e :: l, 0, x, h => by
    simp at h; subst h
    exact ⟨rfl, rfl, rfl⟩
  | e :: l, k + 1, x, h => by
    rw [List.getElem?_cons_succ] at h
    obtain ⟨h0, h1, h2⟩ := entCells_at l k x h
    have e0 : (k + 1) * 3 = k * 3 + 3 := by omega
    rw [e0]
    exact ⟨h0, h1, h2⟩
theorem zero_add (g j : Nat) : (⟨g, 0, none⟩ : Addr).add j = ⟨g, j, none⟩ := by unfold Addr.add; split <;> simp_all
theorem own_texts {w : World} {base : Nat} {v : Value} {T : List ByteArray} (h : w.ownsRow base 9 1 v T.length (T.map sv)) : ∃ A c, v = .slice A T.length c ∧ T.length ≤ c ∧ Txs w w.heap.size A T ∧ ∀ ad, A = some ad → base ≤ ad.block := by
  rcases h.2 with ⟨rfl, hn⟩ | ⟨g, cap, cur, rfl, hb, hg, hnc, hcm, hcs, htake⟩
  · have e : T = [] := List.eq_nil_of_length_eq_zero hn
    subst e
    exact ⟨none, 0, rfl, Nat.le_refl _, Txs.nil _ _ _, fun ad e => by cases e⟩
  · refine ⟨some ⟨g, 0, none⟩, cap, rfl, hnc, fun k x hx => ⟨_, rfl, ?_, ?_⟩, fun ad e => by cases e; exact hb⟩
    · rw [zero_add]; exact (Array.getElem?_eq_some_iff.1 hg).1
    · have hk : k < T.length := (List.getElem?_eq_some_iff.1 hx).1
      have hu : (T.map sv)[k]? = some (.string x) := by rw [List.getElem?_map, hx]; rfl
      rw [zero_add, cell_of_row w g k cur _ (0, 0) hg, ← hu, ← htake, List.getElem?_take_of_lt (by omega)]
      simp
theorem own_ents {w : World} {base : Nat} {v : Value} {L : List Ent} (h : w.ownsRow base 79 3 v L.length (entCells L)) : ∃ A c, v = .slice A L.length c ∧ Ens w w.heap.size A L ∧ ∀ ad, A = some ad → base ≤ ad.block := by
  rcases h.2 with ⟨rfl, hn⟩ | ⟨g, cap, cur, rfl, hb, hg, hnc, hcm, hcs, htake⟩
  · have e : L = [] := List.eq_nil_of_length_eq_zero hn
    subst e
    exact ⟨none, 0, rfl, Ens.nil _ _ _, fun ad e => by cases e⟩
  · refine ⟨some ⟨g, 0, none⟩, cap, rfl, fun k x hx => ?_, fun ad e => by cases e; exact hb⟩
    have hk : k < L.length := (List.getElem?_eq_some_iff.1 hx).1
    obtain ⟨h0, h1, h2⟩ := entCells_at L k x hx
    have hcell : ∀ j, j < L.length * 3 → w.cell? ⟨g, j, none⟩ = (entCells L)[j]? := fun j hj => by
      rw [cell_of_row w g j cur _ (0, 0) hg, ← htake, List.getElem?_take_of_lt hj]
      simp
    refine ⟨_, rfl, ?_, ?_, ?_, ?_⟩
    · rw [zero_add]; exact (Array.getElem?_eq_some_iff.1 hg).1
    · rw [zero_add, hcell _ (by omega)]; exact h0
    · rw [zero_add]
      show w.cell? ⟨g, k * 3 + 1, none⟩ = _
      rw [hcell _ (by omega)]; exact h1
    · rw [zero_add]
      show w.cell? ⟨g, k * 3 + 2, none⟩ = _
      rw [hcell _ (by omega)]; exact h2
theorem own_far {w : World} {base : Nat} {e : TypeId} {v : Value} {n size g : Nat} {xs : List Value} (h : w.ownsRow base e size v n xs) (hg : g < base) : v.ownBlock = none ∨ v.ownBlock ≠ some g := by
  rcases h.2 with ⟨rfl, _⟩ | ⟨g', cap, cur, rfl, hb, _, _⟩
  · exact .inl rfl
  · refine .inr fun e1 => ?_
    have e2 : g' = g := by simpa [Value.ownBlock] using e1
    omega
theorem own_row_ge {w : World} {base : Nat} {e : TypeId} {v : Value} {n size : Nat} {xs : List Value} (h : w.ownsRow base e size v n xs) (k : Nat) (hk : v.ownBlock = some k) : base ≤ k := by
  rcases h.2 with ⟨rfl, _⟩ | ⟨g, cap, cur, rfl, hb, _⟩
  · cases hk
  · cases hk; exact hb
theorem gb_own {w w1 w2 : World} {r r2 : Option Nat} (h : w.grownBy w1 r) (k : w1.grownBy w2 r2) (hr : ∀ q, r2 = some q → w.heap.size ≤ q) : w.grownBy w2 r :=
  ⟨k.os.trans h.os, k.tape.trans h.tape, k.output.trans h.output, Nat.le_trans h.size k.size, fun i hi hir => (k.block i (Nat.lt_of_lt_of_le hi h.size) (fun e => by have := hr i e.symm; omega)).trans (h.block i hi hir)⟩

theorem stNum_lt (st : St) : (stNum st).1 < 4611686018427387904 := by
  cases st with
  | none => exact (by decide : (0 : Nat) < 4611686018427387904)
  | some l =>
    unfold stNum
    cases hg : rdNum l with
    | none => simp [hg]
    | some y =>
      obtain ⟨n, r⟩ := y
      simp only [hg]
      exact rdNum_lt hg
def RPRel (n : Nat) (l0 : List UInt8) (g : Nat) (w : World) (v i : Value) (wr : World) : Prop :=
  ∃ (T : List ByteArray) (lc : List UInt8), T.length ≤ n ∧ i = .int .i64 (T.length : Int) ∧ RS wr g (some lc) ∧ wr.ownsRow w.heap.size 9 1 v T.length (T.map sv) ∧ w.grownBy wr (some g) ∧
    T.length * 32 + lc.length ≤ 8192 ∧ rdPars n l0 = match rdPars (n - T.length) lc with
      | none => none
      | some (T2, r) => some (T ++ T2, r)
/-- behind a list that was read -/
def PEnd (g : Nat) (w : World) (T : List ByteArray) (st : St) (x : Ending) (w' : World) : Prop :=
  ∃ A c, x = .returned (.slice A T.length c) ∧ T.length ≤ c ∧ (Txs w' w'.heap.size A T ∧ ∀ ad, A = some ad → w.heap.size ≤ ad.block) ∧ RS w' g st ∧ w.grownBy w' (some g)
theorem pars_done {n : Nat} {l0 lc : List UInt8} {T : List ByteArray} (h : rdPars n l0 = match rdPars (n - T.length) lc with | none => none | some (T2, r) => some (T ++ T2, r)) (hn : ¬ T.length < n) : rdPars n l0 = some (T, lc) := by
  rw [h, show n - T.length = 0 from by omega, rdPars]
  simp
theorem pars_bad {n : Nat} {l0 lc : List UInt8} {T : List ByteArray} (h : rdPars n l0 = match rdPars (n - T.length) lc with | none => none | some (T2, r) => some (T ++ T2, r)) (hn : T.length < n) (hr : rdId lc = none) : rdPars n l0 = none := by
  rw [h, show n - T.length = (n - T.length - 1) + 1 from by omega, rdPars]
  simp [hr]
theorem pars_more {n : Nat} {l0 lc r : List UInt8} {p : ByteArray} {T : List ByteArray} (h : rdPars n l0 = match rdPars (n - T.length) lc with | none => none | some (T2, r) => some (T ++ T2, r)) (hn : T.length < n) (hr : rdId lc = some (p, r)) :
    rdPars n l0 = match rdPars (n - (T ++ [p]).length) r with | none => none | some (T2, r) => some ((T ++ [p]) ++ T2, r) := by
  rw [h, show n - T.length = (n - (T ++ [p]).length) + 1 from by rw [List.length_append]; simp; omega, rdPars]
  simp only [hr]
  cases rdPars (n - (T ++ [p]).length) r <;> simp
theorem rdId_len {l r : List UInt8} {p : ByteArray} (h : rdId l = some (p, r)) : r.length + 32 = l.length := by
  unfold rdId at h
  split at h
  · simp only [Option.some.injEq, Prod.mk.injEq] at h
    rw [← h.2, List.length_drop]; omega
  · cases h

set_option maxRecDepth 100000 in
set_option maxHeartbeats 1000000 in
theorem readParents_any (g : Nat) (st : St) (w : World) (h : RS w g st) : Calls Tryz.prog 113 #[.pointer (some ⟨g, 0, none⟩)] w (PEnd g w (stPars st).1 (stPars st).2) := by
  obtain ⟨si, hsi, sz0, sz1, sz2⟩ := info_parts info_str
  have Hsi := Lib.hid hsi
  have Sz0 := Lib.hid sz0
  have Sz1 := Lib.hid sz1
  have Sz2 := Lib.hid sz2
  clear hsi sz0 sz1 sz2
  have hlt := h.lt
  have q0 := rs_num g st w h
  have hn := stNum_lt st
  have hnn := fun e => stNum_none (st := st) e
  obtain ⟨T', hT'⟩ : ∃ T', T' = (stPars st).1 := ⟨_, rfl⟩
  obtain ⟨st', hst'⟩ : ∃ st', st' = (stPars st).2 := ⟨_, rfl⟩
  rw [← hT', ← hst']
  unfold stPars at hT' hst'
  generalize (stNum st).1 = n at *
  generalize hl : (stNum st).2 = s1 at *
  have HT := Lib.hid hT'
  have HST := Lib.hid hst'
  have HNN := Lib.hid hnn
  clear hT' hst' hl h hnn
  go_enter Tryz.func113, Tryz.ntmps113
  go_wp2_with fail
  (with_reducible refine q0.mono ?_)
  clear q0
  rintro _ w1 ⟨rfl, h1, k1⟩
  go_wp2_with fail
  cases s1 with
  | none =>
    obtain rfl := HNN.out rfl
    go_loopw [3, 7] (fun v i wr => v = .slice none 0 0 ∧ i = .int .i64 0 ∧ wr = w1) (fun _ _ _ => 0)
    case atStart => exact ⟨rfl, rfl, rfl⟩
    case round =>
      obtain ⟨rfl, rfl, rfl⟩ := hrel
      go_wp2_with fail
      go_ret
      rw [HT.out, HST.out]
      exact ⟨none, 0, rfl, Nat.le_refl _, ⟨Txs.nil _ _ _, fun ad e => by cases e⟩, h1, k1⟩
  | some l0 =>
    have hl0 : l0.length ≤ 8192 := h1.2
    go_loopw [3, 7] (fun v i wr => RPRel n l0 g w v i wr) (fun _ i _ => n - (intOf i).toNat)
    case atStart => exact ⟨[], l0, Nat.zero_le _, rfl, h1, ⟨rfl, .inl ⟨rfl, rfl⟩⟩, k1, by simpa using hl0, by rw [List.length_nil, Nat.sub_zero]; cases rdPars n l0 <;> rfl⟩
    case round =>
      clear h1 k1 w1
      obtain ⟨T, lc, hk, rfl, hR, hO, hK, hm, he⟩ := hrel
      have HE := Lib.hid he
      clear he
      by_cases hlt2 : T.length < n
      · have hi : (T.length : Int) < n := by omega
        have q := rs_id g _ wr hR
        have hid := Lib.hid (show stId (some lc) = stId (some lc) from rfl)
        cases hr : rdId lc with
        | none =>
          have e1 : stId (some lc) = (⟨#[]⟩, none) := by simp [stId, hr]
          rw [e1] at q
          have HB := Lib.hid (pars_bad HE.out hlt2 hr)
          clear e1 hid hR HE
          go_wp2_with fail
          (with_reducible refine q.mono ?_)
          clear q
          rintro _ w2 ⟨rfl, h2, k2⟩
          have hK2 := gb_trans hK k2
          clear hO hK k2
          go_wp2_with fail
          (with_reducible refine (rs_bad g none w2 h2).mono ?_)
          rintro _ _ ⟨⟨e, rfl, he⟩, rfl⟩
          rw [Option.isNone_none] at he
          go_wp2_with fail
          go_ret
          have e2 : T' = [] := by rw [HT.out, HB.out]
          have e3 : st' = none := by rw [HST.out, HB.out]
          rw [e2, e3]
          exact ⟨none, 0, rfl, Nat.le_refl _, ⟨Txs.nil _ _ _, fun ad e => by cases e⟩, h2, hK2⟩
        | some y =>
          obtain ⟨p, r⟩ := y
          have e1 : stId (some lc) = (p, some r) := by simp [stId, hr]
          rw [e1] at q
          have HB := Lib.hid (pars_more HE.out hlt2 hr)
          have hrl := rdId_len hr
          clear e1 hid hR HE hr
          go_wp2_with fail
          (with_reducible refine q.mono ?_)
          clear q
          rintro _ w2 ⟨rfl, h2, k2⟩
          have hK2 := gb_trans hK k2
          have hO2 := hO.kept k2 (own_far hO hlt)
          clear hO hK k2
          go_wp2_with fail
          (with_reducible refine (rs_bad g (some r) w2 h2).mono ?_)
          rintro _ _ ⟨⟨e, rfl, he⟩, rfl⟩
          rw [Option.isNone_some] at he
          have hsz := hK2.size
          go_wp2_with (at_builtin; refine wpList_append_lies _ rfl _ _ 22 rfl w.heap.size 9 si _ 1 16 Tryz.underlying22 Hsi.out Sz0.out Sz1.out Sz2.out rfl (by decide) _ _ _ rfl (hO2.alloc _) ⟨w2.heap.size, 0, none⟩ 1 1 [.string p] rfl rfl (new_cells w2 [.string p] 9) (by intro u hu; simp at hu; subst hu; rfl) (by decide) (by unfold maxLen; omega) (by omega) (by simp; omega) _ rfl ?_)
          intro g3 cap3 w3 hown hgrow hat hg3
          go_wp2_with fail
          have hge : ∀ q, u3.ownBlock = some q → w.heap.size ≤ q := fun q e1 => own_row_ge hO2 q e1
          refine ⟨⟨T ++ [p], r, by rw [List.length_append]; simp; omega, by rw [List.length_append]; simp, ?_, ?_, ?_, ?_, HB.out⟩, by simp [intOf]; omega⟩
          · exact RS.kept (RS.below h2 ((Below.refl _ _).alloc (Nat.le_refl _) _)) hgrow (fun e1 => by have := hge g e1.symm; omega)
          · rw [List.length_append, List.map_append]; exact hown
          · exact gb_own (gb_trans hK2 (gb_alloc _)) hgrow hge
          · rw [List.length_append]; simp; omega
      · have hi : ¬ (T.length : Int) < n := by omega
        have HB := Lib.hid (pars_done HE.out hlt2)
        obtain ⟨A, c, rfl, hc, hx⟩ := own_texts hO
        clear HE hO
        go_wp2_with fail
        go_ret
        have e2 : T' = T := by rw [HT.out, HB.out]
        have e3 : st' = some lc := by rw [HST.out, HB.out]
        rw [e2, e3]
        exact ⟨A, c, rfl, hc, hx, hR, hK⟩
end Go.Proofs.YtmikfmcgddmplaaGreatDoor

/- A map from texts to whatever values that the call has made: its entries, one by one. -/
namespace Go.Proofs.YtmikfmcgddmplaaGreatDoor
open Go.RowKit

abbrev KX := ByteArray × Value
def mkXs : Nat → List KX → List MapEntry
  | _, [] => []
  | i, x :: l => { key := .string x.1, val := x.2, born := i } :: mkXs (i + 1) l
theorem mkXs_at : ∀ (l : List KX) (i q : Nat), (mkXs i l)[q]? = (l[q]?).map fun x => { key := .string x.1, val := x.2, born := i + q }
  | [], i, q => by simp [mkXs]
  | x :: l, i, 0 => by simp [mkXs]
  | x :: l, i, q + 1 => by
    rw [mkXs, List.getElem?_cons_succ, List.getElem?_cons_succ, mkXs_at l (i + 1) q, show i + 1 + q = i + (q + 1) from by omega]
theorem mkXs_len : ∀ (l : List KX) (i : Nat), (mkXs i l).length = l.length
  | [], _ => rfl
  | x :: l, i => by rw [mkXs, List.length_cons, List.length_cons, mkXs_len l]
/-- block b is a map of these entries -/
def MapX (w : World) (b : Nat) (l : List KX) : Prop := w.heap[b]? = some (.map (mkXs 0 l).toArray l.length)
theorem MapX.lt {w : World} {b : Nat} {l : List KX} (h : MapX w b l) : b < w.heap.size := (Array.getElem?_eq_some_iff.1 h).1
theorem MapX.kept {w w' : World} {b : Nat} {l : List KX} {r : Option Nat} (h : MapX w b l) (k : w.grownBy w' r) (hr : some b ≠ r) : MapX w' b l := (k.block b h.lt hr).trans h
theorem MapX.below {w w' : World} {b B : Nat} {l : List KX} (h : MapX w b l) (k : Below B w w') (hb : b < B) : MapX w' b l := (k.block b hb).trans h
theorem MapX.new (w : World) : MapX (w.alloc (.map #[] 0)) w.heap.size [] := heap_alloc_new w _
/-- where a key stands first -/
def posX (k : ByteArray) : List KX → Option Nat
  | [] => none
  | x :: l => if k = x.1 then some 0 else (posX k l).map (· + 1)
def upX (k : ByteArray) (v : Value) (l : List KX) : List KX := match posX k l with
  | none => l ++ [(k, v)]
  | some p => l.set p (k, v)
theorem posX_at : ∀ (k : ByteArray) (l : List KX) (p : Nat), posX k l = some p → ∃ v, l[p]? = some (k, v)
  | k, [], p, h => by cases h
  | k, x :: l, p, h => by
    rw [posX] at h
    split at h
    · rename_i e
      cases h
      exact ⟨x.2, by rw [e]; rfl⟩
    · obtain ⟨q, hq, rfl⟩ := Option.map_eq_some_iff.1 h
      obtain ⟨v, hv⟩ := posX_at k l q hq
      exact ⟨v, by rw [List.getElem?_cons_succ]; exact hv⟩
theorem findX_mk (k : ByteArray) : ∀ (l : List KX) (i j : Nat), Instr.findNow .string (.string k) (mkXs i l) j = some ((posX k l).map fun p => (j + p, (l.getD p (k, undef)).2))
  | [], i, j => rfl
  | x :: l, i, j => by
    rw [mkXs, Instr.findNow, Instr.sameNow, beq_bytes, posX]
    by_cases e : k = x.1
    · rw [decide_eq_true e, if_pos e]
      simp
    · rw [decide_eq_false e, if_neg e]
      simp only
      rw [findX_mk k l (i + 1) (j + 1)]
      congr 1
      cases posX k l with
      | none => rfl
      | some p =>
        simp only [Option.map_some, List.getD_cons_succ]
        rw [show j + 1 + p = j + (p + 1) from by omega]
theorem mkX_push (l : List KX) (k : ByteArray) (v : Value) : mkXs 0 l ++ [{ key := .string k, val := v, born := l.length }] = mkXs 0 (l ++ [(k, v)]) := by
  apply List.ext_getElem?
  intro q
  rw [mkXs_at]
  rcases Nat.lt_trichotomy q l.length with h | h | h
  · rw [List.getElem?_append_left (by rw [mkXs_len]; exact h), List.getElem?_append_left h, mkXs_at]
  · subst h
    rw [List.getElem?_append_right (by rw [mkXs_len]; exact Nat.le_refl _), List.getElem?_append_right (Nat.le_refl _), mkXs_len]
    simp
  · rw [List.getElem?_eq_none (by rw [List.length_append, mkXs_len]; simp; omega), List.getElem?_eq_none (by rw [List.length_append]; simp; omega)]
    rfl
theorem mkX_set (l : List KX) (p : Nat) (k : ByteArray) (v u : Value) (hp : l[p]? = some (k, u)) :
    (mkXs 0 l).modify p (fun e => { key := .string k, val := v, born := e.born }) = mkXs 0 (l.set p (k, v)) := by
  apply List.ext_getElem?
  intro q
  rw [List.getElem?_modify, mkXs_at, mkXs_at, List.getElem?_set]
  by_cases e : p = q
  · subst e
    rw [if_pos rfl, if_pos (List.getElem?_eq_some_iff.1 hp).1, hp]
    simp
  · rw [if_neg e]
    simp [e]
theorem run_upX {mt et : TypeId} (hu : Tryz.prog.underlying mt = some (.map 9 et)) {w : World} {b : Nat} {l : List KX} (h : MapX w b l) (k : ByteArray) (v : Value) :
    ∃ w', (Instr.mapUpdate mt (.map (some b)) (.string k) v).run Tryz.prog w = .ok () w' ∧ MapX w' b (upX k v l) ∧ w.grownBy w' (some b) := by
  have hk : MapKept.IsKey .string (.string k) := trivial
  have hf := findX_mk k l 0 0
  unfold upX
  cases hp : posX k l with
  | none =>
    rw [hp] at hf
    refine ⟨_, ?_, ?_, gb_map (o := .map (mkXs 0 (l ++ [(k, v)])).toArray (l.length + 1))⟩
    · simp [Instr.mapUpdate, run_underlying hu, MapKept.run_getObj_map h, MapKept.run_checkKey Tryz.underlying9 hk, MapKept.run_findKey Tryz.underlying9 hf, MapKept.run_setObj_map _ h, Result.andThen, mkX_push]
    · unfold MapX
      rw [(MapKept.heap_set h).1, List.length_append]
      rfl
  | some p =>
    rw [hp] at hf
    obtain ⟨u, hu'⟩ := posX_at k l p hp
    have hj : (mkXs 0 l)[p]? = some { key := .string k, val := u, born := 0 + p } := by rw [mkXs_at, hu']; rfl
    refine ⟨_, ?_, ?_, gb_map (o := .map (mkXs 0 (l.set p (k, v))).toArray l.length)⟩
    · rw [Option.map_some, Nat.zero_add] at hf
      simp [Instr.mapUpdate, run_underlying hu, MapKept.run_getObj_map h, MapKept.run_checkKey Tryz.underlying9 hk, MapKept.run_findKey Tryz.underlying9 hf, hj, MapKept.run_keyThatStays hk, MapKept.run_setObj_map _ h, Result.andThen, mkX_set l p k v u hu']
    · unfold MapX
      rw [(MapKept.heap_set h).1, List.length_set]
/-- what a look-up answers -/
def lookX (z : Value) (k : ByteArray) (l : List KX) : Value := match posX k l with
  | none => .tuple #[z, .bool false]
  | some p => .tuple #[(l.getD p (k, undef)).2, .bool true]
theorem run_lookX {mt et : TypeId} (hu : Tryz.prog.underlying mt = some (.map 9 et)) {z : Value} (hz : ∀ w, (zeroValue et).run Tryz.prog w = .ok z w) {w : World} {b : Nat} {l : List KX} (h : MapX w b l) (k : ByteArray) :
    (Instr.lookup mt (.map (some b)) (.string k) true).run Tryz.prog w = .ok (lookX z k l) w := by
  have hk : MapKept.IsKey .string (.string k) := trivial
  have hf := findX_mk k l 0 0
  unfold lookX
  cases hp : posX k l with
  | none =>
    rw [hp] at hf
    simp [Instr.lookup, run_underlying hu, MapKept.run_getObj_map h, MapKept.run_checkKey Tryz.underlying9 hk, MapKept.run_findKey Tryz.underlying9 hf, Result.andThen, hz]
  | some p =>
    rw [hp] at hf
    simp [Instr.lookup, run_underlying hu, MapKept.run_getObj_map h, MapKept.run_checkKey Tryz.underlying9 hk, MapKept.run_findKey Tryz.underlying9 hf, Result.andThen]
section
variable {w : World} {ops : Array Oper} {rest : List Oper} {o : Oper} {a : Act} {Q : Exit → Act → World → Prop}
/-- a store, at the operation -/
theorem wpList_upX {mt et : TypeId} (hu : Tryz.prog.underlying mt = some (.map 9 et)) (hg : o.guard = none) (m x v : Operand) (hop : o.op = Op.mapUpdate mt m x v ∨ o.op = Op.insert mt m x v) (b : Nat) (l : List KX) (hb : MapX w b l)
    (hm : a.eval m = .map (some b)) (k : ByteArray) (u : Value) (hx : a.eval x = .string k) (hv : a.eval v = u)
    (hK : ∀ w', MapX w' b (upX k u l) → w.grownBy w' (some b) → wpList Tryz.prog ops Q rest (a.put o.dst undef) w') : wpList Tryz.prog ops Q (o :: rest) a w := by
  refine wpList_plain hg fun K' hK' => ?_
  obtain ⟨w', hrun, r1, r2⟩ := run_upX hu hb k u
  unfold Oper.wp
  rcases hop with hop | hop
  · simp [execOp, hop, hm, hx, hv, hrun, Result.andThen]
    exact hK' _ _ (hK w' r1 r2)
  · simp [execOp, hop, hm, hx, hv, hrun, Result.andThen]
    exact hK' _ _ (hK w' r1 r2)
end
/-- the keys of a map are these texts -/
def KeyX (M : List KX) (T : List ByteArray) : Prop := ∀ k, (posX k M).isSome = true ↔ k ∈ T
theorem posX_push (k x : ByteArray) (v : Value) : ∀ M : List KX, (posX k (M ++ [(x, v)])).isSome = ((posX k M).isSome || decide (k = x))
  | [] => by
    simp only [posX, List.nil_append, Option.isSome_none, Bool.false_or]
    by_cases h : k = x
    · simp [h]
    · simp [h]
  | y :: M => by
    have := posX_push k x v M
    simp only [posX, List.cons_append]
    by_cases h : k = y.1
    · simp [h]
    · simp only [if_neg h, Option.isSome_map]
      exact this
theorem keyX_push {M : List KX} {T : List ByteArray} (h : KeyX M T) (s : ByteArray) (v : Value) : KeyX (M ++ [(s, v)]) (T ++ [s]) := fun k => by
  rw [posX_push, Bool.or_eq_true, h k, List.mem_append, List.mem_singleton, decide_eq_true_iff]
theorem keyX_nil : KeyX [] [] := fun k => by simp [posX]
theorem mapX_arr {w : World} {g g' : Nat} {t : TypeId} {cs : Array Value} {l : List KX} (h : MapX w g l) (h' : Arr w g' t cs) : g ≠ g' := fun e => by
  subst e
  have := h.symm.trans h'
  cases this
theorem own_mapX {w : World} {base : Nat} {e : TypeId} {size g : Nat} {v : Value} {n : Nat} {xs : List Value} {l : List KX} (h : w.ownsRow base e size v n xs) (h' : MapX w g l) : v.ownBlock ≠ some g := fun q => by
  rcases h.2 with ⟨rfl, _⟩ | ⟨k, cap, cur, rfl, _, hg, _⟩
  · cases q
  · cases q
    have := hg.symm.trans h'
    cases this
end Go.Proofs.YtmikfmcgddmplaaGreatDoor

/- A map from texts to ints that the call has made: its entries, one by one. -/
namespace Go.Proofs.YtmikfmcgddmplaaGreatDoor
open Go.RowKit

abbrev KI := ByteArray × Nat
def mkIs : Nat → List KI → List MapEntry
  | _, [] => []
  | i, x :: l => { key := .string x.1, val := .int .i64 (x.2 : Int), born := i } :: mkIs (i + 1) l
theorem mkIs_at : ∀ (l : List KI) (i q : Nat), (mkIs i l)[q]? = (l[q]?).map fun x => { key := .string x.1, val := .int .i64 (x.2 : Int), born := i + q }
  | [], i, q => by simp [mkIs]
  | x :: l, i, 0 => by simp [mkIs]
  | x :: l, i, q + 1 => by
    rw [mkIs, List.getElem?_cons_succ, List.getElem?_cons_succ, mkIs_at l (i + 1) q, show i + 1 + q = i + (q + 1) from by omega]
theorem mkIs_len : ∀ (l : List KI) (i : Nat), (mkIs i l).length = l.length
  | [], _ => rfl
  | x :: l, i => by rw [mkIs, List.length_cons, List.length_cons, mkIs_len l]
/-- block b is a map of these entries -/
def MapI (w : World) (b : Nat) (l : List KI) : Prop := w.heap[b]? = some (.map (mkIs 0 l).toArray l.length)
theorem MapI.lt {w : World} {b : Nat} {l : List KI} (h : MapI w b l) : b < w.heap.size := (Array.getElem?_eq_some_iff.1 h).1
theorem MapI.kept {w w' : World} {b : Nat} {l : List KI} {r : Option Nat} (h : MapI w b l) (k : w.grownBy w' r) (hr : some b ≠ r) : MapI w' b l := (k.block b h.lt hr).trans h
theorem MapI.below {w w' : World} {b B : Nat} {l : List KI} (h : MapI w b l) (k : Below B w w') (hb : b < B) : MapI w' b l := (k.block b hb).trans h
theorem MapI.new (w : World) : MapI (w.alloc (.map #[] 0)) w.heap.size [] := heap_alloc_new w _
/-- where a key stands first -/
def posI (k : ByteArray) : List KI → Option Nat
  | [] => none
  | x :: l => if k = x.1 then some 0 else (posI k l).map (· + 1)
def upI (k : ByteArray) (v : Nat) (l : List KI) : List KI := match posI k l with
  | none => l ++ [(k, v)]
  | some p => l.set p (k, v)
theorem posI_at : ∀ (k : ByteArray) (l : List KI) (p : Nat), posI k l = some p → ∃ v, l[p]? = some (k, v)
  | k, [], p, h => by cases h
  | k, x :: l, p, h => by
    rw [posI] at h
    split at h
    · rename_i e
      cases h
      exact ⟨x.2, by rw [e]; rfl⟩
    · obtain ⟨q, hq, rfl⟩ := Option.map_eq_some_iff.1 h
      obtain ⟨v, hv⟩ := posI_at k l q hq
      exact ⟨v, by rw [List.getElem?_cons_succ]; exact hv⟩
theorem findI_mk (k : ByteArray) : ∀ (l : List KI) (i j : Nat), Instr.findNow .string (.string k) (mkIs i l) j = some ((posI k l).map fun p => (j + p, .int .i64 ((l.getD p (k, 0)).2 : Int)))
  | [], i, j => rfl
  | x :: l, i, j => by
    rw [mkIs, Instr.findNow, Instr.sameNow, beq_bytes, posI]
    by_cases e : k = x.1
    · rw [decide_eq_true e, if_pos e]
      simp
    · rw [decide_eq_false e, if_neg e]
      simp only
      rw [findI_mk k l (i + 1) (j + 1)]
      congr 1
      cases posI k l with
      | none => rfl
      | some p =>
        simp only [Option.map_some, List.getD_cons_succ]
        rw [show j + 1 + p = j + (p + 1) from by omega]
theorem mkI_push (l : List KI) (k : ByteArray) (v : Nat) : mkIs 0 l ++ [{ key := .string k, val := .int .i64 (v : Int), born := l.length }] = mkIs 0 (l ++ [(k, v)]) := by
  apply List.ext_getElem?
  intro q
  rw [mkIs_at]
  rcases Nat.lt_trichotomy q l.length with h | h | h
  · rw [List.getElem?_append_left (by rw [mkIs_len]; exact h), List.getElem?_append_left h, mkIs_at]
  · subst h
    rw [List.getElem?_append_right (by rw [mkIs_len]; exact Nat.le_refl _), List.getElem?_append_right (Nat.le_refl _), mkIs_len]
    simp
  · rw [List.getElem?_eq_none (by rw [List.length_append, mkIs_len]; simp; omega), List.getElem?_eq_none (by rw [List.length_append]; simp; omega)]
    rfl
theorem mkI_set (l : List KI) (p : Nat) (k : ByteArray) (v u : Nat) (hp : l[p]? = some (k, u)) :
    (mkIs 0 l).modify p (fun e => { key := .string k, val := .int .i64 (v : Int), born := e.born }) = mkIs 0 (l.set p (k, v)) := by
  apply List.ext_getElem?
  intro q
  rw [List.getElem?_modify, mkIs_at, mkIs_at, List.getElem?_set]
  by_cases e : p = q
  · subst e
    rw [if_pos rfl, if_pos (List.getElem?_eq_some_iff.1 hp).1, hp]
    simp
  · rw [if_neg e]
    simp [e]
/-- what a look-up answers -/
def lookI (k : ByteArray) (l : List KI) : Value := match posI k l with
  | none => .tuple #[.int .i64 0, .bool false]
  | some p => .tuple #[.int .i64 ((l.getD p (k, 0)).2 : Int), .bool true]
section
variable {w : World} {ops : Array Oper} {rest : List Oper} {o : Oper} {a : Act} {Q : Exit → Act → World → Prop}
end
end Go.Proofs.YtmikfmcgddmplaaGreatDoor
