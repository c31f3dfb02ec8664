/- Texts in one: POpen, OMap. -/
import Derived.Test.YtmikfmcgddmplaaGreatDoorLists
import Derived.Test.YtmikfmcgddmplaaGreatDoorOMem
import Derived.Deep.Slices
import Derived.Test.YtmikfmcgddmplaaGreatDoorWWrite
import Derived.Maps.RangeRun
import Derived.MapKept
/- An argument that is a list of texts, opened: what it holds, how large it may be. -/
namespace Go.Proofs.YtmikfmcgddmplaaGreatDoor
open Go.ChangeShapes Go.WideShapes Go.ChangeAt Go.RowKit Go.Deep

section
variable {b : Nat} {H : Type} {enc : TypeId × Value → H} {w : World} {spare : Nat → Bool} {held : Bool}
theorem cell_lt {p : Addr} {v : Value} (h : w.cell? p = some v) : p.block < w.heap.size := by
  rcases Nat.lt_or_ge p.block w.heap.size with hlt | hge
  · exact hlt
  · simp [World.cell?, Array.getElem?_eq_none hge] at h
def listDat (t : ByteArray) : DataW H := .lit (.string t.data.toList)
/-- the bytes of some texts -/
def listBytes : List ByteArray → Nat
  | [] => 0
  | x :: l => x.size + listBytes l
theorem weights_all_mem {P : Program} {e : TypeId} : ∀ {L : List (DataW H)} {d : DataW H} {n : Nat}, d ∈ L → n ∈ d.weights P e → n ∈ DataW.weightsAll P e L
  | x :: L, d, n, hd, hn => by
    simp only [DataW.weightsAll, List.mem_append]
    rcases List.mem_cons.1 hd with rfl | hd
    · exact .inl hn
    · exact .inr (weights_all_mem hd hn)
theorem bulk_list (L : List ByteArray) : listBytes L + L.length ≤ Rows.uptoBulkAll (L.map (listDat (H := H))) := by
  induction L with
  | nil => simp [listBytes]
  | cons x L ih =>
    have e : x.data.toList.length = x.size := rfl
    simp only [List.map_cons, Rows.uptoBulkAll, listDat, Rows.uptoBulk, List.length_cons, listBytes, e]
    omega
set_option maxRecDepth 100000 in
theorem open_list {r : Reach} {v : Value} {d : DataW H} {pl : List MemPlace} (hv : Value.okWide Tryz.prog w r b 22 v) (h : DataW.Trod enc Tryz.prog w 0 spare held 22 v d pl) :
    ∃ (A : Option Addr) (c : Nat) (T : List ByteArray), v = .slice A T.length c ∧ Txs w w.heap.size A T ∧ ((∀ n ∈ d.weights Tryz.prog 22, n ≤ reachBytes) → T.length ≤ 140737488355328 ∧ T.length * 16 ≤ 140737488351232 ∧ ∀ x ∈ T, x.size ≤ 140737488355328) ∧
      listBytes T + T.length ≤ Rows.uptoBulk d ∧ T.length ≤ c := by
  have bp : Tryz.prog.bytesOf 9 = 16 := by kernel_rfl
  have rb : reachBytes = 140737488351232 := by decide
  obtain ⟨a0, len0, cap0, rfl⟩ := okWide_slice Tryz.underlying22 hv
  obtain ⟨fuel, hf⟩ := h
  rcases open_slice1 Tryz.underlying22 (by kernel_rfl) hf with ⟨hcs, hx⟩ | ⟨a, len, cap, m, n, V, D, Pl, hcs, _, hl, _, hm, hx, hi⟩
  · simp only [Value.cells, List.cons.injEq, Value.slice.injEq, and_true] at hcs
    obtain ⟨rfl, rfl, rfl⟩ := hcs
    exact ⟨none, 0, [], rfl, Txs.nil _ _ _, fun _ => ⟨by simp, by simp, fun x hx => by cases hx⟩, Nat.zero_le _, Nat.le_refl _⟩
  · simp only [Value.cells, List.cons.injEq, Value.slice.injEq, and_true] at hcs
    obtain ⟨rfl, rfl, rfl⟩ := hcs
    have hml : len0 ≤ m := by rw [hm]; split <;> omega
    obtain ⟨L, rfl, hL⟩ := choose_list (P := fun i (x : ByteArray) => w.cell? (a.add i) = some (.string x) ∧ D i = listDat x) len0 (fun i hlt => by
      obtain ⟨hc, ht⟩ := hi i (by omega)
      obtain ⟨x, q, r, _⟩ := DataW.trod_string Tryz.underlying9 ht
      simp only [List.cons.injEq, and_true] at q
      simp only [Prod.mk.injEq] at r
      exact ⟨x, by rw [hc, q], r.1⟩)
    simp only [Prod.mk.injEq] at hx
    have hmap := range_map L (fun i x h => (hL i x h).2)
    refine ⟨some a, cap0, L, rfl, fun k x hk => ⟨a, rfl, cell_lt (hL k x hk).1, (hL k x hk).1⟩, fun hw => ?_, ?_, hl⟩
    · rw [hx.1, hmap] at hw
      have h1 := hw (((L.map (listDat (H := H))).length + ((List.range (m - L.length)).map fun j => D (L.length + j)).length) * Tryz.prog.bytesOf 9) (by simp [DataW.weights, Tryz.underlying22])
      rw [bp, List.length_map] at h1
      refine ⟨by omega, by omega, fun x hxm => ?_⟩
      have := hw x.size (by
        simp only [DataW.weights, Tryz.underlying22, List.mem_cons, List.mem_append]
        refine .inr (.inl (weights_all_mem (List.mem_map.2 ⟨x, hxm, rfl⟩) ?_))
        unfold listDat
        simp [DataW.weights])
      omega
    · rw [hx.1, hmap]
      simp only [Rows.uptoBulk]
      have := bulk_list (H := H) L
      omega
/-- the sizes of an argument, off the sizes of all -/
theorem sized_at {P : Program} {ts : List TypeId} {ds : List (DataW H)} (h : (DataW.weightsEach P ts ds).all (· ≤ reachBytes) = true) {j : Nat} {t : TypeId} {d : DataW H} (ht : ts[j]? = some t) (hd : ds[j]? = some d) : ∀ n ∈ d.weights P t, n ≤ reachBytes := fun n hn => by
  have := List.all_eq_true.1 h n (DataW.weights_mem_each (j := j) ht hd n hn)
  exact of_decide_eq_true this
end
end Go.Proofs.YtmikfmcgddmplaaGreatDoor

/- A map from texts to Bools that the call has made: its entries, one by one. -/
namespace Go.Proofs.YtmikfmcgddmplaaGreatDoor
open Go.RowKit

abbrev KV := ByteArray × Bool
def mkEs : Nat → List KV → List MapEntry
  | _, [] => []
  | i, x :: l => { key := .string x.1, val := .bool x.2, born := i } :: mkEs (i + 1) l
theorem mkEs_at : ∀ (l : List KV) (i q : Nat), (mkEs i l)[q]? = (l[q]?).map fun x => { key := .string x.1, val := .bool x.2, born := i + q }
  | [], i, q => by simp [mkEs]
  | x :: l, i, 0 => by simp [mkEs]
  | x :: l, i, q + 1 => by
    rw [mkEs, List.getElem?_cons_succ, List.getElem?_cons_succ, mkEs_at l (i + 1) q, show i + 1 + q = i + (q + 1) from by omega]
theorem mkEs_len : ∀ (l : List KV) (i : Nat), (mkEs i l).length = l.length
  | [], _ => rfl
  | x :: l, i => by rw [mkEs, List.length_cons, List.length_cons, mkEs_len l]
/-- block b is a map of these entries -/
def MapAt (w : World) (b : Nat) (l : List KV) : Prop := w.heap[b]? = some (.map (mkEs 0 l).toArray l.length)
theorem MapAt.lt {w : World} {b : Nat} {l : List KV} (h : MapAt w b l) : b < w.heap.size := (Array.getElem?_eq_some_iff.1 h).1
theorem MapAt.kept {w w' : World} {b : Nat} {l : List KV} {r : Option Nat} (h : MapAt w b l) (k : w.grownBy w' r) (hr : some b ≠ r) : MapAt w' b l := (k.block b h.lt hr).trans h
theorem MapAt.below {w w' : World} {b B : Nat} {l : List KV} (h : MapAt w b l) (k : Below B w w') (hb : b < B) : MapAt w' b l := (k.block b hb).trans h
theorem MapAt.new (w : World) : MapAt (w.alloc (.map #[] 0)) w.heap.size [] := heap_alloc_new w _
/-- where a key stands first -/
def pos (k : ByteArray) : List KV → Option Nat
  | [] => none
  | x :: l => if k = x.1 then some 0 else (pos k l).map (· + 1)
def upL (k : ByteArray) (v : Bool) (l : List KV) : List KV := match pos k l with
  | none => l ++ [(k, v)]
  | some p => l.set p (k, v)
def getL (k : ByteArray) (l : List KV) : Bool := match pos k l with
  | none => false
  | some p => (l.getD p (k, false)).2
theorem pos_at : ∀ (k : ByteArray) (l : List KV) (p : Nat), pos k l = some p → ∃ v, l[p]? = some (k, v)
  | k, [], p, h => by cases h
  | k, x :: l, p, h => by
    rw [pos] at h
    split at h
    · rename_i e
      cases h
      exact ⟨x.2, by rw [e]; rfl⟩
    · obtain ⟨q, hq, rfl⟩ := Option.map_eq_some_iff.1 h
      obtain ⟨v, hv⟩ := pos_at k l q hq
      exact ⟨v, by rw [List.getElem?_cons_succ]; exact hv⟩
theorem beq_bytes (a b : ByteArray) : (a == b) = decide (a = b) := by
  rw [Bool.eq_iff_iff, MapKept.bytes_beq, decide_eq_true_eq]
theorem find_mk (k : ByteArray) : ∀ (l : List KV) (i j : Nat), Instr.findNow .string (.string k) (mkEs i l) j = some ((pos k l).map fun p => (j + p, .bool (l.getD p (k, false)).2))
  | [], i, j => rfl
  | x :: l, i, j => by
    rw [mkEs, Instr.findNow, Instr.sameNow, beq_bytes, pos]
    by_cases e : k = x.1
    · rw [decide_eq_true e, if_pos e]
      simp
    · rw [decide_eq_false e, if_neg e]
      simp only
      rw [find_mk k l (i + 1) (j + 1)]
      congr 1
      cases pos k l with
      | none => rfl
      | some p =>
        simp only [Option.map_some, List.getD_cons_succ]
        rw [show j + 1 + p = j + (p + 1) from by omega]
theorem mk_push (l : List KV) (k : ByteArray) (v : Bool) : mkEs 0 l ++ [{ key := .string k, val := .bool v, born := l.length }] = mkEs 0 (l ++ [(k, v)]) := by
  apply List.ext_getElem?
  intro q
  rw [mkEs_at]
  rcases Nat.lt_trichotomy q l.length with h | h | h
  · rw [List.getElem?_append_left (by rw [mkEs_len]; exact h), List.getElem?_append_left h, mkEs_at]
  · subst h
    rw [List.getElem?_append_right (by rw [mkEs_len]; exact Nat.le_refl _), List.getElem?_append_right (Nat.le_refl _), mkEs_len]
    simp
  · rw [List.getElem?_eq_none (by rw [List.length_append, mkEs_len]; simp; omega), List.getElem?_eq_none (by rw [List.length_append]; simp; omega)]
    rfl
theorem mk_set (l : List KV) (p : Nat) (k : ByteArray) (v u : Bool) (hp : l[p]? = some (k, u)) :
    (mkEs 0 l).modify p (fun e => { key := .string k, val := .bool v, born := e.born }) = mkEs 0 (l.set p (k, v)) := by
  apply List.ext_getElem?
  intro q
  rw [List.getElem?_modify, mkEs_at, mkEs_at, List.getElem?_set]
  by_cases e : p = q
  · subst e
    rw [if_pos rfl, if_pos (List.getElem?_eq_some_iff.1 hp).1, hp]
    simp
  · rw [if_neg e]
    simp [e]
theorem gb_map {w : World} {b : Nat} {o : Obj} : w.grownBy { w with heap := w.heap.setIfInBounds b o } (some b) :=
  ⟨rfl, rfl, rfl, by simp, fun k _ hr => by simp only [Array.getElem?_setIfInBounds]; rw [if_neg (fun e => hr (by rw [e]))]⟩
theorem run_up {w : World} {b : Nat} {l : List KV} (h : MapAt w b l) (k : ByteArray) (v : Bool) :
    ∃ w', (Instr.mapUpdate 62 (.map (some b)) (.string k) (.bool v)).run Tryz.prog w = .ok () w' ∧ MapAt w' b (upL k v l) ∧ w.grownBy w' (some b) := by
  have hk : MapKept.IsKey .string (.string k) := trivial
  have hf := find_mk k l 0 0
  unfold upL
  cases hp : pos k l with
  | none =>
    rw [hp] at hf
    refine ⟨_, ?_, ?_, gb_map (o := .map (mkEs 0 (l ++ [(k, v)])).toArray (l.length + 1))⟩
    · simp [Instr.mapUpdate, run_underlying Tryz.underlying62, MapKept.run_getObj_map h, MapKept.run_checkKey Tryz.underlying9 hk, MapKept.run_findKey Tryz.underlying9 hf, MapKept.run_setObj_map _ h, Result.andThen, mk_push]
    · unfold MapAt
      rw [(MapKept.heap_set h).1, List.length_append]
      rfl
  | some p =>
    rw [hp] at hf
    obtain ⟨u, hu⟩ := pos_at k l p hp
    have hj : (mkEs 0 l)[p]? = some { key := .string k, val := .bool u, born := 0 + p } := by rw [mkEs_at, hu]; rfl
    refine ⟨_, ?_, ?_, gb_map (o := .map (mkEs 0 (l.set p (k, v))).toArray l.length)⟩
    · rw [Option.map_some, Nat.zero_add] at hf
      simp [Instr.mapUpdate, run_underlying Tryz.underlying62, MapKept.run_getObj_map h, MapKept.run_checkKey Tryz.underlying9 hk, MapKept.run_findKey Tryz.underlying9 hf, hj, MapKept.run_keyThatStays hk, MapKept.run_setObj_map _ h, Result.andThen, mk_set l p k v u hu]
    · unfold MapAt
      rw [(MapKept.heap_set h).1, List.length_set]
theorem run_look {w : World} {b : Nat} {l : List KV} (h : MapAt w b l) (k : ByteArray) :
    (Instr.lookup 62 (.map (some b)) (.string k) false).run Tryz.prog w = .ok (.bool (getL k l)) w := by
  have hk : MapKept.IsKey .string (.string k) := trivial
  have hf := find_mk k l 0 0
  have hz : (zeroValue 4).run Tryz.prog w = .ok (.bool false) w := by kernel_rfl
  unfold getL
  cases hp : pos k l with
  | none =>
    rw [hp] at hf
    simp [Instr.lookup, run_underlying Tryz.underlying62, MapKept.run_getObj_map h, MapKept.run_checkKey Tryz.underlying9 hk, MapKept.run_findKey Tryz.underlying9 hf, Result.andThen, hz]
  | some p =>
    rw [hp] at hf
    simp [Instr.lookup, run_underlying Tryz.underlying62, MapKept.run_getObj_map h, MapKept.run_checkKey Tryz.underlying9 hk, MapKept.run_findKey Tryz.underlying9 hf, Result.andThen]
section
variable {w : World} {ops : Array Oper} {rest : List Oper} {o : Oper} {a : Act} {Q : Exit → Act → World → Prop}
/-- a store, at the operation -/
theorem wpList_up (hg : o.guard = none) (m x v : Operand) (hop : o.op = Op.mapUpdate 62 m x v ∨ o.op = Op.insert 62 m x v) (b : Nat) (l : List KV) (hb : MapAt w b l)
    (hm : a.eval m = .map (some b)) (k : ByteArray) (u : Bool) (hx : a.eval x = .string k) (hv : a.eval v = .bool u)
    (hK : ∀ w', MapAt w' b (upL k u l) → w.grownBy w' (some b) → wpList Tryz.prog ops Q rest (a.put o.dst undef) w') : wpList Tryz.prog ops Q (o :: rest) a w := by
  refine wpList_plain hg fun K' hK' => ?_
  obtain ⟨w', hrun, r1, r2⟩ := run_up hb k u
  unfold Oper.wp
  rcases hop with hop | hop
  · simp [execOp, hop, hm, hx, hv, hrun, Result.andThen]
    exact hK' _ _ (hK w' r1 r2)
  · simp [execOp, hop, hm, hx, hv, hrun, Result.andThen]
    exact hK' _ _ (hK w' r1 r2)
end
end Go.Proofs.YtmikfmcgddmplaaGreatDoor
