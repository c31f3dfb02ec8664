/- Texts in one: WWrite, OMap, IMap. -/
import Derived.Test.YtmikfmcgddmplaaGreatDoorWRead
import Derived.Test.YtmikfmcgddmplaaGreatDoorRdn
import Derived.Lib.BufferWrite
import Derived.StillTailTactics
import Derived.Maps.RangeRun
import Derived.MapKept
/- The methods of a writer: their contracts. -/
namespace Go.Proofs.YtmikfmcgddmplaaGreatDoor
open Go.RowKit

theorem Arr.ne {w : World} {g g' : Nat} {t t' : TypeId} {cs cs' : Array Value} (h : Arr w g t cs) (h' : Arr w g' t' cs') (ht : t ≠ t') : g ≠ g' := by
  rintro rfl
  unfold Arr at h h'
  rw [h] at h'
  simp only [Option.some.injEq, Obj.cells.injEq] at h'
  exact ht h'.2.1

/-- the bytes of pieces, the last piece first -/
def cat : List ByteArray → List UInt8
  | [] => []
  | p :: ps => cat ps ++ p.data.toList
/-- the number of a pointer's block, and one; 0: nil -/
def ptrN : Value → Nat
  | .pointer (some a) => a.block + 1
  | _ => 0
end Go.Proofs.YtmikfmcgddmplaaGreatDoor

/- A map from texts to Bools that the call has made: its entries, one by one. -/
namespace Go.Proofs.YtmikfmcgddmplaaGreatDoor
open Go.RowKit

abbrev KV := ByteArray × Bool
def mkEs : Nat → List KV → List MapEntry
  | _, [] => []
  | i, x :: l => { key := .string x.1, val := .bool x.2, born := i } :: mkEs (i + 1) l
theorem mkEs_at : ∀ (l : List KV) (i q : Nat), (mkEs i l)[q]? = (l[q]?).map fun x => { key := .string x.1, val := .bool x.2, born := i + q }
  | [], i, q => by simp [mkEs]
  | x :: l, i, 0 => by simp [mkEs]
  | x :: l, i, q + 1 => by
    rw [mkEs, List.getElem?_cons_succ, List.getElem?_cons_succ, mkEs_at l (i + 1) q, show i + 1 + q = i + (q + 1) from by omega]
theorem mkEs_len : ∀ (l : List KV) (i : Nat), (mkEs i l).length = l.length
  | [], _ => rfl
  | x :: l, i => by rw [mkEs, List.length_cons, List.length_cons, mkEs_len l]
/-- block b is a map of these entries -/
def MapAt (w : World) (b : Nat) (l : List KV) : Prop := w.heap[b]? = some (.map (mkEs 0 l).toArray l.length)
theorem MapAt.lt {w : World} {b : Nat} {l : List KV} (h : MapAt w b l) : b < w.heap.size := (Array.getElem?_eq_some_iff.1 h).1
theorem MapAt.kept {w w' : World} {b : Nat} {l : List KV} {r : Option Nat} (h : MapAt w b l) (k : w.grownBy w' r) (hr : some b ≠ r) : MapAt w' b l := (k.block b h.lt hr).trans h
theorem MapAt.below {w w' : World} {b B : Nat} {l : List KV} (h : MapAt w b l) (k : Below B w w') (hb : b < B) : MapAt w' b l := (k.block b hb).trans h
theorem MapAt.new (w : World) : MapAt (w.alloc (.map #[] 0)) w.heap.size [] := heap_alloc_new w _
/-- where a key stands first -/
def pos (k : ByteArray) : List KV → Option Nat
  | [] => none
  | x :: l => if k = x.1 then some 0 else (pos k l).map (· + 1)
def upL (k : ByteArray) (v : Bool) (l : List KV) : List KV := match pos k l with
  | none => l ++ [(k, v)]
  | some p => l.set p (k, v)
def getL (k : ByteArray) (l : List KV) : Bool := match pos k l with
  | none => false
  | some p => (l.getD p (k, false)).2
theorem pos_at : ∀ (k : ByteArray) (l : List KV) (p : Nat), pos k l = some p → ∃ v, l[p]? = some (k, v)
  | k, [], p, h => by cases h
  | k, x :: l, p, h => by
    rw [pos] at h
    split at h
    · rename_i e
      cases h
      exact ⟨x.2, by rw [e]; rfl⟩
    · obtain ⟨q, hq, rfl⟩ := Option.map_eq_some_iff.1 h
      obtain ⟨v, hv⟩ := pos_at k l q hq
      exact ⟨v, by rw [List.getElem?_cons_succ]; exact hv⟩
theorem beq_bytes (a b : ByteArray) : (a == b) = decide (a = b) := by
  rw [Bool.eq_iff_iff, MapKept.bytes_beq, decide_eq_true_eq]
theorem find_mk (k : ByteArray) : ∀ (l : List KV) (i j : Nat), Instr.findNow .string (.string k) (mkEs i l) j = some ((pos k l).map fun p => (j + p, .bool (l.getD p (k, false)).2))
  | [], i, j => rfl
  | x :: l, i, j => by
    rw [mkEs, Instr.findNow, Instr.sameNow, beq_bytes, pos]
    by_cases e : k = x.1
    · rw [decide_eq_true e, if_pos e]
      simp
    · rw [decide_eq_false e, if_neg e]
      simp only
      rw [find_mk k l (i + 1) (j + 1)]
      congr 1
      cases pos k l with
      | none => rfl
      | some p =>
        simp only [Option.map_some, List.getD_cons_succ]
        rw [show j + 1 + p = j + (p + 1) from by omega]
theorem mk_push (l : List KV) (k : ByteArray) (v : Bool) : mkEs 0 l ++ [{ key := .string k, val := .bool v, born := l.length }] = mkEs 0 (l ++ [(k, v)]) := by
  apply List.ext_getElem?
  intro q
  rw [mkEs_at]
  rcases Nat.lt_trichotomy q l.length with h | h | h
  · rw [List.getElem?_append_left (by rw [mkEs_len]; exact h), List.getElem?_append_left h, mkEs_at]
  · subst h
    rw [List.getElem?_append_right (by rw [mkEs_len]; exact Nat.le_refl _), List.getElem?_append_right (Nat.le_refl _), mkEs_len]
    simp
  · rw [List.getElem?_eq_none (by rw [List.length_append, mkEs_len]; simp; omega), List.getElem?_eq_none (by rw [List.length_append]; simp; omega)]
    rfl
theorem mk_set (l : List KV) (p : Nat) (k : ByteArray) (v u : Bool) (hp : l[p]? = some (k, u)) :
    (mkEs 0 l).modify p (fun e => { key := .string k, val := .bool v, born := e.born }) = mkEs 0 (l.set p (k, v)) := by
  apply List.ext_getElem?
  intro q
  rw [List.getElem?_modify, mkEs_at, mkEs_at, List.getElem?_set]
  by_cases e : p = q
  · subst e
    rw [if_pos rfl, if_pos (List.getElem?_eq_some_iff.1 hp).1, hp]
    simp
  · rw [if_neg e]
    simp [e]
theorem gb_map {w : World} {b : Nat} {o : Obj} : w.grownBy { w with heap := w.heap.setIfInBounds b o } (some b) :=
  ⟨rfl, rfl, rfl, by simp, fun k _ hr => by simp only [Array.getElem?_setIfInBounds]; rw [if_neg (fun e => hr (by rw [e]))]⟩
theorem run_up {w : World} {b : Nat} {l : List KV} (h : MapAt w b l) (k : ByteArray) (v : Bool) :
    ∃ w', (Instr.mapUpdate 62 (.map (some b)) (.string k) (.bool v)).run Tryz.prog w = .ok () w' ∧ MapAt w' b (upL k v l) ∧ w.grownBy w' (some b) := by
  have hk : MapKept.IsKey .string (.string k) := trivial
  have hf := find_mk k l 0 0
  unfold upL
  cases hp : pos k l with
  | none =>
    rw [hp] at hf
    refine ⟨_, ?_, ?_, gb_map (o := .map (mkEs 0 (l ++ [(k, v)])).toArray (l.length + 1))⟩
    · simp [Instr.mapUpdate, run_underlying Tryz.underlying62, MapKept.run_getObj_map h, MapKept.run_checkKey Tryz.underlying9 hk, MapKept.run_findKey Tryz.underlying9 hf, MapKept.run_setObj_map _ h, Result.andThen, mk_push]
    · unfold MapAt
      rw [(MapKept.heap_set h).1, List.length_append]
      rfl
  | some p =>
    rw [hp] at hf
    obtain ⟨u, hu⟩ := pos_at k l p hp
    have hj : (mkEs 0 l)[p]? = some { key := .string k, val := .bool u, born := 0 + p } := by rw [mkEs_at, hu]; rfl
    refine ⟨_, ?_, ?_, gb_map (o := .map (mkEs 0 (l.set p (k, v))).toArray l.length)⟩
    · rw [Option.map_some, Nat.zero_add] at hf
      simp [Instr.mapUpdate, run_underlying Tryz.underlying62, MapKept.run_getObj_map h, MapKept.run_checkKey Tryz.underlying9 hk, MapKept.run_findKey Tryz.underlying9 hf, hj, MapKept.run_keyThatStays hk, MapKept.run_setObj_map _ h, Result.andThen, mk_set l p k v u hu]
    · unfold MapAt
      rw [(MapKept.heap_set h).1, List.length_set]
theorem run_look {w : World} {b : Nat} {l : List KV} (h : MapAt w b l) (k : ByteArray) :
    (Instr.lookup 62 (.map (some b)) (.string k) false).run Tryz.prog w = .ok (.bool (getL k l)) w := by
  have hk : MapKept.IsKey .string (.string k) := trivial
  have hf := find_mk k l 0 0
  have hz : (zeroValue 4).run Tryz.prog w = .ok (.bool false) w := by kernel_rfl
  unfold getL
  cases hp : pos k l with
  | none =>
    rw [hp] at hf
    simp [Instr.lookup, run_underlying Tryz.underlying62, MapKept.run_getObj_map h, MapKept.run_checkKey Tryz.underlying9 hk, MapKept.run_findKey Tryz.underlying9 hf, Result.andThen, hz]
  | some p =>
    rw [hp] at hf
    simp [Instr.lookup, run_underlying Tryz.underlying62, MapKept.run_getObj_map h, MapKept.run_checkKey Tryz.underlying9 hk, MapKept.run_findKey Tryz.underlying9 hf, Result.andThen]
section
variable {w : World} {ops : Array Oper} {rest : List Oper} {o : Oper} {a : Act} {Q : Exit → Act → World → Prop}
/-- a store, at the operation -/
theorem wpList_up (hg : o.guard = none) (m x v : Operand) (hop : o.op = Op.mapUpdate 62 m x v ∨ o.op = Op.insert 62 m x v) (b : Nat) (l : List KV) (hb : MapAt w b l)
    (hm : a.eval m = .map (some b)) (k : ByteArray) (u : Bool) (hx : a.eval x = .string k) (hv : a.eval v = .bool u)
    (hK : ∀ w', MapAt w' b (upL k u l) → w.grownBy w' (some b) → wpList Tryz.prog ops Q rest (a.put o.dst undef) w') : wpList Tryz.prog ops Q (o :: rest) a w := by
  refine wpList_plain hg fun K' hK' => ?_
  obtain ⟨w', hrun, r1, r2⟩ := run_up hb k u
  unfold Oper.wp
  rcases hop with hop | hop
  · simp [execOp, hop, hm, hx, hv, hrun, Result.andThen]
    exact hK' _ _ (hK w' r1 r2)
  · simp [execOp, hop, hm, hx, hv, hrun, Result.andThen]
    exact hK' _ _ (hK w' r1 r2)
end
end Go.Proofs.YtmikfmcgddmplaaGreatDoor

/- A map from texts to ints that the call has made: its entries, one by one. -/
namespace Go.Proofs.YtmikfmcgddmplaaGreatDoor
open Go.RowKit

abbrev KI := ByteArray × Nat
def mkIs : Nat → List KI → List MapEntry
  | _, [] => []
  | i, x :: l => { key := .string x.1, val := .int .i64 (x.2 : Int), born := i } :: mkIs (i + 1) l
theorem mkIs_at : ∀ (l : List KI) (i q : Nat), (mkIs i l)[q]? = (l[q]?).map fun x => { key := .string x.1, val := .int .i64 (x.2 : Int), born := i + q }
  | [], i, q => by simp [mkIs]
  | x :: l, i, 0 => by simp [mkIs]
  | x :: l, i, q + 1 => by
    rw [mkIs, List.getElem?_cons_succ, List.getElem?_cons_succ, mkIs_at l (i + 1) q, show i + 1 + q = i + (q + 1) from by omega]
theorem mkIs_len : ∀ (l : List KI) (i : Nat), (mkIs i l).length = l.length
  | [], _ => rfl
  | x :: l, i => by rw [mkIs, List.length_cons, List.length_cons, mkIs_len l]
/-- block b is a map of these entries -/
def MapI (w : World) (b : Nat) (l : List KI) : Prop := w.heap[b]? = some (.map (mkIs 0 l).toArray l.length)
theorem MapI.lt {w : World} {b : Nat} {l : List KI} (h : MapI w b l) : b < w.heap.size := (Array.getElem?_eq_some_iff.1 h).1
theorem MapI.kept {w w' : World} {b : Nat} {l : List KI} {r : Option Nat} (h : MapI w b l) (k : w.grownBy w' r) (hr : some b ≠ r) : MapI w' b l := (k.block b h.lt hr).trans h
theorem MapI.below {w w' : World} {b B : Nat} {l : List KI} (h : MapI w b l) (k : Below B w w') (hb : b < B) : MapI w' b l := (k.block b hb).trans h
theorem MapI.new (w : World) : MapI (w.alloc (.map #[] 0)) w.heap.size [] := heap_alloc_new w _
/-- where a key stands first -/
def posI (k : ByteArray) : List KI → Option Nat
  | [] => none
  | x :: l => if k = x.1 then some 0 else (posI k l).map (· + 1)
def upI (k : ByteArray) (v : Nat) (l : List KI) : List KI := match posI k l with
  | none => l ++ [(k, v)]
  | some p => l.set p (k, v)
theorem posI_at : ∀ (k : ByteArray) (l : List KI) (p : Nat), posI k l = some p → ∃ v, l[p]? = some (k, v)
  | k, [], p, h => by cases h
  | k, x :: l, p, h => by
    rw [posI] at h
    split at h
    · rename_i e
      cases h
      exact ⟨x.2, by rw [e]; rfl⟩
    · obtain ⟨q, hq, rfl⟩ := Option.map_eq_some_iff.1 h
      obtain ⟨v, hv⟩ := posI_at k l q hq
      exact ⟨v, by rw [List.getElem?_cons_succ]; exact hv⟩
theorem findI_mk (k : ByteArray) : ∀ (l : List KI) (i j : Nat), Instr.findNow .string (.string k) (mkIs i l) j = some ((posI k l).map fun p => (j + p, .int .i64 ((l.getD p (k, 0)).2 : Int)))
  | [], i, j => rfl
  | x :: l, i, j => by
    rw [mkIs, Instr.findNow, Instr.sameNow, beq_bytes, posI]
    by_cases e : k = x.1
    · rw [decide_eq_true e, if_pos e]
      simp
    · rw [decide_eq_false e, if_neg e]
      simp only
      rw [findI_mk k l (i + 1) (j + 1)]
      congr 1
      cases posI k l with
      | none => rfl
      | some p =>
        simp only [Option.map_some, List.getD_cons_succ]
        rw [show j + 1 + p = j + (p + 1) from by omega]
theorem mkI_push (l : List KI) (k : ByteArray) (v : Nat) : mkIs 0 l ++ [{ key := .string k, val := .int .i64 (v : Int), born := l.length }] = mkIs 0 (l ++ [(k, v)]) := by
  apply List.ext_getElem?
  intro q
  rw [mkIs_at]
  rcases Nat.lt_trichotomy q l.length with h | h | h
  · rw [List.getElem?_append_left (by rw [mkIs_len]; exact h), List.getElem?_append_left h, mkIs_at]
  · subst h
    rw [List.getElem?_append_right (by rw [mkIs_len]; exact Nat.le_refl _), List.getElem?_append_right (Nat.le_refl _), mkIs_len]
    simp
  · rw [List.getElem?_eq_none (by rw [List.length_append, mkIs_len]; simp; omega), List.getElem?_eq_none (by rw [List.length_append]; simp; omega)]
    rfl
theorem mkI_set (l : List KI) (p : Nat) (k : ByteArray) (v u : Nat) (hp : l[p]? = some (k, u)) :
    (mkIs 0 l).modify p (fun e => { key := .string k, val := .int .i64 (v : Int), born := e.born }) = mkIs 0 (l.set p (k, v)) := by
  apply List.ext_getElem?
  intro q
  rw [List.getElem?_modify, mkIs_at, mkIs_at, List.getElem?_set]
  by_cases e : p = q
  · subst e
    rw [if_pos rfl, if_pos (List.getElem?_eq_some_iff.1 hp).1, hp]
    simp
  · rw [if_neg e]
    simp [e]
/-- what a look-up answers -/
def lookI (k : ByteArray) (l : List KI) : Value := match posI k l with
  | none => .tuple #[.int .i64 0, .bool false]
  | some p => .tuple #[.int .i64 ((l.getD p (k, 0)).2 : Int), .bool true]
section
variable {w : World} {ops : Array Oper} {rest : List Oper} {o : Oper} {a : Act} {Q : Exit → Act → World → Prop}
end
end Go.Proofs.YtmikfmcgddmplaaGreatDoor
