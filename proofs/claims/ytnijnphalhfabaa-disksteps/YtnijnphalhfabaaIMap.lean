/- A map from texts to ints that the call has made: its entries, one by one. -/
import Derived.Test.YtnijnphalhfabaaOMap
import Derived.Maps.RangeRun
import Derived.MapKept
namespace Go.Proofs.Ytnijnphalhfabaa
open Go.RowKit

abbrev KI := ByteArray × Nat
def mkIs : Nat → List KI → List MapEntry
  | _, [] => []
  | i, x :: l => { key := .string x.1, val := .int .i64 (x.2 : Int), born := i } :: mkIs (i + 1) l
theorem mkIs_at : ∀ (l : List KI) (i q : Nat), (mkIs i l)[q]? = (l[q]?).map fun x => { key := .string x.1, val := .int .i64 (x.2 : Int), born := i + q }
  | [], i, q => by simp [mkIs]
  | x :: l, i, 0 => by simp [mkIs]
  | x :: l, i, q + 1 => by
    rw [mkIs, List.getElem?_cons_succ, List.getElem?_cons_succ, mkIs_at l (i + 1) q, show i + 1 + q = i + (q + 1) from by omega]
theorem mkIs_len : ∀ (l : List KI) (i : Nat), (mkIs i l).length = l.length
  | [], _ => rfl
  | x :: l, i => by rw [mkIs, List.length_cons, List.length_cons, mkIs_len l]
/-- block b is a map of these entries -/
def MapI (w : World) (b : Nat) (l : List KI) : Prop := w.heap[b]? = some (.map (mkIs 0 l).toArray l.length)
theorem MapI.lt {w : World} {b : Nat} {l : List KI} (h : MapI w b l) : b < w.heap.size := (Array.getElem?_eq_some_iff.1 h).1
theorem MapI.kept {w w' : World} {b : Nat} {l : List KI} {r : Option Nat} (h : MapI w b l) (k : w.grownBy w' r) (hr : some b ≠ r) : MapI w' b l := (k.block b h.lt hr).trans h
theorem MapI.below {w w' : World} {b B : Nat} {l : List KI} (h : MapI w b l) (k : Below B w w') (hb : b < B) : MapI w' b l := (k.block b hb).trans h
theorem MapI.new (w : World) : MapI (w.alloc (.map #[] 0)) w.heap.size [] := heap_alloc_new w _
/-- where a key stands first -/
def posI (k : ByteArray) : List KI → Option Nat
  | [] => none
  | x :: l => if k = x.1 then some 0 else (posI k l).map (· + 1)
def upI (k : ByteArray) (v : Nat) (l : List KI) : List KI := match posI k l with
  | none => l ++ [(k, v)]
  | some p => l.set p (k, v)
theorem posI_at : ∀ (k : ByteArray) (l : List KI) (p : Nat), posI k l = some p → ∃ v, l[p]? = some (k, v)
  | k, [], p, h => by cases h
  | k, x :: l, p, h => by
    rw [posI] at h
    split at h
    · rename_i e
      cases h
      exact ⟨x.2, by rw [e]; rfl⟩
    · obtain ⟨q, hq, rfl⟩ := Option.map_eq_some_iff.1 h
      obtain ⟨v, hv⟩ := posI_at k l q hq
      exact ⟨v, by rw [List.getElem?_cons_succ]; exact hv⟩
theorem findI_mk (k : ByteArray) : ∀ (l : List KI) (i j : Nat), Instr.findNow .string (.string k) (mkIs i l) j = some ((posI k l).map fun p => (j + p, .int .i64 ((l.getD p (k, 0)).2 : Int)))
  | [], i, j => rfl
  | x :: l, i, j => by
    rw [mkIs, Instr.findNow, Instr.sameNow, beq_bytes, posI]
    by_cases e : k = x.1
    · rw [decide_eq_true e, if_pos e]
      simp
    · rw [decide_eq_false e, if_neg e]
      simp only
      rw [findI_mk k l (i + 1) (j + 1)]
      congr 1
      cases posI k l with
      | none => rfl
      | some p =>
        simp only [Option.map_some, List.getD_cons_succ]
        rw [show j + 1 + p = j + (p + 1) from by omega]
theorem mkI_push (l : List KI) (k : ByteArray) (v : Nat) : mkIs 0 l ++ [{ key := .string k, val := .int .i64 (v : Int), born := l.length }] = mkIs 0 (l ++ [(k, v)]) := by
  apply List.ext_getElem?
  intro q
  rw [mkIs_at]
  rcases Nat.lt_trichotomy q l.length with h | h | h
  · rw [List.getElem?_append_left (by rw [mkIs_len]; exact h), List.getElem?_append_left h, mkIs_at]
  · subst h
    rw [List.getElem?_append_right (by rw [mkIs_len]; exact Nat.le_refl _), List.getElem?_append_right (Nat.le_refl _), mkIs_len]
    simp
  · rw [List.getElem?_eq_none (by rw [List.length_append, mkIs_len]; simp; omega), List.getElem?_eq_none (by rw [List.length_append]; simp; omega)]
    rfl
theorem mkI_set (l : List KI) (p : Nat) (k : ByteArray) (v u : Nat) (hp : l[p]? = some (k, u)) :
    (mkIs 0 l).modify p (fun e => { key := .string k, val := .int .i64 (v : Int), born := e.born }) = mkIs 0 (l.set p (k, v)) := by
  apply List.ext_getElem?
  intro q
  rw [List.getElem?_modify, mkIs_at, mkIs_at, List.getElem?_set]
  by_cases e : p = q
  · subst e
    rw [if_pos rfl, if_pos (List.getElem?_eq_some_iff.1 hp).1, hp]
    simp
  · rw [if_neg e]
    simp [e]
/-- what a look-up answers -/
def lookI (k : ByteArray) (l : List KI) : Value := match posI k l with
  | none => .tuple #[.int .i64 0, .bool false]
  | some p => .tuple #[.int .i64 ((l.getD p (k, 0)).2 : Int), .bool true]
section
variable {w : World} {ops : Array Oper} {rest : List Oper} {o : Oper} {a : Act} {Q : Exit → Act → World → Prop}
end
end Go.Proofs.Ytnijnphalhfabaa
