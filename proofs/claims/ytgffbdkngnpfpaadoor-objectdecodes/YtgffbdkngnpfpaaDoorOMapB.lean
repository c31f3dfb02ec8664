/- Texts in one: OMap, OMapB. -/
import Derived.Test.YtgffbdkngnpfpaaDoorOMem
import Derived.Maps.RangeRun
import Derived.MapKept
/- A map from texts to Bools that the call has made: its entries, one by one. -/
namespace Go.Proofs.YtgffbdkngnpfpaaDoor
open Go.RowKit

abbrev KV := ByteArray × Bool
def mkEs : Nat → List KV → List MapEntry
  | _, [] => []
  | i, x :: l => { key := .string x.1, val := .bool x.2, born := i } :: mkEs (i + 1) l
theorem mkEs_at : ∀ (l : List KV) (i q : Nat), (mkEs i l)[q]? = (l[q]?).map fun x => { key := .string x.1, val := .bool x.2, born := i + q }
  | [], i, q => by simp [mkEs]
  | x :: l, i, 0 => by simp [mkEs]
  | x :: l, i, q + 1 => by
    rw [mkEs, List.getElem?_cons_succ, List.getElem?_cons_succ, mkEs_at l (i + 1) q, show i + 1 + q = i + (q + 1) from by omega]
theorem mkEs_len : ∀ (l : List KV) (i : Nat), (mkEs i l).length = l.length
  | [], _ => rfl
  | x :: l, i => by rw [mkEs, List.length_cons, List.length_cons, mkEs_len l]
/-- block b is a map of these entries -/
def MapAt (w : World) (b : Nat) (l : List KV) : Prop := w.heap[b]? = some (.map (mkEs 0 l).toArray l.length)
theorem MapAt.lt {w : World} {b : Nat} {l : List KV} (h : MapAt w b l) : b < w.heap.size := (Array.getElem?_eq_some_iff.1 h).1
theorem MapAt.kept {w w' : World} {b : Nat} {l : List KV} {r : Option Nat} (h : MapAt w b l) (k : w.grownBy w' r) (hr : some b ≠ r) : MapAt w' b l := (k.block b h.lt hr).trans h
theorem MapAt.below {w w' : World} {b B : Nat} {l : List KV} (h : MapAt w b l) (k : Below B w w') (hb : b < B) : MapAt w' b l := (k.block b hb).trans h
theorem MapAt.new (w : World) : MapAt (w.alloc (.map #[] 0)) w.heap.size [] := heap_alloc_new w _
/-- where a key stands first -/
def pos (k : ByteArray) : List KV → Option Nat
  | [] => none
  | x :: l => if k = x.1 then some 0 else (pos k l).map (· + 1)
def upL (k : ByteArray) (v : Bool) (l : List KV) : List KV := match pos k l with
  | none => l ++ [(k, v)]
  | some p => l.set p (k, v)
def getL (k : ByteArray) (l : List KV) : Bool := match pos k l with
  | none => false
  | some p => (l.getD p (k, false)).2
theorem pos_at : ∀ (k : ByteArray) (l : List KV) (p : Nat), pos k l = some p → ∃ v, l[p]? = some (k, v)
  | k, [], p, h => by cases h
  | k, x :: l, p, h => by
    rw [pos] at h
    split at h
    · rename_i e
      cases h
      exact ⟨x.2, by rw [e]; rfl⟩
    · obtain ⟨q, hq, rfl⟩ := Option.map_eq_some_iff.1 h
      obtain ⟨v, hv⟩ := pos_at k l q hq
      exact ⟨v, by rw [List.getElem?_cons_succ]; exact hv⟩
theorem beq_bytes (a b : ByteArray) : (a == b) = decide (a = b) := by
  rw [Bool.eq_iff_iff, MapKept.bytes_beq, decide_eq_true_eq]
theorem find_mk (k : ByteArray) : ∀ (l : List KV) (i j : Nat), Instr.findNow .string (.string k) (mkEs i l) j = some ((pos k l).map fun p => (j + p, .bool (l.getD p (k, false)).2))
  | [], i, j => rfl
  | x :: l, i, j => by
    rw [mkEs, Instr.findNow, Instr.sameNow, beq_bytes, pos]
    by_cases e : k = x.1
    · rw [decide_eq_true e, if_pos e]
      simp
    · rw [decide_eq_false e, if_neg e]
      simp only
      rw [find_mk k l (i + 1) (j + 1)]
      congr 1
      cases pos k l with
      | none => rfl
      | some p =>
        simp only [Option.map_some, List.getD_cons_succ]
        rw [show j + 1 + p = j + (p + 1) from by omega]
theorem mk_push (l : List KV) (k : ByteArray) (v : Bool) : mkEs 0 l ++ [{ key := .string k, val := .bool v, born := l.length }] = mkEs 0 (l ++ [(k, v)]) := by
  apply List.ext_getElem?
  intro q
  rw [mkEs_at]
  rcases Nat.lt_trichotomy q l.length with h | h | h
  · rw [List.getElem?_append_left (by rw [mkEs_len]; exact h), List.getElem?_append_left h, mkEs_at]
  · subst h
    rw [List.getElem?_append_right (by rw [mkEs_len]; exact Nat.le_refl _), List.getElem?_append_right (Nat.le_refl _), mkEs_len]
    simp
  · rw [List.getElem?_eq_none (by rw [List.length_append, mkEs_len]; simp; omega), List.getElem?_eq_none (by rw [List.length_append]; simp; omega)]
    rfl
theorem mk_set (l : List KV) (p : Nat) (k : ByteArray) (v u : Bool) (hp : l[p]? = some (k, u)) :
    (mkEs 0 l).modify p (fun e => { key := .string k, val := .bool v, born := e.born }) = mkEs 0 (l.set p (k, v)) := by
  apply List.ext_getElem?
  intro q
  rw [List.getElem?_modify, mkEs_at, mkEs_at, List.getElem?_set]
  by_cases e : p = q
  · subst e
    rw [if_pos rfl, if_pos (List.getElem?_eq_some_iff.1 hp).1, hp]
    simp
  · rw [if_neg e]
    simp [e]
theorem gb_map {w : World} {b : Nat} {o : Obj} : w.grownBy { w with heap := w.heap.setIfInBounds b o } (some b) :=
  ⟨rfl, rfl, rfl, by simp, fun k _ hr => by simp only [Array.getElem?_setIfInBounds]; rw [if_neg (fun e => hr (by rw [e]))]⟩
theorem run_up {w : World} {b : Nat} {l : List KV} (h : MapAt w b l) (k : ByteArray) (v : Bool) :
    ∃ w', (Instr.mapUpdate 84 (.map (some b)) (.string k) (.bool v)).run Tryd.prog w = .ok () w' ∧ MapAt w' b (upL k v l) ∧ w.grownBy w' (some b) := by
  have hk : MapKept.IsKey .string (.string k) := trivial
  have hf := find_mk k l 0 0
  unfold upL
  cases hp : pos k l with
  | none =>
    rw [hp] at hf
    refine ⟨_, ?_, ?_, gb_map (o := .map (mkEs 0 (l ++ [(k, v)])).toArray (l.length + 1))⟩
    · simp [Instr.mapUpdate, run_underlying Tryd.underlying84, MapKept.run_getObj_map h, MapKept.run_checkKey Tryd.underlying9 hk, MapKept.run_findKey Tryd.underlying9 hf, MapKept.run_setObj_map _ h, Result.andThen, mk_push]
    · unfold MapAt
      rw [(MapKept.heap_set h).1, List.length_append]
      rfl
  | some p =>
    rw [hp] at hf
    obtain ⟨u, hu⟩ := pos_at k l p hp
    have hj : (mkEs 0 l)[p]? = some { key := .string k, val := .bool u, born := 0 + p } := by rw [mkEs_at, hu]; rfl
    refine ⟨_, ?_, ?_, gb_map (o := .map (mkEs 0 (l.set p (k, v))).toArray l.length)⟩
    · rw [Option.map_some, Nat.zero_add] at hf
      simp [Instr.mapUpdate, run_underlying Tryd.underlying84, MapKept.run_getObj_map h, MapKept.run_checkKey Tryd.underlying9 hk, MapKept.run_findKey Tryd.underlying9 hf, hj, MapKept.run_keyThatStays hk, MapKept.run_setObj_map _ h, Result.andThen, mk_set l p k v u hu]
    · unfold MapAt
      rw [(MapKept.heap_set h).1, List.length_set]
theorem run_look {w : World} {b : Nat} {l : List KV} (h : MapAt w b l) (k : ByteArray) :
    (Instr.lookup 84 (.map (some b)) (.string k) false).run Tryd.prog w = .ok (.bool (getL k l)) w := by
  have hk : MapKept.IsKey .string (.string k) := trivial
  have hf := find_mk k l 0 0
  have hz : (zeroValue 4).run Tryd.prog w = .ok (.bool false) w := by kernel_rfl
  unfold getL
  cases hp : pos k l with
  | none =>
    rw [hp] at hf
    simp [Instr.lookup, run_underlying Tryd.underlying84, MapKept.run_getObj_map h, MapKept.run_checkKey Tryd.underlying9 hk, MapKept.run_findKey Tryd.underlying9 hf, Result.andThen, hz]
  | some p =>
    rw [hp] at hf
    simp [Instr.lookup, run_underlying Tryd.underlying84, MapKept.run_getObj_map h, MapKept.run_checkKey Tryd.underlying9 hk, MapKept.run_findKey Tryd.underlying9 hf, Result.andThen]
section
variable {w : World} {ops : Array Oper} {rest : List Oper} {o : Oper} {a : Act} {Q : Exit → Act → World → Prop}
/-- a store, at the operation -/
theorem wpList_up (hg : o.guard = none) (m x v : Operand) (hop : o.op = Op.mapUpdate 84 m x v ∨ o.op = Op.insert 84 m x v) (b : Nat) (l : List KV) (hb : MapAt w b l)
    (hm : a.eval m = .map (some b)) (k : ByteArray) (u : Bool) (hx : a.eval x = .string k) (hv : a.eval v = .bool u)
    (hK : ∀ w', MapAt w' b (upL k u l) → w.grownBy w' (some b) → wpList Tryd.prog ops Q rest (a.put o.dst undef) w') : wpList Tryd.prog ops Q (o :: rest) a w := by
  refine wpList_plain hg fun K' hK' => ?_
  obtain ⟨w', hrun, r1, r2⟩ := run_up hb k u
  unfold Oper.wp
  rcases hop with hop | hop
  · simp [execOp, hop, hm, hx, hv, hrun, Result.andThen]
    exact hK' _ _ (hK w' r1 r2)
  · simp [execOp, hop, hm, hx, hv, hrun, Result.andThen]
    exact hK' _ _ (hK w' r1 r2)
end
end Go.Proofs.YtgffbdkngnpfpaaDoor

/- A map of Bools, ranged over. -/
namespace Go.Proofs.YtgffbdkngnpfpaaDoor
open Go.RowKit

/-- any of the values -/
def anyT (l : List KV) : Bool := l.any (·.2)
theorem mkEs_mem : ∀ (l : List KV) (i : Nat) (e : MapEntry), e ∈ mkEs i l → ∃ x ∈ l, e.val = .bool x.2 ∧ i ≤ e.born ∧ e.born < i + l.length
  | [], _, _, h => by cases h
  | y :: l, i, e, h => by
    rw [mkEs] at h
    rcases List.mem_cons.1 h with rfl | h
    · exact ⟨y, by simp, rfl, Nat.le_refl _, by simp⟩
    · obtain ⟨x, hx, h1, h2, h3⟩ := mkEs_mem l (i + 1) e h
      exact ⟨x, by simp [hx], h1, by omega, by rw [List.length_cons]; omega⟩
theorem mem_mkEs : ∀ (l : List KV) (i : Nat) (x : KV), x ∈ l → ∃ e ∈ mkEs i l, e.val = .bool x.2
  | [], _, _, h => by cases h
  | y :: l, i, x, h => by
    rw [mkEs]
    rcases List.mem_cons.1 h with rfl | h
    · exact ⟨_, List.mem_cons_self, rfl⟩
    · obtain ⟨e, he, h1⟩ := mem_mkEs l (i + 1) x h
      exact ⟨e, List.mem_cons_of_mem _ he, h1⟩
theorem mkEs_nodup : ∀ (l : List KV) (i : Nat), ((mkEs i l).map (·.born)).Nodup
  | [], _ => List.nodup_nil
  | y :: l, i => by
    rw [mkEs, List.map_cons, List.nodup_cons]
    refine ⟨fun h => ?_, mkEs_nodup l (i + 1)⟩
    obtain ⟨e, he, h1⟩ := List.mem_map.1 h
    obtain ⟨_, _, _, h2, _⟩ := mkEs_mem l (i + 1) e he
    simp only at h1
    omega
theorem anyT_yes {l : List KV} {e : MapEntry} (h : e ∈ mkEs 0 l) (hv : e.val = .bool true) : anyT l = true := by
  obtain ⟨x, hx, h1, _⟩ := mkEs_mem l 0 e h
  rw [hv] at h1
  unfold anyT
  rw [List.any_eq_true]
  exact ⟨x, hx, by simpa using h1.symm⟩
theorem anyT_no {l : List KV} (h : ∀ e ∈ mkEs 0 l, e.val = .bool false) : anyT l = false := by
  unfold anyT
  rw [List.any_eq_false]
  intro x hx
  obtain ⟨e, he, h1⟩ := mem_mkEs l 0 x hx
  rw [h e he] at h1
  have : x.2 = false := by simpa using h1.symm
  simp [this]
/-- an iterator in block r over the map in block b: what it has shown was false -/
def Itr (b r : Nat) (l : List KV) (n : Nat) (W : World) : Prop :=
  ∃ seen : Array Nat, W.heap[r]? = some (.mapIter (some b) l.length seen l.length) ∧ (∀ e ∈ mkEs 0 l, seen.contains e.born = true → e.val = .bool false) ∧ (leftOf (mkEs 0 l).toArray seen).size ≤ n
theorem Itr.start {W : World} {b : Nat} {l : List KV} : Itr b W.heap.size l (leftOf (mkEs 0 l).toArray #[]).size (W.alloc (.mapIter (some b) l.length #[] l.length)) :=
  ⟨#[], heap_alloc_new W _, fun e _ h => by simp at h, Nat.le_refl _⟩
open Go.ChangeMaps (setBlock) in
/-- the iterator's step: the map is through, or an entry comes -/
theorem itr_next {W : World} {b r : Nat} {l : List KV} {n : Nat} (hM : MapAt W b l) (hI : Itr b r l n W) (hr : r ≠ b) :
    (anyT l = false ∧ ∀ ty, (Instr.next (.pointer (some ⟨r, 0, none⟩)) false ty).run Tryd.prog W = .ok (.tuple #[.bool false]) W) ∨
    ∃ (k : Value) (v : Bool) (W' : World), (∀ ty, (Instr.next (.pointer (some ⟨r, 0, none⟩)) false ty).run Tryd.prog W = .ok (.tuple #[.bool true, k, .bool v]) W') ∧
      (Instr.entry (.pointer (some ⟨r, 0, none⟩))).run Tryd.prog W' = .ok (.tuple #[k, .bool v]) W' ∧ MapAt W' b l ∧ W.grownBy W' (some r) ∧ (v = true → anyT l = true) ∧ (v = false → ∃ m, n = m + 1 ∧ Itr b r l m W') := by
  obtain ⟨seen, hit, hsn, hle⟩ := hI
  have hM' : W.heap[b]? = some (.map (mkEs 0 l).toArray l.length) := hM
  rcases run_next_at (P := Tryd.prog) W 0 r b l.length l.length seen (mkEs 0 l).toArray l.length hit hM' (fun x hx => by
      obtain ⟨_, _, _, _, h⟩ := mkEs_mem l 0 x (by simpa using hx)
      omega) (Nat.le_refl _) with ⟨h0, hrun⟩ | ⟨e, he, w1, hw1, hrun⟩
  · left
    have ha := all_seen _ _ h0
    exact ⟨anyT_no fun e he => hsn e he (ha e (by simpa using he)), fun ty => hrun⟩
  · right
    obtain ⟨hmem, hns⟩ := mem_left he
    have hmem' : e ∈ mkEs 0 l := by simpa using hmem
    obtain ⟨x, hx, hv, _⟩ := mkEs_mem l 0 e hmem'
    have hit1 : w1.heap[r]? = some (.mapIter (some b) l.length seen l.length) := by rcases hw1 with rfl | rfl <;> exact hit
    have hM1 : w1.heap[b]? = some (.map (mkEs 0 l).toArray l.length) := by rcases hw1 with rfl | rfl <;> exact hM'
    have hlt : r < w1.heap.size := (Array.getElem?_eq_some_iff.1 hit1).1
    have hit2 : (setBlock w1 r (.mapIter (some b) l.length (seen.push e.born) l.length)).heap[r]? = some (.mapIter (some b) l.length (seen.push e.born) l.length) := by simp [setBlock, hlt]
    have hM2 : (setBlock w1 r (.mapIter (some b) l.length (seen.push e.born) l.length)).heap[b]? = some (.map (mkEs 0 l).toArray l.length) := by
      simp only [setBlock, Array.getElem?_setIfInBounds]
      rw [if_neg hr]
      exact hM1
    have hent := run_entry_at (P := Tryd.prog) _ r b l.length seen (mkEs 0 l).toArray l.length e hit2 hM2 hmem (by simpa using mkEs_nodup l 0)
    have hk : W.grownBy (setBlock w1 r (.mapIter (some b) l.length (seen.push e.born) l.length)) (some r) := by
      have k0 : W.grownBy w1 (some r) := by
        rcases hw1 with rfl | rfl
        · exact World.grownBy.refl _ _
        · exact gb_below (Below.refl _ _).drew
      exact gb_trans k0 gb_map
    rw [hv] at hent hrun
    refine ⟨e.key, x.2, _, fun ty => hrun, hent, hM2, hk, fun h => anyT_yes hmem' (by rw [hv, h]), fun h => ?_⟩
    have hsh := left_shrinks _ _ e he
    refine ⟨n - 1, by omega, seen.push e.born, hit2, fun y hy hc => ?_, by omega⟩
    rw [Array.contains_push] at hc
    simp only [Bool.or_eq_true] at hc
    rcases hc with hc | hc
    · exact hsn y hy hc
    · have hb : y.born = e.born := by simpa using hc
      have : y = e := by
        have f1 := find_born y (mkEs 0 l) (mkEs_nodup l 0) hy
        have f2 := find_born e (mkEs 0 l) (mkEs_nodup l 0) hmem'
        rw [hb, f2] at f1
        simpa using f1.symm
      rw [this, hv, h]
end Go.Proofs.YtgffbdkngnpfpaaDoor
