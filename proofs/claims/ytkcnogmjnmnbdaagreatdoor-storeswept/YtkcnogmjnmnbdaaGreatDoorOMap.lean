/- Texts in one: OMem, OMap. -/
import Derived.Test.YtkcnogmjnmnbdaaGreatDoorWRead
import Derived.Test.YtkcnogmjnmnbdaaGreatDoorWWrite
import Derived.Maps.RangeRun
import Derived.MapKept
/- Objects in memory: lists of texts, of entries; an object's cells. -/
namespace Go.Proofs.YtkcnogmjnmnbdaaGreatDoor
open Go.RowKit

/-- the texts that a slice holds, all in blocks below B -/
def Txs (w : World) (B : Nat) (A : Option Addr) (T : List ByteArray) : Prop :=
  ∀ k x, T[k]? = some x → ∃ ad, A = some ad ∧ (ad.add k).block < B ∧ w.cell? (ad.add k) = some (.string x)
/-- the entries that a slice holds -/
def Ens (w : World) (B : Nat) (A : Option Addr) (L : List Ent) : Prop :=
  ∀ k x, L[k]? = some x → ∃ ad, A = some ad ∧ (ad.add (k * 3)).block < B ∧ w.cell? (ad.add (k * 3)) = some (.string x.name) ∧
    w.cell? ⟨(ad.add (k * 3)).block, (ad.add (k * 3)).off + 1, none⟩ = some (.bool x.dir) ∧ w.cell? ⟨(ad.add (k * 3)).block, (ad.add (k * 3)).off + 2, none⟩ = some (.string x.id)
theorem Txs.below {w w' : World} {B : Nat} {A : Option Addr} {T : List ByteArray} (h : Txs w B A T) (b : Below B w w') : Txs w' B A T := fun k x hx => by
  obtain ⟨ad, e, hb, hc⟩ := h k x hx
  exact ⟨ad, e, hb, (b.cell hb).trans hc⟩
theorem Ens.below {w w' : World} {B : Nat} {A : Option Addr} {L : List Ent} (h : Ens w B A L) (b : Below B w w') : Ens w' B A L := fun k x hx => by
  obtain ⟨ad, e, hb, h0, h1, h2⟩ := h k x hx
  exact ⟨ad, e, hb, (b.cell hb).trans h0, (b.cell (p := ⟨(ad.add (k * 3)).block, (ad.add (k * 3)).off + 1, none⟩) hb).trans h1, (b.cell (p := ⟨(ad.add (k * 3)).block, (ad.add (k * 3)).off + 2, none⟩) hb).trans h2⟩
theorem Txs.mono {w : World} {B B' : Nat} {A : Option Addr} {T : List ByteArray} (h : Txs w B A T) (hB : B ≤ B') : Txs w B' A T := fun k x hx => by
  obtain ⟨ad, e, hb, hc⟩ := h k x hx
  exact ⟨ad, e, by omega, hc⟩
theorem Ens.mono {w : World} {B B' : Nat} {A : Option Addr} {L : List Ent} (h : Ens w B A L) (hB : B ≤ B') : Ens w B' A L := fun k x hx => by
  obtain ⟨ad, e, hb, hc⟩ := h k x hx
  exact ⟨ad, e, by omega, hc⟩
theorem Txs.nil (w : World) (B : Nat) (A : Option Addr) : Txs w B A [] := fun k x h => by simp at h
theorem Ens.nil (w : World) (B : Nat) (A : Option Addr) : Ens w B A [] := fun k x h => by simp at h

/-- where an object's slices lie -/
structure At where
  ea : Option Addr
  ec : Nat
  pa : Option Addr
  pc : Nat
def obArr (o : Ob) (p : At) : Array Value :=
  #[.int .i64 o.kind, .string o.data, .slice p.ea o.ents.length p.ec, .string o.tree, .slice p.pa o.pars.length p.pc, .string o.who, .string o.note, .int .i64 o.time, .string o.target]
/-- an object whose slices lie in blocks below B -/
structure ObIn (w : World) (B : Nat) (o : Ob) (p : At) : Prop where
  ents : Ens w B p.ea o.ents
  pars : Txs w B p.pa o.pars
  room : o.pars.length ≤ p.pc
theorem ObIn.below {w w' : World} {B : Nat} {o : Ob} {p : At} (h : ObIn w B o p) (b : Below B w w') : ObIn w' B o p := ⟨h.ents.below b, h.pars.below b, h.room⟩
theorem ObIn.mono {w : World} {B B' : Nat} {o : Ob} {p : At} (h : ObIn w B o p) (hB : B ≤ B') : ObIn w B' o p := ⟨h.ents.mono hB, h.pars.mono hB, h.room⟩
theorem obArr_one (o : Ob) (p : At) : (obArr o p).all (·.oneCell') = true := by
  unfold obArr
  rw [Array.all_eq_true_iff_forall_mem]
  intro v hv
  simp at hv
  rcases hv with rfl | rfl | rfl | rfl | rfl | rfl | rfl | rfl | rfl <;> rfl
theorem obArr_size (o : Ob) (p : At) : (obArr o p).size = 9 := rfl
theorem obInfo (o : Ob) (p : At) : (Tryz.prog.info? 50).map (·.size) = some (obArr o p).size := by
  rw [obArr_size]
  kernel_rfl
/-- the new block of a boxed object -/
theorem box_in {w : World} {B : Nat} {o : Ob} {p : At} (h : ObIn w B o p) (hB : B ≤ w.heap.size) (x : Obj) : ObIn (w.alloc x) B o p := h.below ((Below.refl _ _).alloc hB _)
end Go.Proofs.YtkcnogmjnmnbdaaGreatDoor

/- A map from texts to Bools that the call has made: its entries, one by one. -/
namespace Go.Proofs.YtkcnogmjnmnbdaaGreatDoor
open Go.RowKit

abbrev KV := ByteArray × Bool
def mkEs : Nat → List KV → List MapEntry
  | _, [] => []
  | i, x :: l => { key := .string x.1, val := .bool x.2, born := i } :: mkEs (i + 1) l
theorem mkEs_at : ∀ (l : List KV) (i q : Nat), (mkEs i l)[q]? = (l[q]?).map fun x => { key := .string x.1, val := .bool x.2, born := i + q }
  | [], i, q => by simp [mkEs]
  | x :: l, i, 0 => by simp [mkEs]
  | x :: l, i, q + 1 => by
    rw [mkEs, List.getElem?_cons_succ, List.getElem?_cons_succ, mkEs_at l (i + 1) q, show i + 1 + q = i + (q + 1) from by omega]
theorem mkEs_len : ∀ (l : List KV) (i : Nat), (mkEs i l).length = l.length
  | [], _ => rfl
  | x :: l, i => by rw [mkEs, List.length_cons, List.length_cons, mkEs_len l]
/-- block b is a map of these entries -/
def MapAt (w : World) (b : Nat) (l : List KV) : Prop := w.heap[b]? = some (.map (mkEs 0 l).toArray l.length)
theorem MapAt.lt {w : World} {b : Nat} {l : List KV} (h : MapAt w b l) : b < w.heap.size := (Array.getElem?_eq_some_iff.1 h).1
theorem MapAt.kept {w w' : World} {b : Nat} {l : List KV} {r : Option Nat} (h : MapAt w b l) (k : w.grownBy w' r) (hr : some b ≠ r) : MapAt w' b l := (k.block b h.lt hr).trans h
theorem MapAt.below {w w' : World} {b B : Nat} {l : List KV} (h : MapAt w b l) (k : Below B w w') (hb : b < B) : MapAt w' b l := (k.block b hb).trans h
theorem MapAt.new (w : World) : MapAt (w.alloc (.map #[] 0)) w.heap.size [] := heap_alloc_new w _
/-- where a key stands first -/
def pos (k : ByteArray) : List KV → Option Nat
  | [] => none
  | x :: l => if k = x.1 then some 0 else (pos k l).map (· + 1)
def upL (k : ByteArray) (v : Bool) (l : List KV) : List KV := match pos k l with
  | none => l ++ [(k, v)]
  | some p => l.set p (k, v)
def getL (k : ByteArray) (l : List KV) : Bool := match pos k l with
  | none => false
  | some p => (l.getD p (k, false)).2
theorem pos_at : ∀ (k : ByteArray) (l : List KV) (p : Nat), pos k l = some p → ∃ v, l[p]? = some (k, v)
  | k, [], p, h => by cases h
  | k, x :: l, p, h => by
    rw [pos] at h
    split at h
    · rename_i e
      cases h
      exact ⟨x.2, by rw [e]; rfl⟩
    · obtain ⟨q, hq, rfl⟩ := Option.map_eq_some_iff.1 h
      obtain ⟨v, hv⟩ := pos_at k l q hq
      exact ⟨v, by rw [List.getElem?_cons_succ]; exact hv⟩
theorem beq_bytes (a b : ByteArray) : (a == b) = decide (a = b) := by
  rw [Bool.eq_iff_iff, MapKept.bytes_beq, decide_eq_true_eq]
theorem find_mk (k : ByteArray) : ∀ (l : List KV) (i j : Nat), Instr.findNow .string (.string k) (mkEs i l) j = some ((pos k l).map fun p => (j + p, .bool (l.getD p (k, false)).2))
  | [], i, j => rfl
  | x :: l, i, j => by
    rw [mkEs, Instr.findNow, Instr.sameNow, beq_bytes, pos]
    by_cases e : k = x.1
    · rw [decide_eq_true e, if_pos e]
      simp
    · rw [decide_eq_false e, if_neg e]
      simp only
      rw [find_mk k l (i + 1) (j + 1)]
      congr 1
      cases pos k l with
      | none => rfl
      | some p =>
        simp only [Option.map_some, List.getD_cons_succ]
        rw [show j + 1 + p = j + (p + 1) from by omega]
theorem mk_push (l : List KV) (k : ByteArray) (v : Bool) : mkEs 0 l ++ [{ key := .string k, val := .bool v, born := l.length }] = mkEs 0 (l ++ [(k, v)]) := by
  apply List.ext_getElem?
  intro q
  rw [mkEs_at]
  rcases Nat.lt_trichotomy q l.length with h | h | h
  · rw [List.getElem?_append_left (by rw [mkEs_len]; exact h), List.getElem?_append_left h, mkEs_at]
  · subst h
    rw [List.getElem?_append_right (by rw [mkEs_len]; exact Nat.le_refl _), List.getElem?_append_right (Nat.le_refl _), mkEs_len]
    simp
  · rw [List.getElem?_eq_none (by rw [List.length_append, mkEs_len]; simp; omega), List.getElem?_eq_none (by rw [List.length_append]; simp; omega)]
    rfl
theorem mk_set (l : List KV) (p : Nat) (k : ByteArray) (v u : Bool) (hp : l[p]? = some (k, u)) :
    (mkEs 0 l).modify p (fun e => { key := .string k, val := .bool v, born := e.born }) = mkEs 0 (l.set p (k, v)) := by
  apply List.ext_getElem?
  intro q
  rw [List.getElem?_modify, mkEs_at, mkEs_at, List.getElem?_set]
  by_cases e : p = q
  · subst e
    rw [if_pos rfl, if_pos (List.getElem?_eq_some_iff.1 hp).1, hp]
    simp
  · rw [if_neg e]
    simp [e]
theorem gb_map {w : World} {b : Nat} {o : Obj} : w.grownBy { w with heap := w.heap.setIfInBounds b o } (some b) :=
  ⟨rfl, rfl, rfl, by simp, fun k _ hr => by simp only [Array.getElem?_setIfInBounds]; rw [if_neg (fun e => hr (by rw [e]))]⟩
theorem run_up {w : World} {b : Nat} {l : List KV} (h : MapAt w b l) (k : ByteArray) (v : Bool) :
    ∃ w', (Instr.mapUpdate 71 (.map (some b)) (.string k) (.bool v)).run Tryz.prog w = .ok () w' ∧ MapAt w' b (upL k v l) ∧ w.grownBy w' (some b) := by
  have hk : MapKept.IsKey .string (.string k) := trivial
  have hf := find_mk k l 0 0
  unfold upL
  cases hp : pos k l with
  | none =>
    rw [hp] at hf
    refine ⟨_, ?_, ?_, gb_map (o := .map (mkEs 0 (l ++ [(k, v)])).toArray (l.length + 1))⟩
    · simp [Instr.mapUpdate, run_underlying Tryz.underlying71, MapKept.run_getObj_map h, MapKept.run_checkKey Tryz.underlying9 hk, MapKept.run_findKey Tryz.underlying9 hf, MapKept.run_setObj_map _ h, Result.andThen, mk_push]
    · unfold MapAt
      rw [(MapKept.heap_set h).1, List.length_append]
      rfl
  | some p =>
    rw [hp] at hf
    obtain ⟨u, hu⟩ := pos_at k l p hp
    have hj : (mkEs 0 l)[p]? = some { key := .string k, val := .bool u, born := 0 + p } := by rw [mkEs_at, hu]; rfl
    refine ⟨_, ?_, ?_, gb_map (o := .map (mkEs 0 (l.set p (k, v))).toArray l.length)⟩
    · rw [Option.map_some, Nat.zero_add] at hf
      simp [Instr.mapUpdate, run_underlying Tryz.underlying71, MapKept.run_getObj_map h, MapKept.run_checkKey Tryz.underlying9 hk, MapKept.run_findKey Tryz.underlying9 hf, hj, MapKept.run_keyThatStays hk, MapKept.run_setObj_map _ h, Result.andThen, mk_set l p k v u hu]
    · unfold MapAt
      rw [(MapKept.heap_set h).1, List.length_set]
theorem run_look {w : World} {b : Nat} {l : List KV} (h : MapAt w b l) (k : ByteArray) :
    (Instr.lookup 71 (.map (some b)) (.string k) false).run Tryz.prog w = .ok (.bool (getL k l)) w := by
  have hk : MapKept.IsKey .string (.string k) := trivial
  have hf := find_mk k l 0 0
  have hz : (zeroValue 4).run Tryz.prog w = .ok (.bool false) w := by kernel_rfl
  unfold getL
  cases hp : pos k l with
  | none =>
    rw [hp] at hf
    simp [Instr.lookup, run_underlying Tryz.underlying71, MapKept.run_getObj_map h, MapKept.run_checkKey Tryz.underlying9 hk, MapKept.run_findKey Tryz.underlying9 hf, Result.andThen, hz]
  | some p =>
    rw [hp] at hf
    simp [Instr.lookup, run_underlying Tryz.underlying71, MapKept.run_getObj_map h, MapKept.run_checkKey Tryz.underlying9 hk, MapKept.run_findKey Tryz.underlying9 hf, Result.andThen]
section
variable {w : World} {ops : Array Oper} {rest : List Oper} {o : Oper} {a : Act} {Q : Exit → Act → World → Prop}
/-- a store, at the operation -/
theorem wpList_up (hg : o.guard = none) (m x v : Operand) (hop : o.op = Op.mapUpdate 71 m x v ∨ o.op = Op.insert 71 m x v) (b : Nat) (l : List KV) (hb : MapAt w b l)
    (hm : a.eval m = .map (some b)) (k : ByteArray) (u : Bool) (hx : a.eval x = .string k) (hv : a.eval v = .bool u)
    (hK : ∀ w', MapAt w' b (upL k u l) → w.grownBy w' (some b) → wpList Tryz.prog ops Q rest (a.put o.dst undef) w') : wpList Tryz.prog ops Q (o :: rest) a w := by
  refine wpList_plain hg fun K' hK' => ?_
  obtain ⟨w', hrun, r1, r2⟩ := run_up hb k u
  unfold Oper.wp
  rcases hop with hop | hop
  · simp [execOp, hop, hm, hx, hv, hrun, Result.andThen]
    exact hK' _ _ (hK w' r1 r2)
  · simp [execOp, hop, hm, hx, hv, hrun, Result.andThen]
    exact hK' _ _ (hK w' r1 r2)
end
end Go.Proofs.YtkcnogmjnmnbdaaGreatDoor
