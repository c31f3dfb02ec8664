/- Texts in one: DkOpen, SMap. -/
import Derived.Test.YtmikfmcgddmplaaGreatDoorWFrame
import Derived.Test.YtmikfmcgddmplaaGreatDoorLists
import Derived.Test.YtmikfmcgddmplaaGreatDoorDkFind
import Derived.Deep.Slices
import Derived.Deep.Fields
import Derived.Test.YtmikfmcgddmplaaGreatDoorIMap
import Derived.Test.YtmikfmcgddmplaaGreatDoorDkMem
import Derived.Maps.RangeRun
import Derived.MapKept
/- An argument that is a disk, opened: what it holds, how large it may be. -/
namespace Go.Proofs.YtmikfmcgddmplaaGreatDoor
open Go.ChangeShapes Go.WideShapes Go.ChangeAt Go.RowKit Go.Deep

section
variable {b : Nat} {H : Type} {enc : TypeId × Value → H} {w : World} {spare : Nat → Bool} {held : Bool}
theorem of_cell {p : Addr} {v : Value} (h : w.cell? p = some v) : p.block < w.heap.size := by
  rcases Nat.lt_or_ge p.block w.heap.size with hlt | hge
  · exact hlt
  · simp [World.cell?, Array.getElem?_eq_none hge] at h
def flDat (x : Fl) : DataW H := .agg [.lit (.string x.name.data.toList), .lit (.string x.safe.data.toList), .lit (.string x.tail.data.toList)]
theorem all_mem {P : Program} {e : TypeId} : ∀ {L : List (DataW H)} {d : DataW H} {n : Nat}, d ∈ L → n ∈ d.weights P e → n ∈ DataW.weightsAll P e L
  | x :: L, d, n, hd, hn => by
    simp only [DataW.weightsAll, List.mem_append]
    rcases List.mem_cons.1 hd with rfl | hd
    · exact .inl hn
    · exact .inr (all_mem hd hn)
set_option maxRecDepth 100000 in
theorem elem_file {p : Addr} {cs : List Value} {n : Nat} {d : DataW H} {pl : List MemPlace} (hc : w.cells? 0 p 3 = some cs) (ht : DataW.trod enc Tryz.prog w 0 spare held n 68 cs = some (d, pl)) :
    ∃ x : Fl, (p.block < w.heap.size ∧ w.cell? p = some (.string x.name) ∧ w.cell? ⟨p.block, p.off + 1, none⟩ = some (.string x.safe) ∧ w.cell? ⟨p.block, p.off + 2, none⟩ = some (.string x.tail)) ∧ d = flDat x := by
  obtain ⟨_, hl, hat⟩ := World.cells?_some hc
  obtain ⟨xs, m, _, hx, _, hxl, hf⟩ := DataW.trod_struct Tryz.underlying68 ht
  match cs, hl with
  | [c0, c1, c2], _ =>
    match xs, hxl with
    | [y0, y1, y2], _ =>
      have e2 : Tryz.prog.cellsOf 9 = 1 := by kernel_rfl
      have k0 : DataW.trod enc Tryz.prog w 0 spare held m 9 (([c0, c1, c2].drop 0).take (Tryz.prog.cellsOf 9)) = some y0 := hf 0 _ rfl
      have k1 : DataW.trod enc Tryz.prog w 0 spare held m 9 (([c0, c1, c2].drop 1).take (Tryz.prog.cellsOf 9)) = some y1 := hf 1 _ rfl
      have k2 : DataW.trod enc Tryz.prog w 0 spare held m 9 (([c0, c1, c2].drop 2).take (Tryz.prog.cellsOf 9)) = some y2 := hf 2 _ rfl
      rw [e2] at k0 k1 k2
      obtain ⟨n0, q0, r0, _⟩ := DataW.trod_string Tryz.underlying9 k0
      obtain ⟨n1, q1, r1, _⟩ := DataW.trod_string Tryz.underlying9 k1
      obtain ⟨s, q2, r2, _⟩ := DataW.trod_string Tryz.underlying9 k2
      obtain rfl : c0 = .string n0 := by simpa using q0
      obtain rfl : c1 = .string n1 := by simpa using q1
      obtain rfl : c2 = .string s := by simpa using q2
      have c0 := hat 0 (by omega)
      have c1 := hat 1 (by omega)
      have c2 := hat 2 (by omega)
      rw [add_next p 1 (by omega)] at c1
      rw [add_next p 2 (by omega)] at c2
      have hb : w.cell? ⟨p.block, p.off + 1, none⟩ = some (.string n1) := c1
      refine ⟨⟨n0, n1, s⟩, ⟨of_cell (p := ⟨p.block, p.off + 1, none⟩) hb, ?_, c1, c2⟩, ?_⟩
      · have := c0
        simpa [Addr.add] using this
      · simp only [Prod.mk.injEq] at hx
        rw [hx.1]
        simp only [List.map_cons, List.map_nil, r0, r1, r2, flDat]
set_option maxRecDepth 100000 in
theorem open_disk {r : Reach} {v : Value} {d : DataW H} {pl : List MemPlace} (hv : Value.okWide Tryz.prog w r b 37 v) (h : DataW.Trod enc Tryz.prog w 0 spare held 37 v d pl) :
    ∃ (L : List Fl) (A : Option Addr) (c : Nat) (z : Int), v = .agg (dkArr L A c z) ∧ Fls w w.heap.size A L ∧ L.length ≤ c ∧ (-9223372036854775808 ≤ z ∧ z ≤ 9223372036854775807) ∧
      ((∀ n ∈ d.weights Tryz.prog 37, n ≤ reachBytes) → Sized L ∧ L.length * 48 ≤ 140737488355328) := by
  obtain ⟨cs, rfl, hsz⟩ := okWide_struct Tryz.underlying37 hv
  obtain ⟨fuel, hf⟩ := h
  obtain ⟨xs, m, _, hx, _, hxl, hg⟩ := DataW.trod_struct Tryz.underlying37 hf
  have hC : Tryz.prog.cellsOf 37 = 2 := by kernel_rfl
  obtain ⟨c0, c1, hll⟩ : ∃ c0 c1, cs.toList = [c0, c1] := by
    have h2 : cs.toList.length = 2 := by rw [Array.length_toList, hsz, hC]
    match hcs : cs.toList, h2 with
    | [a, b], _ => exact ⟨a, b, rfl⟩
  have hcs : cs = #[c0, c1] := by rw [← Array.toArray_toList (xs := cs), hll]
  subst hcs
  obtain ⟨y0, y1, rfl⟩ : ∃ y0 y1, xs = [y0, y1] := by
    match xs, hxl with
    | [a, b], _ => exact ⟨a, b, rfl⟩
  have ei : Tryz.prog.cellsOf 3 = 1 := by kernel_rfl
  have ee : Tryz.prog.cellsOf 35 = 1 := by kernel_rfl
  have ec : Tryz.prog.cellsOf 68 = 3 := by kernel_rfl
  have be : Tryz.prog.bytesOf 68 = 48 := by kernel_rfl
  have rb : reachBytes = 140737488351232 := by decide
  have k0 : DataW.trod enc Tryz.prog w 0 spare held m 35 (([c0, c1].drop 0).take (Tryz.prog.cellsOf 35)) = some y0 := hg 0 _ rfl
  have k1 : DataW.trod enc Tryz.prog w 0 spare held m 3 (([c0, c1].drop 1).take (Tryz.prog.cellsOf 3)) = some y1 := hg 1 _ rfl
  rw [ee] at k0
  rw [ei] at k1
  have k0 : DataW.trod enc Tryz.prog w 0 spare held m 35 [c0] = some y0 := k0
  obtain ⟨z, q1, _, hzr⟩ := DataW.trod_int Tryz.underlying3 k1
  obtain rfl : c1 = .int .i64 z := by simpa using q1
  have hm0 : (∀ n ∈ d.weights Tryz.prog 37, n ≤ reachBytes) → ∀ n ∈ y0.1.weights Tryz.prog 35, n ≤ reachBytes := fun hs n hn => by
    refine hs n ?_
    simp only [Prod.mk.injEq] at hx
    rw [hx.1]
    simp only [DataW.weights, Tryz.underlying37]
    exact DataW.weights_mem_each (j := 0) rfl rfl n hn
  have hzz : -9223372036854775808 ≤ z ∧ z ≤ 9223372036854775807 := int_range hzr
  rcases open_slice Tryz.underlying35 k0 with ⟨hcs, _⟩ | ⟨a, len, cap, mm, n, D, Pl, hcs, _, hl, _, hm, hy, hi⟩
  · obtain rfl : c0 = .slice none 0 0 := by simpa using hcs
    exact ⟨[], none, 0, z, rfl, Fls.nil _ _ _, Nat.le_refl _, hzz, fun _ => ⟨fun f hf => by (cases hf), by simp⟩⟩
  · obtain rfl : c0 = .slice (some a) len cap := by simpa using hcs
    have hml : len ≤ mm := by rw [hm]; split <;> omega
    obtain ⟨L, rfl, hL⟩ := choose_list (P := fun i (x : Fl) => ((a.add (i * 3)).block < w.heap.size ∧ w.cell? (a.add (i * 3)) = some (.string x.name) ∧ w.cell? ⟨(a.add (i * 3)).block, (a.add (i * 3)).off + 1, none⟩ = some (.string x.safe) ∧ w.cell? ⟨(a.add (i * 3)).block, (a.add (i * 3)).off + 2, none⟩ = some (.string x.tail)) ∧ D i = flDat x) len (fun i hlt => by
      obtain ⟨cs, hc, ht⟩ := hi i (by omega)
      rw [ec] at hc
      exact elem_file hc ht)
    refine ⟨L, some a, cap, z, rfl, fun k x hx => ⟨a, rfl, (hL k x hx).1⟩, hl, hzz, fun hs => ?_⟩
    have m0 := hm0 hs
    rw [hy] at m0
    refine ⟨fun f hf => ?_, ?_⟩
    · obtain ⟨k, hk, rfl⟩ := List.getElem_of_mem hf
      have hd := (hL k L[k] (List.getElem?_eq_getElem hk)).2
      have hmem : ∀ q, q ∈ (flDat (H := H) L[k]).weights Tryz.prog 68 → q ≤ 140737488351232 := fun q hq => by
        have := m0 q (by
          simp only [DataW.weights, Tryz.underlying35, List.mem_cons, List.mem_append]
          exact .inr (.inl (all_mem (List.mem_map.2 ⟨k, List.mem_range.2 hk, hd⟩) hq)))
        omega
      have e : ∀ s : ByteArray, s.data.toList.length = s.size := fun _ => rfl
      have w1 := hmem L[k].name.size (by simp [flDat, DataW.weights, Tryz.underlying68, DataW.weightsEach])
      have w2 := hmem L[k].safe.size (by simp [flDat, DataW.weights, Tryz.underlying68, DataW.weightsEach])
      have w3 := hmem L[k].tail.size (by simp [flDat, DataW.weights, Tryz.underlying68, DataW.weightsEach])
      exact ⟨by omega, by omega, by omega⟩
    · have := m0 ((((List.range L.length).map D).length + ((List.range (mm - L.length)).map fun j => D (L.length + j)).length) * Tryz.prog.bytesOf 68) (by simp [DataW.weights, Tryz.underlying35])
      rw [be, List.length_map, List.length_range] at this
      omega
/-- the sizes of an argument, off the sizes of all -/
theorem sizes_at {P : Program} {ts : List TypeId} {ds : List (DataW H)} (h : (DataW.weightsEach P ts ds).all (· ≤ reachBytes) = true) {j : Nat} {t : TypeId} {d : DataW H} (ht : ts[j]? = some t) (hd : ds[j]? = some d) : ∀ n ∈ d.weights P t, n ≤ reachBytes := fun n hn => by
  have := List.all_eq_true.1 h n (DataW.weights_mem_each (j := j) ht hd n hn)
  exact of_decide_eq_true this
end
end Go.Proofs.YtmikfmcgddmplaaGreatDoor

/- A map from texts to whatever values that the call has made: its entries, one by one. -/
namespace Go.Proofs.YtmikfmcgddmplaaGreatDoor
open Go.RowKit

abbrev KX := ByteArray × Value
def mkXs : Nat → List KX → List MapEntry
  | _, [] => []
  | i, x :: l => { key := .string x.1, val := x.2, born := i } :: mkXs (i + 1) l
theorem mkXs_at : ∀ (l : List KX) (i q : Nat), (mkXs i l)[q]? = (l[q]?).map fun x => { key := .string x.1, val := x.2, born := i + q }
  | [], i, q => by simp [mkXs]
  | x :: l, i, 0 => by simp [mkXs]
  | x :: l, i, q + 1 => by
    rw [mkXs, List.getElem?_cons_succ, List.getElem?_cons_succ, mkXs_at l (i + 1) q, show i + 1 + q = i + (q + 1) from by omega]
theorem mkXs_len : ∀ (l : List KX) (i : Nat), (mkXs i l).length = l.length
  | [], _ => rfl
  | x :: l, i => by rw [mkXs, List.length_cons, List.length_cons, mkXs_len l]
/-- block b is a map of these entries -/
def MapX (w : World) (b : Nat) (l : List KX) : Prop := w.heap[b]? = some (.map (mkXs 0 l).toArray l.length)
theorem MapX.lt {w : World} {b : Nat} {l : List KX} (h : MapX w b l) : b < w.heap.size := (Array.getElem?_eq_some_iff.1 h).1
theorem MapX.kept {w w' : World} {b : Nat} {l : List KX} {r : Option Nat} (h : MapX w b l) (k : w.grownBy w' r) (hr : some b ≠ r) : MapX w' b l := (k.block b h.lt hr).trans h
theorem MapX.below {w w' : World} {b B : Nat} {l : List KX} (h : MapX w b l) (k : Below B w w') (hb : b < B) : MapX w' b l := (k.block b hb).trans h
theorem MapX.new (w : World) : MapX (w.alloc (.map #[] 0)) w.heap.size [] := heap_alloc_new w _
/-- where a key stands first -/
def posX (k : ByteArray) : List KX → Option Nat
  | [] => none
  | x :: l => if k = x.1 then some 0 else (posX k l).map (· + 1)
def upX (k : ByteArray) (v : Value) (l : List KX) : List KX := match posX k l with
  | none => l ++ [(k, v)]
  | some p => l.set p (k, v)
theorem posX_at : ∀ (k : ByteArray) (l : List KX) (p : Nat), posX k l = some p → ∃ v, l[p]? = some (k, v)
  | k, [], p, h => by cases h
  | k, x :: l, p, h => by
    rw [posX] at h
    split at h
    · rename_i e
      cases h
      exact ⟨x.2, by rw [e]; rfl⟩
    · obtain ⟨q, hq, rfl⟩ := Option.map_eq_some_iff.1 h
      obtain ⟨v, hv⟩ := posX_at k l q hq
      exact ⟨v, by rw [List.getElem?_cons_succ]; exact hv⟩
theorem findX_mk (k : ByteArray) : ∀ (l : List KX) (i j : Nat), Instr.findNow .string (.string k) (mkXs i l) j = some ((posX k l).map fun p => (j + p, (l.getD p (k, undef)).2))
  | [], i, j => rfl
  | x :: l, i, j => by
    rw [mkXs, Instr.findNow, Instr.sameNow, beq_bytes, posX]
    by_cases e : k = x.1
    · rw [decide_eq_true e, if_pos e]
      simp
    · rw [decide_eq_false e, if_neg e]
      simp only
      rw [findX_mk k l (i + 1) (j + 1)]
      congr 1
      cases posX k l with
      | none => rfl
      | some p =>
        simp only [Option.map_some, List.getD_cons_succ]
        rw [show j + 1 + p = j + (p + 1) from by omega]
theorem mkX_push (l : List KX) (k : ByteArray) (v : Value) : mkXs 0 l ++ [{ key := .string k, val := v, born := l.length }] = mkXs 0 (l ++ [(k, v)]) := by
  apply List.ext_getElem?
  intro q
  rw [mkXs_at]
  rcases Nat.lt_trichotomy q l.length with h | h | h
  · rw [List.getElem?_append_left (by rw [mkXs_len]; exact h), List.getElem?_append_left h, mkXs_at]
  · subst h
    rw [List.getElem?_append_right (by rw [mkXs_len]; exact Nat.le_refl _), List.getElem?_append_right (Nat.le_refl _), mkXs_len]
    simp
  · rw [List.getElem?_eq_none (by rw [List.length_append, mkXs_len]; simp; omega), List.getElem?_eq_none (by rw [List.length_append]; simp; omega)]
    rfl
theorem mkX_set (l : List KX) (p : Nat) (k : ByteArray) (v u : Value) (hp : l[p]? = some (k, u)) :
    (mkXs 0 l).modify p (fun e => { key := .string k, val := v, born := e.born }) = mkXs 0 (l.set p (k, v)) := by
  apply List.ext_getElem?
  intro q
  rw [List.getElem?_modify, mkXs_at, mkXs_at, List.getElem?_set]
  by_cases e : p = q
  · subst e
    rw [if_pos rfl, if_pos (List.getElem?_eq_some_iff.1 hp).1, hp]
    simp
  · rw [if_neg e]
    simp [e]
theorem run_upX {mt et : TypeId} (hu : Tryz.prog.underlying mt = some (.map 9 et)) {w : World} {b : Nat} {l : List KX} (h : MapX w b l) (k : ByteArray) (v : Value) :
    ∃ w', (Instr.mapUpdate mt (.map (some b)) (.string k) v).run Tryz.prog w = .ok () w' ∧ MapX w' b (upX k v l) ∧ w.grownBy w' (some b) := by
  have hk : MapKept.IsKey .string (.string k) := trivial
  have hf := findX_mk k l 0 0
  unfold upX
  cases hp : posX k l with
  | none =>
    rw [hp] at hf
    refine ⟨_, ?_, ?_, gb_map (o := .map (mkXs 0 (l ++ [(k, v)])).toArray (l.length + 1))⟩
    · simp [Instr.mapUpdate, run_underlying hu, MapKept.run_getObj_map h, MapKept.run_checkKey Tryz.underlying9 hk, MapKept.run_findKey Tryz.underlying9 hf, MapKept.run_setObj_map _ h, Result.andThen, mkX_push]
    · unfold MapX
      rw [(MapKept.heap_set h).1, List.length_append]
      rfl
  | some p =>
    rw [hp] at hf
    obtain ⟨u, hu'⟩ := posX_at k l p hp
    have hj : (mkXs 0 l)[p]? = some { key := .string k, val := u, born := 0 + p } := by rw [mkXs_at, hu']; rfl
    refine ⟨_, ?_, ?_, gb_map (o := .map (mkXs 0 (l.set p (k, v))).toArray l.length)⟩
    · rw [Option.map_some, Nat.zero_add] at hf
      simp [Instr.mapUpdate, run_underlying hu, MapKept.run_getObj_map h, MapKept.run_checkKey Tryz.underlying9 hk, MapKept.run_findKey Tryz.underlying9 hf, hj, MapKept.run_keyThatStays hk, MapKept.run_setObj_map _ h, Result.andThen, mkX_set l p k v u hu']
    · unfold MapX
      rw [(MapKept.heap_set h).1, List.length_set]
/-- what a look-up answers -/
def lookX (z : Value) (k : ByteArray) (l : List KX) : Value := match posX k l with
  | none => .tuple #[z, .bool false]
  | some p => .tuple #[(l.getD p (k, undef)).2, .bool true]
theorem run_lookX {mt et : TypeId} (hu : Tryz.prog.underlying mt = some (.map 9 et)) {z : Value} (hz : ∀ w, (zeroValue et).run Tryz.prog w = .ok z w) {w : World} {b : Nat} {l : List KX} (h : MapX w b l) (k : ByteArray) :
    (Instr.lookup mt (.map (some b)) (.string k) true).run Tryz.prog w = .ok (lookX z k l) w := by
  have hk : MapKept.IsKey .string (.string k) := trivial
  have hf := findX_mk k l 0 0
  unfold lookX
  cases hp : posX k l with
  | none =>
    rw [hp] at hf
    simp [Instr.lookup, run_underlying hu, MapKept.run_getObj_map h, MapKept.run_checkKey Tryz.underlying9 hk, MapKept.run_findKey Tryz.underlying9 hf, Result.andThen, hz]
  | some p =>
    rw [hp] at hf
    simp [Instr.lookup, run_underlying hu, MapKept.run_getObj_map h, MapKept.run_checkKey Tryz.underlying9 hk, MapKept.run_findKey Tryz.underlying9 hf, Result.andThen]
section
variable {w : World} {ops : Array Oper} {rest : List Oper} {o : Oper} {a : Act} {Q : Exit → Act → World → Prop}
/-- a store, at the operation -/
theorem wpList_upX {mt et : TypeId} (hu : Tryz.prog.underlying mt = some (.map 9 et)) (hg : o.guard = none) (m x v : Operand) (hop : o.op = Op.mapUpdate mt m x v ∨ o.op = Op.insert mt m x v) (b : Nat) (l : List KX) (hb : MapX w b l)
    (hm : a.eval m = .map (some b)) (k : ByteArray) (u : Value) (hx : a.eval x = .string k) (hv : a.eval v = u)
    (hK : ∀ w', MapX w' b (upX k u l) → w.grownBy w' (some b) → wpList Tryz.prog ops Q rest (a.put o.dst undef) w') : wpList Tryz.prog ops Q (o :: rest) a w := by
  refine wpList_plain hg fun K' hK' => ?_
  obtain ⟨w', hrun, r1, r2⟩ := run_upX hu hb k u
  unfold Oper.wp
  rcases hop with hop | hop
  · simp [execOp, hop, hm, hx, hv, hrun, Result.andThen]
    exact hK' _ _ (hK w' r1 r2)
  · simp [execOp, hop, hm, hx, hv, hrun, Result.andThen]
    exact hK' _ _ (hK w' r1 r2)
end
/-- the keys of a map are these texts -/
def KeyX (M : List KX) (T : List ByteArray) : Prop := ∀ k, (posX k M).isSome = true ↔ k ∈ T
theorem posX_push (k x : ByteArray) (v : Value) : ∀ M : List KX, (posX k (M ++ [(x, v)])).isSome = ((posX k M).isSome || decide (k = x))
  | [] => by
    simp only [posX, List.nil_append, Option.isSome_none, Bool.false_or]
    by_cases h : k = x
    · simp [h]
    · simp [h]
  | y :: M => by
    have := posX_push k x v M
    simp only [posX, List.cons_append]
    by_cases h : k = y.1
    · simp [h]
    · simp only [if_neg h, Option.isSome_map]
      exact this
theorem keyX_push {M : List KX} {T : List ByteArray} (h : KeyX M T) (s : ByteArray) (v : Value) : KeyX (M ++ [(s, v)]) (T ++ [s]) := fun k => by
  rw [posX_push, Bool.or_eq_true, h k, List.mem_append, List.mem_singleton, decide_eq_true_iff]
theorem keyX_nil : KeyX [] [] := fun k => by simp [posX]
theorem mapX_arr {w : World} {g g' : Nat} {t : TypeId} {cs : Array Value} {l : List KX} (h : MapX w g l) (h' : Arr w g' t cs) : g ≠ g' := fun e => by
  subst e
  have := h.symm.trans h'
  cases this
theorem own_mapX {w : World} {base : Nat} {e : TypeId} {size g : Nat} {v : Value} {n : Nat} {xs : List Value} {l : List KX} (h : w.ownsRow base e size v n xs) (h' : MapX w g l) : v.ownBlock ≠ some g := fun q => by
  rcases h.2 with ⟨rfl, _⟩ | ⟨k, cap, cur, rfl, _, hg, _⟩
  · cases q
  · cases q
    have := hg.symm.trans h'
    cases this
end Go.Proofs.YtmikfmcgddmplaaGreatDoor
