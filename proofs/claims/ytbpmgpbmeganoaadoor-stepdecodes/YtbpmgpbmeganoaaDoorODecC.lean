/- Texts in one: RfOpen, ODecC. -/
import Derived.Test.YtbpmgpbmeganoaaDoorRfMem
import Derived.Test.YtbpmgpbmeganoaaDoorWLaw
import Derived.Test.YtbpmgpbmeganoaaDoorWOpen
import Derived.Test.YtbpmgpbmeganoaaDoorODecB
/- An argument that is a list of refs, opened: what it holds, how large it may be. -/
namespace Go.Proofs.YtbpmgpbmeganoaaDoor
open Go.ChangeShapes Go.WideShapes Go.ChangeAt Go.RowKit Go.Deep

section
variable {b : Nat} {H : Type} {enc : TypeId × Value → H} {w : World} {spare : Nat → Bool} {held : Bool}
def rfDat (x : Rf) : DataW H := .agg [.lit (.string x.name.data.toList), .lit (.string x.id.data.toList)]
set_option maxRecDepth 100000 in
theorem elem_ref {p : Addr} {cs : List Value} {n : Nat} {d : DataW H} {pl : List MemPlace} (hc : w.cells? 0 p 2 = some cs) (ht : DataW.trod enc Tryd.prog w 0 spare held n 89 cs = some (d, pl)) :
    ∃ x : Rf, (p.block < w.heap.size ∧ w.cell? p = some (.string x.name) ∧ w.cell? ⟨p.block, p.off + 1, none⟩ = some (.string x.id)) ∧ d = rfDat x := by
  obtain ⟨_, hl, hat⟩ := World.cells?_some hc
  obtain ⟨xs, m, _, hx, _, hxl, hf⟩ := DataW.trod_struct Tryd.underlying89 ht
  match cs, hl with
  | [c0, c1], _ =>
    match xs, hxl with
    | [y0, y1], _ =>
      have e2 : Tryd.prog.cellsOf 9 = 1 := by kernel_rfl
      have k0 : DataW.trod enc Tryd.prog w 0 spare held m 9 (([c0, c1].drop 0).take (Tryd.prog.cellsOf 9)) = some y0 := hf 0 _ rfl
      have k1 : DataW.trod enc Tryd.prog w 0 spare held m 9 (([c0, c1].drop 1).take (Tryd.prog.cellsOf 9)) = some y1 := hf 1 _ rfl
      rw [e2] at k0 k1
      obtain ⟨n0, q0, r0, _⟩ := DataW.trod_string Tryd.underlying9 k0
      obtain ⟨n1, q1, r1, _⟩ := DataW.trod_string Tryd.underlying9 k1
      obtain rfl : c0 = .string n0 := by simpa using q0
      obtain rfl : c1 = .string n1 := by simpa using q1
      have c0 := hat 0 (by omega)
      have c1 := hat 1 (by omega)
      rw [add_next p 1 (by omega)] at c1
      have hb : w.cell? ⟨p.block, p.off + 1, none⟩ = some (.string n1) := c1
      refine ⟨⟨n0, n1⟩, ⟨of_cell (p := ⟨p.block, p.off + 1, none⟩) hb, ?_, c1⟩, ?_⟩
      · have := c0
        simpa [Addr.add] using this
      · simp only [Prod.mk.injEq] at hx
        rw [hx.1]
        simp only [List.map_cons, List.map_nil, r0, r1, rfDat]
set_option maxRecDepth 100000 in
theorem open_refs {r : Reach} {v : Value} {d : DataW H} {pl : List MemPlace} (hv : Value.okWide Tryd.prog w r b 46 v) (h : DataW.Trod enc Tryd.prog w 0 spare held 46 v d pl) :
    ∃ (L : List Rf) (A : Option Addr) (c : Nat), v = .slice A L.length c ∧ Rfs w w.heap.size A L ∧ L.length ≤ c ∧
      ((∀ n ∈ d.weights Tryd.prog 46, n ≤ reachBytes) → SizedR L ∧ L.length * 32 ≤ 140737488355328) := by
  obtain ⟨a0, len0, cap0, rfl⟩ := okWide_slice Tryd.underlying46 hv
  obtain ⟨fuel, hf⟩ := h
  have ec : Tryd.prog.cellsOf 89 = 2 := by kernel_rfl
  have be : Tryd.prog.bytesOf 89 = 32 := by kernel_rfl
  have rb : reachBytes = 140737488351232 := by decide
  rcases open_slice Tryd.underlying46 hf with ⟨hcs, hx⟩ | ⟨a, len, cap, mm, n, D, Pl, hcs, _, hl, _, hm, hy, hi⟩
  · simp only [Value.cells, List.cons.injEq, Value.slice.injEq, and_true] at hcs
    obtain ⟨rfl, rfl, rfl⟩ := hcs
    exact ⟨[], none, 0, rfl, Rfs.nil _ _ _, Nat.le_refl _, fun _ => ⟨fun f hf => (by cases hf), by simp⟩⟩
  · simp only [Value.cells, List.cons.injEq, Value.slice.injEq, and_true] at hcs
    obtain ⟨rfl, rfl, rfl⟩ := hcs
    have hml : len0 ≤ mm := by rw [hm]; split <;> omega
    obtain ⟨L, rfl, hL⟩ := choose_list (P := fun i (x : Rf) => ((a.add (i * 2)).block < w.heap.size ∧ w.cell? (a.add (i * 2)) = some (.string x.name) ∧ w.cell? ⟨(a.add (i * 2)).block, (a.add (i * 2)).off + 1, none⟩ = some (.string x.id)) ∧ D i = rfDat x) len0 (fun i hlt => by
      obtain ⟨cs, hc, ht⟩ := hi i (by omega)
      rw [ec] at hc
      exact elem_ref hc ht)
    refine ⟨L, some a, cap0, rfl, fun k x hx => ⟨a, rfl, (hL k x hx).1⟩, hl, fun hs => ?_⟩
    simp only [Prod.mk.injEq] at hy
    rw [hy.1] at hs
    refine ⟨fun f hf => ?_, ?_⟩
    · obtain ⟨k, hk, rfl⟩ := List.getElem_of_mem hf
      have hd := (hL k L[k] (List.getElem?_eq_getElem hk)).2
      have hmem : ∀ q, q ∈ (rfDat (H := H) L[k]).weights Tryd.prog 89 → q ≤ 140737488351232 := fun q hq => by
        have := hs q (by
          simp only [DataW.weights, Tryd.underlying46, List.mem_cons, List.mem_append]
          exact .inr (.inl (all_mem (List.mem_map.2 ⟨k, List.mem_range.2 hk, hd⟩) hq)))
        omega
      have e : ∀ s : ByteArray, s.data.toList.length = s.size := fun _ => rfl
      have w1 := hmem L[k].name.size (by simp [rfDat, DataW.weights, Tryd.underlying89, DataW.weightsEach])
      have w2 := hmem L[k].id.size (by simp [rfDat, DataW.weights, Tryd.underlying89, DataW.weightsEach])
      exact ⟨by omega, by omega⟩
    · have := hs ((((List.range L.length).map D).length + ((List.range (mm - L.length)).map fun j => D (L.length + j)).length) * Tryd.prog.bytesOf 89) (by simp [DataW.weights, Tryd.underlying46])
      rw [be, List.length_map, List.length_range] at this
      omega
end
end Go.Proofs.YtbpmgpbmeganoaaDoor

/- Reading entries. -/
namespace Go.Proofs.YtbpmgpbmeganoaaDoor
open Go.RowKit

theorem rdNum_len {l r : List UInt8} {n : Nat} (h : rdNum l = some (n, r)) : r.length ≤ l.length := by
  unfold rdNum at h
  cases hg : got l with
  | none => simp [hg] at h
  | some y =>
    simp [hg] at h
    rw [← h.2, List.length_drop]; omega
theorem rdText_len {l r : List UInt8} {t : ByteArray} (h : rdText l = some (t, r)) : r.length ≤ l.length := by
  unfold rdText at h
  cases hg : rdNum l with
  | none => simp [hg] at h
  | some y =>
    obtain ⟨n, r1⟩ := y
    simp only [hg] at h
    have := rdNum_len hg
    split at h
    · simp only [Option.some.injEq, Prod.mk.injEq] at h
      rw [← h.2, List.length_drop]; omega
    · cases h
theorem rdEnt_len {l r : List UInt8} {e : Ent} (h : rdEnt l = some (e, r)) : r.length + 32 ≤ l.length := by
  unfold rdEnt at h
  cases h1 : rdText l with
  | none => simp [h1] at h
  | some y1 =>
    obtain ⟨nm, l1⟩ := y1
    simp only [h1] at h
    cases h2 : rdNum l1 with
    | none => simp [h2] at h
    | some y2 =>
      obtain ⟨d, l2⟩ := y2
      simp only [h2] at h
      cases h3 : rdId l2 with
      | none => simp [h3] at h
      | some y3 =>
        obtain ⟨id, l3⟩ := y3
        simp only [h3] at h
        have a1 := rdText_len h1
        have a2 := rdNum_len h2
        have a3 := rdId_len h3
        split at h
        · cases h
        · simp only [Option.some.injEq, Prod.mk.injEq] at h
          rw [← h.2]; omega
/-- an entry by the reader's states -/
theorem ent_chain (lc : List UInt8) : rdEnt lc = match (stId (stNum (stTxt (some lc)).2).2).2 with
    | none => none
    | some r => if 1 < (stNum (stTxt (some lc)).2).1 then none else some (⟨(stTxt (some lc)).1, (stNum (stTxt (some lc)).2).1 == 1, (stId (stNum (stTxt (some lc)).2).2).1⟩, r) := by
  unfold rdEnt
  cases h1 : rdText lc with
  | none => simp [h1, stTxt, stNum, stId]
  | some y1 =>
    obtain ⟨nm, l1⟩ := y1
    cases h2 : rdNum l1 with
    | none => simp [h1, h2, stTxt, stNum, stId]
    | some y2 =>
      obtain ⟨d, l2⟩ := y2
      cases h3 : rdId l2 with
      | none => simp [h1, h2, h3, stTxt, stNum, stId]
      | some y3 =>
        obtain ⟨id, l3⟩ := y3
        simp [h1, h2, h3, stTxt, stNum, stId]
def rdEntsS (st : St) : Option (List Ent × List UInt8) :=
  match (stNum st).2 with
  | none => none
  | some l => rdEnts (stNum st).1 l
theorem ents_done {n : Nat} {l0 lc : List UInt8} {T : List Ent} (h : rdEnts n l0 = match rdEnts (n - T.length) lc with | none => none | some (T2, r) => some (T ++ T2, r)) (hn : ¬ T.length < n) : rdEnts n l0 = some (T, lc) := by
  rw [h, show n - T.length = 0 from by omega, rdEnts]
  simp
theorem ents_bad {n : Nat} {l0 lc : List UInt8} {T : List Ent} (h : rdEnts n l0 = match rdEnts (n - T.length) lc with | none => none | some (T2, r) => some (T ++ T2, r)) (hn : T.length < n) (hr : rdEnt lc = none) : rdEnts n l0 = none := by
  rw [h, show n - T.length = (n - T.length - 1) + 1 from by omega, rdEnts]
  simp [hr]
theorem ents_more {n : Nat} {l0 lc r : List UInt8} {p : Ent} {T : List Ent} (h : rdEnts n l0 = match rdEnts (n - T.length) lc with | none => none | some (T2, r) => some (T ++ T2, r)) (hn : T.length < n) (hr : rdEnt lc = some (p, r)) :
    rdEnts n l0 = match rdEnts (n - (T ++ [p]).length) r with | none => none | some (T2, r) => some ((T ++ [p]) ++ T2, r) := by
  rw [h, show n - T.length = (n - (T ++ [p]).length) + 1 from by rw [List.length_append]; simp; omega, rdEnts]
  simp only [hr]
  cases rdEnts (n - (T ++ [p]).length) r <;> simp
/-- behind readEntries: the entries, or an error -/
def EEnd (g : Nat) (w : World) (res : Option (List Ent × List UInt8)) (x : Ending) (w' : World) : Prop :=
  ∃ A c L ok, x = .returned (.tuple #[.slice A (List.length L) c, .bool ok]) ∧ (Ens w' w'.heap.size A L ∧ ∀ ad, A = some ad → w.heap.size ≤ ad.block) ∧ w.grownBy w' (some g) ∧
    ((∃ r, res = some (L, r) ∧ ok = true ∧ RS w' g (some r)) ∨ (res = none ∧ ∃ st', RS w' g st' ∧ (ok = false ∨ st' = none)))

end Go.Proofs.YtbpmgpbmeganoaaDoor
