/- An argument that is a disk, opened: what it holds, how large it may be. -/
import Derived.Test.YtnijnphalhfabaaLists
import Derived.Test.YtnijnphalhfabaaDkGood
import Derived.Deep.Slices
import Derived.Deep.Fields
namespace Go.Proofs.Ytnijnphalhfabaa
open Go.ChangeShapes Go.WideShapes Go.ChangeAt Go.RowKit Go.Deep

section
variable {b : Nat} {H : Type} {enc : TypeId × Value → H} {w : World} {spare : Nat → Bool} {held : Bool}
theorem of_cell {p : Addr} {v : Value} (h : w.cell? p = some v) : p.block < w.heap.size := by
  rcases Nat.lt_or_ge p.block w.heap.size with hlt | hge
  · exact hlt
  · simp [World.cell?, Array.getElem?_eq_none hge] at h
def flDat (x : Fl) : DataW H := .agg [.lit (.string x.name.data.toList), .lit (.string x.safe.data.toList), .lit (.string x.tail.data.toList)]
theorem all_mem {P : Program} {e : TypeId} : ∀ {L : List (DataW H)} {d : DataW H} {n : Nat}, d ∈ L → n ∈ d.weights P e → n ∈ DataW.weightsAll P e L
  | x :: L, d, n, hd, hn => by
    simp only [DataW.weightsAll, List.mem_append]
    rcases List.mem_cons.1 hd with rfl | hd
    · exact .inl hn
    · exact .inr (all_mem hd hn)
set_option maxRecDepth 100000 in
theorem elem_file {p : Addr} {cs : List Value} {n : Nat} {d : DataW H} {pl : List MemPlace} (hc : w.cells? 0 p 3 = some cs) (ht : DataW.trod enc Try.prog w 0 spare held n 50 cs = some (d, pl)) :
    ∃ x : Fl, (p.block < w.heap.size ∧ w.cell? p = some (.string x.name) ∧ w.cell? ⟨p.block, p.off + 1, none⟩ = some (.string x.safe) ∧ w.cell? ⟨p.block, p.off + 2, none⟩ = some (.string x.tail)) ∧ d = flDat x := by
  obtain ⟨_, hl, hat⟩ := World.cells?_some hc
  obtain ⟨xs, m, _, hx, _, hxl, hf⟩ := DataW.trod_struct Try.underlying50 ht
  match cs, hl with
  | [c0, c1, c2], _ =>
    match xs, hxl with
    | [y0, y1, y2], _ =>
      have e2 : Try.prog.cellsOf 9 = 1 := by kernel_rfl
      have k0 : DataW.trod enc Try.prog w 0 spare held m 9 (([c0, c1, c2].drop 0).take (Try.prog.cellsOf 9)) = some y0 := hf 0 _ rfl
      have k1 : DataW.trod enc Try.prog w 0 spare held m 9 (([c0, c1, c2].drop 1).take (Try.prog.cellsOf 9)) = some y1 := hf 1 _ rfl
      have k2 : DataW.trod enc Try.prog w 0 spare held m 9 (([c0, c1, c2].drop 2).take (Try.prog.cellsOf 9)) = some y2 := hf 2 _ rfl
      rw [e2] at k0 k1 k2
      obtain ⟨n0, q0, r0, _⟩ := DataW.trod_string Try.underlying9 k0
      obtain ⟨n1, q1, r1, _⟩ := DataW.trod_string Try.underlying9 k1
      obtain ⟨s, q2, r2, _⟩ := DataW.trod_string Try.underlying9 k2
      obtain rfl : c0 = .string n0 := by simpa using q0
      obtain rfl : c1 = .string n1 := by simpa using q1
      obtain rfl : c2 = .string s := by simpa using q2
      have c0 := hat 0 (by omega)
      have c1 := hat 1 (by omega)
      have c2 := hat 2 (by omega)
      rw [add_next p 1 (by omega)] at c1
      rw [add_next p 2 (by omega)] at c2
      have hb : w.cell? ⟨p.block, p.off + 1, none⟩ = some (.string n1) := c1
      refine ⟨⟨n0, n1, s⟩, ⟨of_cell (p := ⟨p.block, p.off + 1, none⟩) hb, ?_, c1, c2⟩, ?_⟩
      · have := c0
        simpa [Addr.add] using this
      · simp only [Prod.mk.injEq] at hx
        rw [hx.1]
        simp only [List.map_cons, List.map_nil, r0, r1, r2, flDat]
set_option maxRecDepth 100000 in
theorem open_disk {r : Reach} {v : Value} {d : DataW H} {pl : List MemPlace} (hv : Value.okWide Try.prog w r b 24 v) (h : DataW.Trod enc Try.prog w 0 spare held 24 v d pl) :
    ∃ (L : List Fl) (A : Option Addr) (c : Nat) (z : Int), v = .agg (dkArr L A c z) ∧ Fls w w.heap.size A L ∧ L.length ≤ c ∧ (-9223372036854775808 ≤ z ∧ z ≤ 9223372036854775807) ∧
      ((∀ n ∈ d.weights Try.prog 24, n ≤ reachBytes) → Sized L ∧ L.length * 48 ≤ 140737488355328) := by
  obtain ⟨cs, rfl, hsz⟩ := okWide_struct Try.underlying24 hv
  obtain ⟨fuel, hf⟩ := h
  obtain ⟨xs, m, _, hx, _, hxl, hg⟩ := DataW.trod_struct Try.underlying24 hf
  have hC : Try.prog.cellsOf 24 = 2 := by kernel_rfl
  obtain ⟨c0, c1, hll⟩ : ∃ c0 c1, cs.toList = [c0, c1] := by
    have h2 : cs.toList.length = 2 := by rw [Array.length_toList, hsz, hC]
    match hcs : cs.toList, h2 with
    | [a, b], _ => exact ⟨a, b, rfl⟩
  have hcs : cs = #[c0, c1] := by rw [← Array.toArray_toList (xs := cs), hll]
  subst hcs
  obtain ⟨y0, y1, rfl⟩ : ∃ y0 y1, xs = [y0, y1] := by
    match xs, hxl with
    | [a, b], _ => exact ⟨a, b, rfl⟩
  have ei : Try.prog.cellsOf 3 = 1 := by kernel_rfl
  have ee : Try.prog.cellsOf 22 = 1 := by kernel_rfl
  have ec : Try.prog.cellsOf 50 = 3 := by kernel_rfl
  have be : Try.prog.bytesOf 50 = 48 := by kernel_rfl
  have rb : reachBytes = 140737488351232 := by decide
  have k0 : DataW.trod enc Try.prog w 0 spare held m 22 (([c0, c1].drop 0).take (Try.prog.cellsOf 22)) = some y0 := hg 0 _ rfl
  have k1 : DataW.trod enc Try.prog w 0 spare held m 3 (([c0, c1].drop 1).take (Try.prog.cellsOf 3)) = some y1 := hg 1 _ rfl
  rw [ee] at k0
  rw [ei] at k1
  have k0 : DataW.trod enc Try.prog w 0 spare held m 22 [c0] = some y0 := k0
  obtain ⟨z, q1, _, hzr⟩ := DataW.trod_int Try.underlying3 k1
  obtain rfl : c1 = .int .i64 z := by simpa using q1
  have hm0 : (∀ n ∈ d.weights Try.prog 24, n ≤ reachBytes) → ∀ n ∈ y0.1.weights Try.prog 22, n ≤ reachBytes := fun hs n hn => by
    refine hs n ?_
    simp only [Prod.mk.injEq] at hx
    rw [hx.1]
    simp only [DataW.weights, Try.underlying24]
    exact DataW.weights_mem_each (j := 0) rfl rfl n hn
  have hzz : -9223372036854775808 ≤ z ∧ z ≤ 9223372036854775807 := int_range hzr
  rcases open_slice Try.underlying22 k0 with ⟨hcs, _⟩ | ⟨a, len, cap, mm, n, D, Pl, hcs, _, hl, _, hm, hy, hi⟩
  · obtain rfl : c0 = .slice none 0 0 := by simpa using hcs
    exact ⟨[], none, 0, z, rfl, Fls.nil _ _ _, Nat.le_refl _, hzz, fun _ => ⟨fun f hf => by (cases hf), by simp⟩⟩
  · obtain rfl : c0 = .slice (some a) len cap := by simpa using hcs
    have hml : len ≤ mm := by rw [hm]; split <;> omega
    obtain ⟨L, rfl, hL⟩ := choose_list (P := fun i (x : Fl) => ((a.add (i * 3)).block < w.heap.size ∧ w.cell? (a.add (i * 3)) = some (.string x.name) ∧ w.cell? ⟨(a.add (i * 3)).block, (a.add (i * 3)).off + 1, none⟩ = some (.string x.safe) ∧ w.cell? ⟨(a.add (i * 3)).block, (a.add (i * 3)).off + 2, none⟩ = some (.string x.tail)) ∧ D i = flDat x) len (fun i hlt => by
      obtain ⟨cs, hc, ht⟩ := hi i (by omega)
      rw [ec] at hc
      exact elem_file hc ht)
    refine ⟨L, some a, cap, z, rfl, fun k x hx => ⟨a, rfl, (hL k x hx).1⟩, hl, hzz, fun hs => ?_⟩
    have m0 := hm0 hs
    rw [hy] at m0
    refine ⟨fun f hf => ?_, ?_⟩
    · obtain ⟨k, hk, rfl⟩ := List.getElem_of_mem hf
      have hd := (hL k L[k] (List.getElem?_eq_getElem hk)).2
      have hmem : ∀ q, q ∈ (flDat (H := H) L[k]).weights Try.prog 50 → q ≤ 140737488351232 := fun q hq => by
        have := m0 q (by
          simp only [DataW.weights, Try.underlying22, List.mem_cons, List.mem_append]
          exact .inr (.inl (all_mem (List.mem_map.2 ⟨k, List.mem_range.2 hk, hd⟩) hq)))
        omega
      have e : ∀ s : ByteArray, s.data.toList.length = s.size := fun _ => rfl
      have w1 := hmem L[k].name.size (by simp [flDat, DataW.weights, Try.underlying50, DataW.weightsEach])
      have w2 := hmem L[k].safe.size (by simp [flDat, DataW.weights, Try.underlying50, DataW.weightsEach])
      have w3 := hmem L[k].tail.size (by simp [flDat, DataW.weights, Try.underlying50, DataW.weightsEach])
      exact ⟨by omega, by omega, by omega⟩
    · have := m0 ((((List.range L.length).map D).length + ((List.range (mm - L.length)).map fun j => D (L.length + j)).length) * Try.prog.bytesOf 50) (by simp [DataW.weights, Try.underlying22])
      rw [be, List.length_map, List.length_range] at this
      omega
/-- the sizes of an argument, off the sizes of all -/
theorem sizes_at {P : Program} {ts : List TypeId} {ds : List (DataW H)} (h : (DataW.weightsEach P ts ds).all (· ≤ reachBytes) = true) {j : Nat} {t : TypeId} {d : DataW H} (ht : ts[j]? = some t) (hd : ds[j]? = some d) : ∀ n ∈ d.weights P t, n ≤ reachBytes := fun n hn => by
  have := List.all_eq_true.1 h n (DataW.weights_mem_each (j := j) ht hd n hn)
  exact of_decide_eq_true this
end
end Go.Proofs.Ytnijnphalhfabaa
