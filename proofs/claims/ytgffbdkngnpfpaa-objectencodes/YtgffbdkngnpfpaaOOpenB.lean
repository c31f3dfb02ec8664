/- An argument that is an object: how large it may be. -/
import Derived.Test.YtgffbdkngnpfpaaOOpen
namespace Go.Proofs.Ytgffbdkngnpfpaa
open Go.ChangeShapes Go.WideShapes Go.ChangeAt Go.RowKit Go.Deep

section
variable {b : Nat} {H : Type} {enc : TypeId × Value → H} {w : World} {spare : Nat → Bool} {held : Bool}
theorem weightsAll_mem {P : Program} {e : TypeId} : ∀ {L : List (DataW H)} {d : DataW H} {n : Nat}, d ∈ L → n ∈ d.weights P e → n ∈ DataW.weightsAll P e L
  | x :: L, d, n, hd, hn => by
    simp only [DataW.weightsAll, List.mem_append]
    rcases List.mem_cons.1 hd with rfl | hd
    · exact .inl hn
    · exact .inr (weightsAll_mem hd hn)
set_option maxRecDepth 100000 in
/-- an entry's name is no longer than its datum says -/
theorem ent_size {p : Addr} {cs : List Value} {n : Nat} {d : DataW H} {pl : List MemPlace} (hc : w.cells? 0 p 3 = some cs) (ht : DataW.trod enc Try.prog w 0 spare held n 51 cs = some (d, pl)) {s : ByteArray} (hs : w.cell? p = some (.string s)) :
    s.size ∈ d.weights Try.prog 51 := by
  obtain ⟨_, hl, hat⟩ := World.cells?_some hc
  obtain ⟨xs, m, _, hx, _, hxl, hf⟩ := DataW.trod_struct Try.underlying51 ht
  match cs, hl with
  | [c0, c1, c2], _ =>
    match xs, hxl with
    | [y0, y1, y2], _ =>
      have e2 : Try.prog.cellsOf 9 = 1 := by kernel_rfl
      have k0 : DataW.trod enc Try.prog w 0 spare held m 9 (([c0, c1, c2].drop 0).take (Try.prog.cellsOf 9)) = some y0 := hf 0 _ rfl
      rw [e2] at k0
      obtain ⟨n0, q0, q1, _⟩ := DataW.trod_string Try.underlying9 k0
      obtain rfl : c0 = .string n0 := by simpa using q0
      have c0 := hat 0 (by omega)
      have c1 : w.cell? p = some (.string n0) := by simpa [Addr.add] using c0
      rw [hs] at c1
      simp only [Option.some.injEq, Value.string.injEq] at c1
      subst c1
      simp only [Prod.mk.injEq] at hx
      rw [hx.1]
      simp only [List.map_cons, List.map_nil, q1, DataW.weights, Try.underlying51, DataW.weightsEach, List.mem_append]
      left
      simp
set_option maxRecDepth 100000 in
theorem object_sizes {d : DataW H} {pl : List MemPlace} {o : Ob} {p : At} (h : DataW.Trod enc Try.prog w 0 spare held 25 (.agg (obArr o p)) d pl) (hI : ObIn w w.heap.size o p)
    (hs : ∀ n ∈ d.weights Try.prog 25, n ≤ reachBytes) :
    o.ents.length * 40 ≤ 140737488351232 ∧ o.pars.length * 16 ≤ 140737488351232 ∧ ∀ e ∈ o.ents, e.name.size ≤ 140737488351232 := by
  obtain ⟨fuel, hf⟩ := h
  obtain ⟨xs, m, _, hx, _, hxl, hg⟩ := DataW.trod_struct Try.underlying25 hf
  obtain ⟨y0, y1, y2, y3, y4, y5, y6, y7, y8, rfl⟩ := nine (l := xs) hxl
  have ee : Try.prog.cellsOf 22 = 1 := by kernel_rfl
  have ep : Try.prog.cellsOf 23 = 1 := by kernel_rfl
  have be : Try.prog.bytesOf 51 = 40 := by kernel_rfl
  have bp : Try.prog.bytesOf 9 = 16 := by kernel_rfl
  have ec : Try.prog.cellsOf 51 = 3 := by kernel_rfl
  have r : reachBytes = 140737488351232 := by decide
  have k2 : DataW.trod enc Try.prog w 0 spare held m 22 (((obArr o p).toList.drop 2).take (Try.prog.cellsOf 22)) = some y2 := hg 2 _ rfl
  have k4 : DataW.trod enc Try.prog w 0 spare held m 23 (((obArr o p).toList.drop 4).take (Try.prog.cellsOf 23)) = some y4 := hg 4 _ rfl
  rw [ee] at k2
  rw [ep] at k4
  have k2 : DataW.trod enc Try.prog w 0 spare held m 22 [.slice p.ea o.ents.length p.ec] = some y2 := k2
  have k4 : DataW.trod enc Try.prog w 0 spare held m 23 [.slice p.pa o.pars.length p.pc] = some y4 := k4
  have m2 : ∀ n ∈ y2.1.weights Try.prog 22, n ≤ reachBytes := fun n hn => by
    refine hs n ?_
    simp only [Prod.mk.injEq] at hx
    rw [hx.1]
    simp only [DataW.weights, Try.underlying25]
    exact DataW.weights_mem_each (j := 2) rfl rfl n hn
  have m4 : ∀ n ∈ y4.1.weights Try.prog 23, n ≤ reachBytes := fun n hn => by
    refine hs n ?_
    simp only [Prod.mk.injEq] at hx
    rw [hx.1]
    simp only [DataW.weights, Try.underlying25]
    exact DataW.weights_mem_each (j := 4) rfl rfl n hn
  have hp : o.pars.length * 16 ≤ 140737488351232 := by
    rcases open_slice Try.underlying23 k4 with ⟨hcs, _⟩ | ⟨a, len, cap, mm, n, D, Pl, hcs, _, hl, _, hm, hy, hi⟩
    · simp only [List.cons.injEq, Value.slice.injEq, and_true] at hcs
      rw [hcs.2.1]; omega
    · simp only [List.cons.injEq, Value.slice.injEq, and_true] at hcs
      rw [hy] at m4
      have := m4 ((((List.range len).map D).length + ((List.range (mm - len)).map fun j => D (len + j)).length) * Try.prog.bytesOf 9) (by simp [DataW.weights, Try.underlying23])
      rw [bp, List.length_map, List.length_range] at this
      rw [hcs.2.1]
      omega
  rcases open_slice Try.underlying22 k2 with ⟨hcs, _⟩ | ⟨a, len, cap, mm, n, D, Pl, hcs, _, hl, _, hm, hy, hi⟩
  · simp only [List.cons.injEq, Value.slice.injEq, and_true] at hcs
    refine ⟨by rw [hcs.2.1]; omega, hp, fun e he => ?_⟩
    rw [List.eq_nil_of_length_eq_zero hcs.2.1] at he
    simp at he
  · simp only [List.cons.injEq, Value.slice.injEq, and_true] at hcs
    obtain ⟨ha, rfl, _⟩ := hcs
    rw [hy] at m2
    refine ⟨?_, hp, fun e he => ?_⟩
    · have := m2 ((((List.range o.ents.length).map D).length + ((List.range (mm - o.ents.length)).map fun j => D (o.ents.length + j)).length) * Try.prog.bytesOf 51) (by simp [DataW.weights, Try.underlying22])
      rw [be, List.length_map, List.length_range] at this
      omega
    · obtain ⟨k, hk, rfl⟩ := List.getElem_of_mem he
      obtain ⟨ad, e1, _, hc, _⟩ := hI.ents k o.ents[k] (List.getElem?_eq_getElem hk)
      rw [ha] at e1
      cases e1
      have hmm : o.ents.length ≤ mm := by rw [hm]; split <;> omega
      obtain ⟨cs, hcs, htr⟩ := hi k (by omega)
      rw [ec] at hcs
      have q := ent_size hcs htr hc
      have := m2 o.ents[k].name.size (by
        simp only [DataW.weights, Try.underlying22, List.mem_cons, List.mem_append]
        exact .inr (.inl (weightsAll_mem (List.mem_map.2 ⟨k, List.mem_range.2 hk, rfl⟩) q)))
      omega
end
end Go.Proofs.Ytgffbdkngnpfpaa
