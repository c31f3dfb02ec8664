/- Texts in one: SpOpen, SpMath, DSpec. -/
import Derived.Test.YtbpmgpbmeganoaaDoorSpMem
import Derived.Test.YtbpmgpbmeganoaaDoorIMap
import Derived.Test.YtbpmgpbmeganoaaDoorODecC
import Derived.Deep.Fields
import Derived.Test.YtbpmgpbmeganoaaDoorSpSpec
import Derived.Test.YtbpmgpbmeganoaaDoorRfSpec
/- An argument that is a step, or a list of steps, or keys, opened: what it holds, how large it may be. -/
namespace Go.Proofs.YtbpmgpbmeganoaaDoor
open Go.ChangeShapes Go.WideShapes Go.ChangeAt Go.RowKit Go.Deep

section
variable {b : Nat} {H : Type} {enc : TypeId × Value → H} {w : World} {spare : Nat → Bool} {held : Bool}
theorem five {α : Type} {l : List α} (h : l.length = 5) : ∃ a b c d e, l = [a, b, c, d, e] := by
  match l, h with
  | [a, b, c, d, e], _ => exact ⟨a, b, c, d, e, rfl⟩
set_option maxRecDepth 100000 in
theorem core_nums {c : Value} {n : Nat} {y : DataW H × List MemPlace} (h : DataW.trod enc Tryd.prog w 0 spare held n 22 [c] = some y) :
    ∃ (A : Option Addr) (cp : Nat) (T : List Int), c = .slice A T.length cp ∧ T.length ≤ cp ∧ NumsA w w.heap.size A T ∧ ((∀ n ∈ y.1.weights Tryd.prog 22, n ≤ reachBytes) → T.length * 8 ≤ 140737488351232) := by
  have bp : Tryd.prog.bytesOf 3 = 8 := by kernel_rfl
  have rb : reachBytes = 140737488351232 := by decide
  rcases open_slice1 Tryd.underlying22 (by kernel_rfl) h with ⟨hcs, hx⟩ | ⟨a, len, cap, m, n, V, D, Pl, hcs, _, hl, _, hm, hx, hi⟩
  · obtain rfl : c = .slice none 0 0 := by simpa using hcs
    exact ⟨none, 0, [], rfl, Nat.le_refl _, NumsA.nil _ _ _, fun _ => by simp⟩
  · obtain rfl : c = .slice (some a) len cap := by simpa using hcs
    have hml : len ≤ m := by rw [hm]; split <;> omega
    obtain ⟨L, rfl, hL⟩ := choose_list (P := fun i (x : Int) => w.cell? (a.add i) = some (.int .i64 x)) len (fun i hlt => by
      obtain ⟨hc, ht⟩ := hi i (by omega)
      obtain ⟨x, q, _⟩ := DataW.trod_int Tryd.underlying3 ht
      simp only [List.cons.injEq, and_true] at q
      exact ⟨x, by rw [hc, q]⟩)
    refine ⟨some a, cap, L, rfl, hl, fun k x hx => ⟨a, rfl, cell_lt (hL k x hx), hL k x hx⟩, fun hw => ?_⟩
    rw [hx] at hw
    have h1 := hw ((((List.range L.length).map D).length + ((List.range (m - L.length)).map fun j => D (L.length + j)).length) * Tryd.prog.bytesOf 3) (by simp [DataW.weights, Tryd.underlying22])
    rw [bp, List.length_map, List.length_range] at h1
    omega
set_option maxRecDepth 100000 in
theorem core_texts {c : Value} {n : Nat} {y : DataW H × List MemPlace} (h : DataW.trod enc Tryd.prog w 0 spare held n 23 [c] = some y) :
    ∃ (A : Option Addr) (cp : Nat) (T : List ByteArray), c = .slice A T.length cp ∧ T.length ≤ cp ∧ Txs w w.heap.size A T ∧ ((∀ n ∈ y.1.weights Tryd.prog 23, n ≤ reachBytes) → T.length * 16 ≤ 140737488351232 ∧ ∀ x ∈ T, x.size ≤ 140737488351232) := by
  have bp : Tryd.prog.bytesOf 9 = 16 := by kernel_rfl
  have rb : reachBytes = 140737488351232 := by decide
  rcases open_slice1 Tryd.underlying23 (by kernel_rfl) h with ⟨hcs, hx⟩ | ⟨a, len, cap, m, n, V, D, Pl, hcs, _, hl, _, hm, hx, hi⟩
  · obtain rfl : c = .slice none 0 0 := by simpa using hcs
    exact ⟨none, 0, [], rfl, Nat.le_refl _, Txs.nil _ _ _, fun _ => ⟨by simp, fun x hx => by cases hx⟩⟩
  · obtain rfl : c = .slice (some a) len cap := by simpa using hcs
    have hml : len ≤ m := by rw [hm]; split <;> omega
    obtain ⟨L, rfl, hL⟩ := choose_list (P := fun i (x : ByteArray) => w.cell? (a.add i) = some (.string x) ∧ D i = listDat x) len (fun i hlt => by
      obtain ⟨hc, ht⟩ := hi i (by omega)
      obtain ⟨x, q, r, _⟩ := DataW.trod_string Tryd.underlying9 ht
      simp only [List.cons.injEq, and_true] at q
      simp only [Prod.mk.injEq] at r
      exact ⟨x, by rw [hc, q], r.1⟩)
    have hmap := range_map L (fun i x h => (hL i x h).2)
    refine ⟨some a, cap, L, rfl, hl, fun k x hk => ⟨a, rfl, cell_lt (hL k x hk).1, (hL k x hk).1⟩, fun hw => ?_⟩
    rw [hx, hmap] at hw
    have h1 := hw (((L.map (listDat (H := H))).length + ((List.range (m - L.length)).map fun j => D (L.length + j)).length) * Tryd.prog.bytesOf 9) (by simp [DataW.weights, Tryd.underlying23])
    rw [bp, List.length_map] at h1
    refine ⟨by omega, fun x hxm => ?_⟩
    have := hw x.size (by
      simp only [DataW.weights, Tryd.underlying23, List.mem_cons, List.mem_append]
      refine .inr (.inl (weights_all_mem (List.mem_map.2 ⟨x, hxm, rfl⟩) ?_))
      unfold listDat
      simp [DataW.weights])
    omega
set_option maxRecDepth 100000 in
theorem core_step {cs : List Value} {n : Nat} {d : DataW H} {pl : List MemPlace} (hl : cs.length = 5) (ht : DataW.trod enc Tryd.prog w 0 spare held n 25 cs = some (d, pl)) :
    ∃ (s : Sp) (p : SpAt), cs = (spArr s p).toList ∧ SpIn w w.heap.size s p ∧ ((∀ n ∈ d.weights Tryd.prog 25, n ≤ reachBytes) → SpSz s) := by
  obtain ⟨xs, m, _, hx, _, hxl, hg⟩ := DataW.trod_struct Tryd.underlying25 ht
  obtain ⟨c0, c1, c2, c3, c4, rfl⟩ := five hl
  obtain ⟨y0, y1, y2, y3, y4, rfl⟩ := five (l := xs) hxl
  have es : Tryd.prog.cellsOf 9 = 1 := by kernel_rfl
  have ei : Tryd.prog.cellsOf 22 = 1 := by kernel_rfl
  have ep : Tryd.prog.cellsOf 23 = 1 := by kernel_rfl
  have rb : reachBytes = 140737488351232 := by decide
  have k0 : DataW.trod enc Tryd.prog w 0 spare held m 9 (([c0, c1, c2, c3, c4].drop 0).take (Tryd.prog.cellsOf 9)) = some y0 := hg 0 _ rfl
  have k1 : DataW.trod enc Tryd.prog w 0 spare held m 9 (([c0, c1, c2, c3, c4].drop 1).take (Tryd.prog.cellsOf 9)) = some y1 := hg 1 _ rfl
  have k2 : DataW.trod enc Tryd.prog w 0 spare held m 9 (([c0, c1, c2, c3, c4].drop 2).take (Tryd.prog.cellsOf 9)) = some y2 := hg 2 _ rfl
  have k3 : DataW.trod enc Tryd.prog w 0 spare held m 22 (([c0, c1, c2, c3, c4].drop 3).take (Tryd.prog.cellsOf 22)) = some y3 := hg 3 _ rfl
  have k4 : DataW.trod enc Tryd.prog w 0 spare held m 23 (([c0, c1, c2, c3, c4].drop 4).take (Tryd.prog.cellsOf 23)) = some y4 := hg 4 _ rfl
  rw [es] at k0 k1 k2
  rw [ei] at k3
  rw [ep] at k4
  obtain ⟨s0, q0, r0, _⟩ := DataW.trod_string Tryd.underlying9 k0
  obtain ⟨s1, q1, r1, _⟩ := DataW.trod_string Tryd.underlying9 k1
  obtain ⟨s2, q2, r2, _⟩ := DataW.trod_string Tryd.underlying9 k2
  obtain ⟨A3, p3, N, q3, hr3, hN, hNz⟩ := core_nums k3
  obtain ⟨A4, p4, T, q4, hr4, hT, hTz⟩ := core_texts k4
  obtain rfl : c0 = .string s0 := by simpa using q0
  obtain rfl : c1 = .string s1 := by simpa using q1
  obtain rfl : c2 = .string s2 := by simpa using q2
  subst q3 q4
  refine ⟨⟨s0, s1, s2, N, T⟩, ⟨A3, p3, A4, p4⟩, rfl, ⟨hN, hT, hr3, hr4⟩, fun hs => ?_⟩
  simp only [Prod.mk.injEq] at hx
  rw [hx.1] at hs
  have m0 : ∀ n ∈ y0.1.weights Tryd.prog 9, n ≤ reachBytes := fun n hn => hs n (by simp only [DataW.weights, Tryd.underlying25]; exact DataW.weights_mem_each (j := 0) rfl rfl n hn)
  have m1 : ∀ n ∈ y1.1.weights Tryd.prog 9, n ≤ reachBytes := fun n hn => hs n (by simp only [DataW.weights, Tryd.underlying25]; exact DataW.weights_mem_each (j := 1) rfl rfl n hn)
  have m2 : ∀ n ∈ y2.1.weights Tryd.prog 9, n ≤ reachBytes := fun n hn => hs n (by simp only [DataW.weights, Tryd.underlying25]; exact DataW.weights_mem_each (j := 2) rfl rfl n hn)
  have m3 : ∀ n ∈ y3.1.weights Tryd.prog 22, n ≤ reachBytes := fun n hn => hs n (by simp only [DataW.weights, Tryd.underlying25]; exact DataW.weights_mem_each (j := 3) rfl rfl n hn)
  have m4 : ∀ n ∈ y4.1.weights Tryd.prog 23, n ≤ reachBytes := fun n hn => hs n (by simp only [DataW.weights, Tryd.underlying25]; exact DataW.weights_mem_each (j := 4) rfl rfl n hn)
  have e : ∀ s : ByteArray, s.data.toList.length = s.size := fun _ => rfl
  have z0 := m0 s0.size (by rw [r0]; simp [DataW.weights])
  have z1 := m1 s1.size (by rw [r1]; simp [DataW.weights])
  have z2 := m2 s2.size (by rw [r2]; simp [DataW.weights])
  exact ⟨hNz m3, (hTz m4).1, by rw [← rb]; exact z0, by rw [← rb]; exact z1, by rw [← rb]; exact z2, (hTz m4).2⟩
set_option maxRecDepth 100000 in
theorem open_step {r : Reach} {v : Value} {d : DataW H} {pl : List MemPlace} (hv : Value.okWide Tryd.prog w r b 25 v) (h : DataW.Trod enc Tryd.prog w 0 spare held 25 v d pl) :
    ∃ (s : Sp) (p : SpAt), v = .agg (spArr s p) ∧ SpIn w w.heap.size s p ∧ ((∀ n ∈ d.weights Tryd.prog 25, n ≤ reachBytes) → SpSz s) := by
  obtain ⟨cs, rfl, hsz⟩ := okWide_struct Tryd.underlying25 hv
  obtain ⟨fuel, hf⟩ := h
  have hC : Tryd.prog.cellsOf 25 = 5 := by kernel_rfl
  obtain ⟨s, p, e, hI, hS⟩ := core_step (cs := cs.toList) (by rw [Array.length_toList, hsz, hC]) hf
  refine ⟨s, p, ?_, hI, hS⟩
  rw [← Array.toArray_toList (xs := cs), e]
/-- keys in memory -/
structure Ky where
  sig : List ByteArray
  wit : List ByteArray
  need : Int
structure KyAt where
  a : Option Addr
  c : Nat
  a2 : Option Addr
  c2 : Nat
def kyArr (k : Ky) (p : KyAt) : Array Value := #[.slice p.a k.sig.length p.c, .slice p.a2 k.wit.length p.c2, .int .i64 k.need]
structure KyIn (w : World) (B : Nat) (k : Ky) (p : KyAt) : Prop where
  sig : Txs w B p.a k.sig
  wit : Txs w B p.a2 k.wit
  room : k.sig.length ≤ p.c
  room2 : k.wit.length ≤ p.c2
structure KySz (k : Ky) : Prop where
  sig : k.sig.length * 16 ≤ 140737488351232
  wit : k.wit.length * 16 ≤ 140737488351232
  each : ∀ t ∈ k.sig, t.size ≤ 140737488351232
theorem KyIn.below {w w' : World} {B : Nat} {k : Ky} {p : KyAt} (h : KyIn w B k p) (b : Below B w w') : KyIn w' B k p := ⟨h.sig.below b, h.wit.below b, h.room, h.room2⟩
theorem KyIn.up {w w' : World} {k : Ky} {p : KyAt} (h : KyIn w w.heap.size k p) (b : Below w.heap.size w w') : KyIn w' w'.heap.size k p := ⟨(h.sig.below b).mono b.size, (h.wit.below b).mono b.size, h.room, h.room2⟩
set_option maxRecDepth 100000 in
theorem open_keys {r : Reach} {v : Value} {d : DataW H} {pl : List MemPlace} (hv : Value.okWide Tryd.prog w r b 41 v) (h : DataW.Trod enc Tryd.prog w 0 spare held 41 v d pl) :
    ∃ (k : Ky) (p : KyAt), v = .agg (kyArr k p) ∧ KyIn w w.heap.size k p ∧ ((∀ n ∈ d.weights Tryd.prog 41, n ≤ reachBytes) → KySz k) := by
  obtain ⟨cs, rfl, hsz⟩ := okWide_struct Tryd.underlying41 hv
  obtain ⟨fuel, hf⟩ := h
  have hC : Tryd.prog.cellsOf 41 = 3 := by kernel_rfl
  obtain ⟨c0, c1, c2, hl⟩ : ∃ a b c, cs.toList = [a, b, c] := by
    have hl : cs.toList.length = 3 := by rw [Array.length_toList, hsz, hC]
    match cs.toList, hl with
    | [a, b, c], _ => exact ⟨a, b, c, rfl⟩
  have hcs : cs = #[c0, c1, c2] := by rw [← Array.toArray_toList (xs := cs), hl]
  subst hcs
  obtain ⟨xs, m, _, hx, _, hxl, hg⟩ := DataW.trod_struct Tryd.underlying41 hf
  match xs, hxl with
  | [y0, y1, y2], _ =>
    have ei : Tryd.prog.cellsOf 3 = 1 := by kernel_rfl
    have ep : Tryd.prog.cellsOf 23 = 1 := by kernel_rfl
    have k0 : DataW.trod enc Tryd.prog w 0 spare held m 23 (([c0, c1, c2].drop 0).take (Tryd.prog.cellsOf 23)) = some y0 := hg 0 _ rfl
    have k1 : DataW.trod enc Tryd.prog w 0 spare held m 23 (([c0, c1, c2].drop 1).take (Tryd.prog.cellsOf 23)) = some y1 := hg 1 _ rfl
    have k2 : DataW.trod enc Tryd.prog w 0 spare held m 3 (([c0, c1, c2].drop 2).take (Tryd.prog.cellsOf 3)) = some y2 := hg 2 _ rfl
    rw [ei] at k2
    rw [ep] at k0 k1
    obtain ⟨A0, p0, T0, q0, hr0, hT0, hz0⟩ := core_texts k0
    obtain ⟨A1, p1, T1, q1, hr1, hT1, hz1⟩ := core_texts k1
    obtain ⟨n2, q2, _⟩ := DataW.trod_int Tryd.underlying3 k2
    obtain rfl : c2 = .int .i64 n2 := by simpa using q2
    subst q0 q1
    refine ⟨⟨T0, T1, n2⟩, ⟨A0, p0, A1, p1⟩, rfl, ⟨hT0, hT1, hr0, hr1⟩, fun hs => ?_⟩
    · simp only [Prod.mk.injEq] at hx
      rw [hx.1] at hs
      have m0 : ∀ n ∈ y0.1.weights Tryd.prog 23, n ≤ reachBytes := fun n hn => hs n (by simp only [DataW.weights, Tryd.underlying41]; exact DataW.weights_mem_each (j := 0) rfl rfl n hn)
      have m1 : ∀ n ∈ y1.1.weights Tryd.prog 23, n ≤ reachBytes := fun n hn => hs n (by simp only [DataW.weights, Tryd.underlying41]; exact DataW.weights_mem_each (j := 1) rfl rfl n hn)
      exact ⟨(hz0 m0).1, (hz1 m1).1, (hz0 m0).2⟩
/-- a step, and where its slices lie -/
abbrev SpL := Sp × SpAt
def Sps (w : World) (B : Nat) (A : Option Addr) (L : List SpL) : Prop :=
  ∀ k x, L[k]? = some x → ∃ ad, A = some ad ∧ (ad.add (k * 5)).block < B ∧ w.cells? 0 (ad.add (k * 5)) 5 = some (spArr x.1 x.2).toList ∧ SpIn w B x.1 x.2
set_option maxRecDepth 100000 in
theorem open_steps {r : Reach} {v : Value} {d : DataW H} {pl : List MemPlace} (hv : Value.okWide Tryd.prog w r b 45 v) (h : DataW.Trod enc Tryd.prog w 0 spare held 45 v d pl) :
    ∃ (L : List SpL) (A : Option Addr) (c : Nat), v = .slice A L.length c ∧ Sps w w.heap.size A L ∧ L.length ≤ c ∧
      ((∀ n ∈ d.weights Tryd.prog 45, n ≤ reachBytes) → (∀ x ∈ L, SpSz x.1) ∧ L.length * 96 ≤ 140737488351232) := by
  obtain ⟨a0, len0, cap0, rfl⟩ := okWide_slice Tryd.underlying45 hv
  obtain ⟨fuel, hf⟩ := h
  have ec : Tryd.prog.cellsOf 25 = 5 := by kernel_rfl
  have be : Tryd.prog.bytesOf 25 = 96 := by kernel_rfl
  have rb : reachBytes = 140737488351232 := by decide
  rcases open_slice Tryd.underlying45 hf with ⟨hcs, hx⟩ | ⟨a, len, cap, mm, n, D, Pl, hcs, _, hl, _, hm, hy, hi⟩
  · simp only [Value.cells, List.cons.injEq, Value.slice.injEq, and_true] at hcs
    obtain ⟨rfl, rfl, rfl⟩ := hcs
    exact ⟨[], none, 0, rfl, fun k x h => by simp at h, Nat.le_refl _, fun _ => ⟨fun f hf => (by cases hf), by simp⟩⟩
  · simp only [Value.cells, List.cons.injEq, Value.slice.injEq, and_true] at hcs
    obtain ⟨rfl, rfl, rfl⟩ := hcs
    have hml : len0 ≤ mm := by rw [hm]; split <;> omega
    obtain ⟨L, rfl, hL⟩ := choose_list (P := fun i (x : SpL) => ((a.add (i * 5)).block < w.heap.size ∧ w.cells? 0 (a.add (i * 5)) 5 = some (spArr x.1 x.2).toList ∧ SpIn w w.heap.size x.1 x.2) ∧ ((∀ n ∈ (D i).weights Tryd.prog 25, n ≤ reachBytes) → SpSz x.1)) len0 (fun i hlt => by
      obtain ⟨cs, hc, ht⟩ := hi i (by omega)
      rw [ec] at hc
      obtain ⟨_, hl5, hat⟩ := World.cells?_some hc
      obtain ⟨s, p, e, hI, hS⟩ := core_step hl5 ht
      refine ⟨(s, p), ⟨?_, by rw [hc, e], hI⟩, hS⟩
      have h1 := hat 1 (by omega)
      rw [add_next _ 1 (by omega), e] at h1
      exact cell_lt (p := ⟨(a.add (i * 5)).block, (a.add (i * 5)).off + 1, none⟩) (v := .string s.old) h1)
    refine ⟨L, some a, cap0, rfl, fun k x hx => ⟨a, rfl, (hL k x hx).1⟩, hl, fun hs => ?_⟩
    simp only [Prod.mk.injEq] at hy
    rw [hy.1] at hs
    refine ⟨fun f hf => ?_, ?_⟩
    · obtain ⟨k, hk, rfl⟩ := List.getElem_of_mem hf
      refine (hL k L[k] (List.getElem?_eq_getElem hk)).2 fun q hq => ?_
      exact hs q (by
        simp only [DataW.weights, Tryd.underlying45, List.mem_cons, List.mem_append]
        exact .inr (.inl (weights_all_mem (List.mem_map.2 ⟨k, List.mem_range.2 hk, rfl⟩) hq)))
    · have := hs ((((List.range L.length).map D).length + ((List.range (mm - L.length)).map fun j => D (L.length + j)).length) * Tryd.prog.bytesOf 25) (by simp [DataW.weights, Tryd.underlying45])
      rw [be, List.length_map, List.length_range] at this
      omega
end
end Go.Proofs.YtbpmgpbmeganoaaDoor

/- Who seals, in order: plain. -/
namespace Go.Proofs.YtbpmgpbmeganoaaDoor
open Go.RowKit

def risI : Int → List Int → Prop
  | _, [] => True
  | b, x :: l => b < x ∧ risI x l
theorem risI_lt : ∀ {l : List Int} {b : Int}, risI b l → ∀ x ∈ l, b < x
  | y :: l, b, h, x, hx => by
    rcases List.mem_cons.1 hx with rfl | hx
    · exact h.1
    · exact Int.lt_trans h.1 (risI_lt h.2 x hx)
theorem lowI_le (x : Int) : ∀ l : List Int, lowI x l ≤ l.length
  | [] => Nat.le_refl _
  | y :: l => by
    have := lowI_le x l
    unfold lowI
    split
    · simp; omega
    · simp
theorem lowI_split (x : Int) : ∀ (l : List Int) (b : Int), risI b l → ∀ (k : Nat) (f : Int), l[k]? = some f → (f < x ↔ k < lowI x l)
  | [], _, _, k, f, hk => by simp at hk
  | g :: l, b, h, k, f, hk => by
    unfold lowI
    cases k with
    | zero =>
      simp at hk
      subst hk
      by_cases hg : g < x <;> simp [hg]
    | succ k =>
      rw [List.getElem?_cons_succ] at hk
      have ih := lowI_split x l g h.2 k f hk
      by_cases hg : g < x
      · simp [hg, ih]
      · have h1 := risI_lt h.2 f (List.mem_of_getElem? hk)
        simp only [hg, if_false, Nat.not_lt_zero, iff_false]
        omega
theorem lowI_mem (x : Int) : ∀ (l : List Int) (b : Int), risI b l → (x ∈ l ↔ l[lowI x l]? = some x)
  | [], _, _ => by simp
  | g :: l, b, h => by
    have ih := lowI_mem x l g h.2
    unfold lowI
    by_cases hg : g < x
    · have hne : ¬ x = g := by omega
      simp only [hg, if_true, List.mem_cons, hne, false_or, List.getElem?_cons_succ]
      exact ih
    · simp only [hg, if_false, List.mem_cons, List.getElem?_cons_zero, Option.some.injEq]
      constructor
      · rintro (rfl | hm)
        · rfl
        · have := risI_lt h.2 x hm
          omega
      · exact fun e => .inl e.symm
theorem gdS_ris : ∀ (l : List Sg) (b : Int), gdS b l = 0 → risI b (l.map Prod.fst)
  | [], _, _ => trivial
  | x :: l, b, h => by
    have h1 := gdS_low (x :: l) b h x List.mem_cons_self
    have h2 : gdS x.1 l = 0 := by
      rw [gdS] at h
      split at h
      · cases h
      · split at h
        · cases h
        · exact h
    exact ⟨h1.1, gdS_ris l x.1 h2⟩
theorem prs_fst {s : Sp} (h : s.seals.length = s.who.length) : s.prs.map Prod.fst = s.who := by
  unfold Sp.prs
  rw [List.map_fst_zip]
  omega
theorem prs_snd {s : Sp} (h : s.seals.length = s.who.length) : s.prs.map Prod.snd = s.seals := by
  unfold Sp.prs
  rw [List.map_snd_zip]
  omega
theorem good_ris {s : Sp} (h : spGood s = 0) : risI (-1) s.who := by
  obtain ⟨_, _, hl, hg⟩ := spGood_ok h
  have := gdS_ris _ _ hg
  rwa [prs_fst hl] at this
/-- a signer's seal put in its place -/
def putP (x : Int) (t : ByteArray) : List Sg → List Sg
  | [] => [(x, t)]
  | y :: l => if y.1 < x then y :: putP x t l else (x, t) :: y :: l
theorem putP_cut (x : Int) (t : ByteArray) : ∀ l : List Sg, putP x t l = l.take (lowI x (l.map Prod.fst)) ++ (x, t) :: l.drop (lowI x (l.map Prod.fst))
  | [] => rfl
  | y :: l => by
    have ih := putP_cut x t l
    rw [List.map_cons, putP, lowI]
    by_cases h : y.1 < x
    · rw [if_pos h, if_pos h, List.take_succ_cons, List.drop_succ_cons, List.cons_append, ← ih]
    · rw [if_neg h, if_neg h]; rfl
theorem putP_len (x : Int) (t : ByteArray) : ∀ l : List Sg, (putP x t l).length = l.length + 1
  | [] => rfl
  | y :: l => by
    unfold putP
    split
    · rw [List.length_cons, putP_len x t l, List.length_cons]
    · rfl
theorem putP_good (x : Int) (t : ByteArray) (hx : x ≤ 7) (ht : t.size = 32) : ∀ (l : List Sg) (b : Int), gdS b l = 0 → b < x → (∀ y ∈ l, y.1 ≠ x) → gdS b (putP x t l) = 0
  | [], b, h, hb, _ => by
    rw [putP, gdS, if_neg (by simp only; omega), if_neg (by simp [ht])]
    rfl
  | y :: l, b, h, hb, hn => by
    have h1 := gdS_low (y :: l) b h y List.mem_cons_self
    have h2 : gdS y.1 l = 0 := by
      rw [gdS, if_neg (by omega), if_neg (by simp [h1.2.2])] at h
      exact h
    have hy := hn y List.mem_cons_self
    unfold putP
    by_cases hlt : y.1 < x
    · rw [if_pos hlt, gdS, if_neg (by omega), if_neg (by simp [h1.2.2])]
      exact putP_good x t hx ht l y.1 h2 hlt (fun z hz => hn z (List.mem_cons_of_mem _ hz))
    · rw [if_neg hlt, gdS, if_neg (by simp only; omega), if_neg (by simp [ht]), gdS, if_neg (by simp only; omega), if_neg (by simp [h1.2.2])]
      exact h2
theorem putP_comm (a b : Int) (s t : ByteArray) (h : a ≠ b) : ∀ l : List Sg, putP a s (putP b t l) = putP b t (putP a s l)
  | [] => by
    by_cases h1 : b < a <;> by_cases h2 : a < b <;> simp [putP, h1, h2] <;> omega
  | y :: l => by
    have ih := putP_comm a b s t h l
    by_cases h1 : y.1 < b <;> by_cases h2 : y.1 < a <;> by_cases h3 : b < a <;> by_cases h4 : a < b <;> simp [putP, h1, h2, h3, h4, ih] <;> omega
theorem putP_mem (x : Int) (t : ByteArray) : ∀ (l : List Sg) (z : Sg), z ∈ putP x t l ↔ z = (x, t) ∨ z ∈ l
  | [], z => by simp [putP]
  | y :: l, z => by
    unfold putP
    split
    · rw [List.mem_cons, putP_mem x t l z, List.mem_cons]
      constructor
      · rintro (h | h | h)
        · exact .inr (.inl h)
        · exact .inl h
        · exact .inr (.inr h)
      · rintro (h | h | h)
        · exact .inr (.inl h)
        · exact .inl h
        · exact .inr (.inr h)
    · rw [List.mem_cons, List.mem_cons]
theorem map_cut {α β : Type} (f : α → β) (l : List α) (k : Nat) (x : α) : (l.take k ++ x :: l.drop k).map f = (l.map f).take k ++ f x :: (l.map f).drop k := by
  rw [List.map_append, List.map_cons, List.map_take, List.map_drop]
/-- a step told by its pairs -/
def ofP (s : Sp) (P : List Sg) : Sp := { s with who := P.map Prod.fst, seals := P.map Prod.snd }
theorem ofP_prs (s : Sp) (P : List Sg) : (ofP s P).prs = P := by
  unfold ofP Sp.prs
  simp only
  induction P with
  | nil => rfl
  | cons x l ih => rw [List.map_cons, List.map_cons, List.zip_cons_cons, ih]
theorem ofP_same {s : Sp} (h : s.seals.length = s.who.length) : ofP s s.prs = s := by
  unfold ofP
  rw [prs_fst h, prs_snd h]
theorem spPut_of {s : Sp} (h : s.seals.length = s.who.length) (x : Int) (t : ByteArray) : spPut s x t = ofP s (putP x t s.prs) := by
  unfold spPut ofP
  rw [putP_cut, map_cut, map_cut, prs_fst h, prs_snd h]
theorem ofP_good {s : Sp} {P : List Sg} (hf : spForm s = true) (hl : P.length ≤ 8) (h : gdS (-1) P = 0) : spGood (ofP s P) = 0 := by
  unfold spGood
  have hf2 : spForm (ofP s P) = true := hf
  rw [hf2, ofP_prs]
  have e1 : (ofP s P).who.length = P.length := List.length_map _
  have e2 : (ofP s P).seals.length = P.length := List.length_map _
  rw [e1, e2, if_neg (by simp), if_neg (by omega)]
  exact h
theorem gdS_len {l : List Sg} (h : gdS (-1) l = 0) : l.length ≤ 8 := by
  rcases gdS_count l (-1) h (Int.le_refl _) with h1 | h1
  · omega
  · subst h1; exact Nat.zero_le _
/-- a signer is put to a valid step: it stays valid -/
theorem put_good {s : Sp} (h : spGood s = 0) {x : Int} {t : ByteArray} (h0 : 0 ≤ x) (hx : x ≤ 7) (ht : t.size = 32) (hn : x ∉ s.who) : spGood (spPut s x t) = 0 ∧ (spPut s x t).prs = putP x t s.prs ∧ (spPut s x t).who.length = s.who.length + 1 ∧ (spPut s x t).seals.length = s.who.length + 1 := by
  obtain ⟨hf, _, hl, hg⟩ := spGood_ok h
  have hn2 : ∀ y ∈ s.prs, y.1 ≠ x := fun y hy e => hn (by
    rw [← prs_fst hl]
    exact List.mem_map.2 ⟨y, hy, e⟩)
  have h1 := putP_good x t hx ht s.prs (-1) hg (by omega) hn2
  rw [spPut_of hl]
  have e1 : (ofP s (putP x t s.prs)).who.length = s.who.length + 1 := by
    show (List.map _ _).length = _
    rw [List.length_map, putP_len, prs_len hl]
  have e2 : (ofP s (putP x t s.prs)).seals.length = s.who.length + 1 := by
    show (List.map _ _).length = _
    rw [List.length_map, putP_len, prs_len hl]
  exact ⟨ofP_good hf (gdS_len h1) h1, ofP_prs _ _, e1, e2⟩
theorem put_who {s : Sp} (hl : s.seals.length = s.who.length) (x : Int) (t : ByteArray) (y : Int) : y ∈ (spPut s x t).who ↔ y = x ∨ y ∈ s.who := by
  rw [spPut_of hl]
  show y ∈ (putP x t s.prs).map Prod.fst ↔ _
  rw [List.mem_map, ← prs_fst hl, List.mem_map]
  constructor
  · rintro ⟨z, hz, rfl⟩
    rcases (putP_mem x t s.prs z).1 hz with rfl | h
    · exact .inl rfl
    · exact .inr ⟨z, h, rfl⟩
  · rintro (rfl | ⟨z, hz, rfl⟩)
    · exact ⟨(y, t), (putP_mem _ t s.prs _).2 (.inl rfl), rfl⟩
    · exact ⟨z, (putP_mem x t s.prs z).2 (.inr hz), rfl⟩
end Go.Proofs.YtbpmgpbmeganoaaDoor

/- What Apply answers: plain definitions. -/
namespace Go.Proofs.YtbpmgpbmeganoaaDoor

/-- an operation: what went wrong, the bytes that it appends, what is left -/
def opD (base l : List UInt8) : Int × List UInt8 × List UInt8 :=
  match rdNum l with
  | none => (2, [], [])
  | some (op, l1) =>
    if op % 2 = 1 then match rdNum l1 with
      | none => (2, [], [])
      | some (k, l2) => if base.length < k ∨ base.length - k < op / 2 then (3, [], []) else (0, (base.drop k).take (op / 2), l2)
    else if l1.length < op / 2 then (2, [], []) else (0, l1.take (op / 2), l1.drop (op / 2))
/-- the operations, one by one; the number of rounds is bounded by the bytes that are left -/
def appD (base : List UInt8) (will : Nat) : Nat → List UInt8 → List UInt8 → List UInt8 × Int
  | _, out, [] => if out.length < will then ([], 2) else (out, 0)
  | 0, _, _ :: _ => ([], 2)
  | f + 1, out, b :: l =>
    if (opD base (b :: l)).1 ≠ 0 then ([], (opD base (b :: l)).1)
    else if (opD base (b :: l)).2.1 = [] ∨ will - out.length < (opD base (b :: l)).2.1.length then ([], 2)
    else appD base will f (out ++ (opD base (b :: l)).2.1) (opD base (b :: l)).2.2
/-- Apply -/
def applyD (base d : List UInt8) : List UInt8 × Int :=
  match rdNum d with
  | none => ([], 2)
  | some (was, d1) => match rdNum d1 with
    | none => ([], 2)
    | some (will, d2) => if was ≠ base.length then ([], 11) else if 8192 < will then ([], 1) else appD base will d2.length [] d2
theorem rdNum_less {l r : List UInt8} {n : Nat} (h : rdNum l = some (n, r)) : r.length < l.length := by
  unfold rdNum at h
  cases hg : got l with
  | none => simp [hg] at h
  | some y =>
    obtain ⟨m, k⟩ := y
    simp only [hg, Option.some.injEq, Prod.mk.injEq] at h
    have hk := got_some l m k hg
    have h1 : 1 ≤ k := hk.2.2.1
    have h2 := hk.2.2.2.2
    rw [← h.2, List.length_drop]
    omega
theorem opD_less (base l : List UInt8) (h : (opD base l).1 = 0) : (opD base l).2.2.length < l.length := by
  unfold opD at h ⊢
  cases h1 : rdNum l with
  | none => simp [h1] at h
  | some y =>
    obtain ⟨op, l1⟩ := y
    have a1 := rdNum_less h1
    simp only [h1] at h ⊢
    by_cases ho : op % 2 = 1
    · rw [if_pos ho] at h ⊢
      cases h2 : rdNum l1 with
      | none => simp [h2] at h
      | some z =>
        obtain ⟨k, l2⟩ := z
        have a2 := rdNum_less h2
        simp only [h2] at h ⊢
        by_cases hr : base.length < k ∨ base.length - k < op / 2
        · rw [if_pos hr] at h; cases h
        · rw [if_neg hr]; simp only; omega
    · rw [if_neg ho] at h ⊢
      by_cases hr : l1.length < op / 2
      · rw [if_pos hr] at h; cases h
      · rw [if_neg hr]; simp only [List.length_drop]; omega
end Go.Proofs.YtbpmgpbmeganoaaDoor
