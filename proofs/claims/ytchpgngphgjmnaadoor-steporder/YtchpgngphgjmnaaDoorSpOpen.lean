/- An argument that is a step, or a list of steps, or keys, opened: what it holds, how large it may be. -/
import Derived.Test.YtchpgngphgjmnaaDoorSpMath
import Derived.Test.YtchpgngphgjmnaaDoorIMap
import Derived.Test.YtchpgngphgjmnaaDoorRfOpen
import Derived.Deep.Fields
namespace Go.Proofs.YtchpgngphgjmnaaDoor
open Go.ChangeShapes Go.WideShapes Go.ChangeAt Go.RowKit Go.Deep

section
variable {b : Nat} {H : Type} {enc : TypeId × Value → H} {w : World} {spare : Nat → Bool} {held : Bool}
theorem five {α : Type} {l : List α} (h : l.length = 5) : ∃ a b c d e, l = [a, b, c, d, e] := by
  match l, h with
  | [a, b, c, d, e], _ => exact ⟨a, b, c, d, e, rfl⟩
set_option maxRecDepth 100000 in
theorem core_nums {c : Value} {n : Nat} {y : DataW H × List MemPlace} (h : DataW.trod enc Tryd.prog w 0 spare held n 22 [c] = some y) :
    ∃ (A : Option Addr) (cp : Nat) (T : List Int), c = .slice A T.length cp ∧ T.length ≤ cp ∧ NumsA w w.heap.size A T ∧ ((∀ n ∈ y.1.weights Tryd.prog 22, n ≤ reachBytes) → T.length * 8 ≤ 140737488351232) := by
  have bp : Tryd.prog.bytesOf 3 = 8 := by kernel_rfl
  have rb : reachBytes = 140737488351232 := by decide
  rcases open_slice1 Tryd.underlying22 (by kernel_rfl) h with ⟨hcs, hx⟩ | ⟨a, len, cap, m, n, V, D, Pl, hcs, _, hl, _, hm, hx, hi⟩
  · obtain rfl : c = .slice none 0 0 := by simpa using hcs
    exact ⟨none, 0, [], rfl, Nat.le_refl _, NumsA.nil _ _ _, fun _ => by simp⟩
  · obtain rfl : c = .slice (some a) len cap := by simpa using hcs
    have hml : len ≤ m := by rw [hm]; split <;> omega
    obtain ⟨L, rfl, hL⟩ := choose_list (P := fun i (x : Int) => w.cell? (a.add i) = some (.int .i64 x)) len (fun i hlt => by
      obtain ⟨hc, ht⟩ := hi i (by omega)
      obtain ⟨x, q, _⟩ := DataW.trod_int Tryd.underlying3 ht
      simp only [List.cons.injEq, and_true] at q
      exact ⟨x, by rw [hc, q]⟩)
    refine ⟨some a, cap, L, rfl, hl, fun k x hx => ⟨a, rfl, cell_lt (hL k x hx), hL k x hx⟩, fun hw => ?_⟩
    rw [hx] at hw
    have h1 := hw ((((List.range L.length).map D).length + ((List.range (m - L.length)).map fun j => D (L.length + j)).length) * Tryd.prog.bytesOf 3) (by simp [DataW.weights, Tryd.underlying22])
    rw [bp, List.length_map, List.length_range] at h1
    omega
set_option maxRecDepth 100000 in
theorem core_texts {c : Value} {n : Nat} {y : DataW H × List MemPlace} (h : DataW.trod enc Tryd.prog w 0 spare held n 23 [c] = some y) :
    ∃ (A : Option Addr) (cp : Nat) (T : List ByteArray), c = .slice A T.length cp ∧ T.length ≤ cp ∧ Txs w w.heap.size A T ∧ ((∀ n ∈ y.1.weights Tryd.prog 23, n ≤ reachBytes) → T.length * 16 ≤ 140737488351232 ∧ ∀ x ∈ T, x.size ≤ 140737488351232) := by
  have bp : Tryd.prog.bytesOf 9 = 16 := by kernel_rfl
  have rb : reachBytes = 140737488351232 := by decide
  rcases open_slice1 Tryd.underlying23 (by kernel_rfl) h with ⟨hcs, hx⟩ | ⟨a, len, cap, m, n, V, D, Pl, hcs, _, hl, _, hm, hx, hi⟩
  · obtain rfl : c = .slice none 0 0 := by simpa using hcs
    exact ⟨none, 0, [], rfl, Nat.le_refl _, Txs.nil _ _ _, fun _ => ⟨by simp, fun x hx => by cases hx⟩⟩
  · obtain rfl : c = .slice (some a) len cap := by simpa using hcs
    have hml : len ≤ m := by rw [hm]; split <;> omega
    obtain ⟨L, rfl, hL⟩ := choose_list (P := fun i (x : ByteArray) => w.cell? (a.add i) = some (.string x) ∧ D i = listDat x) len (fun i hlt => by
      obtain ⟨hc, ht⟩ := hi i (by omega)
      obtain ⟨x, q, r, _⟩ := DataW.trod_string Tryd.underlying9 ht
      simp only [List.cons.injEq, and_true] at q
      simp only [Prod.mk.injEq] at r
      exact ⟨x, by rw [hc, q], r.1⟩)
    have hmap := range_map L (fun i x h => (hL i x h).2)
    refine ⟨some a, cap, L, rfl, hl, fun k x hk => ⟨a, rfl, cell_lt (hL k x hk).1, (hL k x hk).1⟩, fun hw => ?_⟩
    rw [hx, hmap] at hw
    have h1 := hw (((L.map (listDat (H := H))).length + ((List.range (m - L.length)).map fun j => D (L.length + j)).length) * Tryd.prog.bytesOf 9) (by simp [DataW.weights, Tryd.underlying23])
    rw [bp, List.length_map] at h1
    refine ⟨by omega, fun x hxm => ?_⟩
    have := hw x.size (by
      simp only [DataW.weights, Tryd.underlying23, List.mem_cons, List.mem_append]
      refine .inr (.inl (weights_all_mem (List.mem_map.2 ⟨x, hxm, rfl⟩) ?_))
      unfold listDat
      simp [DataW.weights])
    omega
set_option maxRecDepth 100000 in
theorem core_step {cs : List Value} {n : Nat} {d : DataW H} {pl : List MemPlace} (hl : cs.length = 5) (ht : DataW.trod enc Tryd.prog w 0 spare held n 25 cs = some (d, pl)) :
    ∃ (s : Sp) (p : SpAt), cs = (spArr s p).toList ∧ SpIn w w.heap.size s p ∧ ((∀ n ∈ d.weights Tryd.prog 25, n ≤ reachBytes) → SpSz s) := by
  obtain ⟨xs, m, _, hx, _, hxl, hg⟩ := DataW.trod_struct Tryd.underlying25 ht
  obtain ⟨c0, c1, c2, c3, c4, rfl⟩ := five hl
  obtain ⟨y0, y1, y2, y3, y4, rfl⟩ := five (l := xs) hxl
  have es : Tryd.prog.cellsOf 9 = 1 := by kernel_rfl
  have ei : Tryd.prog.cellsOf 22 = 1 := by kernel_rfl
  have ep : Tryd.prog.cellsOf 23 = 1 := by kernel_rfl
  have rb : reachBytes = 140737488351232 := by decide
  have k0 : DataW.trod enc Tryd.prog w 0 spare held m 9 (([c0, c1, c2, c3, c4].drop 0).take (Tryd.prog.cellsOf 9)) = some y0 := hg 0 _ rfl
  have k1 : DataW.trod enc Tryd.prog w 0 spare held m 9 (([c0, c1, c2, c3, c4].drop 1).take (Tryd.prog.cellsOf 9)) = some y1 := hg 1 _ rfl
  have k2 : DataW.trod enc Tryd.prog w 0 spare held m 9 (([c0, c1, c2, c3, c4].drop 2).take (Tryd.prog.cellsOf 9)) = some y2 := hg 2 _ rfl
  have k3 : DataW.trod enc Tryd.prog w 0 spare held m 22 (([c0, c1, c2, c3, c4].drop 3).take (Tryd.prog.cellsOf 22)) = some y3 := hg 3 _ rfl
  have k4 : DataW.trod enc Tryd.prog w 0 spare held m 23 (([c0, c1, c2, c3, c4].drop 4).take (Tryd.prog.cellsOf 23)) = some y4 := hg 4 _ rfl
  rw [es] at k0 k1 k2
  rw [ei] at k3
  rw [ep] at k4
  obtain ⟨s0, q0, r0, _⟩ := DataW.trod_string Tryd.underlying9 k0
  obtain ⟨s1, q1, r1, _⟩ := DataW.trod_string Tryd.underlying9 k1
  obtain ⟨s2, q2, r2, _⟩ := DataW.trod_string Tryd.underlying9 k2
  obtain ⟨A3, p3, N, q3, hr3, hN, hNz⟩ := core_nums k3
  obtain ⟨A4, p4, T, q4, hr4, hT, hTz⟩ := core_texts k4
  obtain rfl : c0 = .string s0 := by simpa using q0
  obtain rfl : c1 = .string s1 := by simpa using q1
  obtain rfl : c2 = .string s2 := by simpa using q2
  subst q3 q4
  refine ⟨⟨s0, s1, s2, N, T⟩, ⟨A3, p3, A4, p4⟩, rfl, ⟨hN, hT, hr3, hr4⟩, fun hs => ?_⟩
  simp only [Prod.mk.injEq] at hx
  rw [hx.1] at hs
  have m0 : ∀ n ∈ y0.1.weights Tryd.prog 9, n ≤ reachBytes := fun n hn => hs n (by simp only [DataW.weights, Tryd.underlying25]; exact DataW.weights_mem_each (j := 0) rfl rfl n hn)
  have m1 : ∀ n ∈ y1.1.weights Tryd.prog 9, n ≤ reachBytes := fun n hn => hs n (by simp only [DataW.weights, Tryd.underlying25]; exact DataW.weights_mem_each (j := 1) rfl rfl n hn)
  have m2 : ∀ n ∈ y2.1.weights Tryd.prog 9, n ≤ reachBytes := fun n hn => hs n (by simp only [DataW.weights, Tryd.underlying25]; exact DataW.weights_mem_each (j := 2) rfl rfl n hn)
  have m3 : ∀ n ∈ y3.1.weights Tryd.prog 22, n ≤ reachBytes := fun n hn => hs n (by simp only [DataW.weights, Tryd.underlying25]; exact DataW.weights_mem_each (j := 3) rfl rfl n hn)
  have m4 : ∀ n ∈ y4.1.weights Tryd.prog 23, n ≤ reachBytes := fun n hn => hs n (by simp only [DataW.weights, Tryd.underlying25]; exact DataW.weights_mem_each (j := 4) rfl rfl n hn)
  have e : ∀ s : ByteArray, s.data.toList.length = s.size := fun _ => rfl
  have z0 := m0 s0.size (by rw [r0]; simp [DataW.weights])
  have z1 := m1 s1.size (by rw [r1]; simp [DataW.weights])
  have z2 := m2 s2.size (by rw [r2]; simp [DataW.weights])
  exact ⟨hNz m3, (hTz m4).1, by rw [← rb]; exact z0, by rw [← rb]; exact z1, by rw [← rb]; exact z2, (hTz m4).2⟩
set_option maxRecDepth 100000 in
theorem open_step {r : Reach} {v : Value} {d : DataW H} {pl : List MemPlace} (hv : Value.okWide Tryd.prog w r b 25 v) (h : DataW.Trod enc Tryd.prog w 0 spare held 25 v d pl) :
    ∃ (s : Sp) (p : SpAt), v = .agg (spArr s p) ∧ SpIn w w.heap.size s p ∧ ((∀ n ∈ d.weights Tryd.prog 25, n ≤ reachBytes) → SpSz s) := by
  obtain ⟨cs, rfl, hsz⟩ := okWide_struct Tryd.underlying25 hv
  obtain ⟨fuel, hf⟩ := h
  have hC : Tryd.prog.cellsOf 25 = 5 := by kernel_rfl
  obtain ⟨s, p, e, hI, hS⟩ := core_step (cs := cs.toList) (by rw [Array.length_toList, hsz, hC]) hf
  refine ⟨s, p, ?_, hI, hS⟩
  rw [← Array.toArray_toList (xs := cs), e]
/-- keys in memory -/
structure Ky where
  sig : List ByteArray
  wit : List ByteArray
  need : Int
structure KyAt where
  a : Option Addr
  c : Nat
  a2 : Option Addr
  c2 : Nat
def kyArr (k : Ky) (p : KyAt) : Array Value := #[.slice p.a k.sig.length p.c, .slice p.a2 k.wit.length p.c2, .int .i64 k.need]
structure KyIn (w : World) (B : Nat) (k : Ky) (p : KyAt) : Prop where
  sig : Txs w B p.a k.sig
  wit : Txs w B p.a2 k.wit
  room : k.sig.length ≤ p.c
  room2 : k.wit.length ≤ p.c2
structure KySz (k : Ky) : Prop where
  sig : k.sig.length * 16 ≤ 140737488351232
  wit : k.wit.length * 16 ≤ 140737488351232
  each : ∀ t ∈ k.sig, t.size ≤ 140737488351232
theorem KyIn.below {w w' : World} {B : Nat} {k : Ky} {p : KyAt} (h : KyIn w B k p) (b : Below B w w') : KyIn w' B k p := ⟨h.sig.below b, h.wit.below b, h.room, h.room2⟩
theorem KyIn.up {w w' : World} {k : Ky} {p : KyAt} (h : KyIn w w.heap.size k p) (b : Below w.heap.size w w') : KyIn w' w'.heap.size k p := ⟨(h.sig.below b).mono b.size, (h.wit.below b).mono b.size, h.room, h.room2⟩
set_option maxRecDepth 100000 in
theorem open_keys {r : Reach} {v : Value} {d : DataW H} {pl : List MemPlace} (hv : Value.okWide Tryd.prog w r b 39 v) (h : DataW.Trod enc Tryd.prog w 0 spare held 39 v d pl) :
    ∃ (k : Ky) (p : KyAt), v = .agg (kyArr k p) ∧ KyIn w w.heap.size k p ∧ ((∀ n ∈ d.weights Tryd.prog 39, n ≤ reachBytes) → KySz k) := by
  obtain ⟨cs, rfl, hsz⟩ := okWide_struct Tryd.underlying39 hv
  obtain ⟨fuel, hf⟩ := h
  have hC : Tryd.prog.cellsOf 39 = 3 := by kernel_rfl
  obtain ⟨c0, c1, c2, hl⟩ : ∃ a b c, cs.toList = [a, b, c] := by
    have hl : cs.toList.length = 3 := by rw [Array.length_toList, hsz, hC]
    match cs.toList, hl with
    | [a, b, c], _ => exact ⟨a, b, c, rfl⟩
  have hcs : cs = #[c0, c1, c2] := by rw [← Array.toArray_toList (xs := cs), hl]
  subst hcs
  obtain ⟨xs, m, _, hx, _, hxl, hg⟩ := DataW.trod_struct Tryd.underlying39 hf
  match xs, hxl with
  | [y0, y1, y2], _ =>
    have ei : Tryd.prog.cellsOf 3 = 1 := by kernel_rfl
    have ep : Tryd.prog.cellsOf 23 = 1 := by kernel_rfl
    have k0 : DataW.trod enc Tryd.prog w 0 spare held m 23 (([c0, c1, c2].drop 0).take (Tryd.prog.cellsOf 23)) = some y0 := hg 0 _ rfl
    have k1 : DataW.trod enc Tryd.prog w 0 spare held m 23 (([c0, c1, c2].drop 1).take (Tryd.prog.cellsOf 23)) = some y1 := hg 1 _ rfl
    have k2 : DataW.trod enc Tryd.prog w 0 spare held m 3 (([c0, c1, c2].drop 2).take (Tryd.prog.cellsOf 3)) = some y2 := hg 2 _ rfl
    rw [ei] at k2
    rw [ep] at k0 k1
    obtain ⟨A0, p0, T0, q0, hr0, hT0, hz0⟩ := core_texts k0
    obtain ⟨A1, p1, T1, q1, hr1, hT1, hz1⟩ := core_texts k1
    obtain ⟨n2, q2, _⟩ := DataW.trod_int Tryd.underlying3 k2
    obtain rfl : c2 = .int .i64 n2 := by simpa using q2
    subst q0 q1
    refine ⟨⟨T0, T1, n2⟩, ⟨A0, p0, A1, p1⟩, rfl, ⟨hT0, hT1, hr0, hr1⟩, fun hs => ?_⟩
    · simp only [Prod.mk.injEq] at hx
      rw [hx.1] at hs
      have m0 : ∀ n ∈ y0.1.weights Tryd.prog 23, n ≤ reachBytes := fun n hn => hs n (by simp only [DataW.weights, Tryd.underlying39]; exact DataW.weights_mem_each (j := 0) rfl rfl n hn)
      have m1 : ∀ n ∈ y1.1.weights Tryd.prog 23, n ≤ reachBytes := fun n hn => hs n (by simp only [DataW.weights, Tryd.underlying39]; exact DataW.weights_mem_each (j := 1) rfl rfl n hn)
      exact ⟨(hz0 m0).1, (hz1 m1).1, (hz0 m0).2⟩
/-- a step, and where its slices lie -/
abbrev SpL := Sp × SpAt
def Sps (w : World) (B : Nat) (A : Option Addr) (L : List SpL) : Prop :=
  ∀ k x, L[k]? = some x → ∃ ad, A = some ad ∧ (ad.add (k * 5)).block < B ∧ w.cells? 0 (ad.add (k * 5)) 5 = some (spArr x.1 x.2).toList ∧ SpIn w B x.1 x.2
end
end Go.Proofs.YtchpgngphgjmnaaDoor
