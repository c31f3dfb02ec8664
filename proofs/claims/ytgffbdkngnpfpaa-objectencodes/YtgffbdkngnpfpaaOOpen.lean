/- An argument that is an object, opened. -/
import Derived.Test.YtgffbdkngnpfpaaWFrame
import Derived.Test.YtgffbdkngnpfpaaLists
import Derived.Test.YtgffbdkngnpfpaaOMem
import Derived.Deep.Slices
import Derived.Deep.Fields
namespace Go.Proofs.Ytgffbdkngnpfpaa
open Go.ChangeShapes Go.WideShapes Go.ChangeAt Go.RowKit Go.Deep

section
variable {b : Nat} {H : Type} {enc : TypeId × Value → H} {w : World} {spare : Nat → Bool} {held : Bool}
theorem lt_of_cell {p : Addr} {v : Value} (h : w.cell? p = some v) : p.block < w.heap.size := by
  rcases Nat.lt_or_ge p.block w.heap.size with hlt | hge
  · exact hlt
  · simp [World.cell?, Array.getElem?_eq_none hge] at h
theorem bulk_map {α : Type} (L : List α) (f : α → DataW H) (h : ∀ x, 1 ≤ Rows.uptoBulk (f x)) : L.length ≤ Rows.uptoBulkAll (L.map f) := by
  induction L with
  | nil => simp
  | cons x L ih =>
    have := h x
    simp only [List.map_cons, Rows.uptoBulkAll, List.length_cons]
    omega
theorem bulk_pos (d : DataW H) : 1 ≤ Rows.uptoBulk d := by
  cases d with
  | lit l => cases l <;> simp [Rows.uptoBulk]
  | nil => simp [Rows.uptoBulk]
  | ptr d => simp [Rows.uptoBulk]
  | slice a b => simp [Rows.uptoBulk]
  | agg a => simp [Rows.uptoBulk]
  | iface a b => simp [Rows.uptoBulk]
  | map a => simp [Rows.uptoBulk]
  | held a => simp [Rows.uptoBulk]
theorem bulk_all_len (L : List (DataW H)) : L.length ≤ Rows.uptoBulkAll L := by
  have := bulk_map L (fun x => x) bulk_pos
  simpa using this
set_option maxRecDepth 100000 in
theorem elem_ent {p : Addr} {cs : List Value} {n : Nat} {d : DataW H} {pl : List MemPlace} (hc : w.cells? 0 p 3 = some cs) (ht : DataW.trod enc Try.prog w 0 spare held n 51 cs = some (d, pl)) :
    ∃ x : Ent, p.block < w.heap.size ∧ w.cell? p = some (.string x.name) ∧ w.cell? ⟨p.block, p.off + 1, none⟩ = some (.bool x.dir) ∧ w.cell? ⟨p.block, p.off + 2, none⟩ = some (.string x.id) := by
  obtain ⟨_, hl, hat⟩ := World.cells?_some hc
  obtain ⟨xs, m, _, hx, _, hxl, hf⟩ := DataW.trod_struct Try.underlying51 ht
  match cs, hl with
  | [c0, c1, c2], _ =>
    match xs, hxl with
    | [y0, y1, y2], _ =>
      have e0 : Try.prog.cellsOf 4 = 1 := by kernel_rfl
      have e2 : Try.prog.cellsOf 9 = 1 := by kernel_rfl
      have k0 : DataW.trod enc Try.prog w 0 spare held m 9 (([c0, c1, c2].drop 0).take (Try.prog.cellsOf 9)) = some y0 := hf 0 _ rfl
      have k1 : DataW.trod enc Try.prog w 0 spare held m 4 (([c0, c1, c2].drop 1).take (Try.prog.cellsOf 4)) = some y1 := hf 1 _ rfl
      have k2 : DataW.trod enc Try.prog w 0 spare held m 9 (([c0, c1, c2].drop 2).take (Try.prog.cellsOf 9)) = some y2 := hf 2 _ rfl
      rw [e0] at k1
      rw [e2] at k0 k2
      obtain ⟨n0, q0, _⟩ := DataW.trod_string Try.underlying9 k0
      obtain ⟨n1, q1, _⟩ := DataW.trod_bool Try.underlying4 k1
      obtain ⟨s, q2, _⟩ := DataW.trod_string Try.underlying9 k2
      obtain rfl : c0 = .string n0 := by simpa using q0
      obtain rfl : c1 = .bool n1 := by simpa using q1
      obtain rfl : c2 = .string s := by simpa using q2
      have c0 := hat 0 (by omega)
      have c1 := hat 1 (by omega)
      have c2 := hat 2 (by omega)
      rw [add_next p 1 (by omega)] at c1
      rw [add_next p 2 (by omega)] at c2
      have hb : w.cell? ⟨p.block, p.off + 1, none⟩ = some (.bool n1) := c1
      refine ⟨⟨n0, n1, s⟩, lt_of_cell (p := ⟨p.block, p.off + 1, none⟩) hb, ?_, c1, c2⟩
      have := c0
      simpa [Addr.add] using this
set_option maxRecDepth 100000 in
theorem open_ents {c : Value} {n : Nat} {y : DataW H × List MemPlace} (h : DataW.trod enc Try.prog w 0 spare held n 22 [c] = some y) :
    ∃ (A : Option Addr) (cp : Nat) (L : List Ent), c = .slice A L.length cp ∧ Ens w w.heap.size A L ∧ L.length ≤ Rows.uptoBulk y.1 := by
  rcases open_slice Try.underlying22 h with ⟨hcs, hx⟩ | ⟨a, len, cap, m, n, D, Pl, hcs, _, hl, _, hm, hx, hi⟩
  · obtain rfl : c = .slice none 0 0 := by simpa using hcs
    exact ⟨none, 0, [], rfl, Ens.nil _ _ _, Nat.zero_le _⟩
  · obtain rfl : c = .slice (some a) len cap := by simpa using hcs
    have hml : len ≤ m := by rw [hm]; split <;> omega
    have ec : Try.prog.cellsOf 51 = 3 := by kernel_rfl
    obtain ⟨L, rfl, hL⟩ := choose_list (P := fun i (x : Ent) => (a.add (i * 3)).block < w.heap.size ∧ w.cell? (a.add (i * 3)) = some (.string x.name) ∧ w.cell? ⟨(a.add (i * 3)).block, (a.add (i * 3)).off + 1, none⟩ = some (.bool x.dir) ∧ w.cell? ⟨(a.add (i * 3)).block, (a.add (i * 3)).off + 2, none⟩ = some (.string x.id)) len (fun i hlt => by
      obtain ⟨cs, hc, ht⟩ := hi i (by omega)
      rw [ec] at hc
      exact elem_ent hc ht)
    refine ⟨some a, cap, L, rfl, fun k x hx => ⟨a, rfl, hL k x hx⟩, ?_⟩
    rw [hx]
    simp only [Rows.uptoBulk]
    have := bulk_all_len ((List.range L.length).map D)
    rw [List.length_map, List.length_range] at this
    omega
set_option maxRecDepth 100000 in
theorem open_pars {c : Value} {n : Nat} {y : DataW H × List MemPlace} (h : DataW.trod enc Try.prog w 0 spare held n 23 [c] = some y) :
    ∃ (A : Option Addr) (cp : Nat) (T : List ByteArray), c = .slice A T.length cp ∧ T.length ≤ cp ∧ Txs w w.heap.size A T ∧ T.length ≤ Rows.uptoBulk y.1 := by
  rcases open_slice1 Try.underlying23 (by kernel_rfl) h with ⟨hcs, hx⟩ | ⟨a, len, cap, m, n, V, D, Pl, hcs, _, hl, _, hm, hx, hi⟩
  · obtain rfl : c = .slice none 0 0 := by simpa using hcs
    exact ⟨none, 0, [], rfl, Nat.le_refl _, Txs.nil _ _ _, Nat.zero_le _⟩
  · obtain rfl : c = .slice (some a) len cap := by simpa using hcs
    have hml : len ≤ m := by rw [hm]; split <;> omega
    obtain ⟨L, rfl, hL⟩ := choose_list (P := fun i (x : ByteArray) => w.cell? (a.add i) = some (.string x)) len (fun i hlt => by
      obtain ⟨hc, ht⟩ := hi i (by omega)
      obtain ⟨x, q, _⟩ := DataW.trod_string Try.underlying9 ht
      simp only [List.cons.injEq, and_true] at q
      exact ⟨x, by rw [hc, q]⟩)
    refine ⟨some a, cap, L, rfl, hl, fun k x hx => ⟨a, rfl, lt_of_cell (hL k x hx), hL k x hx⟩, ?_⟩
    rw [hx]
    simp only [Rows.uptoBulk]
    have := bulk_all_len ((List.range L.length).map D)
    rw [List.length_map, List.length_range] at this
    omega
theorem nine {α : Type} {l : List α} (h : l.length = 9) : ∃ a b c d e f g i j, l = [a, b, c, d, e, f, g, i, j] := by
  match l, h with
  | [a, b, c, d, e, f, g, i, j], _ => exact ⟨a, b, c, d, e, f, g, i, j, rfl⟩
set_option maxRecDepth 100000 in
theorem open_object {r : Reach} {v : Value} {d : DataW H} {pl : List MemPlace} (hv : Value.okWide Try.prog w r b 25 v) (h : DataW.Trod enc Try.prog w 0 spare held 25 v d pl) :
    ∃ (o : Ob) (p : At), v = .agg (obArr o p) ∧ ObIn w w.heap.size o p ∧ o.ents.length ≤ Rows.uptoBulk d ∧ o.pars.length ≤ Rows.uptoBulk d := by
  obtain ⟨cs, rfl, hsz⟩ := okWide_struct Try.underlying25 hv
  obtain ⟨fuel, hf⟩ := h
  obtain ⟨xs, m, _, hx, _, hxl, hg⟩ := DataW.trod_struct Try.underlying25 hf
  have hC : Try.prog.cellsOf 25 = 9 := by kernel_rfl
  obtain ⟨c0, c1, c2, c3, c4, c5, c6, c7, c8, hl⟩ := nine (l := cs.toList) (by rw [Array.length_toList, hsz, hC])
  have hcs : cs = #[c0, c1, c2, c3, c4, c5, c6, c7, c8] := by rw [← Array.toArray_toList (xs := cs), hl]
  subst hcs
  obtain ⟨y0, y1, y2, y3, y4, y5, y6, y7, y8, rfl⟩ := nine (l := xs) hxl
  have ei : Try.prog.cellsOf 3 = 1 := by kernel_rfl
  have es : Try.prog.cellsOf 9 = 1 := by kernel_rfl
  have ee : Try.prog.cellsOf 22 = 1 := by kernel_rfl
  have ep : Try.prog.cellsOf 23 = 1 := by kernel_rfl
  have k0 : DataW.trod enc Try.prog w 0 spare held m 3 (([c0, c1, c2, c3, c4, c5, c6, c7, c8].drop 0).take (Try.prog.cellsOf 3)) = some y0 := hg 0 _ rfl
  have k1 : DataW.trod enc Try.prog w 0 spare held m 9 (([c0, c1, c2, c3, c4, c5, c6, c7, c8].drop 1).take (Try.prog.cellsOf 9)) = some y1 := hg 1 _ rfl
  have k2 : DataW.trod enc Try.prog w 0 spare held m 22 (([c0, c1, c2, c3, c4, c5, c6, c7, c8].drop 2).take (Try.prog.cellsOf 22)) = some y2 := hg 2 _ rfl
  have k3 : DataW.trod enc Try.prog w 0 spare held m 9 (([c0, c1, c2, c3, c4, c5, c6, c7, c8].drop 3).take (Try.prog.cellsOf 9)) = some y3 := hg 3 _ rfl
  have k4 : DataW.trod enc Try.prog w 0 spare held m 23 (([c0, c1, c2, c3, c4, c5, c6, c7, c8].drop 4).take (Try.prog.cellsOf 23)) = some y4 := hg 4 _ rfl
  have k5 : DataW.trod enc Try.prog w 0 spare held m 9 (([c0, c1, c2, c3, c4, c5, c6, c7, c8].drop 5).take (Try.prog.cellsOf 9)) = some y5 := hg 5 _ rfl
  have k6 : DataW.trod enc Try.prog w 0 spare held m 9 (([c0, c1, c2, c3, c4, c5, c6, c7, c8].drop 6).take (Try.prog.cellsOf 9)) = some y6 := hg 6 _ rfl
  have k7 : DataW.trod enc Try.prog w 0 spare held m 3 (([c0, c1, c2, c3, c4, c5, c6, c7, c8].drop 7).take (Try.prog.cellsOf 3)) = some y7 := hg 7 _ rfl
  have k8 : DataW.trod enc Try.prog w 0 spare held m 9 (([c0, c1, c2, c3, c4, c5, c6, c7, c8].drop 8).take (Try.prog.cellsOf 9)) = some y8 := hg 8 _ rfl
  rw [ei] at k0 k7
  rw [es] at k1 k3 k5 k6 k8
  rw [ee] at k2
  rw [ep] at k4
  obtain ⟨n0, q0, _⟩ := DataW.trod_int Try.underlying3 k0
  obtain ⟨n7, q7, _⟩ := DataW.trod_int Try.underlying3 k7
  obtain ⟨s1, q1, _⟩ := DataW.trod_string Try.underlying9 k1
  obtain ⟨s3, q3, _⟩ := DataW.trod_string Try.underlying9 k3
  obtain ⟨s5, q5, _⟩ := DataW.trod_string Try.underlying9 k5
  obtain ⟨s6, q6, _⟩ := DataW.trod_string Try.underlying9 k6
  obtain ⟨s8, q8, _⟩ := DataW.trod_string Try.underlying9 k8
  obtain ⟨A2, p2, L, q2, hE, hLb⟩ := open_ents k2
  obtain ⟨A4, p4, T, q4, hr, hT, hTb⟩ := open_pars k4
  obtain rfl : c0 = .int .i64 n0 := by simpa using q0
  obtain rfl : c7 = .int .i64 n7 := by simpa using q7
  obtain rfl : c1 = .string s1 := by simpa using q1
  obtain rfl : c3 = .string s3 := by simpa using q3
  obtain rfl : c5 = .string s5 := by simpa using q5
  obtain rfl : c6 = .string s6 := by simpa using q6
  obtain rfl : c8 = .string s8 := by simpa using q8
  subst q2 q4
  refine ⟨⟨n0, s1, L, s3, T, s5, s6, n7, s8⟩, ⟨A2, p2, A4, p4⟩, rfl, ⟨hE, hT, hr⟩, ?_⟩
  simp only [Prod.mk.injEq] at hx
  rw [hx.1]
  simp only [List.map_cons, List.map_nil, Rows.uptoBulk, Rows.uptoBulkAll]
  omega
end
end Go.Proofs.Ytgffbdkngnpfpaa
