/- The arguments that are lists of structs, opened. -/
import Derived.Test.YtpfafgmafgfokaaWFrame
import Derived.Test.YtpfafgmafgfokaaWWrites
import Derived.Deep.Slices
import Derived.Deep.Fields
namespace Go.Proofs.Ytpfafgmafgfokaa
open Go.ChangeShapes Go.WideShapes Go.ChangeAt Go.RowKit Go.Deep

theorem choose_list {α : Type} {P : Nat → α → Prop} : ∀ n, (∀ i, i < n → ∃ x, P i x) → ∃ L : List α, L.length = n ∧ ∀ i x, L[i]? = some x → P i x
  | 0, _ => ⟨[], rfl, fun i x h => by simp at h⟩
  | n + 1, h => by
    obtain ⟨L, hl, hL⟩ := choose_list n (fun i hi => h i (by omega))
    obtain ⟨y, hy⟩ := h n (by omega)
    refine ⟨L ++ [y], by simp [hl], fun i x hx => ?_⟩
    rcases Nat.lt_or_ge i L.length with hi | hi
    · rw [List.getElem?_append_left hi] at hx
      exact hL i x hx
    · rw [List.getElem?_append_right hi] at hx
      have h0 : i - L.length = 0 := by
        rcases Nat.eq_zero_or_pos (i - L.length) with h0 | h0
        · exact h0
        · rw [List.getElem?_eq_none (by simp; omega)] at hx; cases hx
      rw [h0] at hx
      simp at hx
      subst hx
      obtain rfl : i = n := by omega
      exact hy
theorem add_next (p : Addr) (j : Nat) (hj : j ≠ 0) : p.add j = ⟨p.block, p.off + j, none⟩ := by simp [Addr.add, hj]
theorem range_map {α β : Type} {D : Nat → β} {f : α → β} (L : List α) (h : ∀ i x, L[i]? = some x → D i = f x) : (List.range L.length).map D = L.map f := by
  apply List.ext_getElem?
  intro i
  rcases Nat.lt_or_ge i L.length with hi | hi
  · simp [hi, h i L[i] (List.getElem?_eq_getElem hi)]
  · simp [hi]

section
variable {b : Nat} {H : Type} {enc : TypeId × Value → H} {w : World} {spare : Nat → Bool} {held : Bool}
/-- a put as data -/
def putDat (x : PutT) : DataW H := .agg [.lit (.int .i64 x.1), .lit (.int .i64 x.2.1), .lit (.string x.2.2.data.toList)]
theorem elem_put {p : Addr} {cs : List Value} {n : Nat} {d : DataW H} {pl : List MemPlace} (hc : w.cells? 0 p 3 = some cs) (ht : DataW.trod enc Try.prog w 0 spare held n 55 cs = some (d, pl)) :
    ∃ x : PutT, (p.block < w.heap.size ∧ w.cell? p = some (.int .i64 x.1) ∧ w.cell? ⟨p.block, p.off + 1, none⟩ = some (.int .i64 x.2.1) ∧ w.cell? ⟨p.block, p.off + 2, none⟩ = some (.string x.2.2)) ∧ d = putDat x := by
  obtain ⟨_, hl, hat⟩ := World.cells?_some hc
  obtain ⟨xs, m, _, hx, _, hxl, hf⟩ := DataW.trod_struct Try.underlying55 ht
  match cs, hl with
  | [c0, c1, c2], _ =>
    match xs, hxl with
    | [y0, y1, y2], _ =>
      have e0 : Try.prog.cellsOf 3 = 1 := by kernel_rfl
      have e2 : Try.prog.cellsOf 9 = 1 := by kernel_rfl
      have k0 : DataW.trod enc Try.prog w 0 spare held m 3 (([c0, c1, c2].drop 0).take (Try.prog.cellsOf 3)) = some y0 := hf 0 _ rfl
      have k1 : DataW.trod enc Try.prog w 0 spare held m 3 (([c0, c1, c2].drop 1).take (Try.prog.cellsOf 3)) = some y1 := hf 1 _ rfl
      have k2 : DataW.trod enc Try.prog w 0 spare held m 9 (([c0, c1, c2].drop 2).take (Try.prog.cellsOf 9)) = some y2 := hf 2 _ rfl
      rw [e0] at k0 k1
      rw [e2] at k2
      obtain ⟨n0, q0, r0, _⟩ := DataW.trod_int Try.underlying3 k0
      obtain ⟨n1, q1, r1, _⟩ := DataW.trod_int Try.underlying3 k1
      obtain ⟨s, q2, r2, _⟩ := DataW.trod_string Try.underlying9 k2
      obtain rfl : c0 = .int .i64 n0 := by simpa using q0
      obtain rfl : c1 = .int .i64 n1 := by simpa using q1
      obtain rfl : c2 = .string s := by simpa using q2
      subst r0 r1 r2
      have c0 := hat 0 (by omega)
      have c1 := hat 1 (by omega)
      have c2 := hat 2 (by omega)
      rw [add_next p 1 (by omega)] at c1
      rw [add_next p 2 (by omega)] at c2
      refine ⟨(n0, n1, s), ⟨?_, ?_, c1, c2⟩, ?_⟩
      · have hb : w.cell? ⟨p.block, p.off + 1, none⟩ = some (.int .i64 n1) := c1
        rcases Nat.lt_or_ge p.block w.heap.size with hlt | hge
        · exact hlt
        · simp [World.cell?, Array.getElem?_eq_none hge] at hb
      · have := c0
        simpa [Addr.add] using this
      · simp only [Prod.mk.injEq] at hx
        exact hx.1

theorem open_puts {v : Value} {d : DataW H} {pl : List MemPlace} (hv : Value.okWide Try.prog w .any b 49 v) (h : DataW.Trod enc Try.prog w 0 spare held 49 v d pl) :
    ∃ (A : Option Addr) (c : Nat) (L : List PutT), v = .slice A L.length c ∧ PutsIn w w.heap.size A L ∧ (∀ B, Rows.uptoBulk d ≤ B → Rows.uptoBulkAll (L.map (putDat (H := H))) ≤ B) := by
  obtain ⟨a0, len0, cap0, rfl⟩ := okWide_slice Try.underlying49 hv
  obtain ⟨fuel, hf⟩ := h
  rcases open_slice Try.underlying49 hf with ⟨hcs, hx⟩ | ⟨a, len, cap, m, n, D, Pl, hcs, _, hl, _, hm, hx, hi⟩
  · simp only [Value.cells, List.cons.injEq, Value.slice.injEq, and_true] at hcs
    obtain ⟨rfl, rfl, rfl⟩ := hcs
    exact ⟨none, 0, [], rfl, fun k x h => by simp at h, fun B _ => Nat.zero_le _⟩
  · simp only [Value.cells, List.cons.injEq, Value.slice.injEq, and_true] at hcs
    obtain ⟨rfl, rfl, rfl⟩ := hcs
    have hml : len0 ≤ m := by rw [hm]; split <;> omega
    have ec : Try.prog.cellsOf 55 = 3 := by kernel_rfl
    obtain ⟨L, rfl, hL⟩ := choose_list (P := fun i (x : PutT) => ((a.add (i * 3)).block < w.heap.size ∧ w.cell? (a.add (i * 3)) = some (.int .i64 x.1) ∧ w.cell? ⟨(a.add (i * 3)).block, (a.add (i * 3)).off + 1, none⟩ = some (.int .i64 x.2.1) ∧ w.cell? ⟨(a.add (i * 3)).block, (a.add (i * 3)).off + 2, none⟩ = some (.string x.2.2)) ∧ D i = putDat x) len0 (fun i hlt => by
      obtain ⟨cs, hc, ht⟩ := hi i (by omega)
      rw [ec] at hc
      exact elem_put hc ht)
    refine ⟨some a, cap0, L, rfl, fun k x hx => ⟨a, rfl, (hL k x hx).1⟩, fun B hB => ?_⟩
    simp only [Prod.mk.injEq] at hx
    rw [hx.1, range_map L (fun i x h => (hL i x h).2)] at hB
    simp only [Rows.uptoBulk] at hB
    omega
theorem bulk_puts (L : List PutT) : wt L ≤ 16 * Rows.uptoBulkAll (L.map (putDat (H := H))) ∧ L.length ≤ Rows.uptoBulkAll (L.map (putDat (H := H))) := by
  induction L with
  | nil => simp [wt]
  | cons x L ih =>
    have e : x.2.2.data.toList.length = x.2.2.size := rfl
    simp only [List.map_cons, Rows.uptoBulkAll, putDat, Rows.uptoBulk, wt, List.length_cons, e]
    omega
end
end Go.Proofs.Ytpfafgmafgfokaa
