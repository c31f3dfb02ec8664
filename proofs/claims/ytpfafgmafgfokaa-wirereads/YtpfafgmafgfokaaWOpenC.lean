/- A list of takes, opened. -/
import Derived.Test.YtpfafgmafgfokaaWFrame
import Derived.Test.YtpfafgmafgfokaaWReads
import Derived.Deep.Slices
namespace Go.Proofs.Ytpfafgmafgfokaa
open Go.ChangeShapes Go.WideShapes Go.ChangeAt Go.RowKit Go.Deep

theorem choose_list {α : Type} {P : Nat → α → Prop} : ∀ n, (∀ i, i < n → ∃ x, P i x) → ∃ L : List α, L.length = n ∧ ∀ i x, L[i]? = some x → P i x
  | 0, _ => ⟨[], rfl, fun i x h => by simp at h⟩
  | n + 1, h => by
    obtain ⟨L, hl, hL⟩ := choose_list n (fun i hi => h i (by omega))
    obtain ⟨y, hy⟩ := h n (by omega)
    refine ⟨L ++ [y], by simp [hl], fun i x hx => ?_⟩
    rcases Nat.lt_or_ge i L.length with hi | hi
    · rw [List.getElem?_append_left hi] at hx
      exact hL i x hx
    · rw [List.getElem?_append_right hi] at hx
      have h0 : i - L.length = 0 := by
        rcases Nat.eq_zero_or_pos (i - L.length) with h0 | h0
        · exact h0
        · rw [List.getElem?_eq_none (by simp; omega)] at hx; cases hx
      rw [h0] at hx
      simp at hx
      subst hx
      obtain rfl : i = n := by omega
      exact hy
theorem add_next (p : Addr) (j : Nat) (hj : j ≠ 0) : p.add j = ⟨p.block, p.off + j, none⟩ := by simp [Addr.add, hj]
theorem range_map {α β : Type} {D : Nat → β} {f : α → β} (L : List α) (h : ∀ i x, L[i]? = some x → D i = f x) : (List.range L.length).map D = L.map f := by
  apply List.ext_getElem?
  intro i
  rcases Nat.lt_or_ge i L.length with hi | hi
  · simp [hi, h i L[i] (List.getElem?_eq_getElem hi)]
  · simp [hi]

section
variable {b : Nat} {H : Type} {enc : TypeId × Value → H} {w : World} {spare : Nat → Bool} {held : Bool}
/-- a take as data -/
def takeDat (x : TakeT) : DataW H := .agg [.lit (.int .i64 x.1), .lit (.int .i64 x.2)]
theorem elem_take {p : Addr} {cs : List Value} {n : Nat} {d : DataW H} {pl : List MemPlace} (hc : w.cells? 0 p 2 = some cs) (ht : DataW.trod enc Try.prog w 0 spare held n 43 cs = some (d, pl)) :
    ∃ x : TakeT, (p.block < w.heap.size ∧ w.cell? p = some (.int .i64 x.1) ∧ w.cell? ⟨p.block, p.off + 1, none⟩ = some (.int .i64 x.2)) ∧ d = takeDat x := by
  obtain ⟨_, hl, hat⟩ := World.cells?_some hc
  obtain ⟨xs, m, _, hx, _, hxl, hf⟩ := DataW.trod_struct Try.underlying43 ht
  match cs, hl with
  | [c0, c1], _ =>
    match xs, hxl with
    | [y0, y1], _ =>
      have e0 : Try.prog.cellsOf 3 = 1 := by kernel_rfl
      have k0 : DataW.trod enc Try.prog w 0 spare held m 3 (([c0, c1].drop 0).take (Try.prog.cellsOf 3)) = some y0 := hf 0 _ rfl
      have k1 : DataW.trod enc Try.prog w 0 spare held m 3 (([c0, c1].drop 1).take (Try.prog.cellsOf 3)) = some y1 := hf 1 _ rfl
      rw [e0] at k0 k1
      obtain ⟨n0, q0, r0, _⟩ := DataW.trod_int Try.underlying3 k0
      obtain ⟨n1, q1, r1, _⟩ := DataW.trod_int Try.underlying3 k1
      obtain rfl : c0 = .int .i64 n0 := by simpa using q0
      obtain rfl : c1 = .int .i64 n1 := by simpa using q1
      subst r0 r1
      have c0 := hat 0 (by omega)
      have c1 := hat 1 (by omega)
      rw [add_next p 1 (by omega)] at c1
      have c1' : w.cell? ⟨p.block, p.off + 1, none⟩ = some (.int .i64 n1) := c1
      refine ⟨(n0, n1), ⟨cell_lt (p := ⟨p.block, p.off + 1, none⟩) c1', ?_, c1'⟩, ?_⟩
      · have := c0
        simpa [Addr.add] using this
      · simp only [Prod.mk.injEq] at hx
        exact hx.1
theorem open_takes {v : Value} {d : DataW H} {pl : List MemPlace} (hv : Value.okWide Try.prog w .any b 35 v) (h : DataW.Trod enc Try.prog w 0 spare held 35 v d pl) :
    ∃ (A : Option Addr) (c : Nat) (L : List TakeT), v = .slice A L.length c ∧ TakesIn w w.heap.size A L ∧ (L = [] ∨ ∃ sp, d = .slice (L.map takeDat) sp) := by
  obtain ⟨a0, len0, cap0, rfl⟩ := okWide_slice Try.underlying35 hv
  obtain ⟨fuel, hf⟩ := h
  rcases open_slice Try.underlying35 hf with ⟨hcs, hx⟩ | ⟨a, len, cap, m, n, D, Pl, hcs, _, hl, _, hm, hx, hi⟩
  · simp only [Value.cells, List.cons.injEq, Value.slice.injEq, and_true] at hcs
    obtain ⟨rfl, rfl, rfl⟩ := hcs
    exact ⟨none, 0, [], rfl, (fun k x h => by simp at h), .inl rfl⟩
  · simp only [Value.cells, List.cons.injEq, Value.slice.injEq, and_true] at hcs
    obtain ⟨rfl, rfl, rfl⟩ := hcs
    have hml : len0 ≤ m := by rw [hm]; split <;> omega
    have ec : Try.prog.cellsOf 43 = 2 := by kernel_rfl
    obtain ⟨L, rfl, hL⟩ := choose_list (P := fun i (x : TakeT) => ((a.add (i * 2)).block < w.heap.size ∧ w.cell? (a.add (i * 2)) = some (.int .i64 x.1) ∧ w.cell? ⟨(a.add (i * 2)).block, (a.add (i * 2)).off + 1, none⟩ = some (.int .i64 x.2)) ∧ D i = takeDat x) len0 (fun i hlt => by
      obtain ⟨cs, hc, ht⟩ := hi i (by omega)
      rw [ec] at hc
      exact elem_take hc ht)
    refine ⟨some a, cap0, L, rfl, fun k x hx => ⟨a, rfl, (hL k x hx).1⟩, .inr ?_⟩
    simp only [Prod.mk.injEq] at hx
    rw [hx.1, range_map L (fun i x h => (hL i x h).2)]
    exact ⟨_, rfl⟩
theorem takes_len {tys : List TypeId} {ds : List (DataW H)} {d : DataW H} {L : List TakeT} (h : (DataW.weightsEach Try.prog tys ds).all (· ≤ reachBytes) = true) {j : Nat} (ht : tys[j]? = some 35) (hd : ds[j]? = some d)
    (hL : L = [] ∨ ∃ sp, d = .slice (L.map takeDat) sp) : L.length ≤ 8796093022207 := by
  rcases hL with rfl | ⟨sp, rfl⟩
  · simp
  · have q := sized_slice h ht hd Try.underlying35
    have e : Try.prog.bytesOf 43 = 16 := by kernel_rfl
    rw [e, List.length_map] at q
    have r : reachBytes = 140737488351232 := by decide
    omega
end
end Go.Proofs.Ytpfafgmafgfokaa
