/- The arguments that are lists, opened: what all of them need; lists of numbers and of texts. -/
import Derived.Test.YtpfafgmafgfokaaWFrame
import Derived.Test.YtpfafgmafgfokaaWRows
import Derived.Deep.Slices
namespace Go.Proofs.Ytpfafgmafgfokaa
open Go.ChangeShapes Go.WideShapes Go.ChangeAt Go.RowKit Go.Deep

theorem choose_list {α : Type} {P : Nat → α → Prop} : ∀ n, (∀ i, i < n → ∃ x, P i x) → ∃ L : List α, L.length = n ∧ ∀ i x, L[i]? = some x → P i x
  | 0, _ => ⟨[], rfl, fun i x h => by simp at h⟩
  | n + 1, h => by
    obtain ⟨L, hl, hL⟩ := choose_list n (fun i hi => h i (by omega))
    obtain ⟨y, hy⟩ := h n (by omega)
    refine ⟨L ++ [y], by simp [hl], fun i x hx => ?_⟩
    rcases Nat.lt_or_ge i L.length with hi | hi
    · rw [List.getElem?_append_left hi] at hx
      exact hL i x hx
    · rw [List.getElem?_append_right hi] at hx
      have h0 : i - L.length = 0 := by
        rcases Nat.eq_zero_or_pos (i - L.length) with h0 | h0
        · exact h0
        · rw [List.getElem?_eq_none (by simp; omega)] at hx; cases hx
      rw [h0] at hx
      simp at hx
      subst hx
      obtain rfl : i = n := by omega
      exact hy
theorem add_next (p : Addr) (j : Nat) (hj : j ≠ 0) : p.add j = ⟨p.block, p.off + j, none⟩ := by simp [Addr.add, hj]
theorem range_map {α β : Type} {D : Nat → β} {f : α → β} (L : List α) (h : ∀ i x, L[i]? = some x → D i = f x) : (List.range L.length).map D = L.map f := by
  apply List.ext_getElem?
  intro i
  rcases Nat.lt_or_ge i L.length with hi | hi
  · simp [hi, h i L[i] (List.getElem?_eq_getElem hi)]
  · simp [hi]

section
variable {b : Nat} {H : Type} {enc : TypeId × Value → H} {w : World} {spare : Nat → Bool} {held : Bool}
theorem lt_of_cell {p : Addr} {v : Value} (h : w.cell? p = some v) : p.block < w.heap.size := by
  rcases Nat.lt_or_ge p.block w.heap.size with hlt | hge
  · exact hlt
  · simp [World.cell?, Array.getElem?_eq_none hge] at h
def numDat (n : Int) : DataW H := .lit (.int .i64 n)
def textDat (t : ByteArray) : DataW H := .lit (.string t.data.toList)
theorem open_numbers {v : Value} {d : DataW H} {pl : List MemPlace} (hv : Value.okWide Try.prog w .any b 36 v) (h : DataW.Trod enc Try.prog w 0 spare held 36 v d pl) :
    ∃ (A : Option Addr) (c : Nat) (N : List Int), v = .slice A N.length c ∧ NumsIn w w.heap.size A N ∧ (∀ B, Rows.uptoBulk d ≤ B → Rows.uptoBulkAll (N.map (numDat (H := H))) ≤ B) := by
  obtain ⟨a0, len0, cap0, rfl⟩ := okWide_slice Try.underlying36 hv
  obtain ⟨fuel, hf⟩ := h
  rcases open_slice1 Try.underlying36 (by kernel_rfl) hf with ⟨hcs, hx⟩ | ⟨a, len, cap, m, n, V, D, Pl, hcs, _, hl, _, hm, hx, hi⟩
  · simp only [Value.cells, List.cons.injEq, Value.slice.injEq, and_true] at hcs
    obtain ⟨rfl, rfl, rfl⟩ := hcs
    exact ⟨none, 0, [], rfl, fun k x h => by simp at h, fun B _ => Nat.zero_le _⟩
  · simp only [Value.cells, List.cons.injEq, Value.slice.injEq, and_true] at hcs
    obtain ⟨rfl, rfl, rfl⟩ := hcs
    have hml : len0 ≤ m := by rw [hm]; split <;> omega
    obtain ⟨L, rfl, hL⟩ := choose_list (P := fun i (x : Int) => w.cell? (a.add i) = some (.int .i64 x) ∧ D i = numDat x) len0 (fun i hlt => by
      obtain ⟨hc, ht⟩ := hi i (by omega)
      obtain ⟨x, q, r, _⟩ := DataW.trod_int Try.underlying3 ht
      simp only [List.cons.injEq, and_true] at q
      simp only [Prod.mk.injEq] at r
      exact ⟨x, by rw [hc, q], r.1⟩)
    refine ⟨some a, cap0, L, rfl, fun k x hx => ⟨a, rfl, lt_of_cell (hL k x hx).1, (hL k x hx).1⟩, fun B hB => ?_⟩
    simp only [Prod.mk.injEq] at hx
    rw [hx.1, range_map L (fun i x h => (hL i x h).2)] at hB
    simp only [Rows.uptoBulk] at hB
    omega
theorem open_texts {v : Value} {d : DataW H} {pl : List MemPlace} (hv : Value.okWide Try.prog w .any b 37 v) (h : DataW.Trod enc Try.prog w 0 spare held 37 v d pl) :
    ∃ (A : Option Addr) (c : Nat) (T : List ByteArray), v = .slice A T.length c ∧ TextsIn w w.heap.size A T ∧ (∀ B, Rows.uptoBulk d ≤ B → Rows.uptoBulkAll (T.map (textDat (H := H))) ≤ B) := by
  obtain ⟨a0, len0, cap0, rfl⟩ := okWide_slice Try.underlying37 hv
  obtain ⟨fuel, hf⟩ := h
  rcases open_slice1 Try.underlying37 (by kernel_rfl) hf with ⟨hcs, hx⟩ | ⟨a, len, cap, m, n, V, D, Pl, hcs, _, hl, _, hm, hx, hi⟩
  · simp only [Value.cells, List.cons.injEq, Value.slice.injEq, and_true] at hcs
    obtain ⟨rfl, rfl, rfl⟩ := hcs
    exact ⟨none, 0, [], rfl, fun k x h => by simp at h, fun B _ => Nat.zero_le _⟩
  · simp only [Value.cells, List.cons.injEq, Value.slice.injEq, and_true] at hcs
    obtain ⟨rfl, rfl, rfl⟩ := hcs
    have hml : len0 ≤ m := by rw [hm]; split <;> omega
    obtain ⟨L, rfl, hL⟩ := choose_list (P := fun i (x : ByteArray) => w.cell? (a.add i) = some (.string x) ∧ D i = textDat x) len0 (fun i hlt => by
      obtain ⟨hc, ht⟩ := hi i (by omega)
      obtain ⟨x, q, r, _⟩ := DataW.trod_string Try.underlying9 ht
      simp only [List.cons.injEq, and_true] at q
      simp only [Prod.mk.injEq] at r
      exact ⟨x, by rw [hc, q], r.1⟩)
    refine ⟨some a, cap0, L, rfl, fun k x hx => ⟨a, rfl, lt_of_cell (hL k x hx).1, (hL k x hx).1⟩, fun B hB => ?_⟩
    simp only [Prod.mk.injEq] at hx
    rw [hx.1, range_map L (fun i x h => (hL i x h).2)] at hB
    simp only [Rows.uptoBulk] at hB
    omega
theorem bulk_nums (L : List Int) : L.length ≤ Rows.uptoBulkAll (L.map (numDat (H := H))) := by
  induction L with
  | nil => simp
  | cons x L ih =>
    simp only [List.map_cons, Rows.uptoBulkAll, numDat, Rows.uptoBulk, List.length_cons]
    omega
theorem bulk_texts (L : List ByteArray) : sz L + L.length ≤ Rows.uptoBulkAll (L.map (textDat (H := H))) := by
  induction L with
  | nil => simp [sz]
  | cons x L ih =>
    have e : x.data.toList.length = x.size := rfl
    simp only [List.map_cons, Rows.uptoBulkAll, textDat, Rows.uptoBulk, List.length_cons, sz, e]
    omega
end
end Go.Proofs.Ytpfafgmafgfokaa
