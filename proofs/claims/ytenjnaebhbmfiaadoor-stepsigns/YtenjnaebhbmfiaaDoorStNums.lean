/- A list of numbers in memory, and as an argument, opened. -/
import Derived.Test.YtenjnaebhbmfiaaDoorLists
import Derived.Deep.Slices
namespace Go.Proofs.YtenjnaebhbmfiaaDoor
open Go.ChangeShapes Go.WideShapes Go.ChangeAt Go.RowKit Go.Deep

/-- the numbers that a slice holds, all in blocks below B -/
def NumsA (w : World) (B : Nat) (A : Option Addr) (N : List Int) : Prop := ∀ k x, N[k]? = some x → ∃ ad, A = some ad ∧ (ad.add k).block < B ∧ w.cell? (ad.add k) = some (.int .i64 x)
section
variable {b : Nat} {H : Type} {enc : TypeId × Value → H} {w : World} {spare : Nat → Bool} {held : Bool}
set_option maxRecDepth 100000 in
theorem open_nums {r : Reach} {v : Value} {d : DataW H} {pl : List MemPlace} (hv : Value.okWide Tryd.prog w r b 22 v) (h : DataW.Trod enc Tryd.prog w 0 spare held 22 v d pl) :
    ∃ (A : Option Addr) (c : Nat) (N : List Int), v = .slice A N.length c ∧ NumsA w w.heap.size A N := by
  obtain ⟨a0, len0, cap0, rfl⟩ := okWide_slice Tryd.underlying22 hv
  obtain ⟨fuel, hf⟩ := h
  rcases open_slice1 Tryd.underlying22 (by kernel_rfl) hf with ⟨hcs, hx⟩ | ⟨a, len, cap, m, n, V, D, Pl, hcs, _, hl, _, hm, hx, hi⟩
  · simp only [Value.cells, List.cons.injEq, Value.slice.injEq, and_true] at hcs
    obtain ⟨rfl, rfl, rfl⟩ := hcs
    exact ⟨none, 0, [], rfl, fun k x h => by simp at h⟩
  · simp only [Value.cells, List.cons.injEq, Value.slice.injEq, and_true] at hcs
    obtain ⟨rfl, rfl, rfl⟩ := hcs
    have hml : len0 ≤ m := by rw [hm]; split <;> omega
    obtain ⟨L, rfl, hL⟩ := choose_list (P := fun i (x : Int) => w.cell? (a.add i) = some (.int .i64 x)) len0 (fun i hlt => by
      obtain ⟨hc, ht⟩ := hi i (by omega)
      obtain ⟨x, q, _, _⟩ := DataW.trod_int Tryd.underlying3 ht
      simp only [List.cons.injEq, and_true] at q
      exact ⟨x, by rw [hc, q]⟩)
    refine ⟨some a, cap0, L, rfl, fun k x hx => ⟨a, rfl, ?_, hL k x hx⟩⟩
    have hc := hL k x hx
    rcases Nat.lt_or_ge (a.add k).block w.heap.size with hlt | hge
    · exact hlt
    · simp [World.cell?, Array.getElem?_eq_none hge] at hc
end
end Go.Proofs.YtenjnaebhbmfiaaDoor
