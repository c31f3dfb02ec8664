/- A state that comes in: its value's form. -/
import Derived.Test.YtngfgmcnpbjefaaDoorFrame
import Derived.Test.YtngfgmcnpbjefaaDoorFin
import Derived.Deep.Strs
namespace Go.Proofs.YtngfgmcnpbjefaaDoor
open Go.ChangeShapes Go.WideShapes Go.ChangeAt Go.RowKit

theorem word_of {n : Int} (h : (Lit.int .u32 n).wf = true) : ∃ x : UInt32, n = wd x := by
  have hb := bounds_u32 h
  refine ⟨UInt32.ofNat n.toNat, ?_⟩
  rw [wd_ofNat]
  omega
theorem ten {α : Type} {l : List α} (h : l.length = 10) : ∃ a b c d e f g i j k, l = [a, b, c, d, e, f, g, i, j, k] := by
  match l, h with
  | [a, b, c, d, e, f, g, i, j, k], _ => exact ⟨a, b, c, d, e, f, g, i, j, k, rfl⟩

theorem open_state {H : Type} {enc : TypeId × Value → H} {W : World} {base b0 : Nat} {sp : Nat → Bool} {held : Bool} {r : Reach} {v : Value} {d : DataW H} {p : List MemPlace}
    (hval : Value.okWide Tryd.prog W r b0 28 v) (h : DataW.Trod enc Tryd.prog W base sp held 28 v d p) :
    ∃ hs rr m, v = .agg (sarr hs rr m) ∧ hs.length = 8 ∧ -9223372036854775808 ≤ m ∧ m ≤ 9223372036854775807 := by
  have hC : Tryd.prog.cellsOf 28 = 10 := by kernel_rfl
  have hA : Tryd.prog.cellsOf 26 = 8 := by kernel_rfl
  have hW : Tryd.prog.cellsOf 25 = 1 := by kernel_rfl
  have hS : Tryd.prog.cellsOf 9 = 1 := by kernel_rfl
  have hI : Tryd.prog.cellsOf 3 = 1 := by kernel_rfl
  obtain ⟨cs, rfl, hsz⟩ := okWide_struct Tryd.underlying28 hval
  obtain ⟨fuel, hf⟩ := h
  obtain ⟨y0, y1, y2, n, _, _, h0, h1, h2⟩ := Deep.trod_struct3 Tryd.underlying28 hf
  obtain ⟨a, b, c, d, e, f, g, i, j, k, hl⟩ := ten (l := cs.toList) (by rw [Array.length_toList, hsz, hC])
  have hcs : cs = #[a, b, c, d, e, f, g, i, j, k] := by rw [← Array.toArray_toList (xs := cs), hl]
  subst hcs
  simp only [Value.cells, hA, hS, hI] at h0 h1 h2
  obtain ⟨s, e1, _, _⟩ := DataW.trod_string Tryd.underlying9 h1
  obtain ⟨m, e2, _, wm⟩ := DataW.trod_int Tryd.underlying3 h2
  obtain ⟨xs, q, _, _, _, hxl, hx⟩ := DataW.trod_array Tryd.underlying26 h0
  have hword : ∀ t, t < 8 → ∃ x : UInt32, ((([a, b, c, d, e, f, g, i, j, k].drop 0).take 8).drop (t * 1)).take 1 = [.int .u32 (wd x)] := by
    intro t ht
    have hq := hx t ht
    rw [List.getElem?_eq_getElem (by omega), hW] at hq
    obtain ⟨n, en, _, wn⟩ := DataW.trod_int Tryd.underlying25 hq
    obtain ⟨x, rfl⟩ := word_of wn
    exact ⟨x, en⟩
  obtain ⟨x0, q0⟩ := hword 0 (by omega)
  obtain ⟨x1, q1⟩ := hword 1 (by omega)
  obtain ⟨x2, q2⟩ := hword 2 (by omega)
  obtain ⟨x3, q3⟩ := hword 3 (by omega)
  obtain ⟨x4, q4⟩ := hword 4 (by omega)
  obtain ⟨x5, q5⟩ := hword 5 (by omega)
  obtain ⟨x6, q6⟩ := hword 6 (by omega)
  obtain ⟨x7, q7⟩ := hword 7 (by omega)
  simp at e1 e2 q0 q1 q2 q3 q4 q5 q6 q7
  subst e1 e2 q0 q1 q2 q3 q4 q5 q6 q7
  have hb := bounds_i64 wm
  exact ⟨[x0, x1, x2, x3, x4, x5, x6, x7], s, m, rfl, rfl, hb.1, hb.2⟩
end Go.Proofs.YtngfgmcnpbjefaaDoor
