/- Texts in one: Frame, Lists. -/
import Derived.Test.YtmikfmcgddmplaaGreatDoorCards
import Derived.Test.YtmikfmcgddmplaaGreatDoorTie
import Derived.Test.YtmikfmcgddmplaaGreatDoorBytes
import Derived.Test.YtmikfmcgddmplaaGreatDoorOwn
import Derived.WalkKit
import Derived.ProofKit
import Derived.OpenShut
import Derived.ShutString
import Derived.SizedLaws
import Derived.Deep.DeepHandedRow
import Derived.Lib.LaidTab
/- What every claim of this seat needs: the table of constants as the rows list it; a world for the witnesses. -/
namespace Go.Proofs.YtmikfmcgddmplaaGreatDoor
open Go.ChangeShapes Go.WideShapes Go.ChangeAt Go.RowKit

theorem gTab : Tryz.prog.globalNamed "cartulary/sum.roundConstants" = some 1 := by kernel_rfl
theorem gTabType : (Tryz.prog.globals[1]?).map (·.type) = some 159 := by kernel_rfl
theorem cellsTab : Tryz.prog.cellsOf 159 = 64 := by kernel_rfl
theorem cellsWord : Tryz.prog.cellsOf 84 = 1 := by kernel_rfl
def tabInts : List Int := kTab.map wd

theorem size_of_cell {W : World} {g i : Nat} {v : Value} (h : W.cell? ⟨g, i, none⟩ = some v) : g < W.heap.size := by
  rcases Nat.lt_or_ge g W.heap.size with hlt | hge
  · exact hlt
  · simp [World.cell?, Array.getElem?_eq_none hge] at h

theorem tab_of_laid {W : World} (h : laidMetH Tryz.prog [("cartulary/sum.roundConstants", Rows.laid_cartulary_sum_roundConstants)] W) : Tab W := by
  have ht : Lib.TabIs Tryz.prog W "cartulary/sum.roundConstants" .u32 tabInts :=
    Lib.tabIs_of_head (rest := []) gTab gTabType Tryz.underlying159 Tryz.underlying84 cellsWord cellsTab h
  have hc : ∀ i, i < 64 → W.cell? ⟨1, i, none⟩ = some (.int .u32 (wd (kTab.getD i 0))) := fun i hi => by
    have hl : i < tabInts.length := by unfold tabInts; rw [List.length_map, kTab_length]; exact hi
    have hk : i < kTab.length := by rw [kTab_length]; exact hi
    have h1 := ht.cell gTab i hl
    rw [h1]
    unfold tabInts
    simp [List.getD_eq_getElem?_getD, List.getElem?_map, List.getElem?_eq_getElem hk]
  exact ⟨size_of_cell (hc 0 (by omega)), hc⟩

/-- A world for the witnesses: the settled one, the table holding what its initialiser lays. -/
noncomputable def laidWorld (os : Os) : World :=
  { World.holding Tryz.prog os ⟨#[], #[], []⟩ with heap := (World.holding Tryz.prog os ⟨#[], #[], []⟩).heap.modify 1 fun
      | .cells _ t frozen => .cells (warr kTab) t frozen
      | o => o }
end Go.Proofs.YtmikfmcgddmplaaGreatDoor

/- Plain facts for lists that were opened; no program is named here. -/
namespace Go.Proofs.YtmikfmcgddmplaaGreatDoor
open Go.RowKit

theorem choose_list {α : Type} {P : Nat → α → Prop} : ∀ n, (∀ i, i < n → ∃ x, P i x) → ∃ L : List α, L.length = n ∧ ∀ i x, L[i]? = some x → P i x
  | 0, _ => ⟨[], rfl, fun i x h => by simp at h⟩
  | n + 1, h => by
    obtain ⟨L, hl, hL⟩ := choose_list n (fun i hi => h i (by omega))
    obtain ⟨y, hy⟩ := h n (by omega)
    refine ⟨L ++ [y], by simp [hl], fun i x hx => ?_⟩
    rcases Nat.lt_or_ge i L.length with hi | hi
    · rw [List.getElem?_append_left hi] at hx
      exact hL i x hx
    · rw [List.getElem?_append_right hi] at hx
      have h0 : i - L.length = 0 := by
        rcases Nat.eq_zero_or_pos (i - L.length) with h0 | h0
        · exact h0
        · rw [List.getElem?_eq_none (by simp; omega)] at hx; cases hx
      rw [h0] at hx
      simp at hx
      subst hx
      obtain rfl : i = n := by omega
      exact hy
theorem add_next (p : Addr) (j : Nat) (hj : j ≠ 0) : p.add j = ⟨p.block, p.off + j, none⟩ := by simp [Addr.add, hj]
theorem range_map {α β : Type} {D : Nat → β} {f : α → β} (L : List α) (h : ∀ i x, L[i]? = some x → D i = f x) : (List.range L.length).map D = L.map f := by
  apply List.ext_getElem?
  intro i
  rcases Nat.lt_or_ge i L.length with hi | hi
  · simp [hi, h i L[i] (List.getElem?_eq_getElem hi)]
  · simp [hi]

end Go.Proofs.YtmikfmcgddmplaaGreatDoor
