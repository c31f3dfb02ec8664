/- Texts in one: Own, Frame. -/
import Derived.Test.YtgffbdkngnpfpaaDoorRows
import Derived.WalkKit
import Derived.ProofKit
import Derived.Test.YtgffbdkngnpfpaaDoorCards
import Derived.Test.YtgffbdkngnpfpaaDoorTie
import Derived.Test.YtgffbdkngnpfpaaDoorComp
import Derived.OpenShut
import Derived.ShutString
import Derived.SizedLaws
import Derived.Deep.DeepHandedRow
import Derived.Lib.LaidTab
/- Two facts of the program that every claim asks. -/
namespace Go.Proofs.YtgffbdkngnpfpaaDoor
open Go.ChangeShapes Go.WideShapes Go.ChangeAt Go.RowKit

theorem laidOut : laidOutB Tryd.prog = true := by kernel_rfl
theorem own : ownKnob Tryd.prog.godebug = none := by kernel_rfl
end Go.Proofs.YtgffbdkngnpfpaaDoor

/- What every claim of this seat needs: the table of constants as the rows list it; a world for the witnesses. -/
namespace Go.Proofs.YtgffbdkngnpfpaaDoor
open Go.ChangeShapes Go.WideShapes Go.ChangeAt Go.RowKit

theorem gTab : Tryd.prog.globalNamed "cartulary/sum.roundConstants" = some 0 := by kernel_rfl
theorem gTabType : (Tryd.prog.globals[0]?).map (·.type) = some 101 := by kernel_rfl
theorem cellsTab : Tryd.prog.cellsOf 101 = 64 := by kernel_rfl
theorem cellsWord : Tryd.prog.cellsOf 52 = 1 := by kernel_rfl
def tabInts : List Int := kTab.map wd

theorem size_of_cell {W : World} {g i : Nat} {v : Value} (h : W.cell? ⟨g, i, none⟩ = some v) : g < W.heap.size := by
  rcases Nat.lt_or_ge g W.heap.size with hlt | hge
  · exact hlt
  · simp [World.cell?, Array.getElem?_eq_none hge] at h

theorem tab_of_laid {W : World} (h : laidMetH Tryd.prog [("cartulary/sum.roundConstants", Rows.laid_cartulary_sum_roundConstants)] W) : Tab W := by
  have ht : Lib.TabIs Tryd.prog W "cartulary/sum.roundConstants" .u32 tabInts :=
    Lib.tabIs_of_head (rest := []) gTab gTabType Tryd.underlying101 Tryd.underlying52 cellsWord cellsTab h
  have hc : ∀ i, i < 64 → W.cell? ⟨0, i, none⟩ = some (.int .u32 (wd (kTab.getD i 0))) := fun i hi => by
    have hl : i < tabInts.length := by unfold tabInts; rw [List.length_map, kTab_length]; exact hi
    have hk : i < kTab.length := by rw [kTab_length]; exact hi
    have h1 := ht.cell gTab i hl
    rw [h1]
    unfold tabInts
    simp [List.getD_eq_getElem?_getD, List.getElem?_map, List.getElem?_eq_getElem hk]
  exact ⟨size_of_cell (hc 0 (by omega)), hc⟩

/-- A world for the witnesses: the settled one, the table holding what its initialiser lays. -/
noncomputable def laidWorld (os : Os) : World :=
  { World.holding Tryd.prog os ⟨#[], #[], []⟩ with heap := (World.holding Tryd.prog os ⟨#[], #[], []⟩).heap.modify 0 fun
      | .cells _ t frozen => .cells (warr kTab) t frozen
      | o => o }
end Go.Proofs.YtgffbdkngnpfpaaDoor
