/- What store.Reach answers: plain definitions. -/
import Derived.Test.YtmikfmcgddmplaaGreatDoorOLinks
namespace Go.Proofs.YtmikfmcgddmplaaGreatDoor
open Go.RowKit

theorem addAll_ext : ∀ (U T : List ByteArray), ∃ W, addAll T U = T ++ W
  | [], T => ⟨[], by simp [addAll]⟩
  | y :: l, T => by
    obtain ⟨W, hW⟩ := addAll_ext l (if memB y T = true then T else T ++ [y])
    show ∃ W, addAll (if memB y T = true then T else T ++ [y]) l = T ++ W
    rw [hW]
    split
    · exact ⟨W, rfl⟩
    · exact ⟨y :: W, by simp⟩
def sortB (V : List ByteArray) : List ByteArray := ((V.map fun x => x.data.toList).mergeSort fun x y => decide (x ≤ y)).map bs
theorem sortB_len (V : List ByteArray) : (sortB V).length = V.length := by
  unfold sortB
  rw [List.length_map, List.length_mergeSort, List.length_map]
/-- the ids that have come up, how many are seen, how many of them are objects, whether one is lacking, whether one is wrong -/
def reachGo (G : ByteArray → ByteArray × Int) : Nat → List ByteArray → Nat → Nat → Bool → Bool → List ByteArray × Int
  | 0, _, _, _, _, _ => ([], 0)
  | n + 1, V, i, m, la, wr => if i < V.length then
      (if (loadR (G (V.getD i ⟨#[]⟩))).2 = 0 then (if 400 < m + 1 then ([], 6) else reachGo G n (addAll V (linksL (loadR (G (V.getD i ⟨#[]⟩))).1)) (i + 1) (m + 1) la wr)
       else if (loadR (G (V.getD i ⟨#[]⟩))).2 = 7 then reachGo G n V (i + 1) m true wr else reachGo G n V (i + 1) m la true)
    else if la then ([], 7) else if wr then ([], 2) else (sortB V, 0)
def reachO (G : ByteArray → ByteArray × Int) (U : List ByteArray) : List ByteArray × Int := reachGo G (U.length + 30001) (addAll [] U) 0 0 false false
theorem loadR_err (r : ByteArray × Int) : (loadR r).2 = 0 ∨ (loadR r).2 = 7 ∨ (loadR r).2 = 2 := by
  unfold loadR
  split
  · exact .inr (.inl rfl)
  · split
    · exact .inr (.inr rfl)
    · exact .inl rfl
theorem loadR_small (r : ByteArray × Int) : (loadR r).1.ents.length ≤ 64 ∧ (loadR r).1.pars.length ≤ 4 := by
  unfold loadR
  split
  · simp [Ob.none]
  · split
    · simp [Ob.none]
    · rename_i h
      have h2 : (decO r.1.data.toList).2 = 0 := by
        by_cases e : (decO r.1.data.toList).2 = 0
        · exact e
        · exact absurd e h
      have hF := good_facts (dec_only h2).2.1
      exact ⟨hF.ents, hF.pars⟩
theorem linksL_len {o : Ob} (h1 : o.ents.length ≤ 64) (h2 : o.pars.length ≤ 4) : (linksL o).length ≤ 64 := by
  unfold linksL
  split
  · rw [List.length_map]; exact h1
  · split
    · rw [List.length_cons]; omega
    · split <;> simp
/-- behind Reach -/
def RhEnd (w : World) (r : List ByteArray × Int) (x : Ending) (w' : World) : Prop :=
  ∃ A c, x = .returned (.tuple #[.slice A r.1.length c, .int .i64 r.2]) ∧ Txs w' w'.heap.size A r.1 ∧ Below w.heap.size w w'
/-- what is wanted of slices.Sort -/
def SortSaid : Prop := ∀ (T : List ByteArray) (v : Value) (base : Nat) (W : World), W.ownsRow base 9 1 v T.length (T.map sv) → T.length ≤ 140737488355328 →
  Calls Tryz.prog 24 #[v] W fun x w' => x = .returned (.tuple #[]) ∧ w'.ownsRow base 9 1 v T.length ((sortB T).map sv) ∧ W.grownBy w' v.ownBlock
end Go.Proofs.YtmikfmcgddmplaaGreatDoor
