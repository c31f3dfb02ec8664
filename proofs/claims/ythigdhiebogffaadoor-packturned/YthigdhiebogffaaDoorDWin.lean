/- delta.windowOffsets: its contract. -/
import Derived.Test.YthigdhiebogffaaDoorIMap
import Derived.Test.YthigdhiebogffaaDoorDMath
namespace Go.Proofs.YthigdhiebogffaaDoor
open Go.RowKit

/-- each entry: a window of the base, and where it stands -/
def Wins (b : ByteArray) (l : List KI) : Prop := ∀ x ∈ l, x.2 + 8 ≤ b.size ∧ x.1 = b.extract x.2 (x.2 + 8)
theorem wins_push {b : ByteArray} {l : List KI} (h : Wins b l) (i : Nat) (hi : i + 8 ≤ b.size) : Wins b (l ++ [(b.extract i (i + 8), i)]) := by
  intro x hx
  rcases List.mem_append.1 hx with hx | hx
  · exact h x hx
  · rw [List.mem_singleton.1 hx]
    exact ⟨hi, rfl⟩
theorem upI_new {k : ByteArray} {v : Nat} {l : List KI} (h : posI k l = none) : upI k v l = l ++ [(k, v)] := by unfold upI; rw [h]
/-- the first window stands first -/
def First (b : ByteArray) (i : Nat) (l : List KI) : Prop := if i = 0 then l = [] else ∃ t, l = (b.extract 0 8, 0) :: t

theorem first_push {b : ByteArray} {k : Nat} {l : List KI} (h : First b k l) : First b (k + 1) (l ++ [(b.extract k (k + 8), k)]) := by
  unfold First at *
  rw [if_neg (by omega)]
  by_cases hk : k = 0
  · rw [if_pos hk] at h
    subst hk h
    exact ⟨[], rfl⟩
  · rw [if_neg hk] at h
    obtain ⟨t, rfl⟩ := h
    exact ⟨t ++ [(b.extract k (k + 8), k)], rfl⟩
theorem first_kept {b c : ByteArray} {k p : Nat} {l : List KI} (h : First b k l) (hp : posI c l = some p) : First b (k + 1) l := by
  unfold First at *
  rw [if_neg (by omega)]
  by_cases hk : k = 0
  · rw [if_pos hk] at h
    rw [h] at hp
    cases hp
  · rw [if_neg hk] at h
    exact h

def WinRel (b : ByteArray) (w : World) (i : Value) (wr : World) : Prop :=
  ∃ (k : Nat) (l : List KI), i = .int .i64 (k : Int) ∧ MapI wr w.heap.size l ∧ Wins b l ∧ First b k l ∧ (0 < k → k + 7 ≤ b.size) ∧ Below w.heap.size w wr

set_option maxRecDepth 100000 in
set_option maxHeartbeats 1000000 in
theorem windowOffsets_any (b : ByteArray) (hb : b.size ≤ 8192) (w : World) :
    Calls Tryd.prog 97 #[.string b] w fun x w' => x = .returned (.map (some w.heap.size)) ∧ Below w.heap.size w w' ∧ ∃ l, MapI w' w.heap.size l ∧ Wins b l ∧ (8 ≤ b.size → ∃ t, l = (b.extract 0 8, 0) :: t) := by
  have hmm : ∀ W : World, (Instr.makeMap 46 none).run Tryd.prog W = .ok (.map (some W.heap.size)) (W.alloc (.map #[] 0)) := fun _ => rfl
  go_enter Tryd.func97, Tryd.ntmps97
  go_wp2_with fail
  go_loopw [4] (fun i wr => WinRel b w i wr) (fun i _ => b.size - (intOf i).toNat)
  case atStart => exact ⟨0, [], rfl, MapI.new w, (fun _ h => by cases h), rfl, (fun h => absurd h (by decide)), (Below.refl _ _).alloc (Nat.le_refl _) _⟩
  case round =>
    obtain ⟨k, l, rfl, hM, hW, hF, hk, hB⟩ := hrel
    by_cases hlt : k + 8 ≤ b.size
    · have hi : (k : Int) + 8 ≤ b.size := by omega
      have hi2 : (k : Int) ≤ k + 8 := by omega
      have hi3 : ((k : Int) + 8).toNat = k + 8 := by omega
      have hlk := run_lookI hM (b.extract k (k + 8))
      unfold lookI at hlk
      cases hp : posI (b.extract k (k + 8)) l with
      | none =>
        rw [hp] at hlk
        simp only at hlk
        go_wp2_with (refine wpList_upI rfl _ _ _ (.inl rfl) w.heap.size l hM rfl (b.extract k (k + 8)) k rfl rfl ?_)
        intro w2 hM2 g2
        rw [upI_new hp] at hM2
        have hB2 := below_gb hB g2 (Nat.le_refl _) hB.size
        clear hlk
        go_wp2_with fail
        go_roundw
        case rel => exact ⟨k + 1, _, by rw [Int.natCast_add]; rfl, hM2, wins_push hW k hlt, first_push hF, (fun _ => by omega), hB2⟩
        case measure => simp [intOf]; omega
      | some p =>
        rw [hp] at hlk
        simp only at hlk
        go_wp2_with fail
        go_roundw
        case rel => exact ⟨k + 1, l, by rw [Int.natCast_add]; rfl, hM, hW, first_kept hF hp, (fun _ => by omega), hB⟩
        case measure => simp [intOf]; omega
    · have hi : ¬ (k : Int) + 8 ≤ b.size := by omega
      go_wp2_with fail
      go_ret
      refine ⟨rfl, hB, l, hM, hW, fun h8 => ?_⟩
      have : k ≠ 0 := by omega
      unfold First at hF
      rw [if_neg this] at hF
      exact hF
end Go.Proofs.YthigdhiebogffaaDoor
