/- A map of Bools, ranged over. -/
import Derived.Test.YtgffbdkngnpfpaaOMap
namespace Go.Proofs.Ytgffbdkngnpfpaa
open Go.RowKit

/-- any of the values -/
def anyT (l : List KV) : Bool := l.any (·.2)
theorem mkEs_mem : ∀ (l : List KV) (i : Nat) (e : MapEntry), e ∈ mkEs i l → ∃ x ∈ l, e.val = .bool x.2 ∧ i ≤ e.born ∧ e.born < i + l.length
  | [], _, _, h => by cases h
  | y :: l, i, e, h => by
    rw [mkEs] at h
    rcases List.mem_cons.1 h with rfl | h
    · exact ⟨y, by simp, rfl, Nat.le_refl _, by simp⟩
    · obtain ⟨x, hx, h1, h2, h3⟩ := mkEs_mem l (i + 1) e h
      exact ⟨x, by simp [hx], h1, by omega, by rw [List.length_cons]; omega⟩
theorem mem_mkEs : ∀ (l : List KV) (i : Nat) (x : KV), x ∈ l → ∃ e ∈ mkEs i l, e.val = .bool x.2
  | [], _, _, h => by cases h
  | y :: l, i, x, h => by
    rw [mkEs]
    rcases List.mem_cons.1 h with rfl | h
    · exact ⟨_, List.mem_cons_self, rfl⟩
    · obtain ⟨e, he, h1⟩ := mem_mkEs l (i + 1) x h
      exact ⟨e, List.mem_cons_of_mem _ he, h1⟩
theorem mkEs_nodup : ∀ (l : List KV) (i : Nat), ((mkEs i l).map (·.born)).Nodup
  | [], _ => List.nodup_nil
  | y :: l, i => by
    rw [mkEs, List.map_cons, List.nodup_cons]
    refine ⟨fun h => ?_, mkEs_nodup l (i + 1)⟩
    obtain ⟨e, he, h1⟩ := List.mem_map.1 h
    obtain ⟨_, _, _, h2, _⟩ := mkEs_mem l (i + 1) e he
    simp only at h1
    omega
theorem anyT_yes {l : List KV} {e : MapEntry} (h : e ∈ mkEs 0 l) (hv : e.val = .bool true) : anyT l = true := by
  obtain ⟨x, hx, h1, _⟩ := mkEs_mem l 0 e h
  rw [hv] at h1
  unfold anyT
  rw [List.any_eq_true]
  exact ⟨x, hx, by simpa using h1.symm⟩
theorem anyT_no {l : List KV} (h : ∀ e ∈ mkEs 0 l, e.val = .bool false) : anyT l = false := by
  unfold anyT
  rw [List.any_eq_false]
  intro x hx
  obtain ⟨e, he, h1⟩ := mem_mkEs l 0 x hx
  rw [h e he] at h1
  have : x.2 = false := by simpa using h1.symm
  simp [this]
/-- an iterator in block r over the map in block b: what it has shown was false -/
def Itr (b r : Nat) (l : List KV) (n : Nat) (W : World) : Prop :=
  ∃ seen : Array Nat, W.heap[r]? = some (.mapIter (some b) l.length seen l.length) ∧ (∀ e ∈ mkEs 0 l, seen.contains e.born = true → e.val = .bool false) ∧ (leftOf (mkEs 0 l).toArray seen).size ≤ n
theorem Itr.start {W : World} {b : Nat} {l : List KV} : Itr b W.heap.size l (leftOf (mkEs 0 l).toArray #[]).size (W.alloc (.mapIter (some b) l.length #[] l.length)) :=
  ⟨#[], heap_alloc_new W _, fun e _ h => by simp at h, Nat.le_refl _⟩
open Go.ChangeMaps (setBlock) in
/-- the iterator's step: the map is through, or an entry comes -/
theorem itr_next {W : World} {b r : Nat} {l : List KV} {n : Nat} (hM : MapAt W b l) (hI : Itr b r l n W) (hr : r ≠ b) :
    (anyT l = false ∧ ∀ ty, (Instr.next (.pointer (some ⟨r, 0, none⟩)) false ty).run Try.prog W = .ok (.tuple #[.bool false]) W) ∨
    ∃ (k : Value) (v : Bool) (W' : World), (∀ ty, (Instr.next (.pointer (some ⟨r, 0, none⟩)) false ty).run Try.prog W = .ok (.tuple #[.bool true, k, .bool v]) W') ∧
      (Instr.entry (.pointer (some ⟨r, 0, none⟩))).run Try.prog W' = .ok (.tuple #[k, .bool v]) W' ∧ MapAt W' b l ∧ W.grownBy W' (some r) ∧ (v = true → anyT l = true) ∧ (v = false → ∃ m, n = m + 1 ∧ Itr b r l m W') := by
  obtain ⟨seen, hit, hsn, hle⟩ := hI
  have hM' : W.heap[b]? = some (.map (mkEs 0 l).toArray l.length) := hM
  rcases run_next_at (P := Try.prog) W 0 r b l.length l.length seen (mkEs 0 l).toArray l.length hit hM' (fun x hx => by
      obtain ⟨_, _, _, _, h⟩ := mkEs_mem l 0 x (by simpa using hx)
      omega) (Nat.le_refl _) with ⟨h0, hrun⟩ | ⟨e, he, w1, hw1, hrun⟩
  · left
    have ha := all_seen _ _ h0
    exact ⟨anyT_no fun e he => hsn e he (ha e (by simpa using he)), fun ty => hrun⟩
  · right
    obtain ⟨hmem, hns⟩ := mem_left he
    have hmem' : e ∈ mkEs 0 l := by simpa using hmem
    obtain ⟨x, hx, hv, _⟩ := mkEs_mem l 0 e hmem'
    have hit1 : w1.heap[r]? = some (.mapIter (some b) l.length seen l.length) := by rcases hw1 with rfl | rfl <;> exact hit
    have hM1 : w1.heap[b]? = some (.map (mkEs 0 l).toArray l.length) := by rcases hw1 with rfl | rfl <;> exact hM'
    have hlt : r < w1.heap.size := (Array.getElem?_eq_some_iff.1 hit1).1
    have hit2 : (setBlock w1 r (.mapIter (some b) l.length (seen.push e.born) l.length)).heap[r]? = some (.mapIter (some b) l.length (seen.push e.born) l.length) := by simp [setBlock, hlt]
    have hM2 : (setBlock w1 r (.mapIter (some b) l.length (seen.push e.born) l.length)).heap[b]? = some (.map (mkEs 0 l).toArray l.length) := by
      simp only [setBlock, Array.getElem?_setIfInBounds]
      rw [if_neg hr]
      exact hM1
    have hent := run_entry_at (P := Try.prog) _ r b l.length seen (mkEs 0 l).toArray l.length e hit2 hM2 hmem (by simpa using mkEs_nodup l 0)
    have hk : W.grownBy (setBlock w1 r (.mapIter (some b) l.length (seen.push e.born) l.length)) (some r) := by
      have k0 : W.grownBy w1 (some r) := by
        rcases hw1 with rfl | rfl
        · exact World.grownBy.refl _ _
        · exact gb_below (Below.refl _ _).drew
      exact gb_trans k0 gb_map
    rw [hv] at hent hrun
    refine ⟨e.key, x.2, _, fun ty => hrun, hent, hM2, hk, fun h => anyT_yes hmem' (by rw [hv, h]), fun h => ?_⟩
    have hsh := left_shrinks _ _ e he
    refine ⟨n - 1, by omega, seen.push e.born, hit2, fun y hy hc => ?_, by omega⟩
    rw [Array.contains_push] at hc
    simp only [Bool.or_eq_true] at hc
    rcases hc with hc | hc
    · exact hsn y hy hc
    · have hb : y.born = e.born := by simpa using hc
      have : y = e := by
        have f1 := find_born y (mkEs 0 l) (mkEs_nodup l 0) hy
        have f2 := find_born e (mkEs 0 l) (mkEs_nodup l 0) hmem'
        rw [hb, f2] at f1
        simpa using f1.symm
      rw [this, hv, h]
end Go.Proofs.Ytgffbdkngnpfpaa
