/- Texts in one: DkCh, DkCh2, DkCh3, DkCh4. -/
import Derived.Test.YtbpmgpbmeganoaaDoorDkDel
/- The changes that steps make: Sync and Remove. -/
namespace Go.Proofs.YtbpmgpbmeganoaaDoor
open Go.RowKit

theorem own_base {w : World} {base : Nat} {e : TypeId} {size : Nat} {v : Value} {n : Nat} {xs : List Value} (h : w.ownsRow base e size v n xs) : ∀ k, v.ownBlock = some k → base ≤ k := fun k hk => own_row_ge h k hk
theorem grown_base {w w' : World} {base : Nat} {e : TypeId} {size : Nat} {v : Value} {n : Nat} {xs : List Value} (h : w.ownsRow base e size v n xs) (hb : base ≤ w.heap.size) (k : w.grownBy w' v.ownBlock) : Below base w w' :=
  (Below.refl base w).grown k hb (own_base h)
theorem dk_own_below {w w' : World} {base : Nat} {e : TypeId} {size : Nat} {v : Value} {n : Nat} {xs : List Value} (h : w.ownsRow base e size v n xs) (k : Below w.heap.size w w') : w'.ownsRow base e size v n xs := own_kp h (Kp.bel k (X := fun _ => False)) (fun _ _ e => e)
theorem flCells_set (L : List Fl) (i : Nat) (f' : Fl) (hi : i < L.length) : flCells (L.set i f') = (flCells L).take (i * 3) ++ (flArr f').toList ++ (flCells L).drop ((i + 1) * 3) := by
  rw [List.set_eq_take_append_cons_drop, if_pos hi, flCells_app, flCells, ← flCells_take, ← flCells_drop, List.append_assoc]
/-- two cells of a file, set -/
theorem take_set2 {C : List Value} {L : List Fl} {i cap : Nat} {f f' : Fl} {u v : Value} (hC : C.take (L.length * 3) = flCells L) (_ : C.length = cap * 3) (_ : L.length ≤ cap) (hi : L[i]? = some f) (hn : f'.name = f.name) (hu : u = .string f'.safe) (hv : v = .string f'.tail) :
    ((C.set (i * 3 + 1) u).set (i * 3 + 2) v).take (L.length * 3) = flCells (L.set i f') := by
  obtain ⟨hlt, hfe⟩ := List.getElem?_eq_some_iff.1 hi
  apply List.ext_getElem?
  intro j
  rw [List.take_set, List.take_set, hC]
  by_cases hj : j < L.length * 3
  · have hk : j / 3 < L.length := by omega
    have h1 := flCells_at L (j / 3) (j % 3) L[j / 3] (List.getElem?_eq_getElem hk) (by omega)
    rw [show j / 3 * 3 + j % 3 = j from by omega] at h1
    by_cases e : j / 3 = i
    · have h2 := flCells_at (L.set i f') (j / 3) (j % 3) f' (by rw [e, List.getElem?_set_self hlt]) (by omega)
      rw [show j / 3 * 3 + j % 3 = j from by omega] at h2
      rw [h2]
      have hm : j % 3 = 0 ∨ j % 3 = 1 ∨ j % 3 = 2 := by omega
      have hl : (flCells L).length = L.length * 3 := flCells_len L
      rcases hm with m | m | m
      · rw [List.getElem?_set_ne (by omega), List.getElem?_set_ne (by omega), h1, m, show L[j / 3] = f from by rw [← hfe]; congr]
        show some (Value.string f.name) = some (.string f'.name)
        rw [hn]
      · rw [List.getElem?_set_ne (by omega), show j = i * 3 + 1 from by omega, List.getElem?_set_self (by rw [hl]; omega), hu]
        rw [show (i * 3 + 1) % 3 = 1 from by omega]
        rfl
      · rw [show j = i * 3 + 2 from by omega, List.getElem?_set_self (by rw [List.length_set, hl]; omega), hv, show (i * 3 + 2) % 3 = 2 from by omega]
        rfl
    · have h2 := flCells_at (L.set i f') (j / 3) (j % 3) L[j / 3] (by rw [List.getElem?_set_ne (fun q => e q.symm), List.getElem?_eq_getElem hk]) (by omega)
      rw [show j / 3 * 3 + j % 3 = j from by omega] at h2
      rw [h2, List.getElem?_set_ne (by omega), List.getElem?_set_ne (by omega), h1]
  · rw [List.getElem?_eq_none (by rw [List.length_set, List.length_set, flCells_len]; omega), List.getElem?_eq_none (by rw [flCells_len, List.length_set]; omega)]
end Go.Proofs.YtbpmgpbmeganoaaDoor

/- The changes that steps make: Sync. -/
namespace Go.Proofs.YtbpmgpbmeganoaaDoor
open Go.RowKit

theorem has_some {n : ByteArray} {L : List Fl} {b : ByteArray} (hr : ris b L) (h : hasN n L = true) : ∃ f, getF n L = some f ∧ L[low n L]? = some f ∧ f.name = n ∧ low n L < L.length := by
  unfold hasN at h
  have hg := getF_low n L _ hr
  cases hx : L[low n L]? with
  | none => rw [hx] at hg; rw [hg] at h; cases h
  | some f =>
    rw [hx] at hg
    simp only at hg
    by_cases e : f.name = n
    · rw [if_pos e] at hg
      exact ⟨f, hg, rfl, e, (List.getElem?_eq_some_iff.1 hx).1⟩
    · rw [if_neg e] at hg; rw [hg] at h; cases h
theorem put_set {n : ByteArray} {L : List Fl} {b : ByteArray} (hr : ris b L) (h : hasN n L = true) {f' : Fl} (hf : f'.name = n) : putL f' L = L.set (low n L) f' := by
  obtain ⟨f, _, hx, _, hlt⟩ := has_some hr h
  rw [putL_cut f' L _ hr, hf, List.set_eq_take_append_cons_drop, if_pos hlt]
  unfold hasN at h
  rw [if_pos h]
theorem put_ins {n : ByteArray} {L : List Fl} {b : ByteArray} (hr : ris b L) (h : hasN n L = false) {f' : Fl} (hf : f'.name = n) : putL f' L = L.take (low n L) ++ f' :: L.drop (low n L) := by
  rw [putL_cut f' L _ hr, hf]
  unfold hasN at h
  rw [if_neg (by rw [h]; simp), Nat.add_zero]
end Go.Proofs.YtbpmgpbmeganoaaDoor

/- disk.put; the change of Rename. -/
namespace Go.Proofs.YtbpmgpbmeganoaaDoor
open Go.RowKit

/-- a file's cells, set -/
theorem take_set3 {C : List Value} {L : List Fl} {i cap : Nat} {f' : Fl} (hC : C.take (L.length * 3) = flCells L) (hcs : C.length = cap * 3) (hnc : L.length ≤ cap) (hlt : i < L.length) :
    (((C.set (i * 3) (.string f'.name)).set (i * 3 + 1) (.string f'.safe)).set (i * 3 + 2) (.string f'.tail)).take (L.length * 3) = flCells (L.set i f') := by
  have h0 : (C.set (i * 3) (.string f'.name)).take (L.length * 3) = flCells (L.set i ⟨f'.name, L[i].safe, L[i].tail⟩) := by
    apply List.ext_getElem?
    intro j
    rw [List.take_set, hC]
    have hl : (flCells L).length = L.length * 3 := flCells_len L
    by_cases hj : j < L.length * 3
    · have hk : j / 3 < L.length := by omega
      have h1 := flCells_at L (j / 3) (j % 3) L[j / 3] (List.getElem?_eq_getElem hk) (by omega)
      rw [show j / 3 * 3 + j % 3 = j from by omega] at h1
      by_cases e : j / 3 = i
      · have h2 := flCells_at (L.set i ⟨f'.name, L[i].safe, L[i].tail⟩) (j / 3) (j % 3) ⟨f'.name, L[i].safe, L[i].tail⟩ (by rw [e, List.getElem?_set_self hlt]) (by omega)
        rw [show j / 3 * 3 + j % 3 = j from by omega] at h2
        rw [h2]
        have he : L[j / 3] = L[i] := by congr
        have hm : j % 3 = 0 ∨ j % 3 = 1 ∨ j % 3 = 2 := by omega
        rcases hm with m | m | m
        · rw [show j = i * 3 from by omega, List.getElem?_set_self (by rw [hl]; omega), show i * 3 % 3 = 0 from by omega]
          rfl
        · rw [List.getElem?_set_ne (by omega), h1, m, he]
          rfl
        · rw [List.getElem?_set_ne (by omega), h1, m, he]
          rfl
      · have h2 := flCells_at (L.set i ⟨f'.name, L[i].safe, L[i].tail⟩) (j / 3) (j % 3) L[j / 3] (by rw [List.getElem?_set_ne (fun q => e q.symm), List.getElem?_eq_getElem hk]) (by omega)
        rw [show j / 3 * 3 + j % 3 = j from by omega] at h2
        rw [h2, List.getElem?_set_ne (by omega), h1]
    · rw [List.getElem?_eq_none (by rw [List.length_set, flCells_len]; omega), List.getElem?_eq_none (by rw [flCells_len, List.length_set]; omega)]
  have h1 := take_set2 (C := C.set (i * 3) (.string f'.name)) (L := L.set i ⟨f'.name, L[i].safe, L[i].tail⟩) (i := i) (cap := cap) (f' := f') (u := .string f'.safe) (v := .string f'.tail) (by rw [List.length_set]; exact h0) (by rw [List.length_set]; exact hcs) (by rw [List.length_set]; exact hnc) (List.getElem?_set_self hlt) rfl rfl rfl
  rw [List.length_set, List.set_set] at h1
  exact h1
end Go.Proofs.YtbpmgpbmeganoaaDoor

/- The change of Rename. -/
namespace Go.Proofs.YtbpmgpbmeganoaaDoor
open Go.RowKit

end Go.Proofs.YtbpmgpbmeganoaaDoor
