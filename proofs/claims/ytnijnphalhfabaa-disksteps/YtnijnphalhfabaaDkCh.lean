/- The changes that steps make: Sync and Remove. -/
import Derived.Test.YtnijnphalhfabaaDkDel
namespace Go.Proofs.Ytnijnphalhfabaa
open Go.RowKit

/-- behind a change -/
def ChEnd (base : Nat) (r : Except Int (List Fl)) (V : World) (x : Ending) (w' : World) : Prop :=
  (match r with
  | .error e => (e != 0) = true ∧ x = .returned (.tuple #[.slice none 0 0, .int .i64 e])
  | .ok L => ∃ v, x = .returned (.tuple #[v, .int .i64 0]) ∧ w'.ownsRow base 50 3 v L.length (flCells L)) ∧ Below base V w'
theorem own_base {w : World} {base : Nat} {e : TypeId} {size : Nat} {v : Value} {n : Nat} {xs : List Value} (h : w.ownsRow base e size v n xs) : ∀ k, v.ownBlock = some k → base ≤ k := fun k hk => own_row_ge h k hk
theorem grown_base {w w' : World} {base : Nat} {e : TypeId} {size : Nat} {v : Value} {n : Nat} {xs : List Value} (h : w.ownsRow base e size v n xs) (hb : base ≤ w.heap.size) (k : w.grownBy w' v.ownBlock) : Below base w w' :=
  (Below.refl base w).grown k hb (own_base h)
theorem own_below {w w' : World} {base : Nat} {e : TypeId} {size : Nat} {v : Value} {n : Nat} {xs : List Value} (h : w.ownsRow base e size v n xs) (k : Below w.heap.size w w') : w'.ownsRow base e size v n xs := own_kp h (Kp.bel k (X := fun _ => False)) (fun _ _ e => e)
/-- a file of a row, set anew -/
theorem own_set {w : World} {base g cap : Nat} {L : List Fl} {C : List Value} {i : Nat} {f f' : Fl} (hbg : base ≤ g) (hg : Arr w g 50 C.toArray) (hnc : L.length ≤ cap) (hcm : cap ≤ maxLen) (hcs : C.length = cap * 3)
    (hC : C.take (L.length * 3) = flCells (L.set i f')) (hi : L[i]? = some f) : w.ownsRow base 50 3 (.slice (some ⟨g, 0, none⟩) L.length cap) (L.set i f').length (flCells (L.set i f')) := by
  have _ := hi
  exact ⟨by rw [flCells_len], .inr ⟨g, cap, _, by rw [List.length_set], hbg, hg, by rw [List.length_set]; exact hnc, hcm, by rw [List.size_toArray, hcs], by rw [List.length_set, List.toList_toArray]; exact hC⟩⟩
theorem flCells_set (L : List Fl) (i : Nat) (f' : Fl) (hi : i < L.length) : flCells (L.set i f') = (flCells L).take (i * 3) ++ (flArr f').toList ++ (flCells L).drop ((i + 1) * 3) := by
  rw [List.set_eq_take_append_cons_drop, if_pos hi, flCells_app, flCells, ← flCells_take, ← flCells_drop, List.append_assoc]
/-- two cells of a file, set -/
theorem take_set2 {C : List Value} {L : List Fl} {i cap : Nat} {f f' : Fl} {u v : Value} (hC : C.take (L.length * 3) = flCells L) (_ : C.length = cap * 3) (_ : L.length ≤ cap) (hi : L[i]? = some f) (hn : f'.name = f.name) (hu : u = .string f'.safe) (hv : v = .string f'.tail) :
    ((C.set (i * 3 + 1) u).set (i * 3 + 2) v).take (L.length * 3) = flCells (L.set i f') := by
  obtain ⟨hlt, hfe⟩ := List.getElem?_eq_some_iff.1 hi
  apply List.ext_getElem?
  intro j
  rw [List.take_set, List.take_set, hC]
  by_cases hj : j < L.length * 3
  · have hk : j / 3 < L.length := by omega
    have h1 := flCells_at L (j / 3) (j % 3) L[j / 3] (List.getElem?_eq_getElem hk) (by omega)
    rw [show j / 3 * 3 + j % 3 = j from by omega] at h1
    by_cases e : j / 3 = i
    · have h2 := flCells_at (L.set i f') (j / 3) (j % 3) f' (by rw [e, List.getElem?_set_self hlt]) (by omega)
      rw [show j / 3 * 3 + j % 3 = j from by omega] at h2
      rw [h2]
      have hm : j % 3 = 0 ∨ j % 3 = 1 ∨ j % 3 = 2 := by omega
      have hl : (flCells L).length = L.length * 3 := flCells_len L
      rcases hm with m | m | m
      · rw [List.getElem?_set_ne (by omega), List.getElem?_set_ne (by omega), h1, m, show L[j / 3] = f from by rw [← hfe]; congr]
        show some (Value.string f.name) = some (.string f'.name)
        rw [hn]
      · rw [List.getElem?_set_ne (by omega), show j = i * 3 + 1 from by omega, List.getElem?_set_self (by rw [hl]; omega), hu]
        rw [show (i * 3 + 1) % 3 = 1 from by omega]
        rfl
      · rw [show j = i * 3 + 2 from by omega, List.getElem?_set_self (by rw [List.length_set, hl]; omega), hv, show (i * 3 + 2) % 3 = 2 from by omega]
        rfl
    · have h2 := flCells_at (L.set i f') (j / 3) (j % 3) L[j / 3] (by rw [List.getElem?_set_ne (fun q => e q.symm), List.getElem?_eq_getElem hk]) (by omega)
      rw [show j / 3 * 3 + j % 3 = j from by omega] at h2
      rw [h2, List.getElem?_set_ne (by omega), List.getElem?_set_ne (by omega), h1]
  · rw [List.getElem?_eq_none (by rw [List.length_set, List.length_set, flCells_len]; omega), List.getElem?_eq_none (by rw [flCells_len, List.length_set]; omega)]
set_option maxRecDepth 100000 in
set_option maxHeartbeats 1000000 in
theorem removeCh_any (L : List Fl) (n : ByteArray) (hG : goodD L = true) (v : Value) (base p : Nat) (V : World) (h : V.ownsRow base 50 3 v L.length (flCells L)) (hp : V.cell? ⟨p, 0, none⟩ = some (.string n)) (hb : base ≤ V.heap.size) :
    Calls Try.prog 41 #[v, .pointer (some ⟨p, 0, none⟩)] V (ChEnd base (rmP L n) V) := by
  obtain ⟨h4, hr, _⟩ := (goodD_iff L).1 hG
  obtain ⟨A, c, rfl, hc, hF⟩ := own_files h
  have C1 := Lib.hid (find_any L n A c V hF (by omega) hr)
  have hlo := low_le n L
  have hgl := getF_low n L _ hr
  have hdc := del_cut n L _ hr
  have hR : ∀ R, R = rmP L n → R = if hasN n L then .ok (del n L) else .error 7 := fun R e => by
    rw [e]; unfold rmP hasN; cases getF n L <;> rfl
  generalize rmP L n = R at *
  have HR := Lib.hid (hR R rfl)
  have hH : hasN n L = true → low n L < L.length ∧ del n L = L.take (low n L) ++ L.drop (low n L + 1) := fun e => by
    refine ⟨?_, hdc e⟩
    unfold hasN at e
    rcases Nat.lt_or_ge (low n L) L.length with q | q
    · exact q
    · rw [hgl, List.getElem?_eq_none q] at e; cases e
  have HH := Lib.hid hH
  clear hR hgl hdc hH
  have CD := fun W v' h1 h2 => Lib.hid (Delete_any L (low n L) h1 (by omega) v' base W h2)
  generalize hasN n L = b at *
  generalize low n L = i at *
  go_enter Try.func41, Try.ntmps41
  go_wp2_with fail
  (with_reducible refine C1.out.mono ?_)
  clear C1
  rintro _ V2 ⟨rfl, b2⟩
  cases b
  · go_wp2_with fail
    go_ret2
    rw [HR.out]
    exact ⟨⟨rfl, rfl⟩, b2.mono hb⟩
  · obtain ⟨hlt, hd⟩ := HH.out rfl
    have h2 := own_below h b2
    have C2 := CD V2 _ hlt h2
    clear CD
    go_wp2_with fail
    (with_reducible refine C2.out.mono ?_)
    clear C2
    rintro _ V3 ⟨v', rfl, h3, k3⟩
    go_wp2_with fail
    go_ret2
    rw [HR.out]
    refine ⟨⟨v', rfl, ?_⟩, (b2.mono hb).trans (grown_base h2 (Nat.le_trans hb b2.size) k3)⟩
    rw [hd]
    exact h3
end Go.Proofs.Ytnijnphalhfabaa
