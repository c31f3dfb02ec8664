/- The changes that steps make: Sync. -/
import Derived.Test.YtnijnphalhfabaaDkCh
namespace Go.Proofs.Ytnijnphalhfabaa
open Go.RowKit

theorem has_some {n : ByteArray} {L : List Fl} {b : ByteArray} (hr : ris b L) (h : hasN n L = true) : ∃ f, getF n L = some f ∧ L[low n L]? = some f ∧ f.name = n ∧ low n L < L.length := by
  unfold hasN at h
  have hg := getF_low n L _ hr
  cases hx : L[low n L]? with
  | none => rw [hx] at hg; rw [hg] at h; cases h
  | some f =>
    rw [hx] at hg
    simp only at hg
    by_cases e : f.name = n
    · rw [if_pos e] at hg
      exact ⟨f, hg, rfl, e, (List.getElem?_eq_some_iff.1 hx).1⟩
    · rw [if_neg e] at hg; rw [hg] at h; cases h
theorem put_set {n : ByteArray} {L : List Fl} {b : ByteArray} (hr : ris b L) (h : hasN n L = true) {f' : Fl} (hf : f'.name = n) : putL f' L = L.set (low n L) f' := by
  obtain ⟨f, _, hx, _, hlt⟩ := has_some hr h
  rw [putL_cut f' L _ hr, hf, List.set_eq_take_append_cons_drop, if_pos hlt]
  unfold hasN at h
  rw [if_pos h]
theorem put_ins {n : ByteArray} {L : List Fl} {b : ByteArray} (hr : ris b L) (h : hasN n L = false) {f' : Fl} (hf : f'.name = n) : putL f' L = L.take (low n L) ++ f' :: L.drop (low n L) := by
  rw [putL_cut f' L _ hr, hf]
  unfold hasN at h
  rw [if_neg (by rw [h]; simp), Nat.add_zero]
set_option maxRecDepth 100000 in
set_option maxHeartbeats 1000000 in
theorem syncCh_any (L : List Fl) (n : ByteArray) (hG : goodD L = true) (v : Value) (base p : Nat) (V : World) (h : V.ownsRow base 50 3 v L.length (flCells L)) (hp : V.cell? ⟨p, 0, none⟩ = some (.string n)) (hb : base ≤ V.heap.size) :
    Calls Try.prog 36 #[v, .pointer (some ⟨p, 0, none⟩)] V (ChEnd base (syP L n) V) := by
  obtain ⟨h4, hr, hall⟩ := (goodD_iff L).1 hG
  obtain ⟨A, c, rfl, hc, hF⟩ := own_files h
  have C1 := Lib.hid (find_any L n A c V hF (by omega) hr)
  cases hbn : hasN n L with
  | false =>
    have HR : Hid (syP L n = .error 7) := by
      show _ = _
      unfold hasN at hbn
      unfold syP
      cases hg : getF n L with
      | none => rfl
      | some f => rw [hg] at hbn; cases hbn
    rw [hbn] at C1
    go_enter Try.func36, Try.ntmps36
    go_wp2_with fail
    (with_reducible refine C1.out.mono ?_)
    clear C1
    rintro _ V2 ⟨rfl, b2⟩
    go_wp2_with fail
    go_ret2
    rw [HR.out]
    exact ⟨⟨rfl, rfl⟩, b2.mono hb⟩
  | true =>
    obtain ⟨f, hgf, hx, hfn, hlt⟩ := has_some hr hbn
    have HR : Hid (syP L n = .ok (L.set (low n L) ⟨n, f.safe ++ f.tail, ⟨#[]⟩⟩)) := by
      show _ = _
      unfold syP
      rw [hgf]
      simp only
      rw [put_set hr hbn rfl]
    rw [hbn] at C1
    have hfit : f.safe.size + f.tail.size ≤ 1048576 := by
      have := (hall f (List.mem_of_getElem? hx)).2
      unfold fits at this
      exact of_decide_eq_true this
    have hlo : low n L ≤ 400 := by omega
    have hli : (low n L : Int) < L.length := by omega
    generalize low n L = i at *
    generalize syP L n = R at *
    have HFn := Lib.hid hfn
    clear hbn hgf hall hr hG hfn
    rcases h.2 with ⟨e0, hn0⟩ | ⟨g, cap, cur, e0, hbg, hg0, hnc, hcm, hcs0, htake⟩
    · omega
    simp only [Value.slice.injEq] at e0
    obtain ⟨rfl, _, rfl⟩ := e0
    have hgA : Arr V g 50 cur.toList.toArray := Arr.toL hg0
    have hcs : cur.toList.length = c * 3 := by rw [Array.length_toList, hcs0]
    clear hg0 hcs0 h hF
    generalize cur.toList = C at *
    have hcat : ∀ j, j < 3 → C[i * 3 + j]? = (flArr f).toList[j]? := fun j hj => by
      rw [← flCells_at L i j f hx hj, ← htake, List.getElem?_take_of_lt (by omega)]
    go_enter Try.func36, Try.ntmps36
    go_wp2_with fail
    (with_reducible refine C1.out.mono ?_)
    clear C1
    rintro _ V2 ⟨rfl, b2⟩
    have A2 := hgA.below b2 hgA.lt
    have bel2 := b2.mono hb
    have hb2 := Nat.le_trans hb b2.size
    clear hgA b2
    have c0 : V2.cell? ⟨g, i * 3, none⟩ = some (.string f.name) := by rw [A2.cell, List.getElem?_toArray]; exact hcat 0 (by omega)
    have c1 : V2.cell? ⟨g, i * 3 + 1, none⟩ = some (.string f.safe) := by rw [A2.cell, List.getElem?_toArray]; exact hcat 1 (by omega)
    have c2 : V2.cell? ⟨g, i * 3 + 2, none⟩ = some (.string f.tail) := by rw [A2.cell, List.getElem?_toArray]; exact hcat 2 (by omega)
    have CC : Hid (Calls Try.prog 37 #[.agg #[.string f.name, .string f.safe, .string f.tail]] V2 fun e w' => e = .returned (.string (f.safe ++ f.tail)) ∧ Below V2.heap.size V2 w') := content_any f (by omega) (by omega) V2
    go_wp2_with fail
    (with_reducible refine CC.out.mono ?_)
    clear CC c0 c1 c2
    rintro _ V3 ⟨rfl, b3⟩
    have A3 := A2.below b3 A2.lt
    have bel3 := bel2.trans (b3.mono hb2)
    have hb3 := Nat.le_trans hb2 b3.size
    clear A2 bel2 b3
    have c1 : V3.cell? ⟨g, i * 3 + 1, none⟩ = some (.string f.safe) := by rw [A3.cell, List.getElem?_toArray]; exact hcat 1 (by omega)
    have f1 := A3.free (i * 3 + 1)
    have A4 := A3.put (i * 3 + 1) (.string (f.safe ++ f.tail))
    rw [List.setIfInBounds_toArray] at A4
    have c2 : (V3.setCell ⟨g, i * 3 + 1, none⟩ (.string (f.safe ++ f.tail))).cell? ⟨g, i * 3 + 2, none⟩ = some (.string f.tail) := by
      rw [A4.cell, List.getElem?_toArray, List.getElem?_set_ne (by omega)]
      exact hcat 2 (by omega)
    have f2 := A4.free (i * 3 + 2)
    have A5 := A4.put (i * 3 + 2) (.string ⟨#[]⟩)
    rw [List.setIfInBounds_toArray] at A5
    have bel4 := below_gb bel3 (show V3.grownBy (V3.setCell ⟨g, i * 3 + 1, none⟩ (.string (f.safe ++ f.tail))) (some g) from gb_set _ _ _) hbg hb3
    have bel5 := below_gb bel4 (show (V3.setCell ⟨g, i * 3 + 1, none⟩ (.string (f.safe ++ f.tail))).grownBy ((V3.setCell ⟨g, i * 3 + 1, none⟩ (.string (f.safe ++ f.tail))).setCell ⟨g, i * 3 + 2, none⟩ (.string ⟨#[]⟩)) (some g) from gb_set _ _ _) hbg (by simp [World.setCell]; exact hb3)
    have HO := Lib.hid (own_set (f' := ⟨n, f.safe ++ f.tail, ⟨#[]⟩⟩) hbg A5 hnc hcm (by rw [List.length_set, List.length_set]; exact hcs) (take_set2 htake hcs hnc hx HFn.out.symm rfl rfl) hx)
    clear A3 A4 A5 bel3 bel4 htake hx hcat
    go_wp2_with fail
    go_ret2
    rw [HR.out]
    exact ⟨⟨_, rfl, HO.out⟩, bel5⟩
end Go.Proofs.Ytnijnphalhfabaa
