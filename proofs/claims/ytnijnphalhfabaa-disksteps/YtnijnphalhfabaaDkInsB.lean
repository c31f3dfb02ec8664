/- slices.Insert at files: a new row; whatever road. -/
import Derived.Test.YtnijnphalhfabaaDkIns
namespace Go.Proofs.Ytnijnphalhfabaa
open Go.RowKit

theorem lay_grow {O Z xs R : List Value} {a m : Nat} (hO : O.length = a) (hx : xs.length = 3) (hm : m = a + 3 + R.length) (_ : 3 + R.length ≤ Z.length) : (layL (layL (O ++ Z) a xs) (a + 3) R).take m = O ++ xs ++ R := by
  have e1 : layL (O ++ Z) a xs = O ++ xs ++ Z.drop 3 := by
    unfold layL
    rw [← hO, List.take_left, hx, List.drop_append, List.drop_of_length_le (by omega), Nat.add_sub_cancel_left, List.nil_append]
  have e2 : (O ++ xs ++ Z.drop 3).take (a + 3) = O ++ xs := List.take_left' (by rw [List.length_append, hO, hx])
  rw [e1]
  unfold layL
  rw [e2, List.take_append_of_le_length (by simp only [List.length_append, hO, hx]; omega), List.take_of_length_le (by simp only [List.length_append, hO, hx]; omega)]
set_option maxRecDepth 100000 in
set_option maxHeartbeats 1000000 in
theorem insert_grow (L : List Fl) (i : Nat) (hi : i < L.length) (x : Fl) (hl : L.length ≤ 1000) (g cap : Nat) (C : List Value) (base : Nat) (W : World) (hb : base ≤ W.heap.size) (hg : Arr W g 50 C.toArray) (hnc : L.length ≤ cap) (hroom : cap < L.length + 1) (hcs : C.length = cap * 3) (htake : C.take (L.length * 3) = flCells L)
    (vb : Nat) (hv : Arr W vb 50 (flArr x)) :
    Calls Try.prog 34 #[.slice (some ⟨g, 0, none⟩) L.length cap, .int .i64 (i : Int), .slice (some ⟨vb, 0, none⟩) 1 1] W (InEnd base (L.take i ++ x :: L.drop i) (.slice (some ⟨g, 0, none⟩) L.length cap) W) := by
  obtain ⟨si, hsi, sz0, sz1, sz2⟩ := info_parts info_file
  have hsz := file_size
  have hcell : ∀ j, W.cell? ⟨g, j, none⟩ = C[j]? := fun j => by rw [hg.cell j, List.getElem?_toArray]
  have hol : (flCells (L.take i)).length = i * 3 := by rw [flCells_len, List.length_take, Nat.min_eq_left (by omega)]
  have hcl : (flCells (L.drop i)).length = (L.length - i) * 3 := by rw [flCells_len, List.length_drop]
  have hold : (Builtin.firstCells si.size i (.slice (some ⟨g, 0, none⟩) i cap)).run Try.prog W.drew = .ok (flCells (L.take i)).toArray W.drew := by
    rw [sz1]
    exact run_firstCells_some W.drew 3 i ⟨g, 0, none⟩ i cap (flCells (L.take i)) (by omega) (fun j v hj => by
      have hlt := (List.getElem?_eq_some_iff.1 hj).1
      rw [← flCells_take, List.getElem?_take_of_lt (by omega), ← htake, List.getElem?_take_of_lt (by omega)] at hj
      rw [Addr.add_lit, Nat.zero_add]
      exact (hcell j).trans hj)
  have hn1 : i + (L.length + 1 - i) = L.length + 1 := by omega
  have hrun : ∀ ty, (Builtin.append_ #[22, 3] ty #[.slice (some ⟨g, 0, none⟩) i cap, .int .i64 ((L.length : Int) + 1 - (i : Int))]).run Try.prog W = .ok (.slice (some ⟨W.heap.size, 0, none⟩) (L.length + 1) (grownCap W (L.length + 1) cap 50)) (W.drew.alloc (.cells ((flCells (L.take i)).toArray ++ Builtin.zeroCells flZero (L.length + 1 - i) ++ Builtin.zeroCells flZero (grownCap W (L.length + 1) cap 50 - (L.length + 1))) 50)) := fun ty => by
    have := run_append_zeros (P := Try.prog) W 22 3 ty 50 si _ .i64 .i64 Try.underlying22 Try.underlying3 hsi sz0 ⟨g, 0, none⟩ i cap (L.length + 1 - i) (flCells (L.take i)) hold (by omega) (by omega) (by omega) (by omega) (by rw [sz2]; omega) (by rw [sz2]; exact growslice_fits (by omega) (by omega))
    rw [hn1, show (((L.length + 1 - i : Nat)) : Int) = (L.length : Int) + 1 - (i : Int) from by omega] at this
    exact this
  have hgc := grownCap_ge W (L.length + 1) cap 50
  have hgm := grownCap_le_maxLen W (L.length + 1) cap 50 (by unfold maxLen; omega)
  generalize grownCap W (L.length + 1) cap 50 = cap' at *
  obtain ⟨Z, hZ⟩ : ∃ Z, Z = (Builtin.zeroCells flZero (L.length + 1 - i) ++ Builtin.zeroCells flZero (cap' - (L.length + 1))).toList := ⟨_, rfl⟩
  have hZl : Z.length = (cap' - i) * 3 := by
    rw [hZ, Array.length_toList, Array.size_append, size_zeroCells, size_zeroCells]
    show (L.length + 1 - i) * 3 + (cap' - (L.length + 1)) * 3 = _
    omega
  have hCe : (flCells (L.take i)).toArray ++ Builtin.zeroCells flZero (L.length + 1 - i) ++ Builtin.zeroCells flZero (cap' - (L.length + 1)) = (flCells (L.take i) ++ Z).toArray := by
    apply Array.ext'
    rw [hZ]
    simp
  rw [hCe] at hrun
  clear hZ hCe
  have A2 : Arr (W.drew.alloc (.cells (flCells (L.take i) ++ Z).toArray 50)) W.heap.size 50 (flCells (L.take i) ++ Z).toArray := Arr.new_at _ _ _ rfl
  have bel2 : Below W.heap.size W (W.drew.alloc (.cells (flCells (L.take i) ++ Z).toArray 50)) := ((Below.refl _ W).drew).alloc (Nat.le_refl _) _
  generalize W.drew.alloc (.cells (flCells (L.take i) ++ Z).toArray 50) = W2 at *
  have V2 := hv.below bel2 hv.lt
  have hcp1 : ∀ ty dc, (Builtin.copy_ #[22, 22] ty #[.slice (some ⟨W.heap.size, i * 3, none⟩) (L.length + 1 - i) dc, .slice (some ⟨vb, 0, none⟩) 1 1]).run Try.prog W2 = .ok (goInt 1) (W2.setCells W.heap.size (i * 3) (flArr x).toList) := fun ty dc => by
    have := run_copy_k (P := Try.prog) W2 22 22 ty 50 3 W.heap.size (i * 3) (L.length + 1 - i) dc ⟨vb, 0, none⟩ 1 1 (flArr x).toList Try.underlying22 hsz (by rw [show Nat.min 1 (L.length + 1 - i) = 1 from by simp only [Nat.min_def]; split <;> omega]; rfl)
      (fun j v hj => by rw [Addr.add_lit, Nat.zero_add, V2.cell j, ← Array.getElem?_toList]; exact hj)
      (fun j hj => by
        have hj3 : j < 3 := hj
        rw [A2.cell, List.getElem?_toArray, List.getElem?_eq_getElem (by rw [List.length_append]; omega)]
        rfl)
      (fun j _ => A2.free _) (flArr_ones x)
    rw [show Nat.min 1 (L.length + 1 - i) = 1 from by simp only [Nat.min_def]; split <;> omega] at this
    exact this
  have A3 := arr_setCells (flArr x).toList (i * 3) _ _ A2 (by rw [List.length_append]; show i * 3 + 3 ≤ _; omega)
  have bel3 := below_gb bel2 (gb_setCells W.heap.size (flArr x).toList (i * 3) W2) (Nat.le_refl _) bel2.size
  generalize W2.setCells W.heap.size (i * 3) (flArr x).toList = W3 at *
  have G3 := hg.below bel3 hg.lt
  have hl3 : (layL (flCells (L.take i) ++ Z) (i * 3) (flArr x).toList).length = cap' * 3 := by rw [layL_len (by rw [List.length_append]; show i * 3 + 3 ≤ _; omega), List.length_append]; omega
  have hcp2 : ∀ ty dc sc, (Builtin.copy_ #[22, 22] ty #[.slice (some ⟨W.heap.size, (i + 1) * 3, none⟩) (L.length - i) dc, .slice (some ⟨g, i * 3, none⟩) (L.length - i) sc]).run Try.prog W3.drew = .ok (goInt (Nat.min (L.length - i) (L.length - i))) (W3.drew.setCells W.heap.size ((i + 1) * 3) (flCells (L.drop i))) := fun ty dc sc =>
    run_copy_k W3.drew _ _ ty 50 3 W.heap.size ((i + 1) * 3) _ dc ⟨g, i * 3, none⟩ _ sc (flCells (L.drop i)) Try.underlying22 hsz (by rw [hcl]; simp only [Nat.min_def]; split <;> omega)
      (fun j v hj => by
        have hlt := (List.getElem?_eq_some_iff.1 hj).1
        rw [← flCells_drop, List.getElem?_drop, ← htake, List.getElem?_take_of_lt (by omega)] at hj
        rw [Addr.add_lit]
        show W3.cell? _ = _
        rw [G3.cell, List.getElem?_toArray]
        exact hj)
      (fun j hj => by
        show (W3.cell? _).isSome = true
        rw [A3.cell, List.getElem?_toArray, List.getElem?_eq_getElem (by rw [hl3]; omega)]
        rfl)
      (fun j _ => A3.free _) (flCells_one _)
  have A4 := arr_setCells (flCells (L.drop i)) ((i + 1) * 3) _ _ A3.drew (by rw [hl3]; omega)
  have bel4 := below_gb bel3.drew (gb_setCells W.heap.size (flCells (L.drop i)) ((i + 1) * 3) W3.drew) (Nat.le_refl _) bel3.size
  have HE : Hid (InEnd base (L.take i ++ x :: L.drop i) (.slice (some ⟨g, 0, none⟩) L.length cap) W (.returned (.slice (some ⟨W.heap.size, 0, none⟩) (L.length + 1) cap')) (W3.drew.setCells W.heap.size ((i + 1) * 3) (flCells (L.drop i)))) := by
    have hlen : (L.take i ++ x :: L.drop i).length = L.length + 1 := by rw [List.length_append, List.length_cons, List.length_take, List.length_drop]; omega
    refine ⟨_, rfl, ⟨by rw [flCells_len], .inr ⟨W.heap.size, cap', _, by rw [hlen], hb, A4, by omega, hgm, ?_, ?_⟩⟩, gb_below bel4⟩
    · rw [List.size_toArray, layL_len (by rw [hl3]; omega), hl3]
    · rw [ins_cells, List.toList_toArray, hlen, flCells_take, flCells_drop]
      rw [show (i + 1) * 3 = i * 3 + 3 from by omega]
      exact lay_grow (xs := (flArr x).toList) hol rfl (by rw [hcl]; omega) (by rw [hcl, hZl]; omega)
  have b1 : ¬ (i : Int) = L.length := by omega
  have b2 : (cap : Int) < L.length + 1 := by omega
  have b3 : (i : Int) ≤ L.length := by omega
  have b4 : (i : Int) ≤ cap := by omega
  have b5 : (i : Int) ≤ (L.length : Int) + 1 := by omega
  have b6 : (cap : Int) ≤ 1000 := by omega
  clear hold hcell hol hcl hZl A2 bel2 V2 A3 bel3 G3 hl3 A4 bel4 hn1 hsi sz0 sz1 sz2 htake
  go_enter Try.func34, Try.ntmps34
  go_wp2_with (first
    | (at_builtin; refine Lib.wpList_append_run _ rfl _ _ _ _ rfl _ _ rfl rfl _ _ (hrun _) ?_)
    | (at_builtin; refine wpList_copy_is _ rfl _ _ 22 22 rfl _ _ rfl rfl (hcp1 _ _) ?_))
  have s1 : IntKind.i64.wrap ((i : Int) + 1) = (i : Int) + 1 := IntWalk.i64_in _ (by omega)
  have s2 : (0 : Int) ≤ (i : Int) + 1 := by omega
  have s4 : ((i : Int) + 1).toNat = i + 1 := by omega
  have s5 : ¬ cap' = i + 1 := by omega
  have s6 : ¬ cap = i := by omega
  go_region_law (refine step_copy_is rfl _ _ 22 22 rfl _ _ (by simp [Act.eval, Act.put]) (by simp [Act.eval, Act.put]) (hcp2 _ _ _) ?_)
  go_wp2_with fail
  go_ret
  exact HE.out
theorem Insert_any (L : List Fl) (i : Nat) (hi : i ≤ L.length) (x : Fl) (hl : L.length ≤ 1000) (v : Value) (base : Nat) (W : World) (h : W.ownsRow base 50 3 v L.length (flCells L)) (vb : Nat) (hv : Arr W vb 50 (flArr x)) (hne : v.ownBlock ≠ some vb) (hb : base ≤ W.heap.size) :
    Calls Try.prog 34 #[v, .int .i64 (i : Int), .slice (some ⟨vb, 0, none⟩) 1 1] W (InEnd base (L.take i ++ x :: L.drop i) v W) := by
  by_cases e : i = L.length
  · subst e
    exact insert_end L x hl v base W h vb hv hb
  · rcases h.2 with ⟨_, hn0⟩ | ⟨g, cap, cur, rfl, hbg, hg, hnc, hcm, hcs, htake⟩
    · omega
    · have hA : Arr W g 50 cur.toList.toArray := Arr.toL hg
      by_cases hc : L.length + 1 ≤ cap
      · exact insert_shift L i (by omega) x hl g cap cur.toList base W hbg hA hc hcm (by rw [Array.length_toList, hcs]) htake vb hv (fun q => hne (by rw [q]; rfl))
      · exact insert_grow L i (by omega) x hl g cap cur.toList base W hb hA hnc (by omega) (by rw [Array.length_toList, hcs]) htake vb hv
end Go.Proofs.Ytnijnphalhfabaa
