/- slices.Insert, slices.Delete, slices.Clone at files: contracts. -/
import Derived.Test.YtnijnphalhfabaaDkRow
namespace Go.Proofs.Ytnijnphalhfabaa
open Go.RowKit

theorem file_size : (Try.prog.info? 50).map (·.size) = some 3 := by kernel_rfl
theorem shape_arr {w : World} {g : Nat} {t : TypeId} {cs : Array Value} (h : Arr w g t cs) : w.shape? g = some (t, cs.size) := by
  unfold Arr at h
  simp [World.shape?, h]
theorem free_arr {w : World} {g : Nat} {t : TypeId} {cs : Array Value} (h : Arr w g t cs) (k : Nat) : w.frozen? { block := g, off := k } = false := h.free k
theorem ins_cells (L : List Fl) (i : Nat) (x : Fl) : flCells (L.take i ++ x :: L.drop i) = (flCells L).take (i * 3) ++ (flArr x).toList ++ (flCells L).drop (i * 3) := by
  rw [flCells_app, flCells, ← flCells_take, ← flCells_drop, List.append_assoc]
theorem lay_ins {C F xs : List Value} {n i : Nat} (h : C.take (n * 3) = F) (hF : F.length = n * 3) (hi : i < n) (hx : xs.length = 3) :
    (layL (layL C ((i + 1) * 3) (F.drop (i * 3))) (i * 3) xs).take ((n + 1) * 3) = F.take (i * 3) ++ xs ++ F.drop (i * 3) := by
  have hCn : n * 3 ≤ C.length := by rw [← h, List.length_take] at hF; omega
  have e1 : (layL C ((i + 1) * 3) (F.drop (i * 3))).take (i * 3) = F.take (i * 3) := by
    unfold layL
    rw [List.append_assoc, List.take_append_of_le_length (by rw [List.length_take]; omega), List.take_take, ← h, List.take_take, Nat.min_eq_left (by omega), Nat.min_eq_left (by omega)]
  have e2 : (layL C ((i + 1) * 3) (F.drop (i * 3))).drop (i * 3 + 3) = F.drop (i * 3) ++ C.drop ((i + 1) * 3 + (F.drop (i * 3)).length) := by
    unfold layL
    rw [List.append_assoc, List.drop_append, List.drop_of_length_le (by rw [List.length_take]; omega), List.length_take, show i * 3 + 3 - min ((i + 1) * 3) C.length = 0 from by omega, List.drop_zero, List.nil_append]
  rw [show layL (layL C ((i + 1) * 3) (F.drop (i * 3))) (i * 3) xs = F.take (i * 3) ++ xs ++ (F.drop (i * 3) ++ C.drop ((i + 1) * 3 + (F.drop (i * 3)).length)) from by
    rw [show layL (layL C ((i + 1) * 3) (F.drop (i * 3))) (i * 3) xs = (layL C ((i + 1) * 3) (F.drop (i * 3))).take (i * 3) ++ xs ++ (layL C ((i + 1) * 3) (F.drop (i * 3))).drop (i * 3 + xs.length) from rfl, e1, hx, e2]]
  rw [← List.append_assoc, List.take_append_of_le_length (by simp only [List.length_append, List.length_take, List.length_drop, hF, hx]; omega), List.take_of_length_le (by simp only [List.length_append, List.length_take, List.length_drop, hF, hx]; omega)]
/-- behind an insertion -/
def InEnd (base : Nat) (L' : List Fl) (v : Value) (W : World) (e : Ending) (w' : World) : Prop :=
  ∃ v', e = .returned v' ∧ w'.ownsRow base 50 3 v' L'.length (flCells L') ∧ W.grownBy w' v.ownBlock
theorem x_news {W : World} {vb : Nat} {x : Fl} (h : Arr W vb 50 (flArr x)) : News W (some ⟨vb, 0, none⟩) 1 (flArr x).toList := by
  refine ⟨fun e => (by cases e), fun ad e j u hu => ?_⟩
  cases e
  rw [zero_add, h.cell j, ← Array.getElem?_toList]
  exact hu
theorem flArr_ones (x : Fl) : ∀ u ∈ (flArr x).toList, u.oneCell' = true := fun u hu => flCells_one [x] u (by simp [flCells]; exact Array.mem_toList_iff.1 hu)
set_option maxRecDepth 100000 in
set_option maxHeartbeats 1000000 in
theorem insert_end (L : List Fl) (x : Fl) (hl : L.length ≤ 1000) (v : Value) (base : Nat) (W : World) (h : W.ownsRow base 50 3 v L.length (flCells L)) (vb : Nat) (hv : Arr W vb 50 (flArr x)) (hb : base ≤ W.heap.size) :
    Calls Try.prog 34 #[v, .int .i64 (L.length : Int), .slice (some ⟨vb, 0, none⟩) 1 1] W (InEnd base (L.take L.length ++ x :: L.drop L.length) v W) := by
  obtain ⟨si, hsi, sz0, sz1, sz2⟩ := info_parts info_file
  have Hsi := Lib.hid hsi
  have Sz0 := Lib.hid sz0
  have Sz1 := Lib.hid sz1
  have Sz2 := Lib.hid sz2
  clear hsi sz0 sz1 sz2
  have HN := Lib.hid (x_news hv)
  have HE : Hid (InEnd base (L.take L.length ++ x :: L.drop L.length) v W = InEnd base (L ++ [x]) v W) := by show _ = _; rw [List.take_length, List.drop_length]
  rw [HE.out]
  clear HE
  obtain ⟨A, c, rfl, hc, _⟩ := own_files h
  rcases h.2 with ⟨e0, hn0⟩ | ⟨g, cap, cur, e0, hbg, hg, hnc, hcm, hcs, htake⟩
  · obtain rfl : L = [] := List.eq_nil_of_length_eq_zero hn0
    simp only [Value.slice.injEq] at e0
    obtain ⟨rfl, _, rfl⟩ := e0
    simp only [List.length_nil] at h ⊢
    go_enter Try.func34, Try.ntmps34
    go_wp2_with (at_builtin; refine wpList_app _ rfl _ _ 22 rfl base 50 si _ 3 48 Try.underlying22 Hsi.out Sz0.out Sz1.out Sz2.out rfl (by decide) _ _ _ rfl h (some ⟨vb, 0, none⟩) 1 1 (flArr x).toList rfl rfl HN.out (flArr_ones x) (by unfold maxLen; omega) (by omega) hb ?_)
    intro v' w' h1 h2
    go_wp2_with fail
    go_ret
    exact ⟨v', rfl, by simp only [flCells, List.nil_append, List.append_nil, List.length_singleton] at h1 ⊢; exact h1, h2⟩
  · cases e0
    have i1 : (L.length : Int) ≤ L.length := by omega
    go_enter Try.func34, Try.ntmps34
    go_wp2_with (at_builtin; refine wpList_app _ rfl _ _ 22 rfl base 50 si _ 3 48 Try.underlying22 Hsi.out Sz0.out Sz1.out Sz2.out rfl (by decide) _ _ _ rfl h (some ⟨vb, 0, none⟩) 1 1 (flArr x).toList rfl rfl HN.out (flArr_ones x) (by unfold maxLen; omega) (by omega) hb ?_)
    all_goals
      intro v' w' h1 h2
      go_wp2_with fail
      go_ret
      refine ⟨v', rfl, ?_, h2⟩
      rw [List.length_append, flCells_app]
      simp only [flCells, List.append_nil, List.length_singleton]
      exact h1
set_option maxRecDepth 100000 in
set_option maxHeartbeats 1000000 in
theorem insert_shift (L : List Fl) (i : Nat) (hi : i < L.length) (x : Fl) (hl : L.length ≤ 1000) (g cap : Nat) (C : List Value) (base : Nat) (W : World) (hbg : base ≤ g) (hg : Arr W g 50 C.toArray) (hroom : L.length + 1 ≤ cap) (hcm : cap ≤ maxLen) (hcs : C.length = cap * 3) (htake : C.take (L.length * 3) = flCells L)
    (vb : Nat) (hv : Arr W vb 50 (flArr x)) (hne : vb ≠ g) :
    Calls Try.prog 34 #[.slice (some ⟨g, 0, none⟩) L.length cap, .int .i64 (i : Int), .slice (some ⟨vb, 0, none⟩) 1 1] W (InEnd base (L.take i ++ x :: L.drop i) (.slice (some ⟨g, 0, none⟩) L.length cap) W) := by
  have hsz := file_size
  have hov : ∀ o lb cb, (callFunc 51 #[.slice (some ⟨vb, 0, none⟩) 1 1, .slice (some ⟨g, o, none⟩) lb cb]).run Try.prog W = .ok (.value (.bool false)) W := fun o lb cb => by
    rw [run_callFunc_extern Try.func51 (by kernel_rfl) (by kernel_rfl) (by kernel_rfl) (e := Extern.SlicesOverlaps.overlaps #[22, 22] #[4]) (by kernel_rfl),
      Lib.run_overlaps_apart W 22 4 50 Try.underlying22 3 (fun w => by rfl) ⟨vb, 0, none⟩ ⟨g, o, none⟩ 1 1 lb cb hne _ _ _ _ (shape_arr hv) (shape_arr hg) (by rw [List.size_toArray]; omega) (hv.free 0) (free_arr hv _)]
    rfl
  have b1 : ¬ (i : Int) = L.length := by omega
  have b2 : ¬ (cap : Int) < L.length + 1 := by omega
  have b3 : (i : Int) ≤ L.length := by omega
  have b4 : (L.length : Int) + 1 ≤ cap := by omega
  have b5 : (i : Int) + 1 ≤ L.length + 1 := by omega
  have hc2 : (cap : Int) ≤ 9223372036854775807 := by unfold maxLen at hcm; omega
  have HM := Lib.hid hcm
  have HT := Lib.hid htake
  have hcl : (flCells (L.drop i)).length = (L.length - i) * 3 := by rw [flCells_len, List.length_drop]
  have hcell : ∀ j, j < cap * 3 → W.cell? ⟨g, j, none⟩ = C[j]? := fun j hj => by rw [hg.cell j, List.getElem?_toArray]
  have hcp1 : ∀ ty dc sc, (Builtin.copy_ #[22, 22] ty #[.slice (some ⟨g, (i + 1) * 3, none⟩) (L.length - i) dc, .slice (some ⟨g, i * 3, none⟩) (L.length + 1 - i) sc]).run Try.prog W.drew = .ok (goInt (Nat.min (L.length + 1 - i) (L.length - i))) (W.drew.setCells g ((i + 1) * 3) (flCells (L.drop i))) := fun ty dc sc =>
    run_copy_k W.drew _ _ ty 50 3 g ((i + 1) * 3) _ dc ⟨g, i * 3, none⟩ _ sc (flCells (L.drop i)) Try.underlying22 hsz (by rw [hcl]; simp only [Nat.min_def]; split <;> omega)
      (fun j v hj => by
        have hlt := (List.getElem?_eq_some_iff.1 hj).1
        rw [← flCells_drop, List.getElem?_drop, ← HT.out, List.getElem?_take_of_lt (by omega)] at hj
        rw [Addr.add_lit]
        exact (hcell (i * 3 + j) (by omega)).trans hj)
      (fun j hj => by
        have := hcell ((i + 1) * 3 + j) (by omega)
        show (W.cell? _).isSome = true
        rw [this, List.getElem?_eq_getElem (by omega)]
        rfl)
      (fun j _ => hg.free _) (flCells_one _)
  have HL : Hid ((layL C ((i + 1) * 3) (flCells (L.drop i))).length = cap * 3) := by show _ = _; rw [layL_len (by omega), hcs]
  have A1 : Arr (W.drew.setCells g ((i + 1) * 3) (flCells (L.drop i))) g 50 (layL C ((i + 1) * 3) (flCells (L.drop i))).toArray := arr_setCells _ _ C W.drew hg.drew (by omega)
  have k1 : W.grownBy (W.drew.setCells g ((i + 1) * 3) (flCells (L.drop i))) (some g) := gb_trans (gb_below ((Below.refl _ W).drew)) (gb_setCells g _ _ W.drew)
  have V1 : Arr (W.drew.setCells g ((i + 1) * 3) (flCells (L.drop i))) vb 50 (flArr x) := hv.kept k1 (fun e => hne (Option.some.inj e))
  have HF : Hid (∀ ty dc, (Builtin.copy_ #[22, 22] ty #[.slice (some ⟨g, i * 3, none⟩) (L.length + 1 - i) dc, .slice (some ⟨vb, 0, none⟩) 1 1]).run Try.prog (W.drew.setCells g ((i + 1) * 3) (flCells (L.drop i))) = .ok (goInt 1) ((W.drew.setCells g ((i + 1) * 3) (flCells (L.drop i))).setCells g (i * 3) (flArr x).toList) ∧ Arr (W.drew.setCells g ((i + 1) * 3) (flCells (L.drop i))) g 50 (layL C ((i + 1) * 3) (flCells (L.drop i))).toArray ∧ W.grownBy (W.drew.setCells g ((i + 1) * 3) (flCells (L.drop i))) (some g)) := fun ty dc => by
    refine ⟨?_, A1, k1⟩
    have := run_copy_k (P := Try.prog) (W.drew.setCells g ((i + 1) * 3) (flCells (L.drop i))) 22 22 ty 50 3 g (i * 3) (L.length + 1 - i) dc ⟨vb, 0, none⟩ 1 1 (flArr x).toList Try.underlying22 hsz (by rw [show Nat.min 1 (L.length + 1 - i) = 1 from by simp only [Nat.min_def]; split <;> omega]; rfl)
      (fun j v hj => by rw [Addr.add_lit, Nat.zero_add, V1.cell j, ← Array.getElem?_toList]; exact hj)
      (fun j hj => by
        have hj3 : j < 3 := hj
        rw [A1.cell, List.getElem?_toArray, List.getElem?_eq_getElem (by rw [HL.out]; omega)]
        rfl)
      (fun j _ => A1.free _) (flArr_ones x)
    rw [show Nat.min 1 (L.length + 1 - i) = 1 from by simp only [Nat.min_def]; split <;> omega] at this
    exact this
  clear hcm htake hcell A1 k1 V1 hcl
  go_enter Try.func34, Try.ntmps34
  go_wp2_with (simp only [hov])
  have s1 : IntKind.i64.wrap ((i : Int) + 1) = (i : Int) + 1 := IntWalk.i64_in _ (by omega)
  have s2 : (0 : Int) ≤ (i : Int) + 1 := by omega
  have s4 : ((i : Int) + 1).toNat = i + 1 := by omega
  have s5 : ¬ cap = i + 1 := by omega
  have s6 : ¬ cap = i := by omega
  have s7 : (i : Int) ≤ (L.length : Int) + 1 := by omega
  go_region_law (refine step_copy_is rfl _ _ 22 22 rfl _ _ (by simp [Act.eval, Act.put]) (by simp [Act.eval, Act.put]) (hcp1 _ _ _) ?_)
  go_upto_region 16 with fail
  refine wp_forget (fun V => ∀ ty dc, (Builtin.copy_ #[22, 22] ty #[.slice (some ⟨g, i * 3, none⟩) (L.length + 1 - i) dc, .slice (some ⟨vb, 0, none⟩) 1 1]).run Try.prog V = .ok (goInt 1) (V.setCells g (i * 3) (flArr x).toList) ∧ Arr V g 50 (layL C ((i + 1) * 3) (flCells (L.drop i))).toArray ∧ W.grownBy V (some g)) (by exact HF.out) ?_
  intro V hV
  have hcp2 := fun ty dc => (hV ty dc).1
  obtain ⟨_, A2, k2⟩ := hV 0 0
  clear hV HF hcp1 hov
  go_wp2_with (at_builtin; refine wpList_copy_is _ rfl _ _ 22 22 rfl _ _ rfl rfl (hcp2 _ _) ?_)
  go_ret
  have A3 := arr_setCells (flArr x).toList (i * 3) _ _ A2 (by rw [HL.out]; show i * 3 + 3 ≤ _; omega)
  refine ⟨_, rfl, ⟨by rw [flCells_len], .inr ⟨g, cap, _, by rw [List.length_append, List.length_cons, List.length_take, List.length_drop, show min i L.length + (L.length - i + 1) = L.length + 1 from by omega]; rfl, hbg, A3, by rw [List.length_append, List.length_cons, List.length_take, List.length_drop]; omega, HM.out, ?_, ?_⟩⟩, gb_trans k2 (gb_setCells g _ _ _)⟩
  · rw [List.size_toArray, layL_len (by rw [HL.out]; show i * 3 + 3 ≤ _; omega), HL.out]
  · rw [ins_cells, List.toList_toArray, List.length_append, List.length_cons, List.length_take, List.length_drop, show min i L.length + (L.length - i + 1) = L.length + 1 from by omega, ← flCells_drop]
    exact lay_ins HT.out (flCells_len L) (by omega) rfl
end Go.Proofs.Ytnijnphalhfabaa
