/- disk.Crash: its contract. -/
import Derived.Test.YtnijnphalhfabaaDkDisks
namespace Go.Proofs.Ytnijnphalhfabaa
open Go.RowKit

def zeroFl : Fl := ⟨⟨#[]⟩, ⟨#[]⟩, ⟨#[]⟩⟩
theorem cells_zero : ∀ n : Nat, flCells (List.replicate n zeroFl) = List.replicate (n * 3) (.string ⟨#[]⟩)
  | 0 => rfl
  | n + 1 => by
    rw [List.replicate_succ, flCells, cells_zero n, show (n + 1) * 3 = n * 3 + 1 + 1 + 1 from by omega]
    rfl
theorem made_zero (n : Nat) : (madeCells flZero (n * 3)).toList = flCells (List.replicate n zeroFl) := by
  rw [cells_zero]
  apply List.ext_getElem?
  intro j
  by_cases hj : j < n * 3
  · rw [List.getElem?_replicate, if_pos hj]
    have hm : j % 3 = 0 ∨ j % 3 = 1 ∨ j % 3 = 2 := by omega
    have e : flZero[j % flZero.size]! = .string ⟨#[]⟩ := by
      show flZero[j % 3]! = _
      rcases hm with m | m | m <;> rw [m] <;> rfl
    simp [madeCells, hj, e]
  · rw [List.getElem?_eq_none (by simp [madeCells]; omega), List.getElem?_eq_none (by simp; omega)]
/-- the first k files as a crash leaves them, the others not made yet -/
def mix (L : List Fl) (m k : Nat) : List Fl := (L.take k).map (crashF m) ++ List.replicate (L.length - k) zeroFl
theorem mix_len (L : List Fl) (m k : Nat) (h : k ≤ L.length) : (mix L m k).length = L.length := by
  unfold mix
  rw [List.length_append, List.length_map, List.length_take, List.length_replicate]
  omega
theorem mix_set {L : List Fl} {m k : Nat} {x : Fl} (h : L[k]? = some x) : (mix L m k).set k (crashF m x) = mix L m (k + 1) := by
  obtain ⟨hlt, he⟩ := List.getElem?_eq_some_iff.1 h
  unfold mix
  have hl : ((L.take k).map (crashF m)).length = k := by rw [List.length_map, List.length_take]; omega
  rw [List.set_append_right _ _ (by omega), hl, Nat.sub_self, List.take_succ_eq_append_getElem hlt, he, List.map_append, List.append_assoc, show L.length - k = (L.length - (k + 1)) + 1 from by omega, List.replicate_succ, List.set_cons_zero]
  rfl
def CrRel (L : List Fl) (m : Nat) (A : Option Addr) (c : Nat) (z : Int) (w : World) (g : Nat) (i : Value) (wr : World) : Prop :=
  ∃ k : Nat, k ≤ L.length ∧ i = .int .i64 (k : Int) ∧ Arr wr w.heap.size 24 (dkArr L A c z) ∧ Arr wr (w.heap.size + 1) 24 dkZero ∧ Arr wr g 50 (flCells (mix L m k)).toArray ∧ Below w.heap.size w wr
set_option maxRecDepth 100000 in
set_option maxHeartbeats 2000000 in
theorem Crash_any (L : List Fl) (keep : Int) (hk2 : keep ≤ 9223372036854775807) (A : Option Addr) (c : Nat) (z : Int) (w : World) (hP : Fls w w.heap.size A L) (hz : Sized L) (hl : L.length ≤ 140737488355328) (hc : L.length ≤ c) :
    Calls Try.prog 23 #[.agg #[.slice A L.length c, .int .i64 z], .int .i64 keep] w (StEnd w (crashD ⟨L, z⟩ keep)) := by
  obtain ⟨si, hsi, sz0, sz1, sz2⟩ := info_parts info_file
  have Hsi := Lib.hid hsi
  have Sz0 := Lib.hid sz0
  have Sz1 := Lib.hid sz1
  have Sz2 := Lib.hid sz2
  clear hsi sz0 sz1 sz2
  have A0 : Arr ((w.alloc (.cells (dkArr L A c z) 24)).alloc (.cells dkZero 24)) w.heap.size 24 (dkArr L A c z) := (Arr.new _ _ _).alloc _
  have A1 : Arr ((w.alloc (.cells (dkArr L A c z) 24)).alloc (.cells dkZero 24)) (w.heap.size + 1) 24 dkZero := Arr.new_at _ _ _ (by simp)
  have b0 : Below w.heap.size w ((w.alloc (.cells (dkArr L A c z) 24)).alloc (.cells dkZero 24)) := ((Below.refl _ _).alloc (Nat.le_refl _) _).alloc (by simp) _
  have HS : Hid (crashD ⟨L, z⟩ keep = if !goodD L || decide (keep < 0) then (⟨L, z⟩, 3) else (⟨L.map (crashF keep.toNat), -1⟩, 0)) := rfl
  generalize crashD ⟨L, z⟩ keep = Q at *
  go_enter Try.func23, Try.ntmps23
  go_upto_region 1 with fail
  refine wp_forget (fun V => Arr V w.heap.size 24 (dkArr L A c z) ∧ Arr V (w.heap.size + 1) 24 dkZero ∧ Below w.heap.size w V) (by exact ⟨A0, A1, b0⟩) ?_
  clear A0 A1 b0
  rintro V ⟨A0, A1, b0⟩
  have c0 : V.cell? ⟨w.heap.size, 0, none⟩ = some (.slice A L.length c) := A0.cell 0
  have c1 : V.cell? ⟨w.heap.size, 1, none⟩ = some (.int .i64 z) := A0.cell 1
  have CG : Hid (Calls Try.prog 18 #[.agg #[.slice A L.length c, .int .i64 z]] V fun e w' => e = .returned (.bool (goodD L)) ∧ Below V.heap.size V w') := Good_any L A c z V (hP.up b0) hz hl
  have HRet : Hid (∀ (W : World) (a : Act) (d : Dk) (A' : Option Addr) (c' : Nat) (e : Int), Arr W (w.heap.size + 1) 24 (dkArr d.files A' c' d.fuse) → Below w.heap.size w W → Fls W W.heap.size A' d.files → d.files.length ≤ c' → a.tmps[4]? = some (.pointer (some ⟨w.heap.size + 1, 0, none⟩)) → a.tmps[5]? = some (.int .i64 e) → a.defers = [] → bodyPost Try.prog Try.f23 (StEnd w (d, e)) .ret a W) := fun W a d A' c' e h1 h2 h3 h4 h5 h6 h7 => by
    refine bodyPost_ret (v := .tuple #[.agg (dkArr d.files A' c' d.fuse), .int .i64 e]) ?_ h7 ⟨A', c', rfl, h3, h4, h2⟩
    rw [results_cell_tmp Try.results23]
    have hld := run_loadVar_row (P := Try.prog) _ _ _ 24 _ _ _ h1 Try.underlying24 rfl (dkInfo _ _ _ _)
    simp [Array.getD_eq_getD_getElem?, h5, h6, asAddr, hld, Result.andThen]
  cases hg : goodD L with
  | false =>
    rw [hg] at CG
    have HQ : Hid (Q = (⟨L, z⟩, 3)) := by show _ = _; rw [HS.out, hg]; rfl
    clear HS hg
    go_wp2_with fail
    (with_reducible refine CG.out.mono ?_)
    clear CG c0 c1
    rintro _ V2 ⟨rfl, b2⟩
    have A2 := A0.below b2 A0.lt
    have A3 := A1.below b2 A1.lt
    have b3 := b0.trans (b2.mono b0.size)
    have c0 : V2.cell? ⟨w.heap.size, 0, none⟩ = some (.slice A L.length c) := A2.cell 0
    have c1 : V2.cell? ⟨w.heap.size, 1, none⟩ = some (.int .i64 z) := A2.cell 1
    go_wp2_with (refine wpList_store_row rfl 24 _ _ rfl (w.heap.size + 1) (dkArr L A c z) rfl rfl 24 dkZero A3 (dkInfo _ _ _ _) rfl (dkArr_one _ _ _ _) ?_)
    rw [HQ.out]
    have b4 := below_setRow b3 (show w.heap.size ≤ w.heap.size + 1 by omega) (dkArr L A c z)
    exact HRet.out _ _ ⟨L, z⟩ A c 3 (A3.row _) b4 (hP.up b4) hc rfl rfl rfl
  | true =>
    rw [hg] at CG
    by_cases h0 : keep < 0
    · have HQ : Hid (Q = (⟨L, z⟩, 3)) := by show _ = _; rw [HS.out, hg, decide_eq_true h0]; rfl
      clear HS hg
      go_wp2_with fail
      (with_reducible refine CG.out.mono ?_)
      clear CG c0 c1
      rintro _ V2 ⟨rfl, b2⟩
      have A2 := A0.below b2 A0.lt
      have A3 := A1.below b2 A1.lt
      have b3 := b0.trans (b2.mono b0.size)
      have c0 : V2.cell? ⟨w.heap.size, 0, none⟩ = some (.slice A L.length c) := A2.cell 0
      have c1 : V2.cell? ⟨w.heap.size, 1, none⟩ = some (.int .i64 z) := A2.cell 1
      go_wp2_with (refine wpList_store_row rfl 24 _ _ rfl (w.heap.size + 1) (dkArr L A c z) rfl rfl 24 dkZero A3 (dkInfo _ _ _ _) rfl (dkArr_one _ _ _ _) ?_)
      rw [HQ.out]
      have b4 := below_setRow b3 (show w.heap.size ≤ w.heap.size + 1 by omega) (dkArr L A c z)
      exact HRet.out _ _ ⟨L, z⟩ A c 3 (A3.row _) b4 (hP.up b4) hc rfl rfl rfl
    have HQ : Hid (Q = (⟨L.map (crashF keep.toNat), -1⟩, 0)) := by show _ = _; rw [HS.out, hg, decide_eq_false h0]; rfl
    obtain ⟨h4, _, hall⟩ := (goodD_iff L).1 hg
    have HAll : Hid (∀ f ∈ L, f.safe.size + f.tail.size ≤ 1048576) := fun f hf => by
      have := (hall f hf).2
      unfold fits at this
      exact of_decide_eq_true this
    obtain ⟨m, hm⟩ := Int.eq_ofNat_of_zero_le (show 0 ≤ keep by omega)
    subst hm
    rw [Int.toNat_natCast] at HQ
    clear HS hg h0 hall
    have h0 : ¬ (m : Int) < 0 := by omega
    go_wp2_with fail
    (with_reducible refine CG.out.mono ?_)
    clear CG c0 c1
    rintro _ V2 ⟨rfl, b2⟩
    have A2 := A0.below b2 A0.lt
    have A3 := A1.below b2 A1.lt
    have b3 := b0.trans (b2.mono b0.size)
    clear A0 A1 b0 b2
    have c0 : V2.cell? ⟨w.heap.size, 0, none⟩ = some (.slice A L.length c) := A2.cell 0
    have c1 : V2.cell? ⟨w.heap.size, 1, none⟩ = some (.int .i64 z) := A2.cell 1
    go_upto_region 4 with (at_make; refine wpList_make_full _ rfl _ _ 22 rfl V2.heap.size 50 si _ 3 Try.underlying22 Hsi.out Sz0.out Sz1.out _ _ _ _ L.length rfl rfl rfl rfl (by rw [Sz2.out]; omega) (by unfold maxLen; omega) (Nat.le_refl _) ?_)
    intro w1 hown hgrow
    have hb1 : Below V2.heap.size V2 w1 := (Below.refl _ _).grown hgrow (Nat.le_refl _) (by intro k hk; cases hk)
    have hA : Arr w1 V2.heap.size 50 (flCells (mix L m 0)).toArray := by
      rcases hown.2 with ⟨h', _⟩ | ⟨g', cap', cur, h', hb, hg, hnc, hcm, hcs, htake⟩
      · simp at h'
      · simp only [Value.slice.injEq, Option.some.injEq, Addr.mk.injEq, and_true, true_and] at h'
        obtain ⟨rfl, rfl⟩ := h'
        have e : cur = (flCells (mix L m 0)).toArray := by
          apply Array.ext'
          rw [List.take_of_length_le (by simp [hcs])] at htake
          rw [htake]
          have : mix L m 0 = List.replicate L.length zeroFl := by simp [mix]
          rw [this, List.toList_toArray, ← made_zero]
          rfl
        rw [← e]
        exact hg
    have A4 := A2.below hb1 A2.lt
    have A5 := A3.below hb1 A3.lt
    have b5 := b3.trans (hb1.mono b3.size)
    have hgq : w.heap.size + 1 < V2.heap.size := A3.lt
    have h1 : Hid (CrRel L m A c z w V2.heap.size (.int .i64 0) w1) := ⟨0, Nat.zero_le _, rfl, A4, A5, hA, b5⟩
    have d0 : w1.cell? ⟨w.heap.size, 0, none⟩ = some (.slice A L.length c) := A4.cell 0
    have hbg := b3.size
    clear hown hgrow hb1 hA A4 A5 A2 A3 c0 c1 b3 b5
    generalize V2.heap.size = g at *
    go_wp2_with fail
    go_loopw [25] (fun i wr => CrRel L m A c z w g i wr) (fun i _ => L.length - (intOf i).toNat)
    case atStart => exact h1.out
    case round =>
      clear h1 d0
      clear w1
      obtain ⟨k, hk, rfl, A4, A5, G, bel⟩ := hrel
      by_cases hlt : k < L.length
      · have hj : (k : Int) < L.length := by omega
        have hx : L[k]? = some L[k] := List.getElem?_eq_getElem hlt
        obtain ⟨ad, rfl, hbl, h0', h1, h2⟩ := hP k L[k] hx
        have g0 := (bel.cell hbl).trans h0'
        have g1 := (bel.cell (p := ⟨(ad.add (k * 3)).block, (ad.add (k * 3)).off + 1, none⟩) hbl).trans h1
        have g2 := (bel.cell (p := ⟨(ad.add (k * 3)).block, (ad.add (k * 3)).off + 2, none⟩) hbl).trans h2
        have hs := HAll.out L[k] (List.getElem_mem hlt)
        have HX := Lib.hid hx
        have hml := mix_len L m k hk
        clear h0' h1 h2 hx
        have HSet := Lib.hid (mix_set (m := m) HX.out)
        have HT := Lib.hid (take_set3 (f' := crashF m L[k]) (C := flCells (mix L m k)) (L := mix L m k) (i := k) (cap := L.length) (List.take_of_length_le (by rw [flCells_len]; exact Nat.le_refl _)) (by rw [flCells_len, hml]) (by rw [hml]; exact Nat.le_refl _) (by rw [hml]; exact hlt))
        generalize L[k] = x at *
        have bb : Below wr.heap.size wr ((wr.alloc (.cells flZero 50)).setRow wr.heap.size (flArr x)) := below_setRow ((Below.refl _ _).alloc (Nat.le_refl _) _) (Nat.le_refl _) _
        have AX : Arr ((wr.alloc (.cells flZero 50)).setRow wr.heap.size (flArr x)) wr.heap.size 50 (flArr x) := (Arr.new _ _ _).row _
        have hgl := G.lt
        go_upto_region 7 with (refine wpList_store_row rfl 50 _ _ rfl wr.heap.size (flArr x) rfl rfl 50 flZero (Arr.new wr _ _) (flInfo _) rfl (flArr_one _) ?_)
        refine wp_forget (fun W => Arr W w.heap.size 24 (dkArr L (some ad) c z) ∧ Arr W (w.heap.size + 1) 24 dkZero ∧ Arr W g 50 (flCells (mix L m k)).toArray ∧ Arr W wr.heap.size 50 (flArr x) ∧ Below w.heap.size w W) (by exact ⟨A4.below bb A4.lt, A5.below bb A5.lt, G.below bb G.lt, AX, bel.trans (bb.mono bel.size)⟩) ?_
        clear bb AX A4 A5 G bel g0 g1 g2
        generalize wr.heap.size = q at *
        rintro W ⟨A4, A5, G, AX, bel⟩
        have e0 : W.cell? ⟨q, 0, none⟩ = some (.string x.name) := AX.cell 0
        have e1 : W.cell? ⟨q, 1, none⟩ = some (.string x.safe) := AX.cell 1
        have e2 : W.cell? ⟨q, 2, none⟩ = some (.string x.tail) := AX.cell 2
        have hcl : (flCells (mix L m k)).length = L.length * 3 := by rw [flCells_len, hml]
        have hat : ∀ j, j < L.length * 3 → ∃ u, W.cell? ⟨g, j, none⟩ = some u := fun j hj => ⟨_, by rw [G.cell, List.getElem?_toArray]; exact List.getElem?_eq_getElem (by omega)⟩
        obtain ⟨t, ht⟩ : ∃ t, t = x.tail.extract 0 (min m x.tail.size) := ⟨_, rfl⟩
        have hcf : crashF m x = ⟨x.name, x.safe ++ t, ⟨#[]⟩⟩ := by rw [ht]; rfl
        rw [hcf] at HSet HT
        have hts : t.size ≤ 1048576 := by rw [ht, ByteArray.size_extract]; omega
        obtain ⟨u0, d0⟩ := hat (k * 3) (by omega)
        have f0 := G.free (k * 3)
        have G3 := G.put (k * 3) (.string x.name)
        rw [List.setIfInBounds_toArray] at G3
        have hat1 : ∃ u, (W.setCell ⟨g, k * 3, none⟩ (.string x.name)).cell? ⟨g, k * 3 + 1, none⟩ = some u := ⟨_, by rw [G3.cell, List.getElem?_toArray]; exact List.getElem?_eq_getElem (by rw [List.length_set]; omega)⟩
        obtain ⟨u1, d1⟩ := hat1
        have f1 := G3.free (k * 3 + 1)
        have G4 := G3.put (k * 3 + 1) (.string (x.safe ++ t))
        rw [List.setIfInBounds_toArray] at G4
        have hat2 : ∃ u, ((W.setCell ⟨g, k * 3, none⟩ (.string x.name)).setCell ⟨g, k * 3 + 1, none⟩ (.string (x.safe ++ t))).cell? ⟨g, k * 3 + 2, none⟩ = some u := ⟨_, by rw [G4.cell, List.getElem?_toArray]; exact List.getElem?_eq_getElem (by rw [List.length_set, List.length_set]; omega)⟩
        obtain ⟨u2, d2⟩ := hat2
        have f2 := G4.free (k * 3 + 2)
        have G5 := G4.put (k * 3 + 2) (.string ⟨#[]⟩)
        rw [List.setIfInBounds_toArray] at G5
        have hG5 := HT.out
        rw [List.take_of_length_le (by rw [List.length_set, List.length_set, List.length_set, flCells_len]; exact Nat.le_refl _), HSet.out] at hG5
        rw [hG5] at G5
        have k1 : W.grownBy (((W.setCell ⟨g, k * 3, none⟩ (.string x.name)).setCell ⟨g, k * 3 + 1, none⟩ (.string (x.safe ++ t))).setCell ⟨g, k * 3 + 2, none⟩ (.string ⟨#[]⟩)) (some g) := gb_trans (gb_trans (gb_set _ _ _) (gb_set _ _ _)) (gb_set _ _ _)
        have bel3 := below_gb bel k1 hbg bel.size
        have A6 := A4.kept k1 (fun e => by have := Option.some.inj e; omega)
        have A7 := A5.kept k1 (fun e => by have := Option.some.inj e; omega)
        clear G G3 G4 k1 hat hG5 HT HSet hcf A4 A5 AX bel hml hcl
        by_cases hmt : m ≤ x.tail.size
        · have i1 : (m : Int) ≤ x.tail.size := by omega
          rw [Nat.min_eq_left hmt] at ht
          subst ht
          go_wp2_with fail
          go_roundw
          case rel => exact ⟨k + 1, hlt, by rw [Int.natCast_add]; rfl, A6, A7, G5, bel3⟩
          case measure => simp [intOf]; omega
        · have i1 : ¬ (m : Int) ≤ x.tail.size := by omega
          rw [Nat.min_eq_right (by omega)] at ht
          have ht2 : t = x.tail := by
            rw [ht]
            apply bytes_eq
            rw [extract_drop, List.drop_zero, Nat.sub_zero]
            exact List.take_length
          subst ht2
          clear ht
          go_wp2_with fail
          go_roundw
          case rel => exact ⟨k + 1, hlt, by rw [Int.natCast_add]; rfl, A6, A7, G5, bel3⟩
          case measure => simp [intOf]; omega
      · obtain rfl : k = L.length := by omega
        have hj : ¬ (L.length : Int) < L.length := by omega
        have hmx : mix L m L.length = L.map (crashF m) := by unfold mix; rw [List.take_length, Nat.sub_self]; simp
        rw [hmx] at G
        have hF : Fls wr wr.heap.size (some ⟨g, 0, none⟩) (L.map (crashF m)) := by
          have ho : wr.ownsRow 0 50 3 (.slice (some ⟨g, 0, none⟩) (L.map (crashF m)).length L.length) (L.map (crashF m)).length (flCells (L.map (crashF m))) := ⟨by rw [flCells_len], .inr ⟨g, L.length, _, rfl, Nat.zero_le _, G, by rw [List.length_map]; exact Nat.le_refl _, by unfold maxLen; omega, by rw [List.size_toArray, flCells_len, List.length_map], by rw [List.toList_toArray]; exact List.take_of_length_le (by rw [flCells_len]; exact Nat.le_refl _)⟩⟩
          obtain ⟨A', c', e, _, h⟩ := own_files ho
          simp only [Value.slice.injEq] at e
          rw [e.1]
          exact h
        have d0 : wr.cell? ⟨w.heap.size, 0, none⟩ = some (.slice A L.length c) := A4.cell 0
        go_wp2_with (refine wpList_store_row rfl 24 _ _ rfl (w.heap.size + 1) (dkArr (L.map (crashF m)) (some ⟨g, 0, none⟩) L.length (-1)) rfl (by simp [dkArr]; rfl) 24 dkZero A5 (dkInfo _ _ _ _) rfl (dkArr_one _ _ _ _) ?_)
        rw [HQ.out]
        have b4 := below_setRow bel (show w.heap.size ≤ w.heap.size + 1 by omega) (dkArr (L.map (crashF m)) (some ⟨g, 0, none⟩) L.length (-1))
        exact HRet.out _ _ ⟨L.map (crashF m), -1⟩ (some ⟨g, 0, none⟩) L.length 0 (A5.row _) b4 (hF.row A5 _) (by rw [List.length_map]; exact Nat.le_refl _) rfl rfl rfl
end Go.Proofs.Ytnijnphalhfabaa
