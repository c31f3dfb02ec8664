/- ref.CopyDisk, ref.Crash: their contracts. -/
import Derived.Test.YtnijnphalhfabaaDkRefB
import Derived.Test.YtnijnphalhfabaaDkCrash
namespace Go.Proofs.Ytnijnphalhfabaa
open Go.RowKit

/-- a disk laid into its place -/
theorem laid_disk {w W : World} {q : Nat} {L : List Fl} {A : Option Addr} {c : Nat} (y : Int) (hF : Fls W W.heap.size A L) (hA : Arr W q 24 dkZero) (hb : Below w.heap.size w W) (hq : w.heap.size ≤ q) :
    Arr ((W.setCell ⟨q, 0, none⟩ (.slice A L.length c)).setCell ⟨q, 1, none⟩ (.int .i64 y)) q 24 (dkArr L A c y) ∧ Fls ((W.setCell ⟨q, 0, none⟩ (.slice A L.length c)).setCell ⟨q, 1, none⟩ (.int .i64 y)) ((W.setCell ⟨q, 0, none⟩ (.slice A L.length c)).setCell ⟨q, 1, none⟩ (.int .i64 y)).heap.size A L ∧ Below w.heap.size w ((W.setCell ⟨q, 0, none⟩ (.slice A L.length c)).setCell ⟨q, 1, none⟩ (.int .i64 y)) := by
  have k : W.grownBy ((W.setCell ⟨q, 0, none⟩ (.slice A L.length c)).setCell ⟨q, 1, none⟩ (.int .i64 y)) (some q) := gb_trans (gb_set _ _ _) (gb_set _ _ _)
  refine ⟨(hA.put 0 (.slice A L.length c)).put 1 (.int .i64 y), fun k' x hx => ?_, below_gb hb k hq hb.size⟩
  obtain ⟨ad, e, hbk, h0, h1, h2⟩ := hF k' x hx
  have hn : ¬ some (ad.add (k' * 3)).block = some q := fun e2 => by
    rw [Option.some.inj e2, hA.cell] at h1
    exact dkZero_no _ _ h1
  exact ⟨ad, e, Nat.lt_of_lt_of_le hbk k.size, k.cell h0 hn, k.cell h1 hn, k.cell h2 hn⟩
/-- behind CopyDisk -/
def CyEnd (w : World) (L : List Fl) (z : Int) (x : Ending) (w' : World) : Prop := ∃ A c, x = .returned (.agg (dkArr L A c z)) ∧ Fls w' w'.heap.size A L ∧ L.length ≤ c ∧ Below w.heap.size w w'
set_option maxRecDepth 100000 in
set_option maxHeartbeats 1000000 in
theorem CopyDisk_any (L : List Fl) (A : Option Addr) (c : Nat) (z : Int) (w : World) (hP : Fls w w.heap.size A L) (hl : L.length * 48 ≤ 140737488355328) :
    Calls Try.prog 11 #[.agg #[.slice A L.length c, .int .i64 z]] w (CyEnd w L z) := by
  obtain ⟨si, hsi, sz0, sz1, sz2⟩ := info_parts info_file
  have Hsi := Lib.hid hsi
  have Sz0 := Lib.hid sz0
  have Sz1 := Lib.hid sz1
  have Sz2 := Lib.hid sz2
  clear hsi sz0 sz1 sz2
  have A0 : Arr ((w.alloc (.cells (dkArr L A c z) 24)).alloc (.cells dkZero 24)) w.heap.size 24 (dkArr L A c z) := (Arr.new _ _ _).alloc _
  have A1 : Arr ((w.alloc (.cells (dkArr L A c z) 24)).alloc (.cells dkZero 24)) (w.heap.size + 1) 24 dkZero := Arr.new_at _ _ _ (by simp)
  have b0 : Below w.heap.size w ((w.alloc (.cells (dkArr L A c z) 24)).alloc (.cells dkZero 24)) := ((Below.refl _ _).alloc (Nat.le_refl _) _).alloc (by simp) _
  go_enter Try.func11, Try.ntmps11
  go_upto_region 1 with fail
  refine wp_forget (fun V => Arr V w.heap.size 24 (dkArr L A c z) ∧ Arr V (w.heap.size + 1) 24 dkZero ∧ Below w.heap.size w V) (by exact ⟨A0, A1, b0⟩) ?_
  clear A0 A1 b0
  rintro V ⟨A0, A1, b0⟩
  have c0 : V.drew.cell? ⟨w.heap.size, 0, none⟩ = some (.slice A L.length c) := A0.cell 0
  have c1 : V.drew.cell? ⟨w.heap.size, 1, none⟩ = some (.int .i64 z) := A0.cell 1
  have HN : Hid (News V.drew A L.length (flCells L)) := (hP.up b0.drew).news
  have hml : L.length ≤ 140737488355328 := by omega
  go_region_law (first
    | (refine step_app _ rfl _ _ 22 rfl V.heap.size 50 si _ 3 48 Try.underlying22 Hsi.out Sz0.out Sz1.out Sz2.out rfl (by decide) _ _ _ rfl (own_nil _ _ _ _) A L.length c (flCells L) rfl (flCells_len L) HN.out (flCells_one L) (by unfold maxLen; omega) (by omega) (Nat.le_refl _) ?_
       intro v1 w1 hown1 hg1
       rw [Nat.zero_add, List.nil_append] at hown1
       have k1 : Below V.heap.size V w1 := ((Below.refl _ V).drew).grown hg1 (Nat.le_refl _) (by intro k hk; cases hk)
       obtain ⟨A9, c9, rfl, hc9, hF9⟩ := own_files hown1
       have e1 : w1.cell? ⟨w.heap.size, 1, none⟩ = some (.int .i64 z) := (A0.below k1 A0.lt).cell 1
       have B1 := A1.below k1 A1.lt
       have x0 : w1.cell? ⟨w.heap.size + 1, 0, none⟩ = some (.slice none 0 0) := B1.cell 0
       have x1 := B1.free 0
       have B2 := B1.put 0 (.slice A9 L.length c9)
       have x2 : (w1.setCell ⟨w.heap.size + 1, 0, none⟩ (.slice A9 L.length c9)).cell? ⟨w.heap.size + 1, 1, none⟩ = some (.int .i64 0) := B2.cell 1
       have x3 := B2.free 1
       have HF := Lib.hid (laid_disk (c := c9) z hF9 B1 (b0.trans (k1.mono b0.size)) (by omega))))
  all_goals
    go_wp2_with fail
    obtain ⟨B3, F3, b3⟩ := HF.out
    refine bodyPost_ret (v := .agg (dkArr L A9 c9 z)) ?_ rfl ⟨A9, c9, rfl, F3, hc9, b3⟩
    exact results_cell_row Try.results11 _ _ (w.heap.size + 1) 24 _ (0, 0) _ rfl B3 Try.underlying24 rfl (dkInfo _ _ _ _)
theorem own_slice {w : World} {base : Nat} {v : Value} {n : Nat} {cs : List Value} (h : w.ownsRow base 50 3 v n cs) : ∃ A c, v = .slice A n c := by
  rcases h.2 with ⟨rfl, hn⟩ | ⟨g, cap, cur, rfl, hb, hg, hnc, hcm, hcs, htake⟩
  · exact ⟨none, 0, by rw [hn]⟩
  · exact ⟨some ⟨g, 0, none⟩, cap, rfl⟩
/-- where ref.Crash stands -/
def RcRel (L : List Fl) (m : Nat) (A : Option Addr) (c : Nat) (z : Int) (w : World) (q : Nat) (i : Value) (wr : World) : Prop :=
  ∃ (k : Nat) (v : Value), k ≤ L.length ∧ i = .int .i64 (k : Int) ∧ Arr wr w.heap.size 24 (dkArr L A c z) ∧ Arr wr (w.heap.size + 1) 24 dkZero ∧ Arr wr q 24 #[v, .int .i64 (-1)] ∧
    wr.ownsRow (q + 1) 50 3 v ((L.take k).map (crashF m)).length (flCells ((L.take k).map (crashF m))) ∧ Below w.heap.size w wr
set_option maxRecDepth 100000 in
set_option maxHeartbeats 2000000 in
theorem RefCrash_any (L : List Fl) (keep : Int) (hk2 : keep ≤ 9223372036854775807) (A : Option Addr) (c : Nat) (z : Int) (w : World) (hP : Fls w w.heap.size A L) (hz : Sized L) (hl : L.length ≤ 140737488355328) (hc : L.length ≤ c) :
    Calls Try.prog 24 #[.agg #[.slice A L.length c, .int .i64 z], .int .i64 keep] w (StEnd w (crashD ⟨L, z⟩ keep)) := by
  obtain ⟨si, hsi, sz0, sz1, sz2⟩ := info_parts info_file
  have Hsi := Lib.hid hsi
  have Sz0 := Lib.hid sz0
  have Sz1 := Lib.hid sz1
  have Sz2 := Lib.hid sz2
  clear hsi sz0 sz1 sz2
  have A0 : Arr ((w.alloc (.cells (dkArr L A c z) 24)).alloc (.cells dkZero 24)) w.heap.size 24 (dkArr L A c z) := (Arr.new _ _ _).alloc _
  have A1 : Arr ((w.alloc (.cells (dkArr L A c z) 24)).alloc (.cells dkZero 24)) (w.heap.size + 1) 24 dkZero := Arr.new_at _ _ _ (by simp)
  have b0 : Below w.heap.size w ((w.alloc (.cells (dkArr L A c z) 24)).alloc (.cells dkZero 24)) := ((Below.refl _ _).alloc (Nat.le_refl _) _).alloc (by simp) _
  have HS : Hid (crashD ⟨L, z⟩ keep = if !goodD L || decide (keep < 0) then (⟨L, z⟩, 3) else (⟨L.map (crashF keep.toNat), -1⟩, 0)) := rfl
  generalize crashD ⟨L, z⟩ keep = Q at *
  go_enter Try.func24, Try.ntmps24
  go_upto_region 1 with fail
  refine wp_forget (fun V => Arr V w.heap.size 24 (dkArr L A c z) ∧ Arr V (w.heap.size + 1) 24 dkZero ∧ Below w.heap.size w V) (by exact ⟨A0, A1, b0⟩) ?_
  clear A0 A1 b0
  rintro V ⟨A0, A1, b0⟩
  have c0 : V.cell? ⟨w.heap.size, 0, none⟩ = some (.slice A L.length c) := A0.cell 0
  have c1 : V.cell? ⟨w.heap.size, 1, none⟩ = some (.int .i64 z) := A0.cell 1
  have CG : Hid (Calls Try.prog 19 #[.agg #[.slice A L.length c, .int .i64 z]] V fun e w' => e = .returned (.bool (goodD L)) ∧ Below V.heap.size V w') := GoodDisk_any L A c z V (hP.up b0) hz hl
  have HRet : Hid (∀ (W : World) (a : Act) (d : Dk) (A' : Option Addr) (c' : Nat) (e : Int), Arr W (w.heap.size + 1) 24 (dkArr d.files A' c' d.fuse) → Below w.heap.size w W → Fls W W.heap.size A' d.files → d.files.length ≤ c' → a.tmps[4]? = some (.pointer (some ⟨w.heap.size + 1, 0, none⟩)) → a.tmps[5]? = some (.int .i64 e) → a.defers = [] → bodyPost Try.prog Try.f24 (StEnd w (d, e)) .ret a W) := fun W a d A' c' e h1 h2 h3 h4 h5 h6 h7 => by
    refine bodyPost_ret (v := .tuple #[.agg (dkArr d.files A' c' d.fuse), .int .i64 e]) ?_ h7 ⟨A', c', rfl, h3, h4, h2⟩
    rw [results_cell_tmp Try.results24]
    have hld := run_loadVar_row (P := Try.prog) _ _ _ 24 _ _ _ h1 Try.underlying24 rfl (dkInfo _ _ _ _)
    simp [Array.getD_eq_getD_getElem?, h5, h6, asAddr, hld, Result.andThen]
  cases hg : goodD L with
  | false =>
    rw [hg] at CG
    have HQ : Hid (Q = (⟨L, z⟩, 3)) := by show _ = _; rw [HS.out, hg]; rfl
    clear HS hg
    go_wp2_with fail
    (with_reducible refine CG.out.mono ?_)
    clear CG c0 c1
    rintro _ V2 ⟨rfl, b2⟩
    have A2 := A0.below b2 A0.lt
    have A3 := A1.below b2 A1.lt
    have b3 := b0.trans (b2.mono b0.size)
    have c0 : V2.cell? ⟨w.heap.size, 0, none⟩ = some (.slice A L.length c) := A2.cell 0
    have c1 : V2.cell? ⟨w.heap.size, 1, none⟩ = some (.int .i64 z) := A2.cell 1
    go_wp2_with (refine wpList_store_row rfl 24 _ _ rfl (w.heap.size + 1) (dkArr L A c z) rfl rfl 24 dkZero A3 (dkInfo _ _ _ _) rfl (dkArr_one _ _ _ _) ?_)
    rw [HQ.out]
    have b4 := below_setRow b3 (show w.heap.size ≤ w.heap.size + 1 by omega) (dkArr L A c z)
    exact HRet.out _ _ ⟨L, z⟩ A c 3 (A3.row _) b4 (hP.up b4) hc rfl rfl rfl
  | true =>
    rw [hg] at CG
    by_cases h0 : keep < 0
    · have HQ : Hid (Q = (⟨L, z⟩, 3)) := by show _ = _; rw [HS.out, hg, decide_eq_true h0]; rfl
      clear HS hg
      go_wp2_with fail
      (with_reducible refine CG.out.mono ?_)
      clear CG c0 c1
      rintro _ V2 ⟨rfl, b2⟩
      have A2 := A0.below b2 A0.lt
      have A3 := A1.below b2 A1.lt
      have b3 := b0.trans (b2.mono b0.size)
      have c0 : V2.cell? ⟨w.heap.size, 0, none⟩ = some (.slice A L.length c) := A2.cell 0
      have c1 : V2.cell? ⟨w.heap.size, 1, none⟩ = some (.int .i64 z) := A2.cell 1
      go_wp2_with (refine wpList_store_row rfl 24 _ _ rfl (w.heap.size + 1) (dkArr L A c z) rfl rfl 24 dkZero A3 (dkInfo _ _ _ _) rfl (dkArr_one _ _ _ _) ?_)
      rw [HQ.out]
      have b4 := below_setRow b3 (show w.heap.size ≤ w.heap.size + 1 by omega) (dkArr L A c z)
      exact HRet.out _ _ ⟨L, z⟩ A c 3 (A3.row _) b4 (hP.up b4) hc rfl rfl rfl
    have HQ : Hid (Q = (⟨L.map (crashF keep.toNat), -1⟩, 0)) := by show _ = _; rw [HS.out, hg, decide_eq_false h0]; rfl
    obtain ⟨h4, _, hall⟩ := (goodD_iff L).1 hg
    have HAll : Hid (∀ f ∈ L, f.safe.size + f.tail.size ≤ 1048576) := fun f hf => by
      have := (hall f hf).2
      unfold fits at this
      exact of_decide_eq_true this
    obtain ⟨m, hm⟩ := Int.eq_ofNat_of_zero_le (show 0 ≤ keep by omega)
    subst hm
    rw [Int.toNat_natCast] at HQ
    clear HS hg h0 hall
    have h0 : ¬ (m : Int) < 0 := by omega
    go_wp2_with fail
    (with_reducible refine CG.out.mono ?_)
    clear CG c0 c1
    rintro _ V2 ⟨rfl, b2⟩
    have A2 := A0.below b2 A0.lt
    have A3 := A1.below b2 A1.lt
    have b3 := b0.trans (b2.mono b0.size)
    clear A0 A1 b0 b2
    have hlq := A3.lt
    have bb : Below V2.heap.size V2 ((V2.alloc (.cells dkZero 24)).setRow V2.heap.size (dkArr [] none 0 (-1))) := below_setRow ((Below.refl _ _).alloc (Nat.le_refl _) _) (Nat.le_refl _) _
    have AX : Arr ((V2.alloc (.cells dkZero 24)).setRow V2.heap.size (dkArr [] none 0 (-1))) V2.heap.size 24 (dkArr [] none 0 (-1)) := (Arr.new _ _ _).row _
    go_upto_region 4 with (refine wpList_store_row rfl 24 _ _ rfl V2.heap.size (dkArr [] none 0 (-1)) rfl rfl 24 dkZero (Arr.new V2 _ _) (dkInfo _ _ _ _) rfl (dkArr_one _ _ _ _) ?_)
    refine wp_forget (RcRel L m A c z w V2.heap.size (.int .i64 0)) (by exact ⟨0, .slice none 0 0, Nat.zero_le _, rfl, A2.below bb A2.lt, A3.below bb A3.lt, AX, by simp only [List.take_zero, List.map_nil, flCells]; exact own_nil _ _ _ _, b3.trans (bb.mono b3.size)⟩) ?_
    clear AX bb A2 A3 b3
    generalize V2.heap.size = q at *
    intro V3 hR0
    have c0 : V3.cell? ⟨w.heap.size, 0, none⟩ = some (.slice A L.length c) := by
      obtain ⟨_, _, _, _, h, _⟩ := hR0
      exact h.cell 0
    have HR0 := Lib.hid hR0
    clear hR0
    go_wp2_with fail
    go_loopw [22] (fun i wr => RcRel L m A c z w q i wr) (fun i _ => L.length - (intOf i).toNat)
    case atStart => exact HR0.out
    case round =>
      clear HR0 c0
      obtain ⟨k, v, hk, rfl, A4, A5, G, own, bel⟩ := hrel
      by_cases hlt : k < L.length
      · have hj : (k : Int) < L.length := by omega
        have hx : L[k]? = some L[k] := List.getElem?_eq_getElem hlt
        obtain ⟨ad, rfl, hbl, h0', h1, h2⟩ := hP k L[k] hx
        have g0 := (bel.cell hbl).trans h0'
        have g1 := (bel.cell (p := ⟨(ad.add (k * 3)).block, (ad.add (k * 3)).off + 1, none⟩) hbl).trans h1
        have g2 := (bel.cell (p := ⟨(ad.add (k * 3)).block, (ad.add (k * 3)).off + 2, none⟩) hbl).trans h2
        have hs := HAll.out L[k] (List.getElem_mem hlt)
        have HT : Hid ((L.take (k + 1)).map (crashF m) = (L.take k).map (crashF m) ++ [crashF m L[k]]) := by show _ = _; rw [List.take_succ_eq_append_getElem hlt, List.map_append]; rfl
        have hTl : ((L.take k).map (crashF m)).length ≤ 400 := by rw [List.length_map, List.length_take]; omega
        clear h0' h1 h2 hx
        generalize (L.take k).map (crashF m) = T at *
        generalize L[k] = x at *
        have bb : Below wr.heap.size wr ((wr.alloc (.cells flZero 50)).setRow wr.heap.size (flArr x)) := below_setRow ((Below.refl _ _).alloc (Nat.le_refl _) _) (Nat.le_refl _) _
        have AX : Arr ((wr.alloc (.cells flZero 50)).setRow wr.heap.size (flArr x)) wr.heap.size 50 (flArr x) := (Arr.new _ _ _).row _
        go_upto_region 7 with (refine wpList_store_row rfl 50 _ _ rfl wr.heap.size (flArr x) rfl rfl 50 flZero (Arr.new wr _ _) (flInfo _) rfl (flArr_one _) ?_)
        refine wp_forget (fun W => Arr W w.heap.size 24 (dkArr L (some ad) c z) ∧ Arr W (w.heap.size + 1) 24 dkZero ∧ Arr W q 24 #[v, .int .i64 (-1)] ∧ Arr W wr.heap.size 50 (flArr x) ∧ W.ownsRow (q + 1) 50 3 v T.length (flCells T) ∧ Below w.heap.size w W) (by exact ⟨A4.below bb A4.lt, A5.below bb A5.lt, G.below bb G.lt, AX, own_below own bb, bel.trans (bb.mono bel.size)⟩) ?_
        clear bb AX A4 A5 G bel g0 g1 g2 own
        generalize wr.heap.size = p at *
        rintro W ⟨A4, A5, G, AX, own, bel⟩
        have e0 : W.cell? ⟨p, 0, none⟩ = some (.string x.name) := AX.cell 0
        have e1 : W.cell? ⟨p, 1, none⟩ = some (.string x.safe) := AX.cell 1
        have e2 : W.cell? ⟨p, 2, none⟩ = some (.string x.tail) := AX.cell 2
        have e3 : W.cell? ⟨q, 0, none⟩ = some v := G.cell 0
        have hql := G.lt
        obtain ⟨t, ht⟩ : ∃ t, t = x.tail.extract 0 (min m x.tail.size) := ⟨_, rfl⟩
        have hcf : crashF m x = ⟨x.name, x.safe ++ t, ⟨#[]⟩⟩ := by rw [ht]; rfl
        rw [hcf] at HT
        have hts : t.size ≤ 1048576 := by rw [ht, ByteArray.size_extract]; omega
        have bq : Below W.heap.size W (W.alloc (.cells (flArr ⟨x.name, x.safe ++ t, ⟨#[]⟩⟩) 50)) := (Below.refl _ _).alloc (Nat.le_refl _) _
        have HNw : Hid (News (W.alloc (.cells (flArr ⟨x.name, x.safe ++ t, ⟨#[]⟩⟩) 50)) (some ⟨W.heap.size, 0, none⟩) 1 (flArr ⟨x.name, x.safe ++ t, ⟨#[]⟩⟩).toList) := x_news (Arr.new _ _ _)
        have HOw := Lib.hid (own_below own bq)
        have HFin : Hid (∀ v' w', w'.ownsRow (q + 1) 50 3 v' (T.length + 1) (flCells T ++ (flArr ⟨x.name, x.safe ++ t, ⟨#[]⟩⟩).toList) → (W.alloc (.cells (flArr ⟨x.name, x.safe ++ t, ⟨#[]⟩⟩) 50)).grownBy w' v.ownBlock → RcRel L m (some ad) c z w q (.int .i64 ((k : Int) + 1)) (w'.setCell ⟨q, 0, none⟩ v') ∧ w'.cell? ⟨q, 0, none⟩ = some v ∧ w'.frozen? ⟨q, 0, none⟩ = false) := fun v' w' h1 h2 => by
          have hne : ∀ g, g ≤ q → ¬ some g = v.ownBlock := fun g hg e => by have := own_row_ge own _ e.symm; omega
          have G1 := (G.below bq G.lt).kept h2 (hne _ (Nat.le_refl _))
          have k2 : w'.grownBy (w'.setCell ⟨q, 0, none⟩ v') (some q) := gb_set _ _ _
          have b1 := (bel.trans (bq.mono bel.size)).trans ((Below.refl w.heap.size (W.alloc (.cells (flArr ⟨x.name, x.safe ++ t, ⟨#[]⟩⟩) 50))).grown h2 (Nat.le_trans bel.size bq.size) (fun g hg => by have := own_row_ge own g hg; omega))
          refine ⟨⟨k + 1, v', hlt, by rw [Int.natCast_add]; rfl, ((A4.below bq A4.lt).kept h2 (hne _ (by omega))).kept k2 (fun e => by have := Option.some.inj e; omega), ((A5.below bq A5.lt).kept h2 (hne _ (by omega))).kept k2 (fun e => by have := Option.some.inj e; omega), G1.put 0 v', ?_, below_gb b1 k2 (by omega) b1.size⟩, G1.cell 0, G1.free 0⟩
          rw [HT.out, List.length_append, flCells_app]
          simp only [flCells, List.append_nil, List.length_singleton]
          exact own_kp h1 (Kp.gb k2) (fun g hg e => by have := own_row_ge h1 g hg; have := Option.some.inj e; omega)
        have hbq : q + 1 ≤ (W.alloc (.cells (flArr ⟨x.name, x.safe ++ t, ⟨#[]⟩⟩) 50)).heap.size := by have := bq.size; omega
        clear A4 A5 AX bel G HT hcf
        by_cases hmt : m < x.tail.size
        · have i1 : (m : Int) < x.tail.size := by omega
          rw [Nat.min_eq_left (by omega)] at ht
          subst ht
          go_wp2_with (at_builtin; refine wpList_app _ rfl _ _ 22 rfl (q + 1) 50 si _ 3 48 Try.underlying22 Hsi.out Sz0.out Sz1.out Sz2.out rfl (by decide) _ _ _ rfl HOw.out (some ⟨W.heap.size, 0, none⟩) 1 1 (flArr ⟨x.name, x.safe ++ x.tail.extract 0 m, ⟨#[]⟩⟩).toList rfl rfl HNw.out (flArr_ones _) (by unfold maxLen; omega) (by omega) hbq ?_)
          intro v' w' h1 h2
          obtain ⟨A9, c9, rfl⟩ := own_slice h1
          obtain ⟨hrel', y0, y1⟩ := HFin.out _ w' h1 h2
          have HR' := Lib.hid hrel'
          clear hrel' HFin HOw HNw own
          go_wp2_with fail
          go_roundw
          case rel => exact HR'.out
          case measure => simp [intOf]; omega
        · have i1 : ¬ (m : Int) < x.tail.size := by omega
          rw [Nat.min_eq_right (by omega)] at ht
          have ht2 : t = x.tail := by
            rw [ht]
            apply bytes_eq
            rw [extract_drop, List.drop_zero, Nat.sub_zero]
            exact List.take_length
          subst ht2
          clear ht
          go_wp2_with (at_builtin; refine wpList_app _ rfl _ _ 22 rfl (q + 1) 50 si _ 3 48 Try.underlying22 Hsi.out Sz0.out Sz1.out Sz2.out rfl (by decide) _ _ _ rfl HOw.out (some ⟨W.heap.size, 0, none⟩) 1 1 (flArr ⟨x.name, x.safe ++ x.tail, ⟨#[]⟩⟩).toList rfl rfl HNw.out (flArr_ones _) (by unfold maxLen; omega) (by omega) hbq ?_)
          intro v' w' h1 h2
          obtain ⟨A9, c9, rfl⟩ := own_slice h1
          obtain ⟨hrel', y0, y1⟩ := HFin.out _ w' h1 h2
          have HR' := Lib.hid hrel'
          clear hrel' HFin HOw HNw own
          go_wp2_with fail
          go_roundw
          case rel => exact HR'.out
          case measure => simp [intOf]; omega
      · obtain rfl : k = L.length := by omega
        have hj : ¬ (L.length : Int) < L.length := by omega
        rw [List.take_length] at own
        obtain ⟨A9, c9, rfl, hc9, hF9⟩ := own_files own
        have e0 : wr.cell? ⟨q, 0, none⟩ = some (.slice A9 (L.map (crashF m)).length c9) := G.cell 0
        have e1 : wr.cell? ⟨q, 1, none⟩ = some (.int .i64 (-1)) := G.cell 1
        have hFr := hF9.row A5 (dkArr (L.map (crashF m)) A9 c9 (-1))
        have br := below_setRow bel (show w.heap.size ≤ w.heap.size + 1 by omega) (dkArr (L.map (crashF m)) A9 c9 (-1))
        have Br := A5.row (dkArr (L.map (crashF m)) A9 c9 (-1))
        generalize L.map (crashF m) = Lm at *
        go_wp2_with (refine wpList_store_row rfl 24 _ _ rfl (w.heap.size + 1) (dkArr Lm A9 c9 (-1)) rfl rfl 24 dkZero A5 (dkInfo _ _ _ _) rfl (dkArr_one _ _ _ _) ?_)
        rw [HQ.out]
        exact HRet.out _ _ ⟨Lm, -1⟩ A9 c9 0 Br br hFr hc9 rfl rfl rfl
end Go.Proofs.Ytnijnphalhfabaa
