/- Texts in one: DkRefC, DkRefD, DkRefE, DkRefF, DkRefG, ORefSame. -/
import Derived.Test.YtmikfmcgddmplaaGreatDoorParts
import Derived.Test.YtmikfmcgddmplaaGreatDoorDkSave
import Derived.Test.YtmikfmcgddmplaaGreatDoorBw
/- ref.CopyDisk, ref.Crash: their contracts. -/
namespace Go.Proofs.YtmikfmcgddmplaaGreatDoor
open Go.RowKit

/-- a disk laid into its place -/
theorem laid_disk {w W : World} {q : Nat} {L : List Fl} {A : Option Addr} {c : Nat} (y : Int) (hF : Fls W W.heap.size A L) (hA : Arr W q 37 dkZero) (hb : Below w.heap.size w W) (hq : w.heap.size ≤ q) :
    Arr ((W.setCell ⟨q, 0, none⟩ (.slice A L.length c)).setCell ⟨q, 1, none⟩ (.int .i64 y)) q 37 (dkArr L A c y) ∧ Fls ((W.setCell ⟨q, 0, none⟩ (.slice A L.length c)).setCell ⟨q, 1, none⟩ (.int .i64 y)) ((W.setCell ⟨q, 0, none⟩ (.slice A L.length c)).setCell ⟨q, 1, none⟩ (.int .i64 y)).heap.size A L ∧ Below w.heap.size w ((W.setCell ⟨q, 0, none⟩ (.slice A L.length c)).setCell ⟨q, 1, none⟩ (.int .i64 y)) := by
  have k : W.grownBy ((W.setCell ⟨q, 0, none⟩ (.slice A L.length c)).setCell ⟨q, 1, none⟩ (.int .i64 y)) (some q) := gb_trans (gb_set _ _ _) (gb_set _ _ _)
  refine ⟨(hA.put 0 (.slice A L.length c)).put 1 (.int .i64 y), fun k' x hx => ?_, below_gb hb k hq hb.size⟩
  obtain ⟨ad, e, hbk, h0, h1, h2⟩ := hF k' x hx
  have hn : ¬ some (ad.add (k' * 3)).block = some q := fun e2 => by
    rw [Option.some.inj e2, hA.cell] at h1
    exact dkZero_no _ _ h1
  exact ⟨ad, e, Nat.lt_of_lt_of_le hbk k.size, k.cell h0 hn, k.cell h1 hn, k.cell h2 hn⟩
/-- behind CopyDisk -/
def CyEnd (w : World) (L : List Fl) (z : Int) (x : Ending) (w' : World) : Prop := ∃ A c, x = .returned (.agg (dkArr L A c z)) ∧ Fls w' w'.heap.size A L ∧ L.length ≤ c ∧ Below w.heap.size w w'
set_option maxRecDepth 100000 in
set_option maxHeartbeats 1000000 in
theorem CopyDisk_any (L : List Fl) (A : Option Addr) (c : Nat) (z : Int) (w : World) (hP : Fls w w.heap.size A L) (hl : L.length * 48 ≤ 140737488355328) :
    Calls Tryz.prog 14 #[.agg #[.slice A L.length c, .int .i64 z]] w (CyEnd w L z) := by
  obtain ⟨si, hsi, sz0, sz1, sz2⟩ := info_parts info_file
  have Hsi := Lib.hid hsi
  have Sz0 := Lib.hid sz0
  have Sz1 := Lib.hid sz1
  have Sz2 := Lib.hid sz2
  clear hsi sz0 sz1 sz2
  have A0 : Arr ((w.alloc (.cells (dkArr L A c z) 37)).alloc (.cells dkZero 37)) w.heap.size 37 (dkArr L A c z) := (Arr.new _ _ _).alloc _
  have A1 : Arr ((w.alloc (.cells (dkArr L A c z) 37)).alloc (.cells dkZero 37)) (w.heap.size + 1) 37 dkZero := Arr.new_at _ _ _ (by simp)
  have b0 : Below w.heap.size w ((w.alloc (.cells (dkArr L A c z) 37)).alloc (.cells dkZero 37)) := ((Below.refl _ _).alloc (Nat.le_refl _) _).alloc (by simp) _
  go_enter Tryz.func14, Tryz.ntmps14
  go_upto_region 1 with fail
  refine wp_forget (fun V => Arr V w.heap.size 37 (dkArr L A c z) ∧ Arr V (w.heap.size + 1) 37 dkZero ∧ Below w.heap.size w V) (by exact ⟨A0, A1, b0⟩) ?_
  clear A0 A1 b0
  rintro V ⟨A0, A1, b0⟩
  have c0 : V.drew.cell? ⟨w.heap.size, 0, none⟩ = some (.slice A L.length c) := A0.cell 0
  have c1 : V.drew.cell? ⟨w.heap.size, 1, none⟩ = some (.int .i64 z) := A0.cell 1
  have HN : Hid (News V.drew A L.length (flCells L)) := (hP.up b0.drew).news
  have hml : L.length ≤ 140737488355328 := by omega
  go_region_law (first
    | (refine step_app _ rfl _ _ 35 rfl V.heap.size 68 si _ 3 48 Tryz.underlying35 Hsi.out Sz0.out Sz1.out Sz2.out rfl (by decide) _ _ _ rfl (own_nil _ _ _ _) A L.length c (flCells L) rfl (flCells_len L) HN.out (flCells_one L) (by unfold maxLen; omega) (by omega) (Nat.le_refl _) ?_
       intro v1 w1 hown1 hg1
       rw [Nat.zero_add, List.nil_append] at hown1
       have k1 : Below V.heap.size V w1 := ((Below.refl _ V).drew).grown hg1 (Nat.le_refl _) (by intro k hk; cases hk)
       obtain ⟨A9, c9, rfl, hc9, hF9⟩ := own_files hown1
       have e1 : w1.cell? ⟨w.heap.size, 1, none⟩ = some (.int .i64 z) := (A0.below k1 A0.lt).cell 1
       have B1 := A1.below k1 A1.lt
       have x0 : w1.cell? ⟨w.heap.size + 1, 0, none⟩ = some (.slice none 0 0) := B1.cell 0
       have x1 := B1.free 0
       have B2 := B1.put 0 (.slice A9 L.length c9)
       have x2 : (w1.setCell ⟨w.heap.size + 1, 0, none⟩ (.slice A9 L.length c9)).cell? ⟨w.heap.size + 1, 1, none⟩ = some (.int .i64 0) := B2.cell 1
       have x3 := B2.free 1
       have HF := Lib.hid (laid_disk (c := c9) z hF9 B1 (b0.trans (k1.mono b0.size)) (by omega))))
  all_goals
    go_wp2_with fail
    obtain ⟨B3, F3, b3⟩ := HF.out
    refine bodyPost_ret (v := .agg (dkArr L A9 c9 z)) ?_ rfl ⟨A9, c9, rfl, F3, hc9, b3⟩
    exact results_cell_row Tryz.results14 _ _ (w.heap.size + 1) 37 _ (0, 0) _ rfl B3 Tryz.underlying37 rfl (dkInfo _ _ _ _)
theorem own_slice {w : World} {base : Nat} {v : Value} {n : Nat} {cs : List Value} (h : w.ownsRow base 68 3 v n cs) : ∃ A c, v = .slice A n c := by
  rcases h.2 with ⟨rfl, hn⟩ | ⟨g, cap, cur, rfl, hb, hg, hnc, hcm, hcs, htake⟩
  · exact ⟨none, 0, by rw [hn]⟩
  · exact ⟨some ⟨g, 0, none⟩, cap, rfl⟩
/-- where ref.Crash stands -/
def RcRel (L : List Fl) (m : Nat) (A : Option Addr) (c : Nat) (z : Int) (w : World) (q : Nat) (i : Value) (wr : World) : Prop :=
  ∃ (k : Nat) (v : Value), k ≤ L.length ∧ i = .int .i64 (k : Int) ∧ Arr wr w.heap.size 37 (dkArr L A c z) ∧ Arr wr (w.heap.size + 1) 37 dkZero ∧ Arr wr q 37 #[v, .int .i64 (-1)] ∧
    wr.ownsRow (q + 1) 68 3 v ((L.take k).map (crashF m)).length (flCells ((L.take k).map (crashF m))) ∧ Below w.heap.size w wr
end Go.Proofs.YtmikfmcgddmplaaGreatDoor

/- ref.put: its contract. -/
namespace Go.Proofs.YtmikfmcgddmplaaGreatDoor
open Go.RowKit

/-- a round of put: has the file been laid, and the files so far -/
def puS (f : Fl) (s : Bool × List Fl) (x : Fl) : Bool × List Fl := if x.name = f.name then s else if !s.1 && ltB f.name x.name then (true, s.2 ++ [f] ++ [x]) else (s.1, s.2 ++ [x])
def puE (f : Fl) (s : Bool × List Fl) : List Fl := if s.1 then s.2 else s.2 ++ [f]
theorem puS_done (f : Fl) : ∀ (L out : List Fl), (∀ x ∈ L, x.name ≠ f.name) → L.foldl (puS f) (true, out) = (true, out ++ L)
  | [], out, _ => by simp
  | x :: l, out, h => by
    have hx : x.name ≠ f.name := h x (by simp)
    have e : puS f (true, out) x = (true, out ++ [x]) := by unfold puS; rw [if_neg hx]; simp
    rw [List.foldl_cons, e, puS_done f l _ (fun y hy => h y (by simp [hy]))]
    simp
theorem putL_first (f : Fl) (L : List Fl) (h : ∀ x ∈ L, ltB f.name x.name = true) : putL f L = f :: L := by
  cases L with
  | nil => rfl
  | cons x l =>
    have hx := h x (by simp)
    unfold putL
    rw [ltB_asym hx, if_neg (by simp), if_neg (fun e => ltB_ne hx e.symm)]
theorem puE_fold (f : Fl) : ∀ (L out : List Fl) (b : ByteArray), ris b L → puE f (L.foldl (puS f) (false, out)) = out ++ putL f L
  | [], out, _, _ => rfl
  | x :: l, out, b, hr => by
    rw [List.foldl_cons]
    rcases ltB_tri x.name f.name with h | h | h
    · have e : puS f (false, out) x = (false, out ++ [x]) := by unfold puS; rw [if_neg (ltB_ne h), ltB_asym h]; simp
      have e2 : putL f (x :: l) = x :: putL f l := by rw [putL, if_pos h]
      rw [e, puE_fold f l _ x.name hr.2, e2]
      simp
    · have e : puS f (false, out) x = (false, out) := by unfold puS; rw [if_pos h]
      have hf : ∀ y ∈ l, ltB f.name y.name = true := fun y hy => by rw [← h]; exact ris_lt hr.2 y hy
      have e2 : putL f (x :: l) = f :: l := by rw [putL, h, ltB_irr, if_neg (by simp), if_pos rfl]
      rw [e, puE_fold f l _ x.name hr.2, putL_first f l hf, e2]
    · have e : puS f (false, out) x = (true, out ++ [f] ++ [x]) := by unfold puS; rw [if_neg (fun e => ltB_ne h e.symm), h]; simp
      have hf : ∀ y ∈ x :: l, ltB f.name y.name = true := fun y hy => by
        rcases List.mem_cons.1 hy with rfl | hy
        · exact h
        · exact ltB_trans h (ris_lt hr.2 y hy)
      rw [e, puS_done f l _ (fun y hy e => ltB_ne (hf y (by simp [hy])) e.symm), putL_first f _ hf]
      simp [puE]
theorem own_hi {w : World} {base : Nat} {e : TypeId} {size n : Nat} {v : Value} {xs : List Value} (h : w.ownsRow base e size v n xs) (k : Nat) (hk : v.ownBlock = some k) : k < w.heap.size := by
  rcases h.2 with ⟨rfl, _⟩ | ⟨g, cap, cur, rfl, hb, hg, _⟩
  · cases hk
  · cases hk; exact (Array.getElem?_eq_some_iff.1 hg).1
/-- where ref.put stands -/
def PuRel (L : List Fl) (f : Fl) (w : World) (v b i : Value) (wr : World) : Prop :=
  ∃ (k : Nat) (d : Bool) (T : List Fl) (v0 : Value), v0 = v ∧ k ≤ L.length ∧ i = .int .i64 (k : Int) ∧ b = .bool d ∧ (L.take k).foldl (puS f) (false, []) = (d, T) ∧ T.length ≤ 2 * k ∧ Arr wr w.heap.size 68 (flArr f) ∧
    wr.ownsRow (w.heap.size + 1) 68 3 v T.length (flCells T) ∧ Below w.heap.size w wr
theorem app_row {w' : World} {base : Nat} {v' : Value} {T : List Fl} {x : Fl} (h : w'.ownsRow base 68 3 v' (T.length + 1) (flCells T ++ (flArr x).toList)) :
    w'.ownsRow base 68 3 v' (T ++ [x]).length (flCells (T ++ [x])) := by
  rw [List.length_append, flCells_app]
  simp only [flCells, List.append_nil, List.length_singleton]
  exact h
/-- behind an append of a file: what stands -/
theorem app_stand {w W w' : World} {v v' : Value} {T : List Fl} {f x : Fl} {q : Nat} (hown : W.ownsRow (q + 1) 68 3 v T.length (flCells T)) (hA : Arr W q 68 (flArr f)) (hb : Below w.heap.size w W) (hq : w.heap.size ≤ q)
    (h : w'.ownsRow (q + 1) 68 3 v' (T.length + 1) (flCells T ++ (flArr x).toList)) (hg : (W.alloc (.cells (flArr x) 68)).grownBy w' v.ownBlock) :
    w'.ownsRow (q + 1) 68 3 v' (T ++ [x]).length (flCells (T ++ [x])) ∧ Arr w' q 68 (flArr f) ∧ Below w.heap.size w w' ∧
    ∀ (p : Nat) (y : Fl), Arr W p 68 (flArr y) → (∀ g, v.ownBlock = some g → g ≠ p) → Arr w' p 68 (flArr y) := by
  have bq : Below W.heap.size W (W.alloc (.cells (flArr x) 68)) := (Below.refl _ _).alloc (Nat.le_refl _) _
  have hne : ¬ some q = v.ownBlock := fun e => by have := own_row_ge hown _ e.symm; omega
  refine ⟨app_row h, (hA.below bq hA.lt).kept hg hne, ?_, fun p y hy hp => (hy.below bq hy.lt).kept hg (fun e => hp p e.symm rfl)⟩
  exact (hb.trans (bq.mono hb.size)).trans ((Below.refl w.heap.size (W.alloc (.cells (flArr x) 68))).grown hg (Nat.le_trans hb.size bq.size) (fun g hg => by have := own_row_ge hown g hg; omega))
set_option maxRecDepth 100000 in
set_option maxHeartbeats 2000000 in
theorem RefPut_any (L : List Fl) (f : Fl) (A : Option Addr) (c : Nat) (w : World) (hP : Fls w w.heap.size A L) (hl : L.length ≤ 400) (hr : ris ⟨#[]⟩ L) :
    Calls Tryz.prog 68 #[.slice A L.length c, .agg (flArr f)] w fun e w' => ∃ A' c', e = .returned (.slice A' (putL f L).length c') ∧ (putL f L).length ≤ c' ∧ Fls w' w'.heap.size A' (putL f L) ∧ Below w.heap.size w w' := by
  obtain ⟨si, hsi, sz0, sz1, sz2⟩ := info_parts info_file
  have Hsi := Lib.hid hsi
  have Sz0 := Lib.hid sz0
  have Sz1 := Lib.hid sz1
  have Sz2 := Lib.hid sz2
  clear hsi sz0 sz1 sz2
  have HE := Lib.hid (puE_fold f L [] _ hr)
  rw [List.nil_append] at HE
  clear hr
  generalize putL f L = M at *
  have A0 : Arr (w.alloc (.cells (flArr f) 68)) w.heap.size 68 (flArr f) := Arr.new _ _ _
  have b0 : Below w.heap.size w (w.alloc (.cells (flArr f) 68)) := (Below.refl _ _).alloc (Nat.le_refl _) _
  go_enter Tryz.func68, Tryz.ntmps68
  go_upto_region 1 with fail
  refine wp_forget (fun V => Arr V w.heap.size 68 (flArr f) ∧ Below w.heap.size w V) (by exact ⟨A0, b0⟩) ?_
  clear A0 b0
  rintro V ⟨A0, b0⟩
  go_wp2_with fail
  go_loopw [5, 6, 11] (fun v b i wr => PuRel L f w v b i wr) (fun _ _ i _ => L.length - (intOf i).toNat)
  case atStart => exact ⟨0, false, [], _, rfl, Nat.zero_le _, rfl, rfl, rfl, Nat.zero_le _, A0, own_nil _ _ _ _, b0⟩
  case round =>
    clear A0 b0
    obtain ⟨k, d, T, v, rfl, hk, rfl, rfl, hfold, hT, A1, own, bel⟩ := hrel
    by_cases hlt : k < L.length
    · have hj : (k : Int) < L.length := by omega
      have hx : L[k]? = some L[k] := List.getElem?_eq_getElem hlt
      obtain ⟨ad, rfl, hbl, h0', h1, h2⟩ := hP k L[k] hx
      have g0 := (bel.cell hbl).trans h0'
      have g1 := (bel.cell (p := ⟨(ad.add (k * 3)).block, (ad.add (k * 3)).off + 1, none⟩) hbl).trans h1
      have g2 := (bel.cell (p := ⟨(ad.add (k * 3)).block, (ad.add (k * 3)).off + 2, none⟩) hbl).trans h2
      have HT : Hid ((L.take (k + 1)).foldl (puS f) (false, []) = puS f (d, T) L[k]) := by show _ = _; rw [List.take_succ_eq_append_getElem hlt, List.foldl_append, hfold]; rfl
      clear h0' h1 h2 hx hfold
      generalize L[k] = x at *
      have HS : Hid (puS f (d, T) x = if x.name = f.name then (d, T) else if !d && ltB f.name x.name then (true, T ++ [f] ++ [x]) else (d, T ++ [x])) := rfl
      have hpl := A1.lt
      have hge := bel.size
      have hin : ∀ g, v.ownBlock = some g → g < wr.heap.size := own_hi own
      have HIn := Lib.hid hin
      clear hin
      have bb : Below wr.heap.size wr ((wr.alloc (.cells flZero 68)).setRow wr.heap.size (flArr x)) := below_setRow ((Below.refl _ _).alloc (Nat.le_refl _) _) (Nat.le_refl _) _
      have AX : Arr ((wr.alloc (.cells flZero 68)).setRow wr.heap.size (flArr x)) wr.heap.size 68 (flArr x) := (Arr.new _ _ _).row _
      go_upto_region 6 with (refine wpList_store_row rfl 68 _ _ rfl wr.heap.size (flArr x) rfl rfl 68 flZero (Arr.new wr _ _) (flInfo _) rfl (flArr_one _) ?_)
      refine wp_forget (fun W => Arr W w.heap.size 68 (flArr f) ∧ Arr W wr.heap.size 68 (flArr x) ∧ W.ownsRow (w.heap.size + 1) 68 3 v T.length (flCells T) ∧ Below w.heap.size w W) (by exact ⟨A1.below bb A1.lt, AX, dk_own_below own bb, bel.trans (bb.mono bel.size)⟩) ?_
      clear bb AX A1 bel g0 g1 g2 own
      generalize wr.heap.size = p at *
      rintro W ⟨A1, AX, own, bel⟩
      have e0 : W.cell? ⟨p, 0, none⟩ = some (.string x.name) := AX.cell 0
      have e1 : W.cell? ⟨p, 1, none⟩ = some (.string x.safe) := AX.cell 1
      have e2 : W.cell? ⟨p, 2, none⟩ = some (.string x.tail) := AX.cell 2
      have f0 : W.cell? ⟨w.heap.size, 0, none⟩ = some (.string f.name) := A1.cell 0
      have f1 : W.cell? ⟨w.heap.size, 1, none⟩ = some (.string f.safe) := A1.cell 1
      have f2 : W.cell? ⟨w.heap.size, 2, none⟩ = some (.string f.tail) := A1.cell 2
      cases hq : x.name.toList == f.name.toList with
      | true =>
        have hnm : x.name = f.name := (sameB_iff _ _).1 hq
        have HR' : Hid (PuRel L f w v (.bool d) (.int .i64 ((k : Int) + 1)) W) := ⟨k + 1, d, T, v, rfl, hlt, by rw [Int.natCast_add]; rfl, rfl, by rw [HT.out, HS.out, if_pos hnm], by omega, A1, own, bel⟩
        clear HT HS hnm own A1 AX bel
        go_wp2_with fail
        go_roundw
        case rel => exact HR'.out
        case measure => simp [intOf]; omega
      | false =>
        have hne : x.name ≠ f.name := fun e => by rw [e] at hq; simp at hq
        have HApp : Hid (∀ (W : World) (v : Value) (T : List Fl) (x : Fl), W.ownsRow (w.heap.size + 1) 68 3 v T.length (flCells T) → w.heap.size < W.heap.size → (W.alloc (.cells (flArr x) 68)).ownsRow (w.heap.size + 1) 68 3 v T.length (flCells T) ∧ News (W.alloc (.cells (flArr x) 68)) (some ⟨W.heap.size, 0, none⟩) 1 (flArr x).toList ∧ w.heap.size + 1 ≤ (W.alloc (.cells (flArr x) 68)).heap.size) := fun W v T x h hlt => by
          have bq : Below W.heap.size W (W.alloc (.cells (flArr x) 68)) := (Below.refl _ _).alloc (Nat.le_refl _) _
          exact ⟨dk_own_below h bq, x_news (Arr.new _ _ _), by have := bq.size; omega⟩
        cases d with
        | true =>
          obtain ⟨o9, n9, hbq⟩ := HApp.out W v T x own A1.lt
          have HOw := Lib.hid o9
          have HNw := Lib.hid n9
          clear o9 n9
          go_wp2_with (at_builtin; refine wpList_app _ rfl _ _ 35 rfl (w.heap.size + 1) 68 si _ 3 48 Tryz.underlying35 Hsi.out Sz0.out Sz1.out Sz2.out rfl (by decide) _ _ _ rfl HOw.out (some ⟨W.heap.size, 0, none⟩) 1 1 (flArr x).toList rfl rfl HNw.out (flArr_ones _) (by unfold maxLen; omega) (by omega) hbq ?_)
          intro v2 w2 h1 h2
          obtain ⟨own2, A2, bel2, _⟩ := app_stand own A1 bel (Nat.le_refl _) h1 h2
          have HR' : Hid (PuRel L f w v2 (.bool true) (.int .i64 ((k : Int) + 1)) w2) := ⟨k + 1, true, T ++ [x], v2, rfl, hlt, by rw [Int.natCast_add]; rfl, rfl, by rw [HT.out, HS.out, if_neg hne]; rfl, by simp only [List.length_append, List.length_singleton]; omega, A2, own2, bel2⟩
          clear HT HS own2 A2 bel2 h1 h2 HOw HNw hbq
          go_wp2_with fail
          go_roundw
          case rel => exact HR'.out
          case measure => simp [intOf]; omega
        | false =>
          cases hgt : Op.bytesLess f.name.toList x.name.toList with
          | false =>
            have hgt2 : ltB f.name x.name = false := hgt
            have hgt3 : Op.bytesLess x.name.toList f.name.toList = true := by
              rcases ltB_tri x.name f.name with h | h | h
              · exact h
              · exact (hne h).elim
              · rw [hgt2] at h; cases h
            obtain ⟨o9, n9, hbq⟩ := HApp.out W v T x own A1.lt
            have HOw := Lib.hid o9
            have HNw := Lib.hid n9
            clear o9 n9
            go_wp2_with (at_builtin; refine wpList_app _ rfl _ _ 35 rfl (w.heap.size + 1) 68 si _ 3 48 Tryz.underlying35 Hsi.out Sz0.out Sz1.out Sz2.out rfl (by decide) _ _ _ rfl HOw.out (some ⟨W.heap.size, 0, none⟩) 1 1 (flArr x).toList rfl rfl HNw.out (flArr_ones _) (by unfold maxLen; omega) (by omega) hbq ?_)
            intro v2 w2 h1 h2
            obtain ⟨own2, A2, bel2, _⟩ := app_stand own A1 bel (Nat.le_refl _) h1 h2
            have HR' : Hid (PuRel L f w v2 (.bool false) (.int .i64 ((k : Int) + 1)) w2) := ⟨k + 1, false, T ++ [x], v2, rfl, hlt, by rw [Int.natCast_add]; rfl, rfl, by rw [HT.out, HS.out, if_neg hne, hgt2]; rfl, by simp only [List.length_append, List.length_singleton]; omega, A2, own2, bel2⟩
            clear HT HS own2 A2 bel2 h1 h2 HOw HNw hbq
            go_wp2_with fail
            go_roundw
            case rel => exact HR'.out
            case measure => simp [intOf]; omega
          | true =>
            have hgt2 : ltB f.name x.name = true := hgt
            have hgt3 : Op.bytesLess x.name.toList f.name.toList = false := ltB_asym hgt2
            obtain ⟨o9, n9, hbq⟩ := HApp.out W v T f own A1.lt
            have HOw := Lib.hid o9
            have HNw := Lib.hid n9
            clear o9 n9
            go_wp2_with (at_builtin; refine wpList_app _ rfl _ _ 35 rfl (w.heap.size + 1) 68 si _ 3 48 Tryz.underlying35 Hsi.out Sz0.out Sz1.out Sz2.out rfl (by decide) _ _ _ rfl HOw.out (some ⟨W.heap.size, 0, none⟩) 1 1 (flArr f).toList rfl rfl HNw.out (flArr_ones _) (by unfold maxLen; omega) (by omega) hbq ?_)
            intro v1 w1 h1 h2
            obtain ⟨own1, A3, bel1, hX⟩ := app_stand own A1 bel (Nat.le_refl _) h1 h2
            have AX1 := hX p x AX (fun g hg => by have := HIn.out g hg; omega)
            clear HOw HNw hbq h1 h2 hX own A1 bel AX e0 e1 e2 f0 f1 f2
            have hT1 : (T ++ [f]).length ≤ 2 * k + 1 := by simp only [List.length_append, List.length_singleton]; omega
            obtain ⟨T1, hT1e⟩ : ∃ T1, T1 = T ++ [f] := ⟨_, rfl⟩
            rw [← hT1e] at own1 hT1
            have HT1 := Lib.hid hT1e
            clear hT1e
            obtain ⟨A9, c9, rfl⟩ := own_slice own1
            have e0 : w1.cell? ⟨p, 0, none⟩ = some (.string x.name) := AX1.cell 0
            have e1 : w1.cell? ⟨p, 1, none⟩ = some (.string x.safe) := AX1.cell 1
            have e2 : w1.cell? ⟨p, 2, none⟩ = some (.string x.tail) := AX1.cell 2
            obtain ⟨o9, n9, hbq⟩ := HApp.out w1 _ T1 x own1 A3.lt
            have HOw := Lib.hid o9
            have HNw := Lib.hid n9
            clear o9 n9
            go_wp2_with (at_builtin; refine wpList_app _ rfl _ _ 35 rfl (w.heap.size + 1) 68 si _ 3 48 Tryz.underlying35 Hsi.out Sz0.out Sz1.out Sz2.out rfl (by decide) _ _ _ rfl HOw.out (some ⟨w1.heap.size, 0, none⟩) 1 1 (flArr x).toList rfl rfl HNw.out (flArr_ones _) (by unfold maxLen; omega) (by omega) hbq ?_)
            intro v2 w2 h1 h2
            obtain ⟨own2, A2, bel2, _⟩ := app_stand own1 A3 bel1 (Nat.le_refl _) h1 h2
            have HR' : Hid (PuRel L f w v2 (.bool true) (.int .i64 ((k : Int) + 1)) w2) := ⟨k + 1, true, T1 ++ [x], v2, rfl, hlt, by rw [Int.natCast_add]; rfl, rfl, by rw [HT.out, HS.out, if_neg hne, hgt2, HT1.out]; rfl, by simp only [List.length_append, List.length_singleton]; omega, A2, own2, bel2⟩
            clear HT HS own2 A2 bel2 h1 h2 HOw HNw hbq
            go_wp2_with fail
            go_roundw
            case rel => exact HR'.out
            case measure => simp [intOf]; omega
    · obtain rfl : k = L.length := by omega
      have hj : ¬ (L.length : Int) < L.length := by omega
      rw [List.take_length] at hfold
      rw [hfold] at HE
      cases d with
      | true =>
        obtain rfl : T = M := HE.out
        obtain ⟨A9, c9, rfl, hc9, hF9⟩ := own_files own
        clear HE
        go_wp2_with fail
        go_ret
        exact ⟨A9, c9, rfl, hc9, hF9, bel⟩
      | false =>
        have hM : T ++ [f] = M := HE.out
        have f0 : wr.cell? ⟨w.heap.size, 0, none⟩ = some (.string f.name) := A1.cell 0
        have f1 : wr.cell? ⟨w.heap.size, 1, none⟩ = some (.string f.safe) := A1.cell 1
        have f2 : wr.cell? ⟨w.heap.size, 2, none⟩ = some (.string f.tail) := A1.cell 2
        have bq : Below wr.heap.size wr (wr.alloc (.cells (flArr f) 68)) := (Below.refl _ _).alloc (Nat.le_refl _) _
        have HOw := Lib.hid (dk_own_below own bq)
        have HNw : Hid (News (wr.alloc (.cells (flArr f) 68)) (some ⟨wr.heap.size, 0, none⟩) 1 (flArr f).toList) := x_news (Arr.new _ _ _)
        have hbq : w.heap.size + 1 ≤ (wr.alloc (.cells (flArr f) 68)).heap.size := by have := bq.size; have := A1.lt; omega
        go_wp2_with (at_builtin; refine wpList_app _ rfl _ _ 35 rfl (w.heap.size + 1) 68 si _ 3 48 Tryz.underlying35 Hsi.out Sz0.out Sz1.out Sz2.out rfl (by decide) _ _ _ rfl HOw.out (some ⟨wr.heap.size, 0, none⟩) 1 1 (flArr f).toList rfl rfl HNw.out (flArr_ones _) (by unfold maxLen; omega) (by omega) hbq ?_)
        intro v1 w1 h1 h2
        obtain ⟨own1, A3, bel1, _⟩ := app_stand own A1 bel (Nat.le_refl _) h1 h2
        rw [hM] at own1
        clear HOw HNw hbq h1 h2 own A1 bel HE
        obtain ⟨A9, c9, rfl, hc9, hF9⟩ := own_files own1
        go_wp2_with fail
        go_ret
        exact ⟨A9, c9, rfl, hc9, hF9, bel1⟩
end Go.Proofs.YtmikfmcgddmplaaGreatDoor

/- ref.Do 1 (Sync): its contract. -/
namespace Go.Proofs.YtmikfmcgddmplaaGreatDoor
open Go.RowKit

theorem dkArr_not (L : List Fl) (A : Option Addr) (c : Nat) (z : Int) (i : Nat) (s : ByteArray) : (dkArr L A c z)[i]? ≠ some (.string s) := by
  intro h
  match i, h with
  | 0, h => simp [dkArr] at h
  | 1, h => simp [dkArr] at h
  | i + 2, h => simp [dkArr] at h
theorem at_cases {L : List Fl} {b : ByteArray} (hr : ris b L) (n : ByteArray) : (getF n L = none ∧ atP n L = -1) ∨ ∃ (k : Nat) (f : Fl), getF n L = some f ∧ L[k]? = some f ∧ atP n L = (k : Int) := by
  cases hg : getF n L with
  | none =>
    refine .inl ⟨rfl, at_no fun k f hk e => ?_⟩
    unfold getF at hg
    exact absurd (decide_eq_true e) (List.find?_eq_none.1 hg f (List.mem_of_getElem? hk))
  | some f =>
    obtain ⟨h1, h2⟩ := getF_name hg
    obtain ⟨k, hk, rfl⟩ := List.getElem_of_mem h2
    exact .inr ⟨k, _, rfl, List.getElem?_eq_getElem hk, at_yes hr (List.getElem?_eq_getElem hk) h1⟩
/-- a number laid into a disk's place -/
theorem fls_cell {W : World} {q i : Nat} {u : Value} {L M : List Fl} {A B : Option Addr} {c : Nat} {z : Int} (hF : Fls W W.heap.size A L) (hA : Arr W q 37 (dkArr M B c z)) : Fls (W.setCell ⟨q, i, none⟩ u) (W.setCell ⟨q, i, none⟩ u).heap.size A L := fun k' x hx => by
  have kk : W.grownBy (W.setCell ⟨q, i, none⟩ u) (some q) := gb_set _ _ _
  obtain ⟨ad, e, hbk, h0, h1, h2⟩ := hF k' x hx
  have hn : ¬ some (ad.add (k' * 3)).block = some q := fun e2 => by
    rw [Option.some.inj e2, hA.cell] at h1
    exact dkArr_not _ _ _ _ _ _ h1
  exact ⟨ad, e, Nat.lt_of_lt_of_le hbk kk.size, kk.cell h0 hn, kk.cell h1 hn, kk.cell h2 hn⟩
/-- what a step comes to whose disk is good and has power -/
def okP (d : Dk) (r : Except Int (List Fl)) : Dk × Int := match r with
  | .error e => (d, e)
  | .ok L => (⟨L, burnt d.fuse⟩, 0)
set_option maxRecDepth 100000 in
set_option maxHeartbeats 2000000 in
theorem RefDo_sync (L : List Fl) (n s : ByteArray) (A : Option Addr) (c : Nat) (z : Int) (hz1 : -9223372036854775808 ≤ z) (hz2 : z ≤ 9223372036854775807) (w : World) (hP : Fls w w.heap.size A L) (hz : Sized L) (hl : L.length * 48 ≤ 140737488355328) (hc : L.length ≤ c) :
    Calls Tryz.prog 37 #[.int .i64 1, .agg (dkArr L A c z), .string n, .string s] w (StEnd w (stepP ⟨L, z⟩ (syP L n))) := by
  have hl1 : L.length ≤ 140737488355328 := by omega
  have A0 : Arr ((w.alloc (.cells (dkArr L A c z) 37)).alloc (.cells dkZero 37)) w.heap.size 37 (dkArr L A c z) := (Arr.new _ _ _).alloc _
  have A1 : Arr ((w.alloc (.cells (dkArr L A c z) 37)).alloc (.cells dkZero 37)) (w.heap.size + 1) 37 dkZero := Arr.new_at _ _ _ (by simp)
  have b0 : Below w.heap.size w ((w.alloc (.cells (dkArr L A c z) 37)).alloc (.cells dkZero 37)) := ((Below.refl _ _).alloc (Nat.le_refl _) _).alloc (by simp) _
  have HS : Hid (stepP ⟨L, z⟩ (syP L n) = if !goodD L then (⟨L, z⟩, 3) else if z = 0 then (⟨L, z⟩, 12) else okP ⟨L, z⟩ (syP L n)) := rfl
  have HY : Hid (syP L n = match getF n L with | none => .error 7 | some f => .ok (putL ⟨n, f.safe ++ f.tail, ⟨#[]⟩⟩ L)) := rfl
  generalize syP L n = Y at *
  generalize stepP ⟨L, z⟩ Y = Q at *
  go_enter Tryz.func37, Tryz.ntmps37
  go_upto_region 1 with fail
  refine wp_forget (fun V => Arr V w.heap.size 37 (dkArr L A c z) ∧ Arr V (w.heap.size + 1) 37 dkZero ∧ Below w.heap.size w V) (by exact ⟨A0, A1, b0⟩) ?_
  clear A0 A1 b0
  rintro V ⟨A0, A1, b0⟩
  have c0 : V.cell? ⟨w.heap.size, 0, none⟩ = some (.slice A L.length c) := A0.cell 0
  have c1 : V.cell? ⟨w.heap.size, 1, none⟩ = some (.int .i64 z) := A0.cell 1
  have CG : Hid (Calls Tryz.prog 65 #[.agg #[.slice A L.length c, .int .i64 z]] V fun e w' => e = .returned (.bool (goodD L)) ∧ Below V.heap.size V w') := GoodDisk_any L A c z V (hP.up b0) hz hl1
  have HRet : Hid (∀ (W : World) (a : Act) (d : Dk) (A' : Option Addr) (c' : Nat) (e : Int), Arr W (w.heap.size + 1) 37 (dkArr d.files A' c' d.fuse) → Below w.heap.size w W → Fls W W.heap.size A' d.files → d.files.length ≤ c' → a.tmps[8]? = some (.pointer (some ⟨w.heap.size + 1, 0, none⟩)) → a.tmps[9]? = some (.int .i64 e) → a.defers = [] → bodyPost Tryz.prog Tryz.f37 (StEnd w (d, e)) .ret a W) := fun W a d A' c' e h1 h2 h3 h4 h5 h6 h7 => by
    refine bodyPost_ret (v := .tuple #[.agg (dkArr d.files A' c' d.fuse), .int .i64 e]) ?_ h7 ⟨A', c', rfl, h3, h4, h2⟩
    rw [results_cell_tmp Tryz.results37]
    have hld := run_loadVar_row (P := Tryz.prog) _ _ _ 37 _ _ _ h1 Tryz.underlying37 rfl (dkInfo _ _ _ _)
    simp [Array.getD_eq_getD_getElem?, h5, h6, asAddr, hld, Result.andThen]
  have HBad : Hid (∀ (W : World) (a : Act) (e : Int), Q = (⟨L, z⟩, e) → Arr W (w.heap.size + 1) 37 dkZero → Below w.heap.size w W → a.tmps[8]? = some (.pointer (some ⟨w.heap.size + 1, 0, none⟩)) → a.tmps[9]? = some (.int .i64 e) → a.defers = [] → bodyPost Tryz.prog Tryz.f37 (StEnd w Q) .ret a (W.setRow (w.heap.size + 1) (dkArr L A c z))) := fun W a e hQ h1 h2 h3 h4 h5 => by
    rw [hQ]
    have b4 := below_setRow h2 (show w.heap.size ≤ w.heap.size + 1 by omega) (dkArr L A c z)
    exact HRet.out _ _ ⟨L, z⟩ A c e (h1.row _) b4 (hP.up b4) hc h3 h4 h5
  cases hg : goodD L with
  | false =>
    rw [hg] at CG
    have HQ : Hid (Q = (⟨L, z⟩, 3)) := by show _ = _; rw [HS.out, hg]; rfl
    clear HS hg
    go_wp2_with fail
    (with_reducible refine CG.out.mono ?_)
    clear CG c0 c1
    rintro _ V2 ⟨rfl, b2⟩
    have A2 := A0.below b2 A0.lt
    have A3 := A1.below b2 A1.lt
    have b3 := b0.trans (b2.mono b0.size)
    have c0 : V2.cell? ⟨w.heap.size, 0, none⟩ = some (.slice A L.length c) := A2.cell 0
    have c1 : V2.cell? ⟨w.heap.size, 1, none⟩ = some (.int .i64 z) := A2.cell 1
    go_wp2_with (refine wpList_store_row rfl 37 _ _ rfl (w.heap.size + 1) (dkArr L A c z) rfl rfl 37 dkZero A3 (dkInfo _ _ _ _) rfl (dkArr_one _ _ _ _) ?_)
    exact HBad.out _ _ 3 HQ.out A3 b3 rfl rfl rfl
  | true =>
    rw [hg] at CG
    obtain ⟨h4, hris, hall⟩ := (goodD_iff L).1 hg
    go_wp2_with fail
    (with_reducible refine CG.out.mono ?_)
    clear CG c0 c1
    rintro _ V2 ⟨rfl, b2⟩
    have A2 := A0.below b2 A0.lt
    have A3 := A1.below b2 A1.lt
    have b3 := b0.trans (b2.mono b0.size)
    clear A0 A1 b0 b2
    have c0 : V2.cell? ⟨w.heap.size, 0, none⟩ = some (.slice A L.length c) := A2.cell 0
    have c1 : V2.cell? ⟨w.heap.size, 1, none⟩ = some (.int .i64 z) := A2.cell 1
    cases hz0 : z == 0
    case true =>
      have HQ : Hid (Q = (⟨L, z⟩, 12)) := by show _ = _; rw [HS.out, hg, if_pos (eq_of_beq hz0)]; rfl
      clear HS hg
      go_wp2_with (refine wpList_store_row rfl 37 _ _ rfl (w.heap.size + 1) (dkArr L A c z) rfl rfl 37 dkZero A3 (dkInfo _ _ _ _) rfl (dkArr_one _ _ _ _) ?_)
      exact HBad.out _ _ 12 HQ.out A3 b3 rfl rfl rfl
    have HQ : Hid (Q = okP ⟨L, z⟩ Y) := by show _ = _; rw [HS.out, if_neg (by rw [hg]; decide), if_neg (fun e => by rw [e] at hz0; cases hz0)]
    clear HS hg
    have C1 := Lib.hid (CopyDisk_any L A c z V2 (hP.up b3) hl)
    go_wp2_with fail
    (with_reducible refine C1.out.mono ?_)
    clear C1 c0 c1
    rintro _ V3 ⟨Ac, cc, rfl, hFc, hcc, b2⟩
    replace A2 := A2.below b2 A2.lt
    replace A3 := A3.below b2 A3.lt
    replace b3 := b3.trans (b2.mono b3.size)
    clear b2
    have bb : Below V3.heap.size V3 ((V3.alloc (.cells dkZero 37)).setRow V3.heap.size (dkArr L Ac cc z)) := below_setRow ((Below.refl _ _).alloc (Nat.le_refl _) _) (Nat.le_refl _) _
    have AX : Arr ((V3.alloc (.cells dkZero 37)).setRow V3.heap.size (dkArr L Ac cc z)) V3.heap.size 37 (dkArr L Ac cc z) := (Arr.new _ _ _).row _
    have hq1 := A3.lt
    go_upto_region 6 with (refine wpList_store_row rfl 37 _ _ rfl V3.heap.size (dkArr L Ac cc z) rfl rfl 37 dkZero (Arr.new V3 _ _) (dkInfo _ _ _ _) rfl (dkArr_one _ _ _ _) ?_)
    refine wp_forget (fun W => Arr W V3.heap.size 37 (dkArr L Ac cc z) ∧ Arr W w.heap.size 37 (dkArr L A c z) ∧ Arr W (w.heap.size + 1) 37 dkZero ∧ Fls W W.heap.size Ac L ∧ Below w.heap.size w W) (by exact ⟨AX, A2.below bb A2.lt, A3.below bb A3.lt, hFc.up bb, b3.trans (bb.mono b3.size)⟩) ?_
    clear AX bb A2 A3 b3 hFc
    generalize V3.heap.size = q at *
    rintro V4 ⟨AX, A2, A3, hFc, b3⟩
    have d1 : V4.cell? ⟨q, 1, none⟩ = some (.int .i64 z) := AX.cell 1
    have x1 := AX.free 1
    have AY : Arr (V4.setCell ⟨q, 1, none⟩ (.int .i64 (z - 1))) q 37 (dkArr L Ac cc (z - 1)) := AX.put 1 (.int .i64 (z - 1))
    have kk : V4.grownBy (V4.setCell ⟨q, 1, none⟩ (.int .i64 (z - 1))) (some q) := gb_set _ _ _
    have hqq : w.heap.size + 1 < q := hq1
    have hFy := fls_cell (i := 1) (u := .int .i64 (z - 1)) hFc AX
    by_cases hpos : 0 < z
    case' pos =>
      have hb : burnt z = z - 1 := if_pos hpos
      go_upto_region 8 with fail
      refine wp_forget (fun W => Arr W q 37 (dkArr L Ac cc (burnt z)) ∧ Arr W w.heap.size 37 (dkArr L A c z) ∧ Arr W (w.heap.size + 1) 37 dkZero ∧ Fls W W.heap.size Ac L ∧ Below w.heap.size w W) (by rw [hb]; exact ⟨AY, A2.kept kk (fun e => by have := Option.some.inj e; omega), A3.kept kk (fun e => by have := Option.some.inj e; omega), hFy, below_gb b3 kk (by omega) b3.size⟩) ?_
    case' neg =>
      have hb : burnt z = z := if_neg hpos
      go_upto_region 8 with fail
      refine wp_forget (fun W => Arr W q 37 (dkArr L Ac cc (burnt z)) ∧ Arr W w.heap.size 37 (dkArr L A c z) ∧ Arr W (w.heap.size + 1) 37 dkZero ∧ Fls W W.heap.size Ac L ∧ Below w.heap.size w W) (by rw [hb]; exact ⟨AX, A2, A3, hFc, b3⟩) ?_
    all_goals
      clear AX AY A2 A3 b3 hFc hFy d1 x1 kk
      rintro V5 ⟨AX, A2, A3, hFc, b3⟩
      have c0 : V5.cell? ⟨w.heap.size, 0, none⟩ = some (.slice A L.length c) := A2.cell 0
      have c1 : V5.cell? ⟨w.heap.size, 1, none⟩ = some (.int .i64 z) := A2.cell 1
      have C1 := Lib.hid (at_any L n A c z V5 (hP.up b3) hl1 hris)
      obtain ⟨y, hy⟩ : ∃ y, y = burnt z := ⟨_, rfl⟩
      rw [← hy] at AX
      have HB := Lib.hid hy
      clear hy hb
      have hca := at_cases hris n
      generalize atP n L = p at *
      go_wp2_with fail
      (with_reducible refine C1.out.mono ?_)
      clear C1 c0 c1
      rintro _ V6 ⟨rfl, b2⟩
      replace A2 := A2.below b2 A2.lt
      replace A3 := A3.below b2 A3.lt
      replace AX := AX.below b2 AX.lt
      replace hFc := hFc.up b2
      replace b3 := b3.trans (b2.mono b3.size)
      clear b2
      have c0 : V6.cell? ⟨w.heap.size, 0, none⟩ = some (.slice A L.length c) := A2.cell 0
      have c1 : V6.cell? ⟨w.heap.size, 1, none⟩ = some (.int .i64 z) := A2.cell 1
      rcases hca with ⟨hgn, rfl⟩ | ⟨k, f, hgs, hk, rfl⟩
      · have HQ7 : Hid (Q = (⟨L, z⟩, 7)) := by show _ = _; rw [HQ.out, HY.out, hgn]; rfl
        clear HQ HY
        go_wp2_with (refine wpList_store_row rfl 37 _ _ rfl (w.heap.size + 1) (dkArr L A c z) rfl rfl 37 dkZero A3 (dkInfo _ _ _ _) rfl (dkArr_one _ _ _ _) ?_)
        exact HBad.out _ _ 7 HQ7.out A3 b3 rfl rfl rfl
      · have HQ0 : Hid (Q = (⟨putL ⟨n, f.safe ++ f.tail, ⟨#[]⟩⟩ L, y⟩, 0)) := by show _ = _; rw [HQ.out, HY.out, hgs, HB.out]; rfl
        clear HQ HY HB hgs
        have hlt := (List.getElem?_eq_some_iff.1 hk).1
        have hsum : f.safe.size + f.tail.size ≤ 1048576 := by
          have := (hall f (List.mem_of_getElem? hk)).2
          unfold fits at this
          exact of_decide_eq_true this
        have hj : (k : Int) < L.length := by omega
        have hj0 : ¬ (k : Int) < 0 := by omega
        obtain ⟨ad, rfl, hbl, h0', h1, h2⟩ := hP k f hk
        have g0 := (b3.cell hbl).trans h0'
        have g1 := (b3.cell (p := ⟨(ad.add (k * 3)).block, (ad.add (k * 3)).off + 1, none⟩) hbl).trans h1
        have g2 := (b3.cell (p := ⟨(ad.add (k * 3)).block, (ad.add (k * 3)).off + 2, none⟩) hbl).trans h2
        clear h0' h1 h2 hk
        have bb : Below V6.heap.size V6 ((V6.alloc (.cells flZero 68)).setRow V6.heap.size (flArr f)) := below_setRow ((Below.refl _ _).alloc (Nat.le_refl _) _) (Nat.le_refl _) _
        have AZ : Arr ((V6.alloc (.cells flZero 68)).setRow V6.heap.size (flArr f)) V6.heap.size 68 (flArr f) := (Arr.new _ _ _).row _
        go_upto_region 29 with (refine wpList_store_row rfl 68 _ _ rfl V6.heap.size (flArr f) rfl rfl 68 flZero (Arr.new V6 _ _) (flInfo _) rfl (flArr_one _) ?_)
        refine wp_forget (fun W => Arr W V6.heap.size 68 (flArr f) ∧ Arr W q 37 (dkArr L Ac cc y) ∧ Arr W (w.heap.size + 1) 37 dkZero ∧ Fls W W.heap.size Ac L ∧ Below w.heap.size w W) (by exact ⟨AZ, AX.below bb AX.lt, A3.below bb A3.lt, hFc.up bb, b3.trans (bb.mono b3.size)⟩) ?_
        clear AZ bb AX A2 A3 b3 hFc c0 c1 g0 g1 g2
        generalize V6.heap.size = r at *
        rintro W ⟨AZ, AX, A3, hFc, b3⟩
        have e1 : W.cell? ⟨r, 1, none⟩ = some (.string f.safe) := AZ.cell 1
        have e2 : W.cell? ⟨r, 2, none⟩ = some (.string f.tail) := AZ.cell 2
        have d0 : W.cell? ⟨q, 0, none⟩ = some (.slice Ac L.length cc) := AX.cell 0
        have C1 : Hid (Calls Tryz.prog 68 #[.slice Ac L.length cc, .agg #[.string n, .string (f.safe ++ f.tail), .string ⟨#[]⟩]] W fun e w' => ∃ A' c', e = .returned (.slice A' (putL ⟨n, f.safe ++ f.tail, ⟨#[]⟩⟩ L).length c') ∧ (putL ⟨n, f.safe ++ f.tail, ⟨#[]⟩⟩ L).length ≤ c' ∧ Fls w' w'.heap.size A' (putL ⟨n, f.safe ++ f.tail, ⟨#[]⟩⟩ L) ∧ Below W.heap.size W w') := RefPut_any L ⟨n, f.safe ++ f.tail, ⟨#[]⟩⟩ Ac cc W hFc h4 hris
        generalize putL ⟨n, f.safe ++ f.tail, ⟨#[]⟩⟩ L = M at *
        go_wp2_with fail
        (with_reducible refine C1.out.mono ?_)
        clear C1 d0 e1 e2
        rintro _ W2 ⟨Ab, cb, rfl, hcb, hFb, b2⟩
        replace A3 := A3.below b2 A3.lt
        replace AX := AX.below b2 AX.lt
        replace b3 := b3.trans (b2.mono b3.size)
        clear b2 AZ hFc
        have d0 : W2.cell? ⟨q, 0, none⟩ = some (.slice Ac L.length cc) := AX.cell 0
        have x0 := AX.free 0
        have AY : Arr (W2.setCell ⟨q, 0, none⟩ (.slice Ab M.length cb)) q 37 (dkArr M Ab cb y) := AX.put 0 (.slice Ab M.length cb)
        have kk : W2.grownBy (W2.setCell ⟨q, 0, none⟩ (.slice Ab M.length cb)) (some q) := gb_set _ _ _
        go_upto_region 39 with fail
        refine wp_forget (fun W => Arr W q 37 (dkArr M Ab cb y) ∧ Arr W (w.heap.size + 1) 37 dkZero ∧ Fls W W.heap.size Ab M ∧ Below w.heap.size w W) (by exact ⟨AY, A3.kept kk (fun e => by have := Option.some.inj e; omega), fls_cell hFb AX, below_gb b3 kk (by omega) b3.size⟩) ?_
        clear AX AY A3 b3 hFb d0 x0 kk
        rintro W ⟨AX, A3, hFb, b3⟩
        have d0 : W.cell? ⟨q, 0, none⟩ = some (.slice Ab M.length cb) := AX.cell 0
        have d1 : W.cell? ⟨q, 1, none⟩ = some (.int .i64 y) := AX.cell 1
        go_wp2_with (refine wpList_store_row rfl 37 _ _ rfl (w.heap.size + 1) (dkArr M Ab cb y) rfl rfl 37 dkZero A3 (dkInfo _ _ _ _) rfl (dkArr_one _ _ _ _) ?_)
        rw [HQ0.out]
        exact HRet.out _ _ ⟨M, y⟩ Ab cb 0 (A3.row _) (below_setRow b3 (show w.heap.size ≤ w.heap.size + 1 by omega) _) (hFb.row A3 _) hcb rfl rfl rfl
end Go.Proofs.YtmikfmcgddmplaaGreatDoor

/- ref.Do 0 (Write): its contract. -/
namespace Go.Proofs.YtmikfmcgddmplaaGreatDoor
open Go.RowKit

theorem Fls.old {V W : World} {A : Option Addr} {L : List Fl} (h : Fls V V.heap.size A L) (b : Below V.heap.size V W) : Fls W V.heap.size A L := fun k x hx => by
  obtain ⟨ad, e, hbk, h0, h1, h2⟩ := h k x hx
  exact ⟨ad, e, hbk, (b.cell hbk).trans h0, (b.cell (p := ⟨(ad.add (k * 3)).block, (ad.add (k * 3)).off + 1, none⟩) hbk).trans h1, (b.cell (p := ⟨(ad.add (k * 3)).block, (ad.add (k * 3)).off + 2, none⟩) hbk).trans h2⟩
theorem Fls.gb {W W' : World} {r : Nat} {A : Option Addr} {L : List Fl} (h : Fls W r A L) (kk : W.grownBy W' (some r)) : Fls W' r A L := fun k x hx => by
  obtain ⟨ad, e, hbk, h0, h1, h2⟩ := h k x hx
  have hn : ¬ some (ad.add (k * 3)).block = some r := fun e2 => by have := Option.some.inj e2; omega
  exact ⟨ad, e, hbk, kk.cell h0 hn, kk.cell h1 hn, kk.cell h2 hn⟩
theorem Fls.wide {W : World} {r : Nat} {A : Option Addr} {L : List Fl} (h : Fls W r A L) (hr : r ≤ W.heap.size) : Fls W W.heap.size A L := fun k x hx => by
  obtain ⟨ad, e, hbk, h0⟩ := h k x hx
  exact ⟨ad, e, Nat.lt_of_lt_of_le hbk hr, h0⟩
theorem nil_cat (s : ByteArray) : (⟨#[]⟩ : ByteArray) ++ s = s := by
  apply bytes_eq
  rw [append_list]
  rfl
set_option maxRecDepth 100000 in
set_option maxHeartbeats 2000000 in
theorem RefDo_write (L : List Fl) (n s : ByteArray) (hn : n.size ≤ 140737488355328) (hs : s.size ≤ 140737488355328) (A : Option Addr) (c : Nat) (z : Int) (hz1 : -9223372036854775808 ≤ z) (hz2 : z ≤ 9223372036854775807) (w : World) (hP : Fls w w.heap.size A L) (hz : Sized L) (hl : L.length * 48 ≤ 140737488355328) (hc : L.length ≤ c) :
    Calls Tryz.prog 37 #[.int .i64 0, .agg (dkArr L A c z), .string n, .string s] w (StEnd w (stepP ⟨L, z⟩ (wrP L n s))) := by
  have hl1 : L.length ≤ 140737488355328 := by omega
  have A0 : Arr ((w.alloc (.cells (dkArr L A c z) 37)).alloc (.cells dkZero 37)) w.heap.size 37 (dkArr L A c z) := (Arr.new _ _ _).alloc _
  have A1 : Arr ((w.alloc (.cells (dkArr L A c z) 37)).alloc (.cells dkZero 37)) (w.heap.size + 1) 37 dkZero := Arr.new_at _ _ _ (by simp)
  have b0 : Below w.heap.size w ((w.alloc (.cells (dkArr L A c z) 37)).alloc (.cells dkZero 37)) := ((Below.refl _ _).alloc (Nat.le_refl _) _).alloc (by simp) _
  have HS : Hid (stepP ⟨L, z⟩ (wrP L n s) = if !goodD L then (⟨L, z⟩, 3) else if z = 0 then (⟨L, z⟩, 12) else okP ⟨L, z⟩ (wrP L n s)) := rfl
  have HY0 : Hid (named n = false → wrP L n s = .error 2) := fun h => by unfold wrP; rw [h]; rfl
  have HY1 : Hid (named n = true → getF n L = none → wrP L n s = if 400 ≤ L.length then .error 6 else if 1048576 < s.size then .error 1 else .ok (putL ⟨n, ⟨#[]⟩, s⟩ L)) := fun h hg => by unfold wrP; rw [h, hg]; rfl
  have HY2 : Hid (∀ f, named n = true → getF n L = some f → wrP L n s = if 1048576 < f.safe.size + f.tail.size + s.size then .error 1 else .ok (putL ⟨n, f.safe, f.tail ++ s⟩ L)) := fun f h hg => by unfold wrP; rw [h, hg]; rfl
  generalize wrP L n s = Y at *
  generalize stepP ⟨L, z⟩ Y = Q at *
  go_enter Tryz.func37, Tryz.ntmps37
  go_upto_region 1 with fail
  refine wp_forget (fun V => Arr V w.heap.size 37 (dkArr L A c z) ∧ Arr V (w.heap.size + 1) 37 dkZero ∧ Below w.heap.size w V) (by exact ⟨A0, A1, b0⟩) ?_
  clear A0 A1 b0
  rintro V ⟨A0, A1, b0⟩
  have c0 : V.cell? ⟨w.heap.size, 0, none⟩ = some (.slice A L.length c) := A0.cell 0
  have c1 : V.cell? ⟨w.heap.size, 1, none⟩ = some (.int .i64 z) := A0.cell 1
  have CG : Hid (Calls Tryz.prog 65 #[.agg #[.slice A L.length c, .int .i64 z]] V fun e w' => e = .returned (.bool (goodD L)) ∧ Below V.heap.size V w') := GoodDisk_any L A c z V (hP.up b0) hz hl1
  have HRet : Hid (∀ (W : World) (a : Act) (d : Dk) (A' : Option Addr) (c' : Nat) (e : Int), Arr W (w.heap.size + 1) 37 (dkArr d.files A' c' d.fuse) → Below w.heap.size w W → Fls W W.heap.size A' d.files → d.files.length ≤ c' → a.tmps[8]? = some (.pointer (some ⟨w.heap.size + 1, 0, none⟩)) → a.tmps[9]? = some (.int .i64 e) → a.defers = [] → bodyPost Tryz.prog Tryz.f37 (StEnd w (d, e)) .ret a W) := fun W a d A' c' e h1 h2 h3 h4 h5 h6 h7 => by
    refine bodyPost_ret (v := .tuple #[.agg (dkArr d.files A' c' d.fuse), .int .i64 e]) ?_ h7 ⟨A', c', rfl, h3, h4, h2⟩
    rw [results_cell_tmp Tryz.results37]
    have hld := run_loadVar_row (P := Tryz.prog) _ _ _ 37 _ _ _ h1 Tryz.underlying37 rfl (dkInfo _ _ _ _)
    simp [Array.getD_eq_getD_getElem?, h5, h6, asAddr, hld, Result.andThen]
  have HBad : Hid (∀ (W : World) (a : Act) (e : Int), Q = (⟨L, z⟩, e) → Arr W (w.heap.size + 1) 37 dkZero → Below w.heap.size w W → a.tmps[8]? = some (.pointer (some ⟨w.heap.size + 1, 0, none⟩)) → a.tmps[9]? = some (.int .i64 e) → a.defers = [] → bodyPost Tryz.prog Tryz.f37 (StEnd w Q) .ret a (W.setRow (w.heap.size + 1) (dkArr L A c z))) := fun W a e hQ h1 h2 h3 h4 h5 => by
    rw [hQ]
    have b4 := below_setRow h2 (show w.heap.size ≤ w.heap.size + 1 by omega) (dkArr L A c z)
    exact HRet.out _ _ ⟨L, z⟩ A c e (h1.row _) b4 (hP.up b4) hc h3 h4 h5
  cases hg : goodD L with
  | false =>
    rw [hg] at CG
    have HQ : Hid (Q = (⟨L, z⟩, 3)) := by show _ = _; rw [HS.out, hg]; rfl
    clear HS hg
    go_wp2_with fail
    (with_reducible refine CG.out.mono ?_)
    clear CG c0 c1
    rintro _ V2 ⟨rfl, b2⟩
    have A2 := A0.below b2 A0.lt
    have A3 := A1.below b2 A1.lt
    have b3 := b0.trans (b2.mono b0.size)
    have c0 : V2.cell? ⟨w.heap.size, 0, none⟩ = some (.slice A L.length c) := A2.cell 0
    have c1 : V2.cell? ⟨w.heap.size, 1, none⟩ = some (.int .i64 z) := A2.cell 1
    go_wp2_with (refine wpList_store_row rfl 37 _ _ rfl (w.heap.size + 1) (dkArr L A c z) rfl rfl 37 dkZero A3 (dkInfo _ _ _ _) rfl (dkArr_one _ _ _ _) ?_)
    exact HBad.out _ _ 3 HQ.out A3 b3 rfl rfl rfl
  | true =>
    rw [hg] at CG
    obtain ⟨h4, hris, hall⟩ := (goodD_iff L).1 hg
    go_wp2_with fail
    (with_reducible refine CG.out.mono ?_)
    clear CG c0 c1
    rintro _ V2 ⟨rfl, b2⟩
    have A2 := A0.below b2 A0.lt
    have A3 := A1.below b2 A1.lt
    have b3 := b0.trans (b2.mono b0.size)
    clear A0 A1 b0 b2
    have c0 : V2.cell? ⟨w.heap.size, 0, none⟩ = some (.slice A L.length c) := A2.cell 0
    have c1 : V2.cell? ⟨w.heap.size, 1, none⟩ = some (.int .i64 z) := A2.cell 1
    cases hz0 : z == 0
    case true =>
      have HQ : Hid (Q = (⟨L, z⟩, 12)) := by show _ = _; rw [HS.out, hg, if_pos (eq_of_beq hz0)]; rfl
      clear HS hg
      go_wp2_with (refine wpList_store_row rfl 37 _ _ rfl (w.heap.size + 1) (dkArr L A c z) rfl rfl 37 dkZero A3 (dkInfo _ _ _ _) rfl (dkArr_one _ _ _ _) ?_)
      exact HBad.out _ _ 12 HQ.out A3 b3 rfl rfl rfl
    have HQ : Hid (Q = okP ⟨L, z⟩ Y) := by show _ = _; rw [HS.out, if_neg (by rw [hg]; decide), if_neg (fun e => by rw [e] at hz0; cases hz0)]
    clear HS hg
    have C1 := Lib.hid (CopyDisk_any L A c z V2 (hP.up b3) hl)
    go_wp2_with fail
    (with_reducible refine C1.out.mono ?_)
    clear C1 c0 c1
    rintro _ V3 ⟨Ac, cc, rfl, hFc, hcc, b2⟩
    replace A2 := A2.below b2 A2.lt
    replace A3 := A3.below b2 A3.lt
    replace b3 := b3.trans (b2.mono b3.size)
    clear b2
    have bb : Below V3.heap.size V3 ((V3.alloc (.cells dkZero 37)).setRow V3.heap.size (dkArr L Ac cc z)) := below_setRow ((Below.refl _ _).alloc (Nat.le_refl _) _) (Nat.le_refl _) _
    have AX : Arr ((V3.alloc (.cells dkZero 37)).setRow V3.heap.size (dkArr L Ac cc z)) V3.heap.size 37 (dkArr L Ac cc z) := (Arr.new _ _ _).row _
    have hq1 := A3.lt
    go_upto_region 6 with (refine wpList_store_row rfl 37 _ _ rfl V3.heap.size (dkArr L Ac cc z) rfl rfl 37 dkZero (Arr.new V3 _ _) (dkInfo _ _ _ _) rfl (dkArr_one _ _ _ _) ?_)
    refine wp_forget (fun W => Arr W V3.heap.size 37 (dkArr L Ac cc z) ∧ Arr W w.heap.size 37 (dkArr L A c z) ∧ Arr W (w.heap.size + 1) 37 dkZero ∧ Fls W W.heap.size Ac L ∧ Below w.heap.size w W) (by exact ⟨AX, A2.below bb A2.lt, A3.below bb A3.lt, hFc.up bb, b3.trans (bb.mono b3.size)⟩) ?_
    clear AX bb A2 A3 b3 hFc
    generalize V3.heap.size = q at *
    rintro V4 ⟨AX, A2, A3, hFc, b3⟩
    have d1 : V4.cell? ⟨q, 1, none⟩ = some (.int .i64 z) := AX.cell 1
    have x1 := AX.free 1
    have AY : Arr (V4.setCell ⟨q, 1, none⟩ (.int .i64 (z - 1))) q 37 (dkArr L Ac cc (z - 1)) := AX.put 1 (.int .i64 (z - 1))
    have kk : V4.grownBy (V4.setCell ⟨q, 1, none⟩ (.int .i64 (z - 1))) (some q) := gb_set _ _ _
    have hqq : w.heap.size + 1 < q := hq1
    have hFy := fls_cell (i := 1) (u := .int .i64 (z - 1)) hFc AX
    by_cases hpos : 0 < z
    case' pos =>
      have hb : burnt z = z - 1 := if_pos hpos
      go_upto_region 8 with fail
      refine wp_forget (fun W => Arr W q 37 (dkArr L Ac cc (burnt z)) ∧ Arr W w.heap.size 37 (dkArr L A c z) ∧ Arr W (w.heap.size + 1) 37 dkZero ∧ Fls W W.heap.size Ac L ∧ Below w.heap.size w W) (by rw [hb]; exact ⟨AY, A2.kept kk (fun e => by have := Option.some.inj e; omega), A3.kept kk (fun e => by have := Option.some.inj e; omega), hFy, below_gb b3 kk (by omega) b3.size⟩) ?_
    case' neg =>
      have hb : burnt z = z := if_neg hpos
      go_upto_region 8 with fail
      refine wp_forget (fun W => Arr W q 37 (dkArr L Ac cc (burnt z)) ∧ Arr W w.heap.size 37 (dkArr L A c z) ∧ Arr W (w.heap.size + 1) 37 dkZero ∧ Fls W W.heap.size Ac L ∧ Below w.heap.size w W) (by rw [hb]; exact ⟨AX, A2, A3, hFc, b3⟩) ?_
    all_goals
      clear AX AY A2 A3 b3 hFc hFy d1 x1 kk
      rintro V5 ⟨AX, A2, A3, hFc, b3⟩
      have c0 : V5.cell? ⟨w.heap.size, 0, none⟩ = some (.slice A L.length c) := A2.cell 0
      have c1 : V5.cell? ⟨w.heap.size, 1, none⟩ = some (.int .i64 z) := A2.cell 1
      have C1 := Lib.hid (at_any L n A c z V5 (hP.up b3) hl1 hris)
      obtain ⟨y, hy⟩ : ∃ y, y = burnt z := ⟨_, rfl⟩
      rw [← hy] at AX
      have HB := Lib.hid hy
      clear hy hb
      have hca := at_cases hris n
      generalize atP n L = p at *
      go_wp2_with fail
      (with_reducible refine C1.out.mono ?_)
      clear C1 c0 c1
      rintro _ V6 ⟨rfl, b2⟩
      replace A2 := A2.below b2 A2.lt
      replace A3 := A3.below b2 A3.lt
      replace AX := AX.below b2 AX.lt
      replace hFc := hFc.up b2
      replace b3 := b3.trans (b2.mono b3.size)
      clear b2
      have c0 : V6.cell? ⟨w.heap.size, 0, none⟩ = some (.slice A L.length c) := A2.cell 0
      have c1 : V6.cell? ⟨w.heap.size, 1, none⟩ = some (.int .i64 z) := A2.cell 1
      have CN := Lib.hid (fileName_any n (by omega) V6)
      cases hnm : named n with
      | false =>
        rw [hnm] at CN
        have HQ7 : Hid (Q = (⟨L, z⟩, 2)) := by show _ = _; rw [HQ.out, HY0.out hnm]; rfl
        clear HQ HY0 HY1 HY2
        go_wp2_with fail
        (with_reducible refine CN.out.mono ?_)
        clear CN c0 c1
        rintro _ V7 ⟨rfl, b2⟩
        replace A2 := A2.below b2 A2.lt
        replace A3 := A3.below b2 A3.lt
        replace b3 := b3.trans (b2.mono b3.size)
        clear b2
        have c0 : V7.cell? ⟨w.heap.size, 0, none⟩ = some (.slice A L.length c) := A2.cell 0
        have c1 : V7.cell? ⟨w.heap.size, 1, none⟩ = some (.int .i64 z) := A2.cell 1
        go_wp2_with (refine wpList_store_row rfl 37 _ _ rfl (w.heap.size + 1) (dkArr L A c z) rfl rfl 37 dkZero A3 (dkInfo _ _ _ _) rfl (dkArr_one _ _ _ _) ?_)
        exact HBad.out _ _ 2 HQ7.out A3 b3 rfl rfl rfl
      | true =>
        rw [hnm] at CN
        go_wp2_with fail
        (with_reducible refine CN.out.mono ?_)
        clear CN c0 c1
        rintro _ V7 ⟨rfl, b2⟩
        replace A2 := A2.below b2 A2.lt
        replace A3 := A3.below b2 A3.lt
        replace AX := AX.below b2 AX.lt
        replace hFc := hFc.up b2
        replace b3 := b3.trans (b2.mono b3.size)
        clear b2
        have bb : Below V7.heap.size V7 ((V7.alloc (.cells flZero 68)).setRow V7.heap.size (flArr ⟨n, ⟨#[]⟩, ⟨#[]⟩⟩)) := below_setRow ((Below.refl _ _).alloc (Nat.le_refl _) _) (Nat.le_refl _) _
        have AZ : Arr ((V7.alloc (.cells flZero 68)).setRow V7.heap.size (flArr ⟨n, ⟨#[]⟩, ⟨#[]⟩⟩)) V7.heap.size 68 (flArr ⟨n, ⟨#[]⟩, ⟨#[]⟩⟩) := (Arr.new _ _ _).row _
        have hq2 := AX.lt
        go_upto_region 17 with (refine wpList_store_row rfl 68 _ _ rfl V7.heap.size (flArr ⟨n, ⟨#[]⟩, ⟨#[]⟩⟩) rfl rfl 68 flZero (Arr.new V7 _ _) (flInfo _) rfl (flArr_one _) ?_)
        refine wp_forget (fun W => Arr W V7.heap.size 68 (flArr ⟨n, ⟨#[]⟩, ⟨#[]⟩⟩) ∧ Arr W q 37 (dkArr L Ac cc y) ∧ Arr W w.heap.size 37 (dkArr L A c z) ∧ Arr W (w.heap.size + 1) 37 dkZero ∧ Fls W V7.heap.size Ac L ∧ Below w.heap.size w W) (by exact ⟨AZ, AX.below bb AX.lt, A2.below bb A2.lt, A3.below bb A3.lt, hFc.old bb, b3.trans (bb.mono b3.size)⟩) ?_
        clear AZ bb AX A2 A3 b3 hFc
        generalize V7.heap.size = r at *
        rintro W ⟨AZ, AX, A2, A3, hFc, b3⟩
        have hr1 : w.heap.size + 1 < r := by omega
        have c0 : W.cell? ⟨w.heap.size, 0, none⟩ = some (.slice A L.length c) := A2.cell 0
        have c1 : W.cell? ⟨w.heap.size, 1, none⟩ = some (.int .i64 z) := A2.cell 1
        have HG : Hid (∀ g : Fl, (g.name = n ∧ g.safe.size + g.tail.size ≤ 1048576 ∧ Y = if 1048576 < g.safe.size + g.tail.size + s.size then .error 1 else .ok (putL ⟨n, g.safe, g.tail ++ s⟩ L)) → Q = if 1048576 < g.safe.size + g.tail.size + s.size then (⟨L, z⟩, 1) else (⟨putL ⟨g.name, g.safe, g.tail ++ s⟩ L, y⟩, 0)) := fun g hg => by
          rw [HQ.out, hg.2.2, hg.1, HB.out]
          split
          · rfl
          · rfl
        rcases hca with ⟨hgn, rfl⟩ | ⟨k, f, hgs, hk, rfl⟩
        case' inl =>
          have HYn := Lib.hid (HY1.out hnm hgn)
          clear HY0 HY1 HY2
          cases h400 : ((L.length : Int) == 400)
          case' true =>
            have HQ7 : Hid (Q = (⟨L, z⟩, 6)) := by show _ = _; rw [HQ.out, HYn.out, if_pos (by have := eq_of_beq h400; omega)]; rfl
            clear HYn HQ
            go_wp2_with (refine wpList_store_row rfl 37 _ _ rfl (w.heap.size + 1) (dkArr L A c z) rfl rfl 37 dkZero A3 (dkInfo _ _ _ _) rfl (dkArr_one _ _ _ _) ?_)
            exact HBad.out _ _ 6 HQ7.out A3 b3 rfl rfl rfl
          obtain ⟨g, hge⟩ : ∃ g : Fl, g = ⟨n, ⟨#[]⟩, ⟨#[]⟩⟩ := ⟨_, rfl⟩
          have hgf : g.name = n ∧ g.safe.size + g.tail.size ≤ 1048576 ∧ Y = if 1048576 < g.safe.size + g.tail.size + s.size then .error 1 else .ok (putL ⟨n, g.safe, g.tail ++ s⟩ L) := by
            subst hge
            refine ⟨rfl, (by show 0 + 0 ≤ 1048576; decide), ?_⟩
            rw [HYn.out, if_neg (fun h => by have : L.length = 400 := by omega
                                             rw [this] at h400; cases h400), nil_cat]
            have : (⟨#[]⟩ : ByteArray).size + (⟨#[]⟩ : ByteArray).size + s.size = s.size := by
              have : (⟨#[]⟩ : ByteArray).size = 0 := rfl
              omega
            simp only [this]
          rw [← hge] at AZ
          clear HYn hge
          have HGf := Lib.hid hgf
          clear hgf
          go_upto_region 21 with fail
          refine wp_forget (fun W => Arr W r 68 (flArr g) ∧ Arr W q 37 (dkArr L Ac cc y) ∧ Arr W w.heap.size 37 (dkArr L A c z) ∧ Arr W (w.heap.size + 1) 37 dkZero ∧ Fls W r Ac L ∧ Below w.heap.size w W) (by exact ⟨AZ, AX, A2, A3, hFc, b3⟩) ?_
        case' inr =>
          have hlt := (List.getElem?_eq_some_iff.1 hk).1
          have hsum : f.safe.size + f.tail.size ≤ 1048576 := by
            have := (hall f (List.mem_of_getElem? hk)).2
            unfold fits at this
            exact of_decide_eq_true this
          obtain ⟨g, hge⟩ : ∃ g : Fl, g = f := ⟨_, rfl⟩
          have hgf : g.name = n ∧ g.safe.size + g.tail.size ≤ 1048576 ∧ Y = if 1048576 < g.safe.size + g.tail.size + s.size then .error 1 else .ok (putL ⟨n, g.safe, g.tail ++ s⟩ L) := by
            subst hge
            exact ⟨(getF_name hgs).1, hsum, HY2.out _ hnm hgs⟩
          subst hge
          clear HY0 HY1 HY2 hsum hgs
          have HGf := Lib.hid hgf
          clear hgf
          have hj : (k : Int) < L.length := by omega
          have hj0 : ¬ (k : Int) < 0 := by omega
          have hj1 : (0 : Int) ≤ k := by omega
          obtain ⟨ad, rfl, hbl, h0', h1, h2⟩ := hP k g hk
          have g0 := (b3.cell hbl).trans h0'
          have g1 := (b3.cell (p := ⟨(ad.add (k * 3)).block, (ad.add (k * 3)).off + 1, none⟩) hbl).trans h1
          have g2 := (b3.cell (p := ⟨(ad.add (k * 3)).block, (ad.add (k * 3)).off + 2, none⟩) hbl).trans h2
          clear h0' h1 h2 hk
          have kk : W.grownBy (W.setRow r (flArr g)) (some r) := gb_row _ _
          have AZ2 : Arr (W.setRow r (flArr g)) r 68 (flArr g) := AZ.row _
          go_upto_region 21 with (refine wpList_store_row rfl 68 _ _ rfl r (flArr g) rfl rfl 68 (flArr ⟨n, ⟨#[]⟩, ⟨#[]⟩⟩) AZ (flInfo _) rfl (flArr_one _) ?_)
          refine wp_forget (fun W => Arr W r 68 (flArr g) ∧ Arr W q 37 (dkArr L Ac cc y) ∧ Arr W w.heap.size 37 (dkArr L (some ad) c z) ∧ Arr W (w.heap.size + 1) 37 dkZero ∧ Fls W r Ac L ∧ Below w.heap.size w W) (by exact ⟨AZ2, AX.kept kk (fun e => by have := Option.some.inj e; omega), A2.kept kk (fun e => by have := Option.some.inj e; omega), A3.kept kk (fun e => by have := Option.some.inj e; omega), hFc.gb kk, below_gb b3 kk (by omega) b3.size⟩) ?_
          clear kk AZ2 g0 g1 g2
        all_goals
          clear AZ AX A2 A3 hFc b3 c0 c1 HQ
          rintro W ⟨AZ, AX, A2, A3, hFc, b3⟩
          have HQg := Lib.hid (HG.out g HGf.out)
          clear HG
          have hgs1 := HGf.out.2.1
          clear HGf
          have e2 : W.cell? ⟨r, 2, none⟩ = some (.string g.tail) := AZ.cell 2
          have x2 := AZ.free 2
          have hcat : ¬ 9223372036854775807 < g.tail.size + s.size := by omega
          have AZ2 : Arr (W.setCell ⟨r, 2, none⟩ (.string (g.tail ++ s))) r 68 (flArr ⟨g.name, g.safe, g.tail ++ s⟩) := AZ.put 2 (.string (g.tail ++ s))
          have kk : W.grownBy (W.setCell ⟨r, 2, none⟩ (.string (g.tail ++ s))) (some r) := gb_set _ _ _
          go_upto_region 22 with fail
          obtain ⟨x, hxe⟩ : ∃ x : Fl, x = ⟨g.name, g.safe, g.tail ++ s⟩ := ⟨_, rfl⟩
          have hxs : x.safe.size + x.tail.size = g.safe.size + g.tail.size + s.size := by rw [hxe]; simp only [ByteArray.size_append]; omega
          rw [← hxe] at AZ2 HQg
          rw [← hxs] at HQg
          refine wp_forget (fun W => Arr W r 68 (flArr x) ∧ Arr W q 37 (dkArr L Ac cc y) ∧ Arr W w.heap.size 37 (dkArr L _ c z) ∧ Arr W (w.heap.size + 1) 37 dkZero ∧ Fls W W.heap.size Ac L ∧ Below w.heap.size w W) (by exact ⟨AZ2, AX.kept kk (fun e => by have := Option.some.inj e; omega), A2.kept kk (fun e => by have := Option.some.inj e; omega), A3.kept kk (fun e => by have := Option.some.inj e; omega), (hFc.gb kk).wide (Nat.le_of_lt AZ2.lt), below_gb b3 kk (by omega) b3.size⟩) ?_
          clear AZ AZ2 AX A2 A3 hFc b3 e2 x2 kk hcat hxe
          rintro W ⟨AZ, AX, A2, A3, hFc, b3⟩
          have e0 : W.cell? ⟨r, 0, none⟩ = some (.string x.name) := AZ.cell 0
          have e1 : W.cell? ⟨r, 1, none⟩ = some (.string x.safe) := AZ.cell 1
          have e2 : W.cell? ⟨r, 2, none⟩ = some (.string x.tail) := AZ.cell 2
          have d0 : W.cell? ⟨q, 0, none⟩ = some (.slice Ac L.length cc) := AX.cell 0
          have c0 := A2.cell 0
          have c1 := A2.cell 1
          replace c0 : W.cell? ⟨w.heap.size, 0, none⟩ = some (.slice _ L.length c) := c0
          replace c1 : W.cell? ⟨w.heap.size, 1, none⟩ = some (.int .i64 z) := c1
          have hxb : x.safe.size + x.tail.size ≤ 140737489403904 := by omega
          clear hxs
          by_cases hbig : 1048576 < x.safe.size + x.tail.size
          · have HQ7 : Hid (Q = (⟨L, z⟩, 1)) := by show _ = _; rw [HQg.out, if_pos hbig]
            have i1 : (1048576 : Int) < (x.safe.size : Int) + x.tail.size := by omega
            clear HQg
            go_wp2_with (refine wpList_store_row rfl 37 _ _ rfl (w.heap.size + 1) (dkArr L _ c z) rfl rfl 37 dkZero A3 (dkInfo _ _ _ _) rfl (dkArr_one _ _ _ _) ?_)
            exact HBad.out _ _ 1 HQ7.out A3 b3 rfl rfl rfl
          · have HQ0 : Hid (Q = (⟨putL x L, y⟩, 0)) := by show _ = _; rw [HQg.out, if_neg hbig]
            have i1 : ¬ (1048576 : Int) < (x.safe.size : Int) + x.tail.size := by omega
            clear HQg
            have C1 : Hid (Calls Tryz.prog 68 #[.slice Ac L.length cc, .agg #[.string x.name, .string x.safe, .string x.tail]] W fun e w' => ∃ A' c', e = .returned (.slice A' (putL x L).length c') ∧ (putL x L).length ≤ c' ∧ Fls w' w'.heap.size A' (putL x L) ∧ Below W.heap.size W w') := RefPut_any L x Ac cc W hFc h4 hris
            generalize putL x L = M at *
            go_wp2_with fail
            (with_reducible refine C1.out.mono ?_)
            clear C1 d0 e0 e1 e2 c0 c1
            rintro _ W2 ⟨Ab, cb, rfl, hcb, hFb, b2⟩
            replace A3 := A3.below b2 A3.lt
            replace AX := AX.below b2 AX.lt
            replace b3 := b3.trans (b2.mono b3.size)
            clear b2 AZ hFc A2
            have d0 : W2.cell? ⟨q, 0, none⟩ = some (.slice Ac L.length cc) := AX.cell 0
            have x0 := AX.free 0
            have AY : Arr (W2.setCell ⟨q, 0, none⟩ (.slice Ab M.length cb)) q 37 (dkArr M Ab cb y) := AX.put 0 (.slice Ab M.length cb)
            have kk : W2.grownBy (W2.setCell ⟨q, 0, none⟩ (.slice Ab M.length cb)) (some q) := gb_set _ _ _
            go_upto_region 39 with fail
            refine wp_forget (fun W => Arr W q 37 (dkArr M Ab cb y) ∧ Arr W (w.heap.size + 1) 37 dkZero ∧ Fls W W.heap.size Ab M ∧ Below w.heap.size w W) (by exact ⟨AY, A3.kept kk (fun e => by have := Option.some.inj e; omega), fls_cell hFb AX, below_gb b3 kk (by omega) b3.size⟩) ?_
            clear AX AY A3 b3 hFb d0 x0 kk
            rintro W ⟨AX, A3, hFb, b3⟩
            have d0 : W.cell? ⟨q, 0, none⟩ = some (.slice Ab M.length cb) := AX.cell 0
            have d1 : W.cell? ⟨q, 1, none⟩ = some (.int .i64 y) := AX.cell 1
            go_wp2_with (refine wpList_store_row rfl 37 _ _ rfl (w.heap.size + 1) (dkArr M Ab cb y) rfl rfl 37 dkZero A3 (dkInfo _ _ _ _) rfl (dkArr_one _ _ _ _) ?_)
            rw [HQ0.out]
            exact HRet.out _ _ ⟨M, y⟩ Ab cb 0 (A3.row _) (below_setRow b3 (show w.heap.size ≤ w.heap.size + 1 by omega) _) (hFb.row A3 _) hcb rfl rfl rfl
end Go.Proofs.YtmikfmcgddmplaaGreatDoor

/- ref.Do 3 (Remove): its contract. -/
namespace Go.Proofs.YtmikfmcgddmplaaGreatDoor
open Go.RowKit

theorem del_at (n : ByteArray) : ∀ (L : List Fl) (b : ByteArray) (k : Nat) (f : Fl), ris b L → L[k]? = some f → f.name = n → del n L = L.take k ++ L.drop (k + 1)
  | [], _, _, _, _, h, _ => by simp at h
  | x :: l, _, 0, f, hr, h, hn => by
    obtain rfl : x = f := by simpa using h
    have e : del n l = l := by
      unfold del
      refine List.filter_eq_self.2 fun y hy => ?_
      have := ltB_ne (ris_lt hr.2 y hy)
      rw [hn] at this
      simpa using fun e : y.name = n => this e.symm
    show del n (x :: l) = l
    unfold del at e ⊢
    rw [List.filter_cons_of_neg (by simp [hn]), e]
  | x :: l, _, k + 1, f, hr, h, hn => by
    have h1 : l[k]? = some f := by simpa using h
    have hne : x.name ≠ n := fun e => ltB_ne (ris_lt hr.2 f (List.mem_of_getElem? h1)) (e.trans hn.symm)
    have ih := del_at n l _ k f hr.2 h1 hn
    show del n (x :: l) = x :: (l.take k ++ l.drop (k + 1))
    unfold del at ih ⊢
    rw [List.filter_cons_of_pos (by simp [hne]), ih]
theorem Fls.take {w : World} {B : Nat} {A : Option Addr} {L : List Fl} (h : Fls w B A L) (m : Nat) : Fls w B A (L.take m) := fun k x hx => by
  rw [List.getElem?_take] at hx
  split at hx
  · exact h k x hx
  · cases hx
theorem add_twice (ad : Addr) (m k : Nat) : (ad.add m).add k = ad.add (m + k) := by
  unfold Addr.add
  by_cases h1 : m = 0
  · subst h1; simp
  · by_cases h2 : k = 0
    · subst h2; simp [h1]
    · rw [if_neg h1, if_neg h2, if_neg (by omega)]
      simp [Nat.add_assoc]
theorem Fls.drop {w : World} {B : Nat} {ad : Addr} {L : List Fl} (h : Fls w B (some ad) L) (m : Nat) : Fls w B (some (ad.add (m * 3))) (L.drop m) := fun k x hx => by
  rw [List.getElem?_drop] at hx
  obtain ⟨ad', e, h0⟩ := h (m + k) x hx
  cases e
  refine ⟨_, rfl, ?_⟩
  rw [add_twice, ← Nat.add_mul]
  exact h0
theorem own_cut {w : World} {b k : Nat} {v : Value} {L : List Fl} (hk : k < L.length) (h : w.ownsRow b 68 3 v (k + (L.length - (k + 1))) (flCells (L.take k) ++ flCells (L.drop (k + 1)))) :
    w.ownsRow b 68 3 v (L.take k ++ L.drop (k + 1)).length (flCells (L.take k ++ L.drop (k + 1))) := by
  rw [flCells_app, List.length_append, List.length_take, List.length_drop, Nat.min_eq_left (by omega)]
  exact h
set_option maxRecDepth 100000 in
set_option maxHeartbeats 2000000 in
theorem RefDo_remove (L : List Fl) (n s : ByteArray) (A : Option Addr) (c : Nat) (z : Int) (hz1 : -9223372036854775808 ≤ z) (hz2 : z ≤ 9223372036854775807) (w : World) (hP : Fls w w.heap.size A L) (hz : Sized L) (hl : L.length * 48 ≤ 140737488355328) (hc : L.length ≤ c) :
    Calls Tryz.prog 37 #[.int .i64 3, .agg (dkArr L A c z), .string n, .string s] w (StEnd w (stepP ⟨L, z⟩ (rmP L n))) := by
  obtain ⟨si, hsi, sz0, sz1, sz2⟩ := info_parts info_file
  have Hsi := Lib.hid hsi
  have Sz0 := Lib.hid sz0
  have Sz1 := Lib.hid sz1
  have Sz2 := Lib.hid sz2
  clear hsi sz0 sz1 sz2
  have hl1 : L.length ≤ 140737488355328 := by omega
  have A0 : Arr ((w.alloc (.cells (dkArr L A c z) 37)).alloc (.cells dkZero 37)) w.heap.size 37 (dkArr L A c z) := (Arr.new _ _ _).alloc _
  have A1 : Arr ((w.alloc (.cells (dkArr L A c z) 37)).alloc (.cells dkZero 37)) (w.heap.size + 1) 37 dkZero := Arr.new_at _ _ _ (by simp)
  have b0 : Below w.heap.size w ((w.alloc (.cells (dkArr L A c z) 37)).alloc (.cells dkZero 37)) := ((Below.refl _ _).alloc (Nat.le_refl _) _).alloc (by simp) _
  have HS : Hid (stepP ⟨L, z⟩ (rmP L n) = if !goodD L then (⟨L, z⟩, 3) else if z = 0 then (⟨L, z⟩, 12) else okP ⟨L, z⟩ (rmP L n)) := rfl
  have HY : Hid (rmP L n = match getF n L with | none => .error 7 | some _ => .ok (del n L)) := rfl
  generalize rmP L n = Y at *
  generalize stepP ⟨L, z⟩ Y = Q at *
  go_enter Tryz.func37, Tryz.ntmps37
  go_upto_region 1 with fail
  refine wp_forget (fun V => Arr V w.heap.size 37 (dkArr L A c z) ∧ Arr V (w.heap.size + 1) 37 dkZero ∧ Below w.heap.size w V) (by exact ⟨A0, A1, b0⟩) ?_
  clear A0 A1 b0
  rintro V ⟨A0, A1, b0⟩
  have c0 : V.cell? ⟨w.heap.size, 0, none⟩ = some (.slice A L.length c) := A0.cell 0
  have c1 : V.cell? ⟨w.heap.size, 1, none⟩ = some (.int .i64 z) := A0.cell 1
  have CG : Hid (Calls Tryz.prog 65 #[.agg #[.slice A L.length c, .int .i64 z]] V fun e w' => e = .returned (.bool (goodD L)) ∧ Below V.heap.size V w') := GoodDisk_any L A c z V (hP.up b0) hz hl1
  have HRet : Hid (∀ (W : World) (a : Act) (d : Dk) (A' : Option Addr) (c' : Nat) (e : Int), Arr W (w.heap.size + 1) 37 (dkArr d.files A' c' d.fuse) → Below w.heap.size w W → Fls W W.heap.size A' d.files → d.files.length ≤ c' → a.tmps[8]? = some (.pointer (some ⟨w.heap.size + 1, 0, none⟩)) → a.tmps[9]? = some (.int .i64 e) → a.defers = [] → bodyPost Tryz.prog Tryz.f37 (StEnd w (d, e)) .ret a W) := fun W a d A' c' e h1 h2 h3 h4 h5 h6 h7 => by
    refine bodyPost_ret (v := .tuple #[.agg (dkArr d.files A' c' d.fuse), .int .i64 e]) ?_ h7 ⟨A', c', rfl, h3, h4, h2⟩
    rw [results_cell_tmp Tryz.results37]
    have hld := run_loadVar_row (P := Tryz.prog) _ _ _ 37 _ _ _ h1 Tryz.underlying37 rfl (dkInfo _ _ _ _)
    simp [Array.getD_eq_getD_getElem?, h5, h6, asAddr, hld, Result.andThen]
  have HBad : Hid (∀ (W : World) (a : Act) (e : Int), Q = (⟨L, z⟩, e) → Arr W (w.heap.size + 1) 37 dkZero → Below w.heap.size w W → a.tmps[8]? = some (.pointer (some ⟨w.heap.size + 1, 0, none⟩)) → a.tmps[9]? = some (.int .i64 e) → a.defers = [] → bodyPost Tryz.prog Tryz.f37 (StEnd w Q) .ret a (W.setRow (w.heap.size + 1) (dkArr L A c z))) := fun W a e hQ h1 h2 h3 h4 h5 => by
    rw [hQ]
    have b4 := below_setRow h2 (show w.heap.size ≤ w.heap.size + 1 by omega) (dkArr L A c z)
    exact HRet.out _ _ ⟨L, z⟩ A c e (h1.row _) b4 (hP.up b4) hc h3 h4 h5
  cases hg : goodD L with
  | false =>
    rw [hg] at CG
    have HQ : Hid (Q = (⟨L, z⟩, 3)) := by show _ = _; rw [HS.out, hg]; rfl
    clear HS hg
    go_wp2_with fail
    (with_reducible refine CG.out.mono ?_)
    clear CG c0 c1
    rintro _ V2 ⟨rfl, b2⟩
    have A2 := A0.below b2 A0.lt
    have A3 := A1.below b2 A1.lt
    have b3 := b0.trans (b2.mono b0.size)
    have c0 : V2.cell? ⟨w.heap.size, 0, none⟩ = some (.slice A L.length c) := A2.cell 0
    have c1 : V2.cell? ⟨w.heap.size, 1, none⟩ = some (.int .i64 z) := A2.cell 1
    go_wp2_with (refine wpList_store_row rfl 37 _ _ rfl (w.heap.size + 1) (dkArr L A c z) rfl rfl 37 dkZero A3 (dkInfo _ _ _ _) rfl (dkArr_one _ _ _ _) ?_)
    exact HBad.out _ _ 3 HQ.out A3 b3 rfl rfl rfl
  | true =>
    rw [hg] at CG
    obtain ⟨h4, hris, hall⟩ := (goodD_iff L).1 hg
    go_wp2_with fail
    (with_reducible refine CG.out.mono ?_)
    clear CG c0 c1
    rintro _ V2 ⟨rfl, b2⟩
    have A2 := A0.below b2 A0.lt
    have A3 := A1.below b2 A1.lt
    have b3 := b0.trans (b2.mono b0.size)
    clear A0 A1 b0 b2
    have c0 : V2.cell? ⟨w.heap.size, 0, none⟩ = some (.slice A L.length c) := A2.cell 0
    have c1 : V2.cell? ⟨w.heap.size, 1, none⟩ = some (.int .i64 z) := A2.cell 1
    cases hz0 : z == 0
    case true =>
      have HQ : Hid (Q = (⟨L, z⟩, 12)) := by show _ = _; rw [HS.out, hg, if_pos (eq_of_beq hz0)]; rfl
      clear HS hg
      go_wp2_with (refine wpList_store_row rfl 37 _ _ rfl (w.heap.size + 1) (dkArr L A c z) rfl rfl 37 dkZero A3 (dkInfo _ _ _ _) rfl (dkArr_one _ _ _ _) ?_)
      exact HBad.out _ _ 12 HQ.out A3 b3 rfl rfl rfl
    have HQ : Hid (Q = okP ⟨L, z⟩ Y) := by show _ = _; rw [HS.out, if_neg (by rw [hg]; decide), if_neg (fun e => by rw [e] at hz0; cases hz0)]
    clear HS hg
    have C1 := Lib.hid (CopyDisk_any L A c z V2 (hP.up b3) hl)
    go_wp2_with fail
    (with_reducible refine C1.out.mono ?_)
    clear C1 c0 c1
    rintro _ V3 ⟨Ac, cc, rfl, hFc, hcc, b2⟩
    replace A2 := A2.below b2 A2.lt
    replace A3 := A3.below b2 A3.lt
    replace b3 := b3.trans (b2.mono b3.size)
    clear b2
    have bb : Below V3.heap.size V3 ((V3.alloc (.cells dkZero 37)).setRow V3.heap.size (dkArr L Ac cc z)) := below_setRow ((Below.refl _ _).alloc (Nat.le_refl _) _) (Nat.le_refl _) _
    have AX : Arr ((V3.alloc (.cells dkZero 37)).setRow V3.heap.size (dkArr L Ac cc z)) V3.heap.size 37 (dkArr L Ac cc z) := (Arr.new _ _ _).row _
    have hq1 := A3.lt
    go_upto_region 6 with (refine wpList_store_row rfl 37 _ _ rfl V3.heap.size (dkArr L Ac cc z) rfl rfl 37 dkZero (Arr.new V3 _ _) (dkInfo _ _ _ _) rfl (dkArr_one _ _ _ _) ?_)
    refine wp_forget (fun W => Arr W V3.heap.size 37 (dkArr L Ac cc z) ∧ Arr W w.heap.size 37 (dkArr L A c z) ∧ Arr W (w.heap.size + 1) 37 dkZero ∧ Fls W W.heap.size Ac L ∧ Below w.heap.size w W) (by exact ⟨AX, A2.below bb A2.lt, A3.below bb A3.lt, hFc.up bb, b3.trans (bb.mono b3.size)⟩) ?_
    clear AX bb A2 A3 b3 hFc
    generalize V3.heap.size = q at *
    rintro V4 ⟨AX, A2, A3, hFc, b3⟩
    have d1 : V4.cell? ⟨q, 1, none⟩ = some (.int .i64 z) := AX.cell 1
    have x1 := AX.free 1
    have AY : Arr (V4.setCell ⟨q, 1, none⟩ (.int .i64 (z - 1))) q 37 (dkArr L Ac cc (z - 1)) := AX.put 1 (.int .i64 (z - 1))
    have kk : V4.grownBy (V4.setCell ⟨q, 1, none⟩ (.int .i64 (z - 1))) (some q) := gb_set _ _ _
    have hqq : w.heap.size + 1 < q := hq1
    have hFy := fls_cell (i := 1) (u := .int .i64 (z - 1)) hFc AX
    by_cases hpos : 0 < z
    case' pos =>
      have hb : burnt z = z - 1 := if_pos hpos
      go_upto_region 8 with fail
      refine wp_forget (fun W => Arr W q 37 (dkArr L Ac cc (burnt z)) ∧ Arr W w.heap.size 37 (dkArr L A c z) ∧ Arr W (w.heap.size + 1) 37 dkZero ∧ Fls W W.heap.size Ac L ∧ Below w.heap.size w W) (by rw [hb]; exact ⟨AY, A2.kept kk (fun e => by have := Option.some.inj e; omega), A3.kept kk (fun e => by have := Option.some.inj e; omega), hFy, below_gb b3 kk (by omega) b3.size⟩) ?_
    case' neg =>
      have hb : burnt z = z := if_neg hpos
      go_upto_region 8 with fail
      refine wp_forget (fun W => Arr W q 37 (dkArr L Ac cc (burnt z)) ∧ Arr W w.heap.size 37 (dkArr L A c z) ∧ Arr W (w.heap.size + 1) 37 dkZero ∧ Fls W W.heap.size Ac L ∧ Below w.heap.size w W) (by rw [hb]; exact ⟨AX, A2, A3, hFc, b3⟩) ?_
    all_goals
      clear AX AY A2 A3 b3 hFc hFy d1 x1 kk
      rintro V5 ⟨AX, A2, A3, hFc, b3⟩
      have c0 : V5.cell? ⟨w.heap.size, 0, none⟩ = some (.slice A L.length c) := A2.cell 0
      have c1 : V5.cell? ⟨w.heap.size, 1, none⟩ = some (.int .i64 z) := A2.cell 1
      have C1 := Lib.hid (at_any L n A c z V5 (hP.up b3) hl1 hris)
      obtain ⟨y, hy⟩ : ∃ y, y = burnt z := ⟨_, rfl⟩
      rw [← hy] at AX
      have HB := Lib.hid hy
      clear hy hb
      have hca := at_cases hris n
      generalize atP n L = p at *
      go_wp2_with fail
      (with_reducible refine C1.out.mono ?_)
      clear C1 c0 c1
      rintro _ V6 ⟨rfl, b2⟩
      replace A2 := A2.below b2 A2.lt
      replace A3 := A3.below b2 A3.lt
      replace AX := AX.below b2 AX.lt
      replace hFc := hFc.up b2
      replace b3 := b3.trans (b2.mono b3.size)
      clear b2
      have c0 : V6.cell? ⟨w.heap.size, 0, none⟩ = some (.slice A L.length c) := A2.cell 0
      have c1 : V6.cell? ⟨w.heap.size, 1, none⟩ = some (.int .i64 z) := A2.cell 1
      rcases hca with ⟨hgn, rfl⟩ | ⟨k, f, hgs, hk, rfl⟩
      · have HQ7 : Hid (Q = (⟨L, z⟩, 7)) := by show _ = _; rw [HQ.out, HY.out, hgn]; rfl
        clear HQ HY
        go_wp2_with (refine wpList_store_row rfl 37 _ _ rfl (w.heap.size + 1) (dkArr L A c z) rfl rfl 37 dkZero A3 (dkInfo _ _ _ _) rfl (dkArr_one _ _ _ _) ?_)
        exact HBad.out _ _ 7 HQ7.out A3 b3 rfl rfl rfl
      · have HQ0 : Hid (Q = (⟨del n L, y⟩, 0)) := by show _ = _; rw [HQ.out, HY.out, hgs, HB.out]; rfl
        have hlt := (List.getElem?_eq_some_iff.1 hk).1
        have HM := Lib.hid (del_at n L _ k f hris hk (getF_name hgs).1)
        clear HQ HY HB hgs
        generalize del n L = M at *
        have hj0 : ¬ (k : Int) < 0 := by omega
        have hj1 : (0 : Int) ≤ (k : Int) + 1 := by omega
        have hj2 : (k : Int) + 1 ≤ L.length := by omega
        have hj3 : (L.length : Int) ≤ c := by omega
        have hj4 : (k : Int) ≤ c := by omega
        have hj5 : ((k : Int) + 1).toNat = k + 1 := by omega
        have hj6 : (k : Int) ≤ L.length := by omega
        have hwr : IntKind.i64.wrap ((k : Int) + 1) = (k : Int) + 1 := IntWalk.i64_in _ (by omega)
        obtain ⟨ad, rfl, hbl, _⟩ := hP k f hk
        go_upto_region 12 with fail
        refine wp_forget (fun W => Arr W q 37 (dkArr L Ac cc y) ∧ Arr W w.heap.size 37 (dkArr L (some ad) c z) ∧ Arr W (w.heap.size + 1) 37 dkZero ∧ Below w.heap.size w W) (by exact ⟨AX, A2, A3, b3⟩) ?_
        clear AX A2 A3 b3 hFc c0 c1
        rintro W ⟨AX, A2, A3, b3⟩
        by_cases hcap : c = k + 1
        case' pos =>
          subst hcap
          have hln : L.length = k + 1 := by omega
          have hj7 : (k : Int) ≤ (k : Int) + 1 := by omega
          have hj8 : ¬ k + 1 = 0 := by omega
          have hj9 : (k : Int) + 1 ≤ 140737488355328 := by omega
          have hfl : flCells (L.drop (k + 1)) = [] := List.eq_nil_of_length_eq_zero (by rw [flCells_len, List.length_drop]; omega)
          have c0 : W.drew.cell? ⟨w.heap.size, 0, none⟩ = some (.slice (some ad) L.length (k + 1)) := A2.cell 0
          rw [hln] at c0
          have HN1 : Hid (News W.drew (some ad) k (flCells (L.take k))) := by
            have := ((hP.up b3.drew).take k).news
            rw [List.length_take, Nat.min_eq_left (by omega)] at this
            exact this
          go_region_law (first
            | (refine step_app _ rfl _ _ 35 rfl W.heap.size 68 si _ 3 48 Tryz.underlying35 Hsi.out Sz0.out Sz1.out Sz2.out rfl (by decide) _ _ _ rfl (own_nil _ _ _ _) (some ad) k (k + 1) (flCells (L.take k)) rfl (by rw [flCells_len, List.length_take, Nat.min_eq_left (by omega)]) HN1.out (flCells_one _) (by unfold maxLen; omega) (by omega) (Nat.le_refl _) ?_
               intro v1 w1 hown1 hg1
               rw [Nat.zero_add, List.nil_append] at hown1
               have k1 : Below W.heap.size W w1 := ((Below.refl _ W).drew).grown hg1 (Nat.le_refl _) (by intro k hk; cases hk)
               have c1 : w1.cell? ⟨w.heap.size, 0, none⟩ = some (.slice (some ad) L.length (k + 1)) := (A2.below k1 A2.lt).cell 0
               rw [hln] at c1
               have HN2 : Hid (News w1 (some ad) 0 []) := ⟨fun _ => rfl, fun ad' e j u hu => by cases hu⟩)
            | (refine step_app _ rfl _ _ 35 rfl W.heap.size 68 si _ 3 48 Tryz.underlying35 Hsi.out Sz0.out Sz1.out Sz2.out rfl (by decide) _ _ _ rfl hown1 (some ad) 0 0 [] rfl rfl HN2.out (fun u hu => by cases hu) (by unfold maxLen; omega) (by omega) k1.size ?_
               intro v2 w2 hown2 hg2
               have k2 : Below W.heap.size W w2 := k1.grown hg2 k1.size (fun g hg => own_row_ge hown1 g hg)
               have hown3 := own_cut hlt (by rw [hln, hfl, Nat.sub_self]; exact hown2)
               rw [← HM.out] at hown3
               obtain ⟨A9, c9, rfl, hc9, hF9⟩ := own_files hown3
               have B1 := AX.below k2 AX.lt
               have x0 : w2.cell? ⟨q, 0, none⟩ = some (.slice Ac L.length cc) := B1.cell 0
               have x1 := B1.free 0))
        case' neg =>
          have hcap2 : ¬ c - (k + 1) = 0 := by omega
          have c0 : W.drew.cell? ⟨w.heap.size, 0, none⟩ = some (.slice (some ad) L.length c) := A2.cell 0
          have HN1 : Hid (News W.drew (some ad) k (flCells (L.take k))) := by
            have := ((hP.up b3.drew).take k).news
            rw [List.length_take, Nat.min_eq_left (by omega)] at this
            exact this
          go_region_law (first
            | (refine step_app _ rfl _ _ 35 rfl W.heap.size 68 si _ 3 48 Tryz.underlying35 Hsi.out Sz0.out Sz1.out Sz2.out rfl (by decide) _ _ _ rfl (own_nil _ _ _ _) (some ad) k c (flCells (L.take k)) rfl (by rw [flCells_len, List.length_take, Nat.min_eq_left (by omega)]) HN1.out (flCells_one _) (by unfold maxLen; omega) (by omega) (Nat.le_refl _) ?_
               intro v1 w1 hown1 hg1
               rw [Nat.zero_add, List.nil_append] at hown1
               have k1 : Below W.heap.size W w1 := ((Below.refl _ W).drew).grown hg1 (Nat.le_refl _) (by intro k hk; cases hk)
               have c1 : w1.cell? ⟨w.heap.size, 0, none⟩ = some (.slice (some ad) L.length c) := (A2.below k1 A2.lt).cell 0
               have HN2 : Hid (News w1 (some (ad.add ((k + 1) * 3))) (L.length - (k + 1)) (flCells (L.drop (k + 1)))) := by
                 have := ((hP.up (b3.trans (k1.mono b3.size))).drop (k + 1)).news
                 rw [List.length_drop] at this
                 exact this)
            | (refine step_app _ rfl _ _ 35 rfl W.heap.size 68 si _ 3 48 Tryz.underlying35 Hsi.out Sz0.out Sz1.out Sz2.out rfl (by decide) _ _ _ rfl hown1 (some (ad.add ((k + 1) * 3))) (L.length - (k + 1)) (c - (k + 1)) (flCells (L.drop (k + 1))) rfl (by rw [flCells_len, List.length_drop]) HN2.out (flCells_one _) (by unfold maxLen; omega) (by omega) k1.size ?_
               intro v2 w2 hown2 hg2
               have k2 : Below W.heap.size W w2 := k1.grown hg2 k1.size (fun g hg => own_row_ge hown1 g hg)
               have hown3 := own_cut hlt (hown2)
               rw [← HM.out] at hown3
               obtain ⟨A9, c9, rfl, hc9, hF9⟩ := own_files hown3
               have B1 := AX.below k2 AX.lt
               have x0 : w2.cell? ⟨q, 0, none⟩ = some (.slice Ac L.length cc) := B1.cell 0
               have x1 := B1.free 0))
        all_goals
          have AY : Arr (w2.setCell ⟨q, 0, none⟩ (.slice A9 M.length c9)) q 37 (dkArr M A9 c9 y) := B1.put 0 (.slice A9 M.length c9)
          have kk : w2.grownBy (w2.setCell ⟨q, 0, none⟩ (.slice A9 M.length c9)) (some q) := gb_set _ _ _
          go_upto_region 39 with fail
          refine wp_forget (fun W => Arr W q 37 (dkArr M A9 c9 y) ∧ Arr W (w.heap.size + 1) 37 dkZero ∧ Fls W W.heap.size A9 M ∧ Below w.heap.size w W) (by exact ⟨AY, (A3.below k2 A3.lt).kept kk (fun e => by have := Option.some.inj e; omega), fls_cell hF9 B1, below_gb (b3.trans (k2.mono b3.size)) kk (by omega) (b3.trans (k2.mono b3.size)).size⟩) ?_
          clear AX AY A2 A3 b3 hF9 B1 x0 x1 kk hown1 hown2 hown3 hg1 hg2 k1 k2 c0 c1
          rintro W ⟨AX, A3, hFb, b3⟩
          have d0 : W.cell? ⟨q, 0, none⟩ = some (.slice A9 M.length c9) := AX.cell 0
          have d1 : W.cell? ⟨q, 1, none⟩ = some (.int .i64 y) := AX.cell 1
          go_wp2_with (refine wpList_store_row rfl 37 _ _ rfl (w.heap.size + 1) (dkArr M A9 c9 y) rfl rfl 37 dkZero A3 (dkInfo _ _ _ _) rfl (dkArr_one _ _ _ _) ?_)
          rw [HQ0.out]
          exact HRet.out _ _ ⟨M, y⟩ A9 c9 0 (A3.row _) (below_setRow b3 (show w.heap.size ≤ w.heap.size + 1 by omega) _) (hFb.row A3 _) hc9 rfl rfl rfl
end Go.Proofs.YtmikfmcgddmplaaGreatDoor

/- ref.SameStrings: its contract. -/
namespace Go.Proofs.YtmikfmcgddmplaaGreatDoor
open Go.RowKit

set_option maxRecDepth 100000 in
set_option maxHeartbeats 1000000 in
theorem RefStrings_any (T U : List ByteArray) (hl : T.length ≤ 281474976710656) (hu : U.length ≤ 281474976710656) (A A' : Option Addr) (c c' : Nat) (w : World) (hP : Txs w w.heap.size A T) (hQ : Txs w w.heap.size A' U) :
    Calls Tryz.prog 9 #[.slice A T.length c, .slice A' U.length c'] w fun e w' => e = .returned (.bool (decide (T = U))) ∧ Below w.heap.size w w' := by
  by_cases hlen : T.length = U.length
  · have hlb : ((T.length : Int) != U.length) = false := by rw [hlen]; simp
    rw [hlen] at hlb ⊢
    go_enter Tryz.func9, Tryz.ntmps9
    go_wp2_with fail
    go_loopw [13] (fun i wr => ∃ k : Nat, k ≤ U.length ∧ i = .int .i64 (k : Int) ∧ T.take k = U.take k ∧ Below w.heap.size w wr) (fun i _ => U.length - (intOf i).toNat)
    case atStart => exact ⟨0, Nat.zero_le _, rfl, rfl, Below.refl _ _⟩
    case round =>
      obtain ⟨k, hk, rfl, ht, hB⟩ := hrel
      have HT := Lib.hid ht
      clear ht
      by_cases hlt : k < U.length
      · have hlt2 : k < T.length := by omega
        obtain ⟨ad, rfl, hbl, h0⟩ := hP k T[k] (List.getElem?_eq_getElem hlt2)
        obtain ⟨ad2, rfl, hbl2, h1⟩ := hQ k U[k] (List.getElem?_eq_getElem hlt)
        have g0 := (hB.cell hbl).trans h0
        have g1 := (hB.cell hbl2).trans h1
        have hi : (k : Int) < U.length := by omega
        have HS := Lib.hid (fun e => take_eq_step HT.out hlt2 hlt e)
        have HN : Hid (T[k] ≠ U[k] → T ≠ U) := fun h e => by subst e; exact h rfl
        clear h0 h1 hP hQ HT
        generalize T[k] = x at *
        generalize U[k] = y at *
        cases hq : x.toList == y.toList
        · have hne : Hid (decide (T = U) = false) := decide_eq_false (HN.out (fun e => by rw [e] at hq; simp at hq))
          clear HS HN hlb
          go_wp2_with fail
          go_quiet (fail)
          go_wp2_with fail
          go_ret
          exact ⟨by rw [hne.out]; rfl, below_drewN hB _⟩
        · have HS2 := Lib.hid (HS.out ((eqB_iff x y).1 hq))
          clear HS HN hlb
          go_wp2_with fail
          go_quiet (fail)
          go_wp2_with fail
          refine ⟨⟨k + 1, hlt, by go_num, HS2.out, below_drewN hB _⟩, by simp [intOf]; omega⟩
      · obtain rfl : k = U.length := by omega
        have hi : ¬ (U.length : Int) < U.length := by omega
        have heq : Hid (decide (T = U) = true) := decide_eq_true (by have := HT.out; rwa [List.take_length, List.take_of_length_le (by omega)] at this)
        clear hP hQ HT hlb
        go_wp2_with fail
        go_ret
        exact ⟨by rw [heq.out]; rfl, hB⟩
  · have hlb : ((T.length : Int) != U.length) = true := by rw [bne_iff_ne]; omega
    have hne : Hid (decide (T = U) = false) := decide_eq_false (fun e => hlen (by rw [e]))
    clear hP hQ hlen
    go_enter Tryz.func9, Tryz.ntmps9
    go_wp2_with fail
    go_ret
    exact ⟨by rw [hne.out]; rfl, Below.refl _ _⟩
end Go.Proofs.YtmikfmcgddmplaaGreatDoor
