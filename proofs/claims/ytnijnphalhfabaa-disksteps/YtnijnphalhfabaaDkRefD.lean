/- ref.put: its contract. -/
import Derived.Test.YtnijnphalhfabaaDkRefC
namespace Go.Proofs.Ytnijnphalhfabaa
open Go.RowKit

/-- a round of put: has the file been laid, and the files so far -/
def puS (f : Fl) (s : Bool × List Fl) (x : Fl) : Bool × List Fl := if x.name = f.name then s else if !s.1 && ltB f.name x.name then (true, s.2 ++ [f] ++ [x]) else (s.1, s.2 ++ [x])
def puE (f : Fl) (s : Bool × List Fl) : List Fl := if s.1 then s.2 else s.2 ++ [f]
theorem puS_done (f : Fl) : ∀ (L out : List Fl), (∀ x ∈ L, x.name ≠ f.name) → L.foldl (puS f) (true, out) = (true, out ++ L)
  | [], out, _ => by simp
  | x :: l, out, h => by
    have hx : x.name ≠ f.name := h x (by simp)
    have e : puS f (true, out) x = (true, out ++ [x]) := by unfold puS; rw [if_neg hx]; simp
    rw [List.foldl_cons, e, puS_done f l _ (fun y hy => h y (by simp [hy]))]
    simp
theorem putL_first (f : Fl) (L : List Fl) (h : ∀ x ∈ L, ltB f.name x.name = true) : putL f L = f :: L := by
  cases L with
  | nil => rfl
  | cons x l =>
    have hx := h x (by simp)
    unfold putL
    rw [ltB_asym hx, if_neg (by simp), if_neg (fun e => ltB_ne hx e.symm)]
theorem puE_fold (f : Fl) : ∀ (L out : List Fl) (b : ByteArray), ris b L → puE f (L.foldl (puS f) (false, out)) = out ++ putL f L
  | [], out, _, _ => rfl
  | x :: l, out, b, hr => by
    rw [List.foldl_cons]
    rcases ltB_tri x.name f.name with h | h | h
    · have e : puS f (false, out) x = (false, out ++ [x]) := by unfold puS; rw [if_neg (ltB_ne h), ltB_asym h]; simp
      have e2 : putL f (x :: l) = x :: putL f l := by rw [putL, if_pos h]
      rw [e, puE_fold f l _ x.name hr.2, e2]
      simp
    · have e : puS f (false, out) x = (false, out) := by unfold puS; rw [if_pos h]
      have hf : ∀ y ∈ l, ltB f.name y.name = true := fun y hy => by rw [← h]; exact ris_lt hr.2 y hy
      have e2 : putL f (x :: l) = f :: l := by rw [putL, h, ltB_irr, if_neg (by simp), if_pos rfl]
      rw [e, puE_fold f l _ x.name hr.2, putL_first f l hf, e2]
    · have e : puS f (false, out) x = (true, out ++ [f] ++ [x]) := by unfold puS; rw [if_neg (fun e => ltB_ne h e.symm), h]; simp
      have hf : ∀ y ∈ x :: l, ltB f.name y.name = true := fun y hy => by
        rcases List.mem_cons.1 hy with rfl | hy
        · exact h
        · exact ltB_trans h (ris_lt hr.2 y hy)
      rw [e, puS_done f l _ (fun y hy e => ltB_ne (hf y (by simp [hy])) e.symm), putL_first f _ hf]
      simp [puE]
theorem own_hi {w : World} {base : Nat} {e : TypeId} {size n : Nat} {v : Value} {xs : List Value} (h : w.ownsRow base e size v n xs) (k : Nat) (hk : v.ownBlock = some k) : k < w.heap.size := by
  rcases h.2 with ⟨rfl, _⟩ | ⟨g, cap, cur, rfl, hb, hg, _⟩
  · cases hk
  · cases hk; exact (Array.getElem?_eq_some_iff.1 hg).1
/-- where ref.put stands -/
def PuRel (L : List Fl) (f : Fl) (w : World) (v b i : Value) (wr : World) : Prop :=
  ∃ (k : Nat) (d : Bool) (T : List Fl) (v0 : Value), v0 = v ∧ k ≤ L.length ∧ i = .int .i64 (k : Int) ∧ b = .bool d ∧ (L.take k).foldl (puS f) (false, []) = (d, T) ∧ T.length ≤ 2 * k ∧ Arr wr w.heap.size 50 (flArr f) ∧
    wr.ownsRow (w.heap.size + 1) 50 3 v T.length (flCells T) ∧ Below w.heap.size w wr
theorem app_row {w' : World} {base : Nat} {v' : Value} {T : List Fl} {x : Fl} (h : w'.ownsRow base 50 3 v' (T.length + 1) (flCells T ++ (flArr x).toList)) :
    w'.ownsRow base 50 3 v' (T ++ [x]).length (flCells (T ++ [x])) := by
  rw [List.length_append, flCells_app]
  simp only [flCells, List.append_nil, List.length_singleton]
  exact h
/-- behind an append of a file: what stands -/
theorem app_stand {w W w' : World} {v v' : Value} {T : List Fl} {f x : Fl} {q : Nat} (hown : W.ownsRow (q + 1) 50 3 v T.length (flCells T)) (hA : Arr W q 50 (flArr f)) (hb : Below w.heap.size w W) (hq : w.heap.size ≤ q)
    (h : w'.ownsRow (q + 1) 50 3 v' (T.length + 1) (flCells T ++ (flArr x).toList)) (hg : (W.alloc (.cells (flArr x) 50)).grownBy w' v.ownBlock) :
    w'.ownsRow (q + 1) 50 3 v' (T ++ [x]).length (flCells (T ++ [x])) ∧ Arr w' q 50 (flArr f) ∧ Below w.heap.size w w' ∧
    ∀ (p : Nat) (y : Fl), Arr W p 50 (flArr y) → (∀ g, v.ownBlock = some g → g ≠ p) → Arr w' p 50 (flArr y) := by
  have bq : Below W.heap.size W (W.alloc (.cells (flArr x) 50)) := (Below.refl _ _).alloc (Nat.le_refl _) _
  have hne : ¬ some q = v.ownBlock := fun e => by have := own_row_ge hown _ e.symm; omega
  refine ⟨app_row h, (hA.below bq hA.lt).kept hg hne, ?_, fun p y hy hp => (hy.below bq hy.lt).kept hg (fun e => hp p e.symm rfl)⟩
  exact (hb.trans (bq.mono hb.size)).trans ((Below.refl w.heap.size (W.alloc (.cells (flArr x) 50))).grown hg (Nat.le_trans hb.size bq.size) (fun g hg => by have := own_row_ge hown g hg; omega))
set_option maxRecDepth 100000 in
set_option maxHeartbeats 2000000 in
theorem RefPut_any (L : List Fl) (f : Fl) (A : Option Addr) (c : Nat) (w : World) (hP : Fls w w.heap.size A L) (hl : L.length ≤ 400) (hr : ris ⟨#[]⟩ L) :
    Calls Try.prog 44 #[.slice A L.length c, .agg (flArr f)] w fun e w' => ∃ A' c', e = .returned (.slice A' (putL f L).length c') ∧ (putL f L).length ≤ c' ∧ Fls w' w'.heap.size A' (putL f L) ∧ Below w.heap.size w w' := by
  obtain ⟨si, hsi, sz0, sz1, sz2⟩ := info_parts info_file
  have Hsi := Lib.hid hsi
  have Sz0 := Lib.hid sz0
  have Sz1 := Lib.hid sz1
  have Sz2 := Lib.hid sz2
  clear hsi sz0 sz1 sz2
  have HE := Lib.hid (puE_fold f L [] _ hr)
  rw [List.nil_append] at HE
  clear hr
  generalize putL f L = M at *
  have A0 : Arr (w.alloc (.cells (flArr f) 50)) w.heap.size 50 (flArr f) := Arr.new _ _ _
  have b0 : Below w.heap.size w (w.alloc (.cells (flArr f) 50)) := (Below.refl _ _).alloc (Nat.le_refl _) _
  go_enter Try.func44, Try.ntmps44
  go_upto_region 1 with fail
  refine wp_forget (fun V => Arr V w.heap.size 50 (flArr f) ∧ Below w.heap.size w V) (by exact ⟨A0, b0⟩) ?_
  clear A0 b0
  rintro V ⟨A0, b0⟩
  go_wp2_with fail
  go_loopw [5, 6, 11] (fun v b i wr => PuRel L f w v b i wr) (fun _ _ i _ => L.length - (intOf i).toNat)
  case atStart => exact ⟨0, false, [], _, rfl, Nat.zero_le _, rfl, rfl, rfl, Nat.zero_le _, A0, own_nil _ _ _ _, b0⟩
  case round =>
    clear A0 b0
    obtain ⟨k, d, T, v, rfl, hk, rfl, rfl, hfold, hT, A1, own, bel⟩ := hrel
    by_cases hlt : k < L.length
    · have hj : (k : Int) < L.length := by omega
      have hx : L[k]? = some L[k] := List.getElem?_eq_getElem hlt
      obtain ⟨ad, rfl, hbl, h0', h1, h2⟩ := hP k L[k] hx
      have g0 := (bel.cell hbl).trans h0'
      have g1 := (bel.cell (p := ⟨(ad.add (k * 3)).block, (ad.add (k * 3)).off + 1, none⟩) hbl).trans h1
      have g2 := (bel.cell (p := ⟨(ad.add (k * 3)).block, (ad.add (k * 3)).off + 2, none⟩) hbl).trans h2
      have HT : Hid ((L.take (k + 1)).foldl (puS f) (false, []) = puS f (d, T) L[k]) := by show _ = _; rw [List.take_succ_eq_append_getElem hlt, List.foldl_append, hfold]; rfl
      clear h0' h1 h2 hx hfold
      generalize L[k] = x at *
      have HS : Hid (puS f (d, T) x = if x.name = f.name then (d, T) else if !d && ltB f.name x.name then (true, T ++ [f] ++ [x]) else (d, T ++ [x])) := rfl
      have hpl := A1.lt
      have hge := bel.size
      have hin : ∀ g, v.ownBlock = some g → g < wr.heap.size := own_hi own
      have HIn := Lib.hid hin
      clear hin
      have bb : Below wr.heap.size wr ((wr.alloc (.cells flZero 50)).setRow wr.heap.size (flArr x)) := below_setRow ((Below.refl _ _).alloc (Nat.le_refl _) _) (Nat.le_refl _) _
      have AX : Arr ((wr.alloc (.cells flZero 50)).setRow wr.heap.size (flArr x)) wr.heap.size 50 (flArr x) := (Arr.new _ _ _).row _
      go_upto_region 6 with (refine wpList_store_row rfl 50 _ _ rfl wr.heap.size (flArr x) rfl rfl 50 flZero (Arr.new wr _ _) (flInfo _) rfl (flArr_one _) ?_)
      refine wp_forget (fun W => Arr W w.heap.size 50 (flArr f) ∧ Arr W wr.heap.size 50 (flArr x) ∧ W.ownsRow (w.heap.size + 1) 50 3 v T.length (flCells T) ∧ Below w.heap.size w W) (by exact ⟨A1.below bb A1.lt, AX, own_below own bb, bel.trans (bb.mono bel.size)⟩) ?_
      clear bb AX A1 bel g0 g1 g2 own
      generalize wr.heap.size = p at *
      rintro W ⟨A1, AX, own, bel⟩
      have e0 : W.cell? ⟨p, 0, none⟩ = some (.string x.name) := AX.cell 0
      have e1 : W.cell? ⟨p, 1, none⟩ = some (.string x.safe) := AX.cell 1
      have e2 : W.cell? ⟨p, 2, none⟩ = some (.string x.tail) := AX.cell 2
      have f0 : W.cell? ⟨w.heap.size, 0, none⟩ = some (.string f.name) := A1.cell 0
      have f1 : W.cell? ⟨w.heap.size, 1, none⟩ = some (.string f.safe) := A1.cell 1
      have f2 : W.cell? ⟨w.heap.size, 2, none⟩ = some (.string f.tail) := A1.cell 2
      cases hq : x.name.toList == f.name.toList with
      | true =>
        have hnm : x.name = f.name := (sameB_iff _ _).1 hq
        have HR' : Hid (PuRel L f w v (.bool d) (.int .i64 ((k : Int) + 1)) W) := ⟨k + 1, d, T, v, rfl, hlt, by rw [Int.natCast_add]; rfl, rfl, by rw [HT.out, HS.out, if_pos hnm], by omega, A1, own, bel⟩
        clear HT HS hnm own A1 AX bel
        go_wp2_with fail
        go_roundw
        case rel => exact HR'.out
        case measure => simp [intOf]; omega
      | false =>
        have hne : x.name ≠ f.name := fun e => by rw [e] at hq; simp at hq
        have HApp : Hid (∀ (W : World) (v : Value) (T : List Fl) (x : Fl), W.ownsRow (w.heap.size + 1) 50 3 v T.length (flCells T) → w.heap.size < W.heap.size → (W.alloc (.cells (flArr x) 50)).ownsRow (w.heap.size + 1) 50 3 v T.length (flCells T) ∧ News (W.alloc (.cells (flArr x) 50)) (some ⟨W.heap.size, 0, none⟩) 1 (flArr x).toList ∧ w.heap.size + 1 ≤ (W.alloc (.cells (flArr x) 50)).heap.size) := fun W v T x h hlt => by
          have bq : Below W.heap.size W (W.alloc (.cells (flArr x) 50)) := (Below.refl _ _).alloc (Nat.le_refl _) _
          exact ⟨own_below h bq, x_news (Arr.new _ _ _), by have := bq.size; omega⟩
        cases d with
        | true =>
          obtain ⟨o9, n9, hbq⟩ := HApp.out W v T x own A1.lt
          have HOw := Lib.hid o9
          have HNw := Lib.hid n9
          clear o9 n9
          go_wp2_with (at_builtin; refine wpList_app _ rfl _ _ 22 rfl (w.heap.size + 1) 50 si _ 3 48 Try.underlying22 Hsi.out Sz0.out Sz1.out Sz2.out rfl (by decide) _ _ _ rfl HOw.out (some ⟨W.heap.size, 0, none⟩) 1 1 (flArr x).toList rfl rfl HNw.out (flArr_ones _) (by unfold maxLen; omega) (by omega) hbq ?_)
          intro v2 w2 h1 h2
          obtain ⟨own2, A2, bel2, _⟩ := app_stand own A1 bel (Nat.le_refl _) h1 h2
          have HR' : Hid (PuRel L f w v2 (.bool true) (.int .i64 ((k : Int) + 1)) w2) := ⟨k + 1, true, T ++ [x], v2, rfl, hlt, by rw [Int.natCast_add]; rfl, rfl, by rw [HT.out, HS.out, if_neg hne]; rfl, by simp only [List.length_append, List.length_singleton]; omega, A2, own2, bel2⟩
          clear HT HS own2 A2 bel2 h1 h2 HOw HNw hbq
          go_wp2_with fail
          go_roundw
          case rel => exact HR'.out
          case measure => simp [intOf]; omega
        | false =>
          cases hgt : Op.bytesLess f.name.toList x.name.toList with
          | false =>
            have hgt2 : ltB f.name x.name = false := hgt
            have hgt3 : Op.bytesLess x.name.toList f.name.toList = true := by
              rcases ltB_tri x.name f.name with h | h | h
              · exact h
              · exact (hne h).elim
              · rw [hgt2] at h; cases h
            obtain ⟨o9, n9, hbq⟩ := HApp.out W v T x own A1.lt
            have HOw := Lib.hid o9
            have HNw := Lib.hid n9
            clear o9 n9
            go_wp2_with (at_builtin; refine wpList_app _ rfl _ _ 22 rfl (w.heap.size + 1) 50 si _ 3 48 Try.underlying22 Hsi.out Sz0.out Sz1.out Sz2.out rfl (by decide) _ _ _ rfl HOw.out (some ⟨W.heap.size, 0, none⟩) 1 1 (flArr x).toList rfl rfl HNw.out (flArr_ones _) (by unfold maxLen; omega) (by omega) hbq ?_)
            intro v2 w2 h1 h2
            obtain ⟨own2, A2, bel2, _⟩ := app_stand own A1 bel (Nat.le_refl _) h1 h2
            have HR' : Hid (PuRel L f w v2 (.bool false) (.int .i64 ((k : Int) + 1)) w2) := ⟨k + 1, false, T ++ [x], v2, rfl, hlt, by rw [Int.natCast_add]; rfl, rfl, by rw [HT.out, HS.out, if_neg hne, hgt2]; rfl, by simp only [List.length_append, List.length_singleton]; omega, A2, own2, bel2⟩
            clear HT HS own2 A2 bel2 h1 h2 HOw HNw hbq
            go_wp2_with fail
            go_roundw
            case rel => exact HR'.out
            case measure => simp [intOf]; omega
          | true =>
            have hgt2 : ltB f.name x.name = true := hgt
            have hgt3 : Op.bytesLess x.name.toList f.name.toList = false := ltB_asym hgt2
            obtain ⟨o9, n9, hbq⟩ := HApp.out W v T f own A1.lt
            have HOw := Lib.hid o9
            have HNw := Lib.hid n9
            clear o9 n9
            go_wp2_with (at_builtin; refine wpList_app _ rfl _ _ 22 rfl (w.heap.size + 1) 50 si _ 3 48 Try.underlying22 Hsi.out Sz0.out Sz1.out Sz2.out rfl (by decide) _ _ _ rfl HOw.out (some ⟨W.heap.size, 0, none⟩) 1 1 (flArr f).toList rfl rfl HNw.out (flArr_ones _) (by unfold maxLen; omega) (by omega) hbq ?_)
            intro v1 w1 h1 h2
            obtain ⟨own1, A3, bel1, hX⟩ := app_stand own A1 bel (Nat.le_refl _) h1 h2
            have AX1 := hX p x AX (fun g hg => by have := HIn.out g hg; omega)
            clear HOw HNw hbq h1 h2 hX own A1 bel AX e0 e1 e2 f0 f1 f2
            have hT1 : (T ++ [f]).length ≤ 2 * k + 1 := by simp only [List.length_append, List.length_singleton]; omega
            obtain ⟨T1, hT1e⟩ : ∃ T1, T1 = T ++ [f] := ⟨_, rfl⟩
            rw [← hT1e] at own1 hT1
            have HT1 := Lib.hid hT1e
            clear hT1e
            obtain ⟨A9, c9, rfl⟩ := own_slice own1
            have e0 : w1.cell? ⟨p, 0, none⟩ = some (.string x.name) := AX1.cell 0
            have e1 : w1.cell? ⟨p, 1, none⟩ = some (.string x.safe) := AX1.cell 1
            have e2 : w1.cell? ⟨p, 2, none⟩ = some (.string x.tail) := AX1.cell 2
            obtain ⟨o9, n9, hbq⟩ := HApp.out w1 _ T1 x own1 A3.lt
            have HOw := Lib.hid o9
            have HNw := Lib.hid n9
            clear o9 n9
            go_wp2_with (at_builtin; refine wpList_app _ rfl _ _ 22 rfl (w.heap.size + 1) 50 si _ 3 48 Try.underlying22 Hsi.out Sz0.out Sz1.out Sz2.out rfl (by decide) _ _ _ rfl HOw.out (some ⟨w1.heap.size, 0, none⟩) 1 1 (flArr x).toList rfl rfl HNw.out (flArr_ones _) (by unfold maxLen; omega) (by omega) hbq ?_)
            intro v2 w2 h1 h2
            obtain ⟨own2, A2, bel2, _⟩ := app_stand own1 A3 bel1 (Nat.le_refl _) h1 h2
            have HR' : Hid (PuRel L f w v2 (.bool true) (.int .i64 ((k : Int) + 1)) w2) := ⟨k + 1, true, T1 ++ [x], v2, rfl, hlt, by rw [Int.natCast_add]; rfl, rfl, by rw [HT.out, HS.out, if_neg hne, hgt2, HT1.out]; rfl, by simp only [List.length_append, List.length_singleton]; omega, A2, own2, bel2⟩
            clear HT HS own2 A2 bel2 h1 h2 HOw HNw hbq
            go_wp2_with fail
            go_roundw
            case rel => exact HR'.out
            case measure => simp [intOf]; omega
    · obtain rfl : k = L.length := by omega
      have hj : ¬ (L.length : Int) < L.length := by omega
      rw [List.take_length] at hfold
      rw [hfold] at HE
      cases d with
      | true =>
        obtain rfl : T = M := HE.out
        obtain ⟨A9, c9, rfl, hc9, hF9⟩ := own_files own
        clear HE
        go_wp2_with fail
        go_ret
        exact ⟨A9, c9, rfl, hc9, hF9, bel⟩
      | false =>
        have hM : T ++ [f] = M := HE.out
        have f0 : wr.cell? ⟨w.heap.size, 0, none⟩ = some (.string f.name) := A1.cell 0
        have f1 : wr.cell? ⟨w.heap.size, 1, none⟩ = some (.string f.safe) := A1.cell 1
        have f2 : wr.cell? ⟨w.heap.size, 2, none⟩ = some (.string f.tail) := A1.cell 2
        have bq : Below wr.heap.size wr (wr.alloc (.cells (flArr f) 50)) := (Below.refl _ _).alloc (Nat.le_refl _) _
        have HOw := Lib.hid (own_below own bq)
        have HNw : Hid (News (wr.alloc (.cells (flArr f) 50)) (some ⟨wr.heap.size, 0, none⟩) 1 (flArr f).toList) := x_news (Arr.new _ _ _)
        have hbq : w.heap.size + 1 ≤ (wr.alloc (.cells (flArr f) 50)).heap.size := by have := bq.size; have := A1.lt; omega
        go_wp2_with (at_builtin; refine wpList_app _ rfl _ _ 22 rfl (w.heap.size + 1) 50 si _ 3 48 Try.underlying22 Hsi.out Sz0.out Sz1.out Sz2.out rfl (by decide) _ _ _ rfl HOw.out (some ⟨wr.heap.size, 0, none⟩) 1 1 (flArr f).toList rfl rfl HNw.out (flArr_ones _) (by unfold maxLen; omega) (by omega) hbq ?_)
        intro v1 w1 h1 h2
        obtain ⟨own1, A3, bel1, _⟩ := app_stand own A1 bel (Nat.le_refl _) h1 h2
        rw [hM] at own1
        clear HOw HNw hbq h1 h2 own A1 bel HE
        obtain ⟨A9, c9, rfl, hc9, hF9⟩ := own_files own1
        go_wp2_with fail
        go_ret
        exact ⟨A9, c9, rfl, hc9, hF9, bel1⟩
end Go.Proofs.Ytnijnphalhfabaa
