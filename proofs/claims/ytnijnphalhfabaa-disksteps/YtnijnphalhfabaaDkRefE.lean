/- ref.Do 1 (Sync): its contract. -/
import Derived.Test.YtnijnphalhfabaaDkRefD
namespace Go.Proofs.Ytnijnphalhfabaa
open Go.RowKit

theorem dkArr_not (L : List Fl) (A : Option Addr) (c : Nat) (z : Int) (i : Nat) (s : ByteArray) : (dkArr L A c z)[i]? ≠ some (.string s) := by
  intro h
  match i, h with
  | 0, h => simp [dkArr] at h
  | 1, h => simp [dkArr] at h
  | i + 2, h => simp [dkArr] at h
theorem at_cases {L : List Fl} {b : ByteArray} (hr : ris b L) (n : ByteArray) : (getF n L = none ∧ atP n L = -1) ∨ ∃ (k : Nat) (f : Fl), getF n L = some f ∧ L[k]? = some f ∧ atP n L = (k : Int) := by
  cases hg : getF n L with
  | none =>
    refine .inl ⟨rfl, at_no fun k f hk e => ?_⟩
    unfold getF at hg
    exact absurd (decide_eq_true e) (List.find?_eq_none.1 hg f (List.mem_of_getElem? hk))
  | some f =>
    obtain ⟨h1, h2⟩ := getF_name hg
    obtain ⟨k, hk, rfl⟩ := List.getElem_of_mem h2
    exact .inr ⟨k, _, rfl, List.getElem?_eq_getElem hk, at_yes hr (List.getElem?_eq_getElem hk) h1⟩
/-- a number laid into a disk's place -/
theorem fls_cell {W : World} {q i : Nat} {u : Value} {L M : List Fl} {A B : Option Addr} {c : Nat} {z : Int} (hF : Fls W W.heap.size A L) (hA : Arr W q 24 (dkArr M B c z)) : Fls (W.setCell ⟨q, i, none⟩ u) (W.setCell ⟨q, i, none⟩ u).heap.size A L := fun k' x hx => by
  have kk : W.grownBy (W.setCell ⟨q, i, none⟩ u) (some q) := gb_set _ _ _
  obtain ⟨ad, e, hbk, h0, h1, h2⟩ := hF k' x hx
  have hn : ¬ some (ad.add (k' * 3)).block = some q := fun e2 => by
    rw [Option.some.inj e2, hA.cell] at h1
    exact dkArr_not _ _ _ _ _ _ h1
  exact ⟨ad, e, Nat.lt_of_lt_of_le hbk kk.size, kk.cell h0 hn, kk.cell h1 hn, kk.cell h2 hn⟩
/-- what a step comes to whose disk is good and has power -/
def okP (d : Dk) (r : Except Int (List Fl)) : Dk × Int := match r with
  | .error e => (d, e)
  | .ok L => (⟨L, burnt d.fuse⟩, 0)
set_option maxRecDepth 100000 in
set_option maxHeartbeats 2000000 in
theorem RefDo_sync (L : List Fl) (n s : ByteArray) (A : Option Addr) (c : Nat) (z : Int) (hz1 : -9223372036854775808 ≤ z) (hz2 : z ≤ 9223372036854775807) (w : World) (hP : Fls w w.heap.size A L) (hz : Sized L) (hl : L.length * 48 ≤ 140737488355328) (hc : L.length ≤ c) :
    Calls Try.prog 16 #[.int .i64 1, .agg (dkArr L A c z), .string n, .string s] w (StEnd w (stepP ⟨L, z⟩ (syP L n))) := by
  have hl1 : L.length ≤ 140737488355328 := by omega
  have A0 : Arr ((w.alloc (.cells (dkArr L A c z) 24)).alloc (.cells dkZero 24)) w.heap.size 24 (dkArr L A c z) := (Arr.new _ _ _).alloc _
  have A1 : Arr ((w.alloc (.cells (dkArr L A c z) 24)).alloc (.cells dkZero 24)) (w.heap.size + 1) 24 dkZero := Arr.new_at _ _ _ (by simp)
  have b0 : Below w.heap.size w ((w.alloc (.cells (dkArr L A c z) 24)).alloc (.cells dkZero 24)) := ((Below.refl _ _).alloc (Nat.le_refl _) _).alloc (by simp) _
  have HS : Hid (stepP ⟨L, z⟩ (syP L n) = if !goodD L then (⟨L, z⟩, 3) else if z = 0 then (⟨L, z⟩, 12) else okP ⟨L, z⟩ (syP L n)) := rfl
  have HY : Hid (syP L n = match getF n L with | none => .error 7 | some f => .ok (putL ⟨n, f.safe ++ f.tail, ⟨#[]⟩⟩ L)) := rfl
  generalize syP L n = Y at *
  generalize stepP ⟨L, z⟩ Y = Q at *
  go_enter Try.func16, Try.ntmps16
  go_upto_region 1 with fail
  refine wp_forget (fun V => Arr V w.heap.size 24 (dkArr L A c z) ∧ Arr V (w.heap.size + 1) 24 dkZero ∧ Below w.heap.size w V) (by exact ⟨A0, A1, b0⟩) ?_
  clear A0 A1 b0
  rintro V ⟨A0, A1, b0⟩
  have c0 : V.cell? ⟨w.heap.size, 0, none⟩ = some (.slice A L.length c) := A0.cell 0
  have c1 : V.cell? ⟨w.heap.size, 1, none⟩ = some (.int .i64 z) := A0.cell 1
  have CG : Hid (Calls Try.prog 19 #[.agg #[.slice A L.length c, .int .i64 z]] V fun e w' => e = .returned (.bool (goodD L)) ∧ Below V.heap.size V w') := GoodDisk_any L A c z V (hP.up b0) hz hl1
  have HRet : Hid (∀ (W : World) (a : Act) (d : Dk) (A' : Option Addr) (c' : Nat) (e : Int), Arr W (w.heap.size + 1) 24 (dkArr d.files A' c' d.fuse) → Below w.heap.size w W → Fls W W.heap.size A' d.files → d.files.length ≤ c' → a.tmps[8]? = some (.pointer (some ⟨w.heap.size + 1, 0, none⟩)) → a.tmps[9]? = some (.int .i64 e) → a.defers = [] → bodyPost Try.prog Try.f16 (StEnd w (d, e)) .ret a W) := fun W a d A' c' e h1 h2 h3 h4 h5 h6 h7 => by
    refine bodyPost_ret (v := .tuple #[.agg (dkArr d.files A' c' d.fuse), .int .i64 e]) ?_ h7 ⟨A', c', rfl, h3, h4, h2⟩
    rw [results_cell_tmp Try.results16]
    have hld := run_loadVar_row (P := Try.prog) _ _ _ 24 _ _ _ h1 Try.underlying24 rfl (dkInfo _ _ _ _)
    simp [Array.getD_eq_getD_getElem?, h5, h6, asAddr, hld, Result.andThen]
  have HBad : Hid (∀ (W : World) (a : Act) (e : Int), Q = (⟨L, z⟩, e) → Arr W (w.heap.size + 1) 24 dkZero → Below w.heap.size w W → a.tmps[8]? = some (.pointer (some ⟨w.heap.size + 1, 0, none⟩)) → a.tmps[9]? = some (.int .i64 e) → a.defers = [] → bodyPost Try.prog Try.f16 (StEnd w Q) .ret a (W.setRow (w.heap.size + 1) (dkArr L A c z))) := fun W a e hQ h1 h2 h3 h4 h5 => by
    rw [hQ]
    have b4 := below_setRow h2 (show w.heap.size ≤ w.heap.size + 1 by omega) (dkArr L A c z)
    exact HRet.out _ _ ⟨L, z⟩ A c e (h1.row _) b4 (hP.up b4) hc h3 h4 h5
  cases hg : goodD L with
  | false =>
    rw [hg] at CG
    have HQ : Hid (Q = (⟨L, z⟩, 3)) := by show _ = _; rw [HS.out, hg]; rfl
    clear HS hg
    go_wp2_with fail
    (with_reducible refine CG.out.mono ?_)
    clear CG c0 c1
    rintro _ V2 ⟨rfl, b2⟩
    have A2 := A0.below b2 A0.lt
    have A3 := A1.below b2 A1.lt
    have b3 := b0.trans (b2.mono b0.size)
    have c0 : V2.cell? ⟨w.heap.size, 0, none⟩ = some (.slice A L.length c) := A2.cell 0
    have c1 : V2.cell? ⟨w.heap.size, 1, none⟩ = some (.int .i64 z) := A2.cell 1
    go_wp2_with (refine wpList_store_row rfl 24 _ _ rfl (w.heap.size + 1) (dkArr L A c z) rfl rfl 24 dkZero A3 (dkInfo _ _ _ _) rfl (dkArr_one _ _ _ _) ?_)
    exact HBad.out _ _ 3 HQ.out A3 b3 rfl rfl rfl
  | true =>
    rw [hg] at CG
    obtain ⟨h4, hris, hall⟩ := (goodD_iff L).1 hg
    go_wp2_with fail
    (with_reducible refine CG.out.mono ?_)
    clear CG c0 c1
    rintro _ V2 ⟨rfl, b2⟩
    have A2 := A0.below b2 A0.lt
    have A3 := A1.below b2 A1.lt
    have b3 := b0.trans (b2.mono b0.size)
    clear A0 A1 b0 b2
    have c0 : V2.cell? ⟨w.heap.size, 0, none⟩ = some (.slice A L.length c) := A2.cell 0
    have c1 : V2.cell? ⟨w.heap.size, 1, none⟩ = some (.int .i64 z) := A2.cell 1
    cases hz0 : z == 0
    case true =>
      have HQ : Hid (Q = (⟨L, z⟩, 12)) := by show _ = _; rw [HS.out, hg, if_pos (eq_of_beq hz0)]; rfl
      clear HS hg
      go_wp2_with (refine wpList_store_row rfl 24 _ _ rfl (w.heap.size + 1) (dkArr L A c z) rfl rfl 24 dkZero A3 (dkInfo _ _ _ _) rfl (dkArr_one _ _ _ _) ?_)
      exact HBad.out _ _ 12 HQ.out A3 b3 rfl rfl rfl
    have HQ : Hid (Q = okP ⟨L, z⟩ Y) := by show _ = _; rw [HS.out, if_neg (by rw [hg]; decide), if_neg (fun e => by rw [e] at hz0; cases hz0)]
    clear HS hg
    have C1 := Lib.hid (CopyDisk_any L A c z V2 (hP.up b3) hl)
    go_wp2_with fail
    (with_reducible refine C1.out.mono ?_)
    clear C1 c0 c1
    rintro _ V3 ⟨Ac, cc, rfl, hFc, hcc, b2⟩
    replace A2 := A2.below b2 A2.lt
    replace A3 := A3.below b2 A3.lt
    replace b3 := b3.trans (b2.mono b3.size)
    clear b2
    have bb : Below V3.heap.size V3 ((V3.alloc (.cells dkZero 24)).setRow V3.heap.size (dkArr L Ac cc z)) := below_setRow ((Below.refl _ _).alloc (Nat.le_refl _) _) (Nat.le_refl _) _
    have AX : Arr ((V3.alloc (.cells dkZero 24)).setRow V3.heap.size (dkArr L Ac cc z)) V3.heap.size 24 (dkArr L Ac cc z) := (Arr.new _ _ _).row _
    have hq1 := A3.lt
    go_upto_region 6 with (refine wpList_store_row rfl 24 _ _ rfl V3.heap.size (dkArr L Ac cc z) rfl rfl 24 dkZero (Arr.new V3 _ _) (dkInfo _ _ _ _) rfl (dkArr_one _ _ _ _) ?_)
    refine wp_forget (fun W => Arr W V3.heap.size 24 (dkArr L Ac cc z) ∧ Arr W w.heap.size 24 (dkArr L A c z) ∧ Arr W (w.heap.size + 1) 24 dkZero ∧ Fls W W.heap.size Ac L ∧ Below w.heap.size w W) (by exact ⟨AX, A2.below bb A2.lt, A3.below bb A3.lt, hFc.up bb, b3.trans (bb.mono b3.size)⟩) ?_
    clear AX bb A2 A3 b3 hFc
    generalize V3.heap.size = q at *
    rintro V4 ⟨AX, A2, A3, hFc, b3⟩
    have d1 : V4.cell? ⟨q, 1, none⟩ = some (.int .i64 z) := AX.cell 1
    have x1 := AX.free 1
    have AY : Arr (V4.setCell ⟨q, 1, none⟩ (.int .i64 (z - 1))) q 24 (dkArr L Ac cc (z - 1)) := AX.put 1 (.int .i64 (z - 1))
    have kk : V4.grownBy (V4.setCell ⟨q, 1, none⟩ (.int .i64 (z - 1))) (some q) := gb_set _ _ _
    have hqq : w.heap.size + 1 < q := hq1
    have hFy := fls_cell (i := 1) (u := .int .i64 (z - 1)) hFc AX
    by_cases hpos : 0 < z
    case' pos =>
      have hb : burnt z = z - 1 := if_pos hpos
      go_upto_region 8 with fail
      refine wp_forget (fun W => Arr W q 24 (dkArr L Ac cc (burnt z)) ∧ Arr W w.heap.size 24 (dkArr L A c z) ∧ Arr W (w.heap.size + 1) 24 dkZero ∧ Fls W W.heap.size Ac L ∧ Below w.heap.size w W) (by rw [hb]; exact ⟨AY, A2.kept kk (fun e => by have := Option.some.inj e; omega), A3.kept kk (fun e => by have := Option.some.inj e; omega), hFy, below_gb b3 kk (by omega) b3.size⟩) ?_
    case' neg =>
      have hb : burnt z = z := if_neg hpos
      go_upto_region 8 with fail
      refine wp_forget (fun W => Arr W q 24 (dkArr L Ac cc (burnt z)) ∧ Arr W w.heap.size 24 (dkArr L A c z) ∧ Arr W (w.heap.size + 1) 24 dkZero ∧ Fls W W.heap.size Ac L ∧ Below w.heap.size w W) (by rw [hb]; exact ⟨AX, A2, A3, hFc, b3⟩) ?_
    all_goals
      clear AX AY A2 A3 b3 hFc hFy d1 x1 kk
      rintro V5 ⟨AX, A2, A3, hFc, b3⟩
      have c0 : V5.cell? ⟨w.heap.size, 0, none⟩ = some (.slice A L.length c) := A2.cell 0
      have c1 : V5.cell? ⟨w.heap.size, 1, none⟩ = some (.int .i64 z) := A2.cell 1
      have C1 := Lib.hid (at_any L n A c z V5 (hP.up b3) hl1 hris)
      obtain ⟨y, hy⟩ : ∃ y, y = burnt z := ⟨_, rfl⟩
      rw [← hy] at AX
      have HB := Lib.hid hy
      clear hy hb
      have hca := at_cases hris n
      generalize atP n L = p at *
      go_wp2_with fail
      (with_reducible refine C1.out.mono ?_)
      clear C1 c0 c1
      rintro _ V6 ⟨rfl, b2⟩
      replace A2 := A2.below b2 A2.lt
      replace A3 := A3.below b2 A3.lt
      replace AX := AX.below b2 AX.lt
      replace hFc := hFc.up b2
      replace b3 := b3.trans (b2.mono b3.size)
      clear b2
      have c0 : V6.cell? ⟨w.heap.size, 0, none⟩ = some (.slice A L.length c) := A2.cell 0
      have c1 : V6.cell? ⟨w.heap.size, 1, none⟩ = some (.int .i64 z) := A2.cell 1
      rcases hca with ⟨hgn, rfl⟩ | ⟨k, f, hgs, hk, rfl⟩
      · have HQ7 : Hid (Q = (⟨L, z⟩, 7)) := by show _ = _; rw [HQ.out, HY.out, hgn]; rfl
        clear HQ HY
        go_wp2_with (refine wpList_store_row rfl 24 _ _ rfl (w.heap.size + 1) (dkArr L A c z) rfl rfl 24 dkZero A3 (dkInfo _ _ _ _) rfl (dkArr_one _ _ _ _) ?_)
        exact HBad.out _ _ 7 HQ7.out A3 b3 rfl rfl rfl
      · have HQ0 : Hid (Q = (⟨putL ⟨n, f.safe ++ f.tail, ⟨#[]⟩⟩ L, y⟩, 0)) := by show _ = _; rw [HQ.out, HY.out, hgs, HB.out]; rfl
        clear HQ HY HB hgs
        have hlt := (List.getElem?_eq_some_iff.1 hk).1
        have hsum : f.safe.size + f.tail.size ≤ 1048576 := by
          have := (hall f (List.mem_of_getElem? hk)).2
          unfold fits at this
          exact of_decide_eq_true this
        have hj : (k : Int) < L.length := by omega
        have hj0 : ¬ (k : Int) < 0 := by omega
        obtain ⟨ad, rfl, hbl, h0', h1, h2⟩ := hP k f hk
        have g0 := (b3.cell hbl).trans h0'
        have g1 := (b3.cell (p := ⟨(ad.add (k * 3)).block, (ad.add (k * 3)).off + 1, none⟩) hbl).trans h1
        have g2 := (b3.cell (p := ⟨(ad.add (k * 3)).block, (ad.add (k * 3)).off + 2, none⟩) hbl).trans h2
        clear h0' h1 h2 hk
        have bb : Below V6.heap.size V6 ((V6.alloc (.cells flZero 50)).setRow V6.heap.size (flArr f)) := below_setRow ((Below.refl _ _).alloc (Nat.le_refl _) _) (Nat.le_refl _) _
        have AZ : Arr ((V6.alloc (.cells flZero 50)).setRow V6.heap.size (flArr f)) V6.heap.size 50 (flArr f) := (Arr.new _ _ _).row _
        go_upto_region 29 with (refine wpList_store_row rfl 50 _ _ rfl V6.heap.size (flArr f) rfl rfl 50 flZero (Arr.new V6 _ _) (flInfo _) rfl (flArr_one _) ?_)
        refine wp_forget (fun W => Arr W V6.heap.size 50 (flArr f) ∧ Arr W q 24 (dkArr L Ac cc y) ∧ Arr W (w.heap.size + 1) 24 dkZero ∧ Fls W W.heap.size Ac L ∧ Below w.heap.size w W) (by exact ⟨AZ, AX.below bb AX.lt, A3.below bb A3.lt, hFc.up bb, b3.trans (bb.mono b3.size)⟩) ?_
        clear AZ bb AX A2 A3 b3 hFc c0 c1 g0 g1 g2
        generalize V6.heap.size = r at *
        rintro W ⟨AZ, AX, A3, hFc, b3⟩
        have e1 : W.cell? ⟨r, 1, none⟩ = some (.string f.safe) := AZ.cell 1
        have e2 : W.cell? ⟨r, 2, none⟩ = some (.string f.tail) := AZ.cell 2
        have d0 : W.cell? ⟨q, 0, none⟩ = some (.slice Ac L.length cc) := AX.cell 0
        have C1 : Hid (Calls Try.prog 44 #[.slice Ac L.length cc, .agg #[.string n, .string (f.safe ++ f.tail), .string ⟨#[]⟩]] W fun e w' => ∃ A' c', e = .returned (.slice A' (putL ⟨n, f.safe ++ f.tail, ⟨#[]⟩⟩ L).length c') ∧ (putL ⟨n, f.safe ++ f.tail, ⟨#[]⟩⟩ L).length ≤ c' ∧ Fls w' w'.heap.size A' (putL ⟨n, f.safe ++ f.tail, ⟨#[]⟩⟩ L) ∧ Below W.heap.size W w') := RefPut_any L ⟨n, f.safe ++ f.tail, ⟨#[]⟩⟩ Ac cc W hFc h4 hris
        generalize putL ⟨n, f.safe ++ f.tail, ⟨#[]⟩⟩ L = M at *
        go_wp2_with fail
        (with_reducible refine C1.out.mono ?_)
        clear C1 d0 e1 e2
        rintro _ W2 ⟨Ab, cb, rfl, hcb, hFb, b2⟩
        replace A3 := A3.below b2 A3.lt
        replace AX := AX.below b2 AX.lt
        replace b3 := b3.trans (b2.mono b3.size)
        clear b2 AZ hFc
        have d0 : W2.cell? ⟨q, 0, none⟩ = some (.slice Ac L.length cc) := AX.cell 0
        have x0 := AX.free 0
        have AY : Arr (W2.setCell ⟨q, 0, none⟩ (.slice Ab M.length cb)) q 24 (dkArr M Ab cb y) := AX.put 0 (.slice Ab M.length cb)
        have kk : W2.grownBy (W2.setCell ⟨q, 0, none⟩ (.slice Ab M.length cb)) (some q) := gb_set _ _ _
        go_upto_region 39 with fail
        refine wp_forget (fun W => Arr W q 24 (dkArr M Ab cb y) ∧ Arr W (w.heap.size + 1) 24 dkZero ∧ Fls W W.heap.size Ab M ∧ Below w.heap.size w W) (by exact ⟨AY, A3.kept kk (fun e => by have := Option.some.inj e; omega), fls_cell hFb AX, below_gb b3 kk (by omega) b3.size⟩) ?_
        clear AX AY A3 b3 hFb d0 x0 kk
        rintro W ⟨AX, A3, hFb, b3⟩
        have d0 : W.cell? ⟨q, 0, none⟩ = some (.slice Ab M.length cb) := AX.cell 0
        have d1 : W.cell? ⟨q, 1, none⟩ = some (.int .i64 y) := AX.cell 1
        go_wp2_with (refine wpList_store_row rfl 24 _ _ rfl (w.heap.size + 1) (dkArr M Ab cb y) rfl rfl 24 dkZero A3 (dkInfo _ _ _ _) rfl (dkArr_one _ _ _ _) ?_)
        rw [HQ0.out]
        exact HRet.out _ _ ⟨M, y⟩ Ab cb 0 (A3.row _) (below_setRow b3 (show w.heap.size ≤ w.heap.size + 1 by omega) _) (hFb.row A3 _) hcb rfl rfl rfl
end Go.Proofs.Ytnijnphalhfabaa
