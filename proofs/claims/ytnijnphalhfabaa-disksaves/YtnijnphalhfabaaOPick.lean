/- Texts in one: DkRefF, DkRefG, DkRefH, OPick. -/
import Derived.Test.YtnijnphalhfabaaDkRefE
import Derived.Test.YtnijnphalhfabaaProg
import Derived.Test.YtnijnphalhfabaaBytes
/- ref.Do 0 (Write): its contract. -/
namespace Go.Proofs.Ytnijnphalhfabaa
open Go.RowKit

theorem Fls.old {V W : World} {A : Option Addr} {L : List Fl} (h : Fls V V.heap.size A L) (b : Below V.heap.size V W) : Fls W V.heap.size A L := fun k x hx => by
  obtain ⟨ad, e, hbk, h0, h1, h2⟩ := h k x hx
  exact ⟨ad, e, hbk, (b.cell hbk).trans h0, (b.cell (p := ⟨(ad.add (k * 3)).block, (ad.add (k * 3)).off + 1, none⟩) hbk).trans h1, (b.cell (p := ⟨(ad.add (k * 3)).block, (ad.add (k * 3)).off + 2, none⟩) hbk).trans h2⟩
theorem Fls.gb {W W' : World} {r : Nat} {A : Option Addr} {L : List Fl} (h : Fls W r A L) (kk : W.grownBy W' (some r)) : Fls W' r A L := fun k x hx => by
  obtain ⟨ad, e, hbk, h0, h1, h2⟩ := h k x hx
  have hn : ¬ some (ad.add (k * 3)).block = some r := fun e2 => by have := Option.some.inj e2; omega
  exact ⟨ad, e, hbk, kk.cell h0 hn, kk.cell h1 hn, kk.cell h2 hn⟩
theorem Fls.wide {W : World} {r : Nat} {A : Option Addr} {L : List Fl} (h : Fls W r A L) (hr : r ≤ W.heap.size) : Fls W W.heap.size A L := fun k x hx => by
  obtain ⟨ad, e, hbk, h0⟩ := h k x hx
  exact ⟨ad, e, Nat.lt_of_lt_of_le hbk hr, h0⟩
theorem nil_cat (s : ByteArray) : (⟨#[]⟩ : ByteArray) ++ s = s := by
  apply bytes_eq
  rw [append_list]
  rfl
set_option maxRecDepth 100000 in
set_option maxHeartbeats 2000000 in
theorem RefDo_write (L : List Fl) (n s : ByteArray) (hn : n.size ≤ 140737488355328) (hs : s.size ≤ 140737488355328) (A : Option Addr) (c : Nat) (z : Int) (hz1 : -9223372036854775808 ≤ z) (hz2 : z ≤ 9223372036854775807) (w : World) (hP : Fls w w.heap.size A L) (hz : Sized L) (hl : L.length * 48 ≤ 140737488355328) (hc : L.length ≤ c) :
    Calls Try.prog 16 #[.int .i64 0, .agg (dkArr L A c z), .string n, .string s] w (StEnd w (stepP ⟨L, z⟩ (wrP L n s))) := by
  have hl1 : L.length ≤ 140737488355328 := by omega
  have A0 : Arr ((w.alloc (.cells (dkArr L A c z) 24)).alloc (.cells dkZero 24)) w.heap.size 24 (dkArr L A c z) := (Arr.new _ _ _).alloc _
  have A1 : Arr ((w.alloc (.cells (dkArr L A c z) 24)).alloc (.cells dkZero 24)) (w.heap.size + 1) 24 dkZero := Arr.new_at _ _ _ (by simp)
  have b0 : Below w.heap.size w ((w.alloc (.cells (dkArr L A c z) 24)).alloc (.cells dkZero 24)) := ((Below.refl _ _).alloc (Nat.le_refl _) _).alloc (by simp) _
  have HS : Hid (stepP ⟨L, z⟩ (wrP L n s) = if !goodD L then (⟨L, z⟩, 3) else if z = 0 then (⟨L, z⟩, 12) else okP ⟨L, z⟩ (wrP L n s)) := rfl
  have HY0 : Hid (named n = false → wrP L n s = .error 2) := fun h => by unfold wrP; rw [h]; rfl
  have HY1 : Hid (named n = true → getF n L = none → wrP L n s = if 400 ≤ L.length then .error 6 else if 1048576 < s.size then .error 1 else .ok (putL ⟨n, ⟨#[]⟩, s⟩ L)) := fun h hg => by unfold wrP; rw [h, hg]; rfl
  have HY2 : Hid (∀ f, named n = true → getF n L = some f → wrP L n s = if 1048576 < f.safe.size + f.tail.size + s.size then .error 1 else .ok (putL ⟨n, f.safe, f.tail ++ s⟩ L)) := fun f h hg => by unfold wrP; rw [h, hg]; rfl
  generalize wrP L n s = Y at *
  generalize stepP ⟨L, z⟩ Y = Q at *
  go_enter Try.func16, Try.ntmps16
  go_upto_region 1 with fail
  refine wp_forget (fun V => Arr V w.heap.size 24 (dkArr L A c z) ∧ Arr V (w.heap.size + 1) 24 dkZero ∧ Below w.heap.size w V) (by exact ⟨A0, A1, b0⟩) ?_
  clear A0 A1 b0
  rintro V ⟨A0, A1, b0⟩
  have c0 : V.cell? ⟨w.heap.size, 0, none⟩ = some (.slice A L.length c) := A0.cell 0
  have c1 : V.cell? ⟨w.heap.size, 1, none⟩ = some (.int .i64 z) := A0.cell 1
  have CG : Hid (Calls Try.prog 19 #[.agg #[.slice A L.length c, .int .i64 z]] V fun e w' => e = .returned (.bool (goodD L)) ∧ Below V.heap.size V w') := GoodDisk_any L A c z V (hP.up b0) hz hl1
  have HRet : Hid (∀ (W : World) (a : Act) (d : Dk) (A' : Option Addr) (c' : Nat) (e : Int), Arr W (w.heap.size + 1) 24 (dkArr d.files A' c' d.fuse) → Below w.heap.size w W → Fls W W.heap.size A' d.files → d.files.length ≤ c' → a.tmps[8]? = some (.pointer (some ⟨w.heap.size + 1, 0, none⟩)) → a.tmps[9]? = some (.int .i64 e) → a.defers = [] → bodyPost Try.prog Try.f16 (StEnd w (d, e)) .ret a W) := fun W a d A' c' e h1 h2 h3 h4 h5 h6 h7 => by
    refine bodyPost_ret (v := .tuple #[.agg (dkArr d.files A' c' d.fuse), .int .i64 e]) ?_ h7 ⟨A', c', rfl, h3, h4, h2⟩
    rw [results_cell_tmp Try.results16]
    have hld := run_loadVar_row (P := Try.prog) _ _ _ 24 _ _ _ h1 Try.underlying24 rfl (dkInfo _ _ _ _)
    simp [Array.getD_eq_getD_getElem?, h5, h6, asAddr, hld, Result.andThen]
  have HBad : Hid (∀ (W : World) (a : Act) (e : Int), Q = (⟨L, z⟩, e) → Arr W (w.heap.size + 1) 24 dkZero → Below w.heap.size w W → a.tmps[8]? = some (.pointer (some ⟨w.heap.size + 1, 0, none⟩)) → a.tmps[9]? = some (.int .i64 e) → a.defers = [] → bodyPost Try.prog Try.f16 (StEnd w Q) .ret a (W.setRow (w.heap.size + 1) (dkArr L A c z))) := fun W a e hQ h1 h2 h3 h4 h5 => by
    rw [hQ]
    have b4 := below_setRow h2 (show w.heap.size ≤ w.heap.size + 1 by omega) (dkArr L A c z)
    exact HRet.out _ _ ⟨L, z⟩ A c e (h1.row _) b4 (hP.up b4) hc h3 h4 h5
  cases hg : goodD L with
  | false =>
    rw [hg] at CG
    have HQ : Hid (Q = (⟨L, z⟩, 3)) := by show _ = _; rw [HS.out, hg]; rfl
    clear HS hg
    go_wp2_with fail
    (with_reducible refine CG.out.mono ?_)
    clear CG c0 c1
    rintro _ V2 ⟨rfl, b2⟩
    have A2 := A0.below b2 A0.lt
    have A3 := A1.below b2 A1.lt
    have b3 := b0.trans (b2.mono b0.size)
    have c0 : V2.cell? ⟨w.heap.size, 0, none⟩ = some (.slice A L.length c) := A2.cell 0
    have c1 : V2.cell? ⟨w.heap.size, 1, none⟩ = some (.int .i64 z) := A2.cell 1
    go_wp2_with (refine wpList_store_row rfl 24 _ _ rfl (w.heap.size + 1) (dkArr L A c z) rfl rfl 24 dkZero A3 (dkInfo _ _ _ _) rfl (dkArr_one _ _ _ _) ?_)
    exact HBad.out _ _ 3 HQ.out A3 b3 rfl rfl rfl
  | true =>
    rw [hg] at CG
    obtain ⟨h4, hris, hall⟩ := (goodD_iff L).1 hg
    go_wp2_with fail
    (with_reducible refine CG.out.mono ?_)
    clear CG c0 c1
    rintro _ V2 ⟨rfl, b2⟩
    have A2 := A0.below b2 A0.lt
    have A3 := A1.below b2 A1.lt
    have b3 := b0.trans (b2.mono b0.size)
    clear A0 A1 b0 b2
    have c0 : V2.cell? ⟨w.heap.size, 0, none⟩ = some (.slice A L.length c) := A2.cell 0
    have c1 : V2.cell? ⟨w.heap.size, 1, none⟩ = some (.int .i64 z) := A2.cell 1
    cases hz0 : z == 0
    case true =>
      have HQ : Hid (Q = (⟨L, z⟩, 12)) := by show _ = _; rw [HS.out, hg, if_pos (eq_of_beq hz0)]; rfl
      clear HS hg
      go_wp2_with (refine wpList_store_row rfl 24 _ _ rfl (w.heap.size + 1) (dkArr L A c z) rfl rfl 24 dkZero A3 (dkInfo _ _ _ _) rfl (dkArr_one _ _ _ _) ?_)
      exact HBad.out _ _ 12 HQ.out A3 b3 rfl rfl rfl
    have HQ : Hid (Q = okP ⟨L, z⟩ Y) := by show _ = _; rw [HS.out, if_neg (by rw [hg]; decide), if_neg (fun e => by rw [e] at hz0; cases hz0)]
    clear HS hg
    have C1 := Lib.hid (CopyDisk_any L A c z V2 (hP.up b3) hl)
    go_wp2_with fail
    (with_reducible refine C1.out.mono ?_)
    clear C1 c0 c1
    rintro _ V3 ⟨Ac, cc, rfl, hFc, hcc, b2⟩
    replace A2 := A2.below b2 A2.lt
    replace A3 := A3.below b2 A3.lt
    replace b3 := b3.trans (b2.mono b3.size)
    clear b2
    have bb : Below V3.heap.size V3 ((V3.alloc (.cells dkZero 24)).setRow V3.heap.size (dkArr L Ac cc z)) := below_setRow ((Below.refl _ _).alloc (Nat.le_refl _) _) (Nat.le_refl _) _
    have AX : Arr ((V3.alloc (.cells dkZero 24)).setRow V3.heap.size (dkArr L Ac cc z)) V3.heap.size 24 (dkArr L Ac cc z) := (Arr.new _ _ _).row _
    have hq1 := A3.lt
    go_upto_region 6 with (refine wpList_store_row rfl 24 _ _ rfl V3.heap.size (dkArr L Ac cc z) rfl rfl 24 dkZero (Arr.new V3 _ _) (dkInfo _ _ _ _) rfl (dkArr_one _ _ _ _) ?_)
    refine wp_forget (fun W => Arr W V3.heap.size 24 (dkArr L Ac cc z) ∧ Arr W w.heap.size 24 (dkArr L A c z) ∧ Arr W (w.heap.size + 1) 24 dkZero ∧ Fls W W.heap.size Ac L ∧ Below w.heap.size w W) (by exact ⟨AX, A2.below bb A2.lt, A3.below bb A3.lt, hFc.up bb, b3.trans (bb.mono b3.size)⟩) ?_
    clear AX bb A2 A3 b3 hFc
    generalize V3.heap.size = q at *
    rintro V4 ⟨AX, A2, A3, hFc, b3⟩
    have d1 : V4.cell? ⟨q, 1, none⟩ = some (.int .i64 z) := AX.cell 1
    have x1 := AX.free 1
    have AY : Arr (V4.setCell ⟨q, 1, none⟩ (.int .i64 (z - 1))) q 24 (dkArr L Ac cc (z - 1)) := AX.put 1 (.int .i64 (z - 1))
    have kk : V4.grownBy (V4.setCell ⟨q, 1, none⟩ (.int .i64 (z - 1))) (some q) := gb_set _ _ _
    have hqq : w.heap.size + 1 < q := hq1
    have hFy := fls_cell (i := 1) (u := .int .i64 (z - 1)) hFc AX
    by_cases hpos : 0 < z
    case' pos =>
      have hb : burnt z = z - 1 := if_pos hpos
      go_upto_region 8 with fail
      refine wp_forget (fun W => Arr W q 24 (dkArr L Ac cc (burnt z)) ∧ Arr W w.heap.size 24 (dkArr L A c z) ∧ Arr W (w.heap.size + 1) 24 dkZero ∧ Fls W W.heap.size Ac L ∧ Below w.heap.size w W) (by rw [hb]; exact ⟨AY, A2.kept kk (fun e => by have := Option.some.inj e; omega), A3.kept kk (fun e => by have := Option.some.inj e; omega), hFy, below_gb b3 kk (by omega) b3.size⟩) ?_
    case' neg =>
      have hb : burnt z = z := if_neg hpos
      go_upto_region 8 with fail
      refine wp_forget (fun W => Arr W q 24 (dkArr L Ac cc (burnt z)) ∧ Arr W w.heap.size 24 (dkArr L A c z) ∧ Arr W (w.heap.size + 1) 24 dkZero ∧ Fls W W.heap.size Ac L ∧ Below w.heap.size w W) (by rw [hb]; exact ⟨AX, A2, A3, hFc, b3⟩) ?_
    all_goals
      clear AX AY A2 A3 b3 hFc hFy d1 x1 kk
      rintro V5 ⟨AX, A2, A3, hFc, b3⟩
      have c0 : V5.cell? ⟨w.heap.size, 0, none⟩ = some (.slice A L.length c) := A2.cell 0
      have c1 : V5.cell? ⟨w.heap.size, 1, none⟩ = some (.int .i64 z) := A2.cell 1
      have C1 := Lib.hid (at_any L n A c z V5 (hP.up b3) hl1 hris)
      obtain ⟨y, hy⟩ : ∃ y, y = burnt z := ⟨_, rfl⟩
      rw [← hy] at AX
      have HB := Lib.hid hy
      clear hy hb
      have hca := at_cases hris n
      generalize atP n L = p at *
      go_wp2_with fail
      (with_reducible refine C1.out.mono ?_)
      clear C1 c0 c1
      rintro _ V6 ⟨rfl, b2⟩
      replace A2 := A2.below b2 A2.lt
      replace A3 := A3.below b2 A3.lt
      replace AX := AX.below b2 AX.lt
      replace hFc := hFc.up b2
      replace b3 := b3.trans (b2.mono b3.size)
      clear b2
      have c0 : V6.cell? ⟨w.heap.size, 0, none⟩ = some (.slice A L.length c) := A2.cell 0
      have c1 : V6.cell? ⟨w.heap.size, 1, none⟩ = some (.int .i64 z) := A2.cell 1
      have CN := Lib.hid (fileName_any n (by omega) V6)
      cases hnm : named n with
      | false =>
        rw [hnm] at CN
        have HQ7 : Hid (Q = (⟨L, z⟩, 2)) := by show _ = _; rw [HQ.out, HY0.out hnm]; rfl
        clear HQ HY0 HY1 HY2
        go_wp2_with fail
        (with_reducible refine CN.out.mono ?_)
        clear CN c0 c1
        rintro _ V7 ⟨rfl, b2⟩
        replace A2 := A2.below b2 A2.lt
        replace A3 := A3.below b2 A3.lt
        replace b3 := b3.trans (b2.mono b3.size)
        clear b2
        have c0 : V7.cell? ⟨w.heap.size, 0, none⟩ = some (.slice A L.length c) := A2.cell 0
        have c1 : V7.cell? ⟨w.heap.size, 1, none⟩ = some (.int .i64 z) := A2.cell 1
        go_wp2_with (refine wpList_store_row rfl 24 _ _ rfl (w.heap.size + 1) (dkArr L A c z) rfl rfl 24 dkZero A3 (dkInfo _ _ _ _) rfl (dkArr_one _ _ _ _) ?_)
        exact HBad.out _ _ 2 HQ7.out A3 b3 rfl rfl rfl
      | true =>
        rw [hnm] at CN
        go_wp2_with fail
        (with_reducible refine CN.out.mono ?_)
        clear CN c0 c1
        rintro _ V7 ⟨rfl, b2⟩
        replace A2 := A2.below b2 A2.lt
        replace A3 := A3.below b2 A3.lt
        replace AX := AX.below b2 AX.lt
        replace hFc := hFc.up b2
        replace b3 := b3.trans (b2.mono b3.size)
        clear b2
        have bb : Below V7.heap.size V7 ((V7.alloc (.cells flZero 50)).setRow V7.heap.size (flArr ⟨n, ⟨#[]⟩, ⟨#[]⟩⟩)) := below_setRow ((Below.refl _ _).alloc (Nat.le_refl _) _) (Nat.le_refl _) _
        have AZ : Arr ((V7.alloc (.cells flZero 50)).setRow V7.heap.size (flArr ⟨n, ⟨#[]⟩, ⟨#[]⟩⟩)) V7.heap.size 50 (flArr ⟨n, ⟨#[]⟩, ⟨#[]⟩⟩) := (Arr.new _ _ _).row _
        have hq2 := AX.lt
        go_upto_region 17 with (refine wpList_store_row rfl 50 _ _ rfl V7.heap.size (flArr ⟨n, ⟨#[]⟩, ⟨#[]⟩⟩) rfl rfl 50 flZero (Arr.new V7 _ _) (flInfo _) rfl (flArr_one _) ?_)
        refine wp_forget (fun W => Arr W V7.heap.size 50 (flArr ⟨n, ⟨#[]⟩, ⟨#[]⟩⟩) ∧ Arr W q 24 (dkArr L Ac cc y) ∧ Arr W w.heap.size 24 (dkArr L A c z) ∧ Arr W (w.heap.size + 1) 24 dkZero ∧ Fls W V7.heap.size Ac L ∧ Below w.heap.size w W) (by exact ⟨AZ, AX.below bb AX.lt, A2.below bb A2.lt, A3.below bb A3.lt, hFc.old bb, b3.trans (bb.mono b3.size)⟩) ?_
        clear AZ bb AX A2 A3 b3 hFc
        generalize V7.heap.size = r at *
        rintro W ⟨AZ, AX, A2, A3, hFc, b3⟩
        have hr1 : w.heap.size + 1 < r := by omega
        have c0 : W.cell? ⟨w.heap.size, 0, none⟩ = some (.slice A L.length c) := A2.cell 0
        have c1 : W.cell? ⟨w.heap.size, 1, none⟩ = some (.int .i64 z) := A2.cell 1
        have HG : Hid (∀ g : Fl, (g.name = n ∧ g.safe.size + g.tail.size ≤ 1048576 ∧ Y = if 1048576 < g.safe.size + g.tail.size + s.size then .error 1 else .ok (putL ⟨n, g.safe, g.tail ++ s⟩ L)) → Q = if 1048576 < g.safe.size + g.tail.size + s.size then (⟨L, z⟩, 1) else (⟨putL ⟨g.name, g.safe, g.tail ++ s⟩ L, y⟩, 0)) := fun g hg => by
          rw [HQ.out, hg.2.2, hg.1, HB.out]
          split
          · rfl
          · rfl
        rcases hca with ⟨hgn, rfl⟩ | ⟨k, f, hgs, hk, rfl⟩
        case' inl =>
          have HYn := Lib.hid (HY1.out hnm hgn)
          clear HY0 HY1 HY2
          cases h400 : ((L.length : Int) == 400)
          case' true =>
            have HQ7 : Hid (Q = (⟨L, z⟩, 6)) := by show _ = _; rw [HQ.out, HYn.out, if_pos (by have := eq_of_beq h400; omega)]; rfl
            clear HYn HQ
            go_wp2_with (refine wpList_store_row rfl 24 _ _ rfl (w.heap.size + 1) (dkArr L A c z) rfl rfl 24 dkZero A3 (dkInfo _ _ _ _) rfl (dkArr_one _ _ _ _) ?_)
            exact HBad.out _ _ 6 HQ7.out A3 b3 rfl rfl rfl
          obtain ⟨g, hge⟩ : ∃ g : Fl, g = ⟨n, ⟨#[]⟩, ⟨#[]⟩⟩ := ⟨_, rfl⟩
          have hgf : g.name = n ∧ g.safe.size + g.tail.size ≤ 1048576 ∧ Y = if 1048576 < g.safe.size + g.tail.size + s.size then .error 1 else .ok (putL ⟨n, g.safe, g.tail ++ s⟩ L) := by
            subst hge
            refine ⟨rfl, (by show 0 + 0 ≤ 1048576; decide), ?_⟩
            rw [HYn.out, if_neg (fun h => by have : L.length = 400 := by omega
                                             rw [this] at h400; cases h400), nil_cat]
            have : (⟨#[]⟩ : ByteArray).size + (⟨#[]⟩ : ByteArray).size + s.size = s.size := by
              have : (⟨#[]⟩ : ByteArray).size = 0 := rfl
              omega
            simp only [this]
          rw [← hge] at AZ
          clear HYn hge
          have HGf := Lib.hid hgf
          clear hgf
          go_upto_region 21 with fail
          refine wp_forget (fun W => Arr W r 50 (flArr g) ∧ Arr W q 24 (dkArr L Ac cc y) ∧ Arr W w.heap.size 24 (dkArr L A c z) ∧ Arr W (w.heap.size + 1) 24 dkZero ∧ Fls W r Ac L ∧ Below w.heap.size w W) (by exact ⟨AZ, AX, A2, A3, hFc, b3⟩) ?_
        case' inr =>
          have hlt := (List.getElem?_eq_some_iff.1 hk).1
          have hsum : f.safe.size + f.tail.size ≤ 1048576 := by
            have := (hall f (List.mem_of_getElem? hk)).2
            unfold fits at this
            exact of_decide_eq_true this
          obtain ⟨g, hge⟩ : ∃ g : Fl, g = f := ⟨_, rfl⟩
          have hgf : g.name = n ∧ g.safe.size + g.tail.size ≤ 1048576 ∧ Y = if 1048576 < g.safe.size + g.tail.size + s.size then .error 1 else .ok (putL ⟨n, g.safe, g.tail ++ s⟩ L) := by
            subst hge
            exact ⟨(getF_name hgs).1, hsum, HY2.out _ hnm hgs⟩
          subst hge
          clear HY0 HY1 HY2 hsum hgs
          have HGf := Lib.hid hgf
          clear hgf
          have hj : (k : Int) < L.length := by omega
          have hj0 : ¬ (k : Int) < 0 := by omega
          have hj1 : (0 : Int) ≤ k := by omega
          obtain ⟨ad, rfl, hbl, h0', h1, h2⟩ := hP k g hk
          have g0 := (b3.cell hbl).trans h0'
          have g1 := (b3.cell (p := ⟨(ad.add (k * 3)).block, (ad.add (k * 3)).off + 1, none⟩) hbl).trans h1
          have g2 := (b3.cell (p := ⟨(ad.add (k * 3)).block, (ad.add (k * 3)).off + 2, none⟩) hbl).trans h2
          clear h0' h1 h2 hk
          have kk : W.grownBy (W.setRow r (flArr g)) (some r) := gb_row _ _
          have AZ2 : Arr (W.setRow r (flArr g)) r 50 (flArr g) := AZ.row _
          go_upto_region 21 with (refine wpList_store_row rfl 50 _ _ rfl r (flArr g) rfl rfl 50 (flArr ⟨n, ⟨#[]⟩, ⟨#[]⟩⟩) AZ (flInfo _) rfl (flArr_one _) ?_)
          refine wp_forget (fun W => Arr W r 50 (flArr g) ∧ Arr W q 24 (dkArr L Ac cc y) ∧ Arr W w.heap.size 24 (dkArr L (some ad) c z) ∧ Arr W (w.heap.size + 1) 24 dkZero ∧ Fls W r Ac L ∧ Below w.heap.size w W) (by exact ⟨AZ2, AX.kept kk (fun e => by have := Option.some.inj e; omega), A2.kept kk (fun e => by have := Option.some.inj e; omega), A3.kept kk (fun e => by have := Option.some.inj e; omega), hFc.gb kk, below_gb b3 kk (by omega) b3.size⟩) ?_
          clear kk AZ2 g0 g1 g2
        all_goals
          clear AZ AX A2 A3 hFc b3 c0 c1 HQ
          rintro W ⟨AZ, AX, A2, A3, hFc, b3⟩
          have HQg := Lib.hid (HG.out g HGf.out)
          clear HG
          have hgs1 := HGf.out.2.1
          clear HGf
          have e2 : W.cell? ⟨r, 2, none⟩ = some (.string g.tail) := AZ.cell 2
          have x2 := AZ.free 2
          have hcat : ¬ 9223372036854775807 < g.tail.size + s.size := by omega
          have AZ2 : Arr (W.setCell ⟨r, 2, none⟩ (.string (g.tail ++ s))) r 50 (flArr ⟨g.name, g.safe, g.tail ++ s⟩) := AZ.put 2 (.string (g.tail ++ s))
          have kk : W.grownBy (W.setCell ⟨r, 2, none⟩ (.string (g.tail ++ s))) (some r) := gb_set _ _ _
          go_upto_region 22 with fail
          obtain ⟨x, hxe⟩ : ∃ x : Fl, x = ⟨g.name, g.safe, g.tail ++ s⟩ := ⟨_, rfl⟩
          have hxs : x.safe.size + x.tail.size = g.safe.size + g.tail.size + s.size := by rw [hxe]; simp only [ByteArray.size_append]; omega
          rw [← hxe] at AZ2 HQg
          rw [← hxs] at HQg
          refine wp_forget (fun W => Arr W r 50 (flArr x) ∧ Arr W q 24 (dkArr L Ac cc y) ∧ Arr W w.heap.size 24 (dkArr L _ c z) ∧ Arr W (w.heap.size + 1) 24 dkZero ∧ Fls W W.heap.size Ac L ∧ Below w.heap.size w W) (by exact ⟨AZ2, AX.kept kk (fun e => by have := Option.some.inj e; omega), A2.kept kk (fun e => by have := Option.some.inj e; omega), A3.kept kk (fun e => by have := Option.some.inj e; omega), (hFc.gb kk).wide (Nat.le_of_lt AZ2.lt), below_gb b3 kk (by omega) b3.size⟩) ?_
          clear AZ AZ2 AX A2 A3 hFc b3 e2 x2 kk hcat hxe
          rintro W ⟨AZ, AX, A2, A3, hFc, b3⟩
          have e0 : W.cell? ⟨r, 0, none⟩ = some (.string x.name) := AZ.cell 0
          have e1 : W.cell? ⟨r, 1, none⟩ = some (.string x.safe) := AZ.cell 1
          have e2 : W.cell? ⟨r, 2, none⟩ = some (.string x.tail) := AZ.cell 2
          have d0 : W.cell? ⟨q, 0, none⟩ = some (.slice Ac L.length cc) := AX.cell 0
          have c0 := A2.cell 0
          have c1 := A2.cell 1
          replace c0 : W.cell? ⟨w.heap.size, 0, none⟩ = some (.slice _ L.length c) := c0
          replace c1 : W.cell? ⟨w.heap.size, 1, none⟩ = some (.int .i64 z) := c1
          have hxb : x.safe.size + x.tail.size ≤ 140737489403904 := by omega
          clear hxs
          by_cases hbig : 1048576 < x.safe.size + x.tail.size
          · have HQ7 : Hid (Q = (⟨L, z⟩, 1)) := by show _ = _; rw [HQg.out, if_pos hbig]
            have i1 : (1048576 : Int) < (x.safe.size : Int) + x.tail.size := by omega
            clear HQg
            go_wp2_with (refine wpList_store_row rfl 24 _ _ rfl (w.heap.size + 1) (dkArr L _ c z) rfl rfl 24 dkZero A3 (dkInfo _ _ _ _) rfl (dkArr_one _ _ _ _) ?_)
            exact HBad.out _ _ 1 HQ7.out A3 b3 rfl rfl rfl
          · have HQ0 : Hid (Q = (⟨putL x L, y⟩, 0)) := by show _ = _; rw [HQg.out, if_neg hbig]
            have i1 : ¬ (1048576 : Int) < (x.safe.size : Int) + x.tail.size := by omega
            clear HQg
            have C1 : Hid (Calls Try.prog 44 #[.slice Ac L.length cc, .agg #[.string x.name, .string x.safe, .string x.tail]] W fun e w' => ∃ A' c', e = .returned (.slice A' (putL x L).length c') ∧ (putL x L).length ≤ c' ∧ Fls w' w'.heap.size A' (putL x L) ∧ Below W.heap.size W w') := RefPut_any L x Ac cc W hFc h4 hris
            generalize putL x L = M at *
            go_wp2_with fail
            (with_reducible refine C1.out.mono ?_)
            clear C1 d0 e0 e1 e2 c0 c1
            rintro _ W2 ⟨Ab, cb, rfl, hcb, hFb, b2⟩
            replace A3 := A3.below b2 A3.lt
            replace AX := AX.below b2 AX.lt
            replace b3 := b3.trans (b2.mono b3.size)
            clear b2 AZ hFc A2
            have d0 : W2.cell? ⟨q, 0, none⟩ = some (.slice Ac L.length cc) := AX.cell 0
            have x0 := AX.free 0
            have AY : Arr (W2.setCell ⟨q, 0, none⟩ (.slice Ab M.length cb)) q 24 (dkArr M Ab cb y) := AX.put 0 (.slice Ab M.length cb)
            have kk : W2.grownBy (W2.setCell ⟨q, 0, none⟩ (.slice Ab M.length cb)) (some q) := gb_set _ _ _
            go_upto_region 39 with fail
            refine wp_forget (fun W => Arr W q 24 (dkArr M Ab cb y) ∧ Arr W (w.heap.size + 1) 24 dkZero ∧ Fls W W.heap.size Ab M ∧ Below w.heap.size w W) (by exact ⟨AY, A3.kept kk (fun e => by have := Option.some.inj e; omega), fls_cell hFb AX, below_gb b3 kk (by omega) b3.size⟩) ?_
            clear AX AY A3 b3 hFb d0 x0 kk
            rintro W ⟨AX, A3, hFb, b3⟩
            have d0 : W.cell? ⟨q, 0, none⟩ = some (.slice Ab M.length cb) := AX.cell 0
            have d1 : W.cell? ⟨q, 1, none⟩ = some (.int .i64 y) := AX.cell 1
            go_wp2_with (refine wpList_store_row rfl 24 _ _ rfl (w.heap.size + 1) (dkArr M Ab cb y) rfl rfl 24 dkZero A3 (dkInfo _ _ _ _) rfl (dkArr_one _ _ _ _) ?_)
            rw [HQ0.out]
            exact HRet.out _ _ ⟨M, y⟩ Ab cb 0 (A3.row _) (below_setRow b3 (show w.heap.size ≤ w.heap.size + 1 by omega) _) (hFb.row A3 _) hcb rfl rfl rfl
end Go.Proofs.Ytnijnphalhfabaa

/- ref.Do 3 (Remove): its contract. -/
namespace Go.Proofs.Ytnijnphalhfabaa
open Go.RowKit

theorem del_at (n : ByteArray) : ∀ (L : List Fl) (b : ByteArray) (k : Nat) (f : Fl), ris b L → L[k]? = some f → f.name = n → del n L = L.take k ++ L.drop (k + 1)
  | [], _, _, _, _, h, _ => by simp at h
  | x :: l, _, 0, f, hr, h, hn => by
    obtain rfl : x = f := by simpa using h
    have e : del n l = l := by
      unfold del
      refine List.filter_eq_self.2 fun y hy => ?_
      have := ltB_ne (ris_lt hr.2 y hy)
      rw [hn] at this
      simpa using fun e : y.name = n => this e.symm
    show del n (x :: l) = l
    unfold del at e ⊢
    rw [List.filter_cons_of_neg (by simp [hn]), e]
  | x :: l, _, k + 1, f, hr, h, hn => by
    have h1 : l[k]? = some f := by simpa using h
    have hne : x.name ≠ n := fun e => ltB_ne (ris_lt hr.2 f (List.mem_of_getElem? h1)) (e.trans hn.symm)
    have ih := del_at n l _ k f hr.2 h1 hn
    show del n (x :: l) = x :: (l.take k ++ l.drop (k + 1))
    unfold del at ih ⊢
    rw [List.filter_cons_of_pos (by simp [hne]), ih]
theorem Fls.take {w : World} {B : Nat} {A : Option Addr} {L : List Fl} (h : Fls w B A L) (m : Nat) : Fls w B A (L.take m) := fun k x hx => by
  rw [List.getElem?_take] at hx
  split at hx
  · exact h k x hx
  · cases hx
theorem add_twice (ad : Addr) (m k : Nat) : (ad.add m).add k = ad.add (m + k) := by
  unfold Addr.add
  by_cases h1 : m = 0
  · subst h1; simp
  · by_cases h2 : k = 0
    · subst h2; simp [h1]
    · rw [if_neg h1, if_neg h2, if_neg (by omega)]
      simp [Nat.add_assoc]
theorem Fls.drop {w : World} {B : Nat} {ad : Addr} {L : List Fl} (h : Fls w B (some ad) L) (m : Nat) : Fls w B (some (ad.add (m * 3))) (L.drop m) := fun k x hx => by
  rw [List.getElem?_drop] at hx
  obtain ⟨ad', e, h0⟩ := h (m + k) x hx
  cases e
  refine ⟨_, rfl, ?_⟩
  rw [add_twice, ← Nat.add_mul]
  exact h0
theorem own_cut {w : World} {b k : Nat} {v : Value} {L : List Fl} (hk : k < L.length) (h : w.ownsRow b 50 3 v (k + (L.length - (k + 1))) (flCells (L.take k) ++ flCells (L.drop (k + 1)))) :
    w.ownsRow b 50 3 v (L.take k ++ L.drop (k + 1)).length (flCells (L.take k ++ L.drop (k + 1))) := by
  rw [flCells_app, List.length_append, List.length_take, List.length_drop, Nat.min_eq_left (by omega)]
  exact h
set_option maxRecDepth 100000 in
set_option maxHeartbeats 2000000 in
theorem RefDo_remove (L : List Fl) (n s : ByteArray) (A : Option Addr) (c : Nat) (z : Int) (hz1 : -9223372036854775808 ≤ z) (hz2 : z ≤ 9223372036854775807) (w : World) (hP : Fls w w.heap.size A L) (hz : Sized L) (hl : L.length * 48 ≤ 140737488355328) (hc : L.length ≤ c) :
    Calls Try.prog 16 #[.int .i64 3, .agg (dkArr L A c z), .string n, .string s] w (StEnd w (stepP ⟨L, z⟩ (rmP L n))) := by
  obtain ⟨si, hsi, sz0, sz1, sz2⟩ := info_parts info_file
  have Hsi := Lib.hid hsi
  have Sz0 := Lib.hid sz0
  have Sz1 := Lib.hid sz1
  have Sz2 := Lib.hid sz2
  clear hsi sz0 sz1 sz2
  have hl1 : L.length ≤ 140737488355328 := by omega
  have A0 : Arr ((w.alloc (.cells (dkArr L A c z) 24)).alloc (.cells dkZero 24)) w.heap.size 24 (dkArr L A c z) := (Arr.new _ _ _).alloc _
  have A1 : Arr ((w.alloc (.cells (dkArr L A c z) 24)).alloc (.cells dkZero 24)) (w.heap.size + 1) 24 dkZero := Arr.new_at _ _ _ (by simp)
  have b0 : Below w.heap.size w ((w.alloc (.cells (dkArr L A c z) 24)).alloc (.cells dkZero 24)) := ((Below.refl _ _).alloc (Nat.le_refl _) _).alloc (by simp) _
  have HS : Hid (stepP ⟨L, z⟩ (rmP L n) = if !goodD L then (⟨L, z⟩, 3) else if z = 0 then (⟨L, z⟩, 12) else okP ⟨L, z⟩ (rmP L n)) := rfl
  have HY : Hid (rmP L n = match getF n L with | none => .error 7 | some _ => .ok (del n L)) := rfl
  generalize rmP L n = Y at *
  generalize stepP ⟨L, z⟩ Y = Q at *
  go_enter Try.func16, Try.ntmps16
  go_upto_region 1 with fail
  refine wp_forget (fun V => Arr V w.heap.size 24 (dkArr L A c z) ∧ Arr V (w.heap.size + 1) 24 dkZero ∧ Below w.heap.size w V) (by exact ⟨A0, A1, b0⟩) ?_
  clear A0 A1 b0
  rintro V ⟨A0, A1, b0⟩
  have c0 : V.cell? ⟨w.heap.size, 0, none⟩ = some (.slice A L.length c) := A0.cell 0
  have c1 : V.cell? ⟨w.heap.size, 1, none⟩ = some (.int .i64 z) := A0.cell 1
  have CG : Hid (Calls Try.prog 19 #[.agg #[.slice A L.length c, .int .i64 z]] V fun e w' => e = .returned (.bool (goodD L)) ∧ Below V.heap.size V w') := GoodDisk_any L A c z V (hP.up b0) hz hl1
  have HRet : Hid (∀ (W : World) (a : Act) (d : Dk) (A' : Option Addr) (c' : Nat) (e : Int), Arr W (w.heap.size + 1) 24 (dkArr d.files A' c' d.fuse) → Below w.heap.size w W → Fls W W.heap.size A' d.files → d.files.length ≤ c' → a.tmps[8]? = some (.pointer (some ⟨w.heap.size + 1, 0, none⟩)) → a.tmps[9]? = some (.int .i64 e) → a.defers = [] → bodyPost Try.prog Try.f16 (StEnd w (d, e)) .ret a W) := fun W a d A' c' e h1 h2 h3 h4 h5 h6 h7 => by
    refine bodyPost_ret (v := .tuple #[.agg (dkArr d.files A' c' d.fuse), .int .i64 e]) ?_ h7 ⟨A', c', rfl, h3, h4, h2⟩
    rw [results_cell_tmp Try.results16]
    have hld := run_loadVar_row (P := Try.prog) _ _ _ 24 _ _ _ h1 Try.underlying24 rfl (dkInfo _ _ _ _)
    simp [Array.getD_eq_getD_getElem?, h5, h6, asAddr, hld, Result.andThen]
  have HBad : Hid (∀ (W : World) (a : Act) (e : Int), Q = (⟨L, z⟩, e) → Arr W (w.heap.size + 1) 24 dkZero → Below w.heap.size w W → a.tmps[8]? = some (.pointer (some ⟨w.heap.size + 1, 0, none⟩)) → a.tmps[9]? = some (.int .i64 e) → a.defers = [] → bodyPost Try.prog Try.f16 (StEnd w Q) .ret a (W.setRow (w.heap.size + 1) (dkArr L A c z))) := fun W a e hQ h1 h2 h3 h4 h5 => by
    rw [hQ]
    have b4 := below_setRow h2 (show w.heap.size ≤ w.heap.size + 1 by omega) (dkArr L A c z)
    exact HRet.out _ _ ⟨L, z⟩ A c e (h1.row _) b4 (hP.up b4) hc h3 h4 h5
  cases hg : goodD L with
  | false =>
    rw [hg] at CG
    have HQ : Hid (Q = (⟨L, z⟩, 3)) := by show _ = _; rw [HS.out, hg]; rfl
    clear HS hg
    go_wp2_with fail
    (with_reducible refine CG.out.mono ?_)
    clear CG c0 c1
    rintro _ V2 ⟨rfl, b2⟩
    have A2 := A0.below b2 A0.lt
    have A3 := A1.below b2 A1.lt
    have b3 := b0.trans (b2.mono b0.size)
    have c0 : V2.cell? ⟨w.heap.size, 0, none⟩ = some (.slice A L.length c) := A2.cell 0
    have c1 : V2.cell? ⟨w.heap.size, 1, none⟩ = some (.int .i64 z) := A2.cell 1
    go_wp2_with (refine wpList_store_row rfl 24 _ _ rfl (w.heap.size + 1) (dkArr L A c z) rfl rfl 24 dkZero A3 (dkInfo _ _ _ _) rfl (dkArr_one _ _ _ _) ?_)
    exact HBad.out _ _ 3 HQ.out A3 b3 rfl rfl rfl
  | true =>
    rw [hg] at CG
    obtain ⟨h4, hris, hall⟩ := (goodD_iff L).1 hg
    go_wp2_with fail
    (with_reducible refine CG.out.mono ?_)
    clear CG c0 c1
    rintro _ V2 ⟨rfl, b2⟩
    have A2 := A0.below b2 A0.lt
    have A3 := A1.below b2 A1.lt
    have b3 := b0.trans (b2.mono b0.size)
    clear A0 A1 b0 b2
    have c0 : V2.cell? ⟨w.heap.size, 0, none⟩ = some (.slice A L.length c) := A2.cell 0
    have c1 : V2.cell? ⟨w.heap.size, 1, none⟩ = some (.int .i64 z) := A2.cell 1
    cases hz0 : z == 0
    case true =>
      have HQ : Hid (Q = (⟨L, z⟩, 12)) := by show _ = _; rw [HS.out, hg, if_pos (eq_of_beq hz0)]; rfl
      clear HS hg
      go_wp2_with (refine wpList_store_row rfl 24 _ _ rfl (w.heap.size + 1) (dkArr L A c z) rfl rfl 24 dkZero A3 (dkInfo _ _ _ _) rfl (dkArr_one _ _ _ _) ?_)
      exact HBad.out _ _ 12 HQ.out A3 b3 rfl rfl rfl
    have HQ : Hid (Q = okP ⟨L, z⟩ Y) := by show _ = _; rw [HS.out, if_neg (by rw [hg]; decide), if_neg (fun e => by rw [e] at hz0; cases hz0)]
    clear HS hg
    have C1 := Lib.hid (CopyDisk_any L A c z V2 (hP.up b3) hl)
    go_wp2_with fail
    (with_reducible refine C1.out.mono ?_)
    clear C1 c0 c1
    rintro _ V3 ⟨Ac, cc, rfl, hFc, hcc, b2⟩
    replace A2 := A2.below b2 A2.lt
    replace A3 := A3.below b2 A3.lt
    replace b3 := b3.trans (b2.mono b3.size)
    clear b2
    have bb : Below V3.heap.size V3 ((V3.alloc (.cells dkZero 24)).setRow V3.heap.size (dkArr L Ac cc z)) := below_setRow ((Below.refl _ _).alloc (Nat.le_refl _) _) (Nat.le_refl _) _
    have AX : Arr ((V3.alloc (.cells dkZero 24)).setRow V3.heap.size (dkArr L Ac cc z)) V3.heap.size 24 (dkArr L Ac cc z) := (Arr.new _ _ _).row _
    have hq1 := A3.lt
    go_upto_region 6 with (refine wpList_store_row rfl 24 _ _ rfl V3.heap.size (dkArr L Ac cc z) rfl rfl 24 dkZero (Arr.new V3 _ _) (dkInfo _ _ _ _) rfl (dkArr_one _ _ _ _) ?_)
    refine wp_forget (fun W => Arr W V3.heap.size 24 (dkArr L Ac cc z) ∧ Arr W w.heap.size 24 (dkArr L A c z) ∧ Arr W (w.heap.size + 1) 24 dkZero ∧ Fls W W.heap.size Ac L ∧ Below w.heap.size w W) (by exact ⟨AX, A2.below bb A2.lt, A3.below bb A3.lt, hFc.up bb, b3.trans (bb.mono b3.size)⟩) ?_
    clear AX bb A2 A3 b3 hFc
    generalize V3.heap.size = q at *
    rintro V4 ⟨AX, A2, A3, hFc, b3⟩
    have d1 : V4.cell? ⟨q, 1, none⟩ = some (.int .i64 z) := AX.cell 1
    have x1 := AX.free 1
    have AY : Arr (V4.setCell ⟨q, 1, none⟩ (.int .i64 (z - 1))) q 24 (dkArr L Ac cc (z - 1)) := AX.put 1 (.int .i64 (z - 1))
    have kk : V4.grownBy (V4.setCell ⟨q, 1, none⟩ (.int .i64 (z - 1))) (some q) := gb_set _ _ _
    have hqq : w.heap.size + 1 < q := hq1
    have hFy := fls_cell (i := 1) (u := .int .i64 (z - 1)) hFc AX
    by_cases hpos : 0 < z
    case' pos =>
      have hb : burnt z = z - 1 := if_pos hpos
      go_upto_region 8 with fail
      refine wp_forget (fun W => Arr W q 24 (dkArr L Ac cc (burnt z)) ∧ Arr W w.heap.size 24 (dkArr L A c z) ∧ Arr W (w.heap.size + 1) 24 dkZero ∧ Fls W W.heap.size Ac L ∧ Below w.heap.size w W) (by rw [hb]; exact ⟨AY, A2.kept kk (fun e => by have := Option.some.inj e; omega), A3.kept kk (fun e => by have := Option.some.inj e; omega), hFy, below_gb b3 kk (by omega) b3.size⟩) ?_
    case' neg =>
      have hb : burnt z = z := if_neg hpos
      go_upto_region 8 with fail
      refine wp_forget (fun W => Arr W q 24 (dkArr L Ac cc (burnt z)) ∧ Arr W w.heap.size 24 (dkArr L A c z) ∧ Arr W (w.heap.size + 1) 24 dkZero ∧ Fls W W.heap.size Ac L ∧ Below w.heap.size w W) (by rw [hb]; exact ⟨AX, A2, A3, hFc, b3⟩) ?_
    all_goals
      clear AX AY A2 A3 b3 hFc hFy d1 x1 kk
      rintro V5 ⟨AX, A2, A3, hFc, b3⟩
      have c0 : V5.cell? ⟨w.heap.size, 0, none⟩ = some (.slice A L.length c) := A2.cell 0
      have c1 : V5.cell? ⟨w.heap.size, 1, none⟩ = some (.int .i64 z) := A2.cell 1
      have C1 := Lib.hid (at_any L n A c z V5 (hP.up b3) hl1 hris)
      obtain ⟨y, hy⟩ : ∃ y, y = burnt z := ⟨_, rfl⟩
      rw [← hy] at AX
      have HB := Lib.hid hy
      clear hy hb
      have hca := at_cases hris n
      generalize atP n L = p at *
      go_wp2_with fail
      (with_reducible refine C1.out.mono ?_)
      clear C1 c0 c1
      rintro _ V6 ⟨rfl, b2⟩
      replace A2 := A2.below b2 A2.lt
      replace A3 := A3.below b2 A3.lt
      replace AX := AX.below b2 AX.lt
      replace hFc := hFc.up b2
      replace b3 := b3.trans (b2.mono b3.size)
      clear b2
      have c0 : V6.cell? ⟨w.heap.size, 0, none⟩ = some (.slice A L.length c) := A2.cell 0
      have c1 : V6.cell? ⟨w.heap.size, 1, none⟩ = some (.int .i64 z) := A2.cell 1
      rcases hca with ⟨hgn, rfl⟩ | ⟨k, f, hgs, hk, rfl⟩
      · have HQ7 : Hid (Q = (⟨L, z⟩, 7)) := by show _ = _; rw [HQ.out, HY.out, hgn]; rfl
        clear HQ HY
        go_wp2_with (refine wpList_store_row rfl 24 _ _ rfl (w.heap.size + 1) (dkArr L A c z) rfl rfl 24 dkZero A3 (dkInfo _ _ _ _) rfl (dkArr_one _ _ _ _) ?_)
        exact HBad.out _ _ 7 HQ7.out A3 b3 rfl rfl rfl
      · have HQ0 : Hid (Q = (⟨del n L, y⟩, 0)) := by show _ = _; rw [HQ.out, HY.out, hgs, HB.out]; rfl
        have hlt := (List.getElem?_eq_some_iff.1 hk).1
        have HM := Lib.hid (del_at n L _ k f hris hk (getF_name hgs).1)
        clear HQ HY HB hgs
        generalize del n L = M at *
        have hj0 : ¬ (k : Int) < 0 := by omega
        have hj1 : (0 : Int) ≤ (k : Int) + 1 := by omega
        have hj2 : (k : Int) + 1 ≤ L.length := by omega
        have hj3 : (L.length : Int) ≤ c := by omega
        have hj4 : (k : Int) ≤ c := by omega
        have hj5 : ((k : Int) + 1).toNat = k + 1 := by omega
        have hj6 : (k : Int) ≤ L.length := by omega
        have hwr : IntKind.i64.wrap ((k : Int) + 1) = (k : Int) + 1 := IntWalk.i64_in _ (by omega)
        obtain ⟨ad, rfl, hbl, _⟩ := hP k f hk
        go_upto_region 12 with fail
        refine wp_forget (fun W => Arr W q 24 (dkArr L Ac cc y) ∧ Arr W w.heap.size 24 (dkArr L (some ad) c z) ∧ Arr W (w.heap.size + 1) 24 dkZero ∧ Below w.heap.size w W) (by exact ⟨AX, A2, A3, b3⟩) ?_
        clear AX A2 A3 b3 hFc c0 c1
        rintro W ⟨AX, A2, A3, b3⟩
        by_cases hcap : c = k + 1
        case' pos =>
          subst hcap
          have hln : L.length = k + 1 := by omega
          have hj7 : (k : Int) ≤ (k : Int) + 1 := by omega
          have hj8 : ¬ k + 1 = 0 := by omega
          have hj9 : (k : Int) + 1 ≤ 140737488355328 := by omega
          have hfl : flCells (L.drop (k + 1)) = [] := List.eq_nil_of_length_eq_zero (by rw [flCells_len, List.length_drop]; omega)
          have c0 : W.drew.cell? ⟨w.heap.size, 0, none⟩ = some (.slice (some ad) L.length (k + 1)) := A2.cell 0
          rw [hln] at c0
          have HN1 : Hid (News W.drew (some ad) k (flCells (L.take k))) := by
            have := ((hP.up b3.drew).take k).news
            rw [List.length_take, Nat.min_eq_left (by omega)] at this
            exact this
          go_region_law (first
            | (refine step_app _ rfl _ _ 22 rfl W.heap.size 50 si _ 3 48 Try.underlying22 Hsi.out Sz0.out Sz1.out Sz2.out rfl (by decide) _ _ _ rfl (own_nil _ _ _ _) (some ad) k (k + 1) (flCells (L.take k)) rfl (by rw [flCells_len, List.length_take, Nat.min_eq_left (by omega)]) HN1.out (flCells_one _) (by unfold maxLen; omega) (by omega) (Nat.le_refl _) ?_
               intro v1 w1 hown1 hg1
               rw [Nat.zero_add, List.nil_append] at hown1
               have k1 : Below W.heap.size W w1 := ((Below.refl _ W).drew).grown hg1 (Nat.le_refl _) (by intro k hk; cases hk)
               have c1 : w1.cell? ⟨w.heap.size, 0, none⟩ = some (.slice (some ad) L.length (k + 1)) := (A2.below k1 A2.lt).cell 0
               rw [hln] at c1
               have HN2 : Hid (News w1 (some ad) 0 []) := ⟨fun _ => rfl, fun ad' e j u hu => by cases hu⟩)
            | (refine step_app _ rfl _ _ 22 rfl W.heap.size 50 si _ 3 48 Try.underlying22 Hsi.out Sz0.out Sz1.out Sz2.out rfl (by decide) _ _ _ rfl hown1 (some ad) 0 0 [] rfl rfl HN2.out (fun u hu => by cases hu) (by unfold maxLen; omega) (by omega) k1.size ?_
               intro v2 w2 hown2 hg2
               have k2 : Below W.heap.size W w2 := k1.grown hg2 k1.size (fun g hg => own_row_ge hown1 g hg)
               have hown3 := own_cut hlt (by rw [hln, hfl, Nat.sub_self]; exact hown2)
               rw [← HM.out] at hown3
               obtain ⟨A9, c9, rfl, hc9, hF9⟩ := own_files hown3
               have B1 := AX.below k2 AX.lt
               have x0 : w2.cell? ⟨q, 0, none⟩ = some (.slice Ac L.length cc) := B1.cell 0
               have x1 := B1.free 0))
        case' neg =>
          have hcap2 : ¬ c - (k + 1) = 0 := by omega
          have c0 : W.drew.cell? ⟨w.heap.size, 0, none⟩ = some (.slice (some ad) L.length c) := A2.cell 0
          have HN1 : Hid (News W.drew (some ad) k (flCells (L.take k))) := by
            have := ((hP.up b3.drew).take k).news
            rw [List.length_take, Nat.min_eq_left (by omega)] at this
            exact this
          go_region_law (first
            | (refine step_app _ rfl _ _ 22 rfl W.heap.size 50 si _ 3 48 Try.underlying22 Hsi.out Sz0.out Sz1.out Sz2.out rfl (by decide) _ _ _ rfl (own_nil _ _ _ _) (some ad) k c (flCells (L.take k)) rfl (by rw [flCells_len, List.length_take, Nat.min_eq_left (by omega)]) HN1.out (flCells_one _) (by unfold maxLen; omega) (by omega) (Nat.le_refl _) ?_
               intro v1 w1 hown1 hg1
               rw [Nat.zero_add, List.nil_append] at hown1
               have k1 : Below W.heap.size W w1 := ((Below.refl _ W).drew).grown hg1 (Nat.le_refl _) (by intro k hk; cases hk)
               have c1 : w1.cell? ⟨w.heap.size, 0, none⟩ = some (.slice (some ad) L.length c) := (A2.below k1 A2.lt).cell 0
               have HN2 : Hid (News w1 (some (ad.add ((k + 1) * 3))) (L.length - (k + 1)) (flCells (L.drop (k + 1)))) := by
                 have := ((hP.up (b3.trans (k1.mono b3.size))).drop (k + 1)).news
                 rw [List.length_drop] at this
                 exact this)
            | (refine step_app _ rfl _ _ 22 rfl W.heap.size 50 si _ 3 48 Try.underlying22 Hsi.out Sz0.out Sz1.out Sz2.out rfl (by decide) _ _ _ rfl hown1 (some (ad.add ((k + 1) * 3))) (L.length - (k + 1)) (c - (k + 1)) (flCells (L.drop (k + 1))) rfl (by rw [flCells_len, List.length_drop]) HN2.out (flCells_one _) (by unfold maxLen; omega) (by omega) k1.size ?_
               intro v2 w2 hown2 hg2
               have k2 : Below W.heap.size W w2 := k1.grown hg2 k1.size (fun g hg => own_row_ge hown1 g hg)
               have hown3 := own_cut hlt (hown2)
               rw [← HM.out] at hown3
               obtain ⟨A9, c9, rfl, hc9, hF9⟩ := own_files hown3
               have B1 := AX.below k2 AX.lt
               have x0 : w2.cell? ⟨q, 0, none⟩ = some (.slice Ac L.length cc) := B1.cell 0
               have x1 := B1.free 0))
        all_goals
          have AY : Arr (w2.setCell ⟨q, 0, none⟩ (.slice A9 M.length c9)) q 24 (dkArr M A9 c9 y) := B1.put 0 (.slice A9 M.length c9)
          have kk : w2.grownBy (w2.setCell ⟨q, 0, none⟩ (.slice A9 M.length c9)) (some q) := gb_set _ _ _
          go_upto_region 39 with fail
          refine wp_forget (fun W => Arr W q 24 (dkArr M A9 c9 y) ∧ Arr W (w.heap.size + 1) 24 dkZero ∧ Fls W W.heap.size A9 M ∧ Below w.heap.size w W) (by exact ⟨AY, (A3.below k2 A3.lt).kept kk (fun e => by have := Option.some.inj e; omega), fls_cell hF9 B1, below_gb (b3.trans (k2.mono b3.size)) kk (by omega) (b3.trans (k2.mono b3.size)).size⟩) ?_
          clear AX AY A2 A3 b3 hF9 B1 x0 x1 kk hown1 hown2 hown3 hg1 hg2 k1 k2 c0 c1
          rintro W ⟨AX, A3, hFb, b3⟩
          have d0 : W.cell? ⟨q, 0, none⟩ = some (.slice A9 M.length c9) := AX.cell 0
          have d1 : W.cell? ⟨q, 1, none⟩ = some (.int .i64 y) := AX.cell 1
          go_wp2_with (refine wpList_store_row rfl 24 _ _ rfl (w.heap.size + 1) (dkArr M A9 c9 y) rfl rfl 24 dkZero A3 (dkInfo _ _ _ _) rfl (dkArr_one _ _ _ _) ?_)
          rw [HQ0.out]
          exact HRet.out _ _ ⟨M, y⟩ A9 c9 0 (A3.row _) (below_setRow b3 (show w.heap.size ≤ w.heap.size + 1 by omega) _) (hFb.row A3 _) hc9 rfl rfl rfl
end Go.Proofs.Ytnijnphalhfabaa

/- ref.Do 2 (Rename): its contract. -/
namespace Go.Proofs.Ytnijnphalhfabaa
open Go.RowKit

theorem own_base9 {w : World} {base n c : Nat} {A : Option Addr} {cs : List Value} (h : w.ownsRow base 50 3 (.slice A n c) n cs) : ∀ ad, A = some ad → base ≤ ad.block := fun ad e => by
  rcases h.2 with ⟨h0, _⟩ | ⟨g, cap, cur, h0, hb, _⟩
  · rw [e] at h0; cases h0
  · rw [e] at h0; cases h0; exact hb
theorem Fls.far {W W' : World} {r : Nat} {A : Option Addr} {L : List Fl} (h : Fls W W.heap.size A L) (hA : ∀ ad, A = some ad → r < ad.block) (kk : W.grownBy W' (some r)) : Fls W' W'.heap.size A L := fun k x hx => by
  obtain ⟨ad, e, hbk, h0, h1, h2⟩ := h k x hx
  have hb : (ad.add (k * 3)).block = ad.block := by unfold Addr.add; split <;> rfl
  have hn : ¬ some (ad.add (k * 3)).block = some r := fun e2 => by
    have := Option.some.inj e2
    have := hA ad e
    omega
  exact ⟨ad, e, Nat.lt_of_lt_of_le hbk kk.size, kk.cell h0 hn, kk.cell h1 hn, kk.cell h2 hn⟩
set_option maxRecDepth 100000 in
set_option maxHeartbeats 2000000 in
theorem RefDo_rename (L : List Fl) (n s : ByteArray) (hs : s.size ≤ 140737488355328) (A : Option Addr) (c : Nat) (z : Int) (hz1 : -9223372036854775808 ≤ z) (hz2 : z ≤ 9223372036854775807) (w : World) (hP : Fls w w.heap.size A L) (hz : Sized L) (hl : L.length * 48 ≤ 140737488355328) (hc : L.length ≤ c) :
    Calls Try.prog 16 #[.int .i64 2, .agg (dkArr L A c z), .string n, .string s] w (StEnd w (stepP ⟨L, z⟩ (rnP L n s))) := by
  obtain ⟨si, hsi, sz0, sz1, sz2⟩ := info_parts info_file
  have Hsi := Lib.hid hsi
  have Sz0 := Lib.hid sz0
  have Sz1 := Lib.hid sz1
  have Sz2 := Lib.hid sz2
  clear hsi sz0 sz1 sz2
  have hl1 : L.length ≤ 140737488355328 := by omega
  have A0 : Arr ((w.alloc (.cells (dkArr L A c z) 24)).alloc (.cells dkZero 24)) w.heap.size 24 (dkArr L A c z) := (Arr.new _ _ _).alloc _
  have A1 : Arr ((w.alloc (.cells (dkArr L A c z) 24)).alloc (.cells dkZero 24)) (w.heap.size + 1) 24 dkZero := Arr.new_at _ _ _ (by simp)
  have b0 : Below w.heap.size w ((w.alloc (.cells (dkArr L A c z) 24)).alloc (.cells dkZero 24)) := ((Below.refl _ _).alloc (Nat.le_refl _) _).alloc (by simp) _
  have HS : Hid (stepP ⟨L, z⟩ (rnP L n s) = if !goodD L then (⟨L, z⟩, 3) else if z = 0 then (⟨L, z⟩, 12) else okP ⟨L, z⟩ (rnP L n s)) := rfl
  have HY0 : Hid (named s = false → rnP L n s = .error 2) := fun h => by unfold rnP; rw [h]; rfl
  have HY : Hid (named s = true → rnP L n s = match getF n L with | none => .error 7 | some f => .ok (putL ⟨s, f.safe, f.tail⟩ (del n L))) := fun h => by unfold rnP; rw [h]; rfl
  generalize rnP L n s = Y at *
  generalize stepP ⟨L, z⟩ Y = Q at *
  go_enter Try.func16, Try.ntmps16
  go_upto_region 1 with fail
  refine wp_forget (fun V => Arr V w.heap.size 24 (dkArr L A c z) ∧ Arr V (w.heap.size + 1) 24 dkZero ∧ Below w.heap.size w V) (by exact ⟨A0, A1, b0⟩) ?_
  clear A0 A1 b0
  rintro V ⟨A0, A1, b0⟩
  have c0 : V.cell? ⟨w.heap.size, 0, none⟩ = some (.slice A L.length c) := A0.cell 0
  have c1 : V.cell? ⟨w.heap.size, 1, none⟩ = some (.int .i64 z) := A0.cell 1
  have CG : Hid (Calls Try.prog 19 #[.agg #[.slice A L.length c, .int .i64 z]] V fun e w' => e = .returned (.bool (goodD L)) ∧ Below V.heap.size V w') := GoodDisk_any L A c z V (hP.up b0) hz hl1
  have HRet : Hid (∀ (W : World) (a : Act) (d : Dk) (A' : Option Addr) (c' : Nat) (e : Int), Arr W (w.heap.size + 1) 24 (dkArr d.files A' c' d.fuse) → Below w.heap.size w W → Fls W W.heap.size A' d.files → d.files.length ≤ c' → a.tmps[8]? = some (.pointer (some ⟨w.heap.size + 1, 0, none⟩)) → a.tmps[9]? = some (.int .i64 e) → a.defers = [] → bodyPost Try.prog Try.f16 (StEnd w (d, e)) .ret a W) := fun W a d A' c' e h1 h2 h3 h4 h5 h6 h7 => by
    refine bodyPost_ret (v := .tuple #[.agg (dkArr d.files A' c' d.fuse), .int .i64 e]) ?_ h7 ⟨A', c', rfl, h3, h4, h2⟩
    rw [results_cell_tmp Try.results16]
    have hld := run_loadVar_row (P := Try.prog) _ _ _ 24 _ _ _ h1 Try.underlying24 rfl (dkInfo _ _ _ _)
    simp [Array.getD_eq_getD_getElem?, h5, h6, asAddr, hld, Result.andThen]
  have HBad : Hid (∀ (W : World) (a : Act) (e : Int), Q = (⟨L, z⟩, e) → Arr W (w.heap.size + 1) 24 dkZero → Below w.heap.size w W → a.tmps[8]? = some (.pointer (some ⟨w.heap.size + 1, 0, none⟩)) → a.tmps[9]? = some (.int .i64 e) → a.defers = [] → bodyPost Try.prog Try.f16 (StEnd w Q) .ret a (W.setRow (w.heap.size + 1) (dkArr L A c z))) := fun W a e hQ h1 h2 h3 h4 h5 => by
    rw [hQ]
    have b4 := below_setRow h2 (show w.heap.size ≤ w.heap.size + 1 by omega) (dkArr L A c z)
    exact HRet.out _ _ ⟨L, z⟩ A c e (h1.row _) b4 (hP.up b4) hc h3 h4 h5
  cases hg : goodD L with
  | false =>
    rw [hg] at CG
    have HQ : Hid (Q = (⟨L, z⟩, 3)) := by show _ = _; rw [HS.out, hg]; rfl
    clear HS hg
    go_wp2_with fail
    (with_reducible refine CG.out.mono ?_)
    clear CG c0 c1
    rintro _ V2 ⟨rfl, b2⟩
    have A2 := A0.below b2 A0.lt
    have A3 := A1.below b2 A1.lt
    have b3 := b0.trans (b2.mono b0.size)
    have c0 : V2.cell? ⟨w.heap.size, 0, none⟩ = some (.slice A L.length c) := A2.cell 0
    have c1 : V2.cell? ⟨w.heap.size, 1, none⟩ = some (.int .i64 z) := A2.cell 1
    go_wp2_with (refine wpList_store_row rfl 24 _ _ rfl (w.heap.size + 1) (dkArr L A c z) rfl rfl 24 dkZero A3 (dkInfo _ _ _ _) rfl (dkArr_one _ _ _ _) ?_)
    exact HBad.out _ _ 3 HQ.out A3 b3 rfl rfl rfl
  | true =>
    rw [hg] at CG
    obtain ⟨h4, hris, hall⟩ := (goodD_iff L).1 hg
    go_wp2_with fail
    (with_reducible refine CG.out.mono ?_)
    clear CG c0 c1
    rintro _ V2 ⟨rfl, b2⟩
    have A2 := A0.below b2 A0.lt
    have A3 := A1.below b2 A1.lt
    have b3 := b0.trans (b2.mono b0.size)
    clear A0 A1 b0 b2
    have c0 : V2.cell? ⟨w.heap.size, 0, none⟩ = some (.slice A L.length c) := A2.cell 0
    have c1 : V2.cell? ⟨w.heap.size, 1, none⟩ = some (.int .i64 z) := A2.cell 1
    cases hz0 : z == 0
    case true =>
      have HQ : Hid (Q = (⟨L, z⟩, 12)) := by show _ = _; rw [HS.out, hg, if_pos (eq_of_beq hz0)]; rfl
      clear HS hg
      go_wp2_with (refine wpList_store_row rfl 24 _ _ rfl (w.heap.size + 1) (dkArr L A c z) rfl rfl 24 dkZero A3 (dkInfo _ _ _ _) rfl (dkArr_one _ _ _ _) ?_)
      exact HBad.out _ _ 12 HQ.out A3 b3 rfl rfl rfl
    have HQ : Hid (Q = okP ⟨L, z⟩ Y) := by show _ = _; rw [HS.out, if_neg (by rw [hg]; decide), if_neg (fun e => by rw [e] at hz0; cases hz0)]
    clear HS hg
    have C1 := Lib.hid (CopyDisk_any L A c z V2 (hP.up b3) hl)
    go_wp2_with fail
    (with_reducible refine C1.out.mono ?_)
    clear C1 c0 c1
    rintro _ V3 ⟨Ac, cc, rfl, hFc, hcc, b2⟩
    replace A2 := A2.below b2 A2.lt
    replace A3 := A3.below b2 A3.lt
    replace b3 := b3.trans (b2.mono b3.size)
    clear b2
    have bb : Below V3.heap.size V3 ((V3.alloc (.cells dkZero 24)).setRow V3.heap.size (dkArr L Ac cc z)) := below_setRow ((Below.refl _ _).alloc (Nat.le_refl _) _) (Nat.le_refl _) _
    have AX : Arr ((V3.alloc (.cells dkZero 24)).setRow V3.heap.size (dkArr L Ac cc z)) V3.heap.size 24 (dkArr L Ac cc z) := (Arr.new _ _ _).row _
    have hq1 := A3.lt
    go_upto_region 6 with (refine wpList_store_row rfl 24 _ _ rfl V3.heap.size (dkArr L Ac cc z) rfl rfl 24 dkZero (Arr.new V3 _ _) (dkInfo _ _ _ _) rfl (dkArr_one _ _ _ _) ?_)
    refine wp_forget (fun W => Arr W V3.heap.size 24 (dkArr L Ac cc z) ∧ Arr W w.heap.size 24 (dkArr L A c z) ∧ Arr W (w.heap.size + 1) 24 dkZero ∧ Fls W W.heap.size Ac L ∧ Below w.heap.size w W) (by exact ⟨AX, A2.below bb A2.lt, A3.below bb A3.lt, hFc.up bb, b3.trans (bb.mono b3.size)⟩) ?_
    clear AX bb A2 A3 b3 hFc
    generalize V3.heap.size = q at *
    rintro V4 ⟨AX, A2, A3, hFc, b3⟩
    have d1 : V4.cell? ⟨q, 1, none⟩ = some (.int .i64 z) := AX.cell 1
    have x1 := AX.free 1
    have AY : Arr (V4.setCell ⟨q, 1, none⟩ (.int .i64 (z - 1))) q 24 (dkArr L Ac cc (z - 1)) := AX.put 1 (.int .i64 (z - 1))
    have kk : V4.grownBy (V4.setCell ⟨q, 1, none⟩ (.int .i64 (z - 1))) (some q) := gb_set _ _ _
    have hqq : w.heap.size + 1 < q := hq1
    have hFy := fls_cell (i := 1) (u := .int .i64 (z - 1)) hFc AX
    by_cases hpos : 0 < z
    case' pos =>
      have hb : burnt z = z - 1 := if_pos hpos
      go_upto_region 8 with fail
      refine wp_forget (fun W => Arr W q 24 (dkArr L Ac cc (burnt z)) ∧ Arr W w.heap.size 24 (dkArr L A c z) ∧ Arr W (w.heap.size + 1) 24 dkZero ∧ Fls W W.heap.size Ac L ∧ Below w.heap.size w W) (by rw [hb]; exact ⟨AY, A2.kept kk (fun e => by have := Option.some.inj e; omega), A3.kept kk (fun e => by have := Option.some.inj e; omega), hFy, below_gb b3 kk (by omega) b3.size⟩) ?_
    case' neg =>
      have hb : burnt z = z := if_neg hpos
      go_upto_region 8 with fail
      refine wp_forget (fun W => Arr W q 24 (dkArr L Ac cc (burnt z)) ∧ Arr W w.heap.size 24 (dkArr L A c z) ∧ Arr W (w.heap.size + 1) 24 dkZero ∧ Fls W W.heap.size Ac L ∧ Below w.heap.size w W) (by rw [hb]; exact ⟨AX, A2, A3, hFc, b3⟩) ?_
    all_goals
      clear AX AY A2 A3 b3 hFc hFy d1 x1 kk
      rintro V5 ⟨AX, A2, A3, hFc, b3⟩
      have c0 : V5.cell? ⟨w.heap.size, 0, none⟩ = some (.slice A L.length c) := A2.cell 0
      have c1 : V5.cell? ⟨w.heap.size, 1, none⟩ = some (.int .i64 z) := A2.cell 1
      have C1 := Lib.hid (at_any L n A c z V5 (hP.up b3) hl1 hris)
      obtain ⟨y, hy⟩ : ∃ y, y = burnt z := ⟨_, rfl⟩
      rw [← hy] at AX
      have HB := Lib.hid hy
      clear hy hb
      have hca := at_cases hris n
      generalize atP n L = p at *
      go_wp2_with fail
      (with_reducible refine C1.out.mono ?_)
      clear C1 c0 c1
      rintro _ V6 ⟨rfl, b2⟩
      replace A2 := A2.below b2 A2.lt
      replace A3 := A3.below b2 A3.lt
      replace AX := AX.below b2 AX.lt
      replace hFc := hFc.up b2
      replace b3 := b3.trans (b2.mono b3.size)
      clear b2
      have c0 : V6.cell? ⟨w.heap.size, 0, none⟩ = some (.slice A L.length c) := A2.cell 0
      have c1 : V6.cell? ⟨w.heap.size, 1, none⟩ = some (.int .i64 z) := A2.cell 1
      have CN := Lib.hid (fileName_any s (by omega) V6)
      cases hnm : named s with
      | false =>
        rw [hnm] at CN
        have HQ7 : Hid (Q = (⟨L, z⟩, 2)) := by show _ = _; rw [HQ.out, HY0.out hnm]; rfl
        clear HQ HY0 HY
        go_wp2_with fail
        (with_reducible refine CN.out.mono ?_)
        clear CN c0 c1
        rintro _ V7 ⟨rfl, b2⟩
        replace A2 := A2.below b2 A2.lt
        replace A3 := A3.below b2 A3.lt
        replace b3 := b3.trans (b2.mono b3.size)
        clear b2
        have c0 : V7.cell? ⟨w.heap.size, 0, none⟩ = some (.slice A L.length c) := A2.cell 0
        have c1 : V7.cell? ⟨w.heap.size, 1, none⟩ = some (.int .i64 z) := A2.cell 1
        go_wp2_with (refine wpList_store_row rfl 24 _ _ rfl (w.heap.size + 1) (dkArr L A c z) rfl rfl 24 dkZero A3 (dkInfo _ _ _ _) rfl (dkArr_one _ _ _ _) ?_)
        exact HBad.out _ _ 2 HQ7.out A3 b3 rfl rfl rfl
      | true =>
        rw [hnm] at CN
        go_wp2_with fail
        (with_reducible refine CN.out.mono ?_)
        clear CN c0 c1
        rintro _ V7 ⟨rfl, b2⟩
        replace A2 := A2.below b2 A2.lt
        replace A3 := A3.below b2 A3.lt
        replace AX := AX.below b2 AX.lt
        replace hFc := hFc.up b2
        replace b3 := b3.trans (b2.mono b3.size)
        clear b2
        have c0 : V7.cell? ⟨w.heap.size, 0, none⟩ = some (.slice A L.length c) := A2.cell 0
        have c1 : V7.cell? ⟨w.heap.size, 1, none⟩ = some (.int .i64 z) := A2.cell 1
        rcases hca with ⟨hgn, rfl⟩ | ⟨k, f, hgs, hk, rfl⟩
        · have HQ7 : Hid (Q = (⟨L, z⟩, 7)) := by show _ = _; rw [HQ.out, HY.out hnm, hgn]; rfl
          clear HQ HY HY0
          go_wp2_with (refine wpList_store_row rfl 24 _ _ rfl (w.heap.size + 1) (dkArr L A c z) rfl rfl 24 dkZero A3 (dkInfo _ _ _ _) rfl (dkArr_one _ _ _ _) ?_)
          exact HBad.out _ _ 7 HQ7.out A3 b3 rfl rfl rfl
        · have HQ0 : Hid (Q = (⟨putL ⟨s, f.safe, f.tail⟩ (del n L), y⟩, 0)) := by show _ = _; rw [HQ.out, HY.out hnm, hgs, HB.out]; rfl
          have hMr : ris ⟨#[]⟩ (del n L) := del_ris n L _ hris
          have hM4 : (del n L).length ≤ 400 := Nat.le_trans (List.length_filter_le _ _) h4
          have hlt := (List.getElem?_eq_some_iff.1 hk).1
          have HM := Lib.hid (del_at n L _ k f hris hk (getF_name hgs).1)
          clear HQ HY HY0 HB hgs
          generalize del n L = M at *
          have hj0 : ¬ (k : Int) < 0 := by omega
          have hj1 : (0 : Int) ≤ (k : Int) + 1 := by omega
          have hj2 : (k : Int) + 1 ≤ L.length := by omega
          have hj3 : (L.length : Int) ≤ c := by omega
          have hj4 : (k : Int) ≤ c := by omega
          have hj5 : ((k : Int) + 1).toNat = k + 1 := by omega
          have hj6 : (k : Int) ≤ L.length := by omega
          have hwr : IntKind.i64.wrap ((k : Int) + 1) = (k : Int) + 1 := IntWalk.i64_in _ (by omega)
          have hj : (k : Int) < L.length := by omega
          obtain ⟨ad, rfl, hbl, h0', h1, h2⟩ := hP k f hk
          have g0 := (b3.cell hbl).trans h0'
          have g1 := (b3.cell (p := ⟨(ad.add (k * 3)).block, (ad.add (k * 3)).off + 1, none⟩) hbl).trans h1
          have g2 := (b3.cell (p := ⟨(ad.add (k * 3)).block, (ad.add (k * 3)).off + 2, none⟩) hbl).trans h2
          clear h0' h1 h2 hk
          have bb : Below V7.heap.size V7 ((V7.alloc (.cells flZero 50)).setRow V7.heap.size (flArr f)) := below_setRow ((Below.refl _ _).alloc (Nat.le_refl _) _) (Nat.le_refl _) _
          have AZ : Arr ((V7.alloc (.cells flZero 50)).setRow V7.heap.size (flArr f)) V7.heap.size 50 (flArr f) := (Arr.new _ _ _).row _
          have hqr := AX.lt
          go_upto_region 36 with (refine wpList_store_row rfl 50 _ _ rfl V7.heap.size (flArr f) rfl rfl 50 flZero (Arr.new V7 _ _) (flInfo _) rfl (flArr_one _) ?_)
          refine wp_forget (fun W => Arr W V7.heap.size 50 (flArr f) ∧ Arr W q 24 (dkArr L Ac cc y) ∧ Arr W w.heap.size 24 (dkArr L (some ad) c z) ∧ Arr W (w.heap.size + 1) 24 dkZero ∧ Below w.heap.size w W) (by exact ⟨AZ, AX.below bb AX.lt, A2.below bb A2.lt, A3.below bb A3.lt, b3.trans (bb.mono b3.size)⟩) ?_
          clear AZ bb AX A2 A3 b3 hFc c0 c1 g0 g1 g2
          generalize V7.heap.size = r at *
          rintro W ⟨AZ, AX, A2, A3, b3⟩
          by_cases hcap : c = k + 1
          case' pos =>
            subst hcap
            have hln : L.length = k + 1 := by omega
            have hj7 : (k : Int) ≤ (k : Int) + 1 := by omega
            have hj8 : ¬ k + 1 = 0 := by omega
            have hj9 : (k : Int) + 1 ≤ 140737488355328 := by omega
            have hfl : flCells (L.drop (k + 1)) = [] := List.eq_nil_of_length_eq_zero (by rw [flCells_len, List.length_drop]; omega)
            have c0 : W.drew.cell? ⟨w.heap.size, 0, none⟩ = some (.slice (some ad) L.length (k + 1)) := A2.cell 0
            rw [hln] at c0
            have HN1 : Hid (News W.drew (some ad) k (flCells (L.take k))) := by
              have := ((hP.up b3.drew).take k).news
              rw [List.length_take, Nat.min_eq_left (by omega)] at this
              exact this
            go_region_law (first
              | (refine step_app _ rfl _ _ 22 rfl W.heap.size 50 si _ 3 48 Try.underlying22 Hsi.out Sz0.out Sz1.out Sz2.out rfl (by decide) _ _ _ rfl (own_nil _ _ _ _) (some ad) k (k + 1) (flCells (L.take k)) rfl (by rw [flCells_len, List.length_take, Nat.min_eq_left (by omega)]) HN1.out (flCells_one _) (by unfold maxLen; omega) (by omega) (Nat.le_refl _) ?_
                 intro v1 w1 hown1 hg1
                 rw [Nat.zero_add, List.nil_append] at hown1
                 have k1 : Below W.heap.size W w1 := ((Below.refl _ W).drew).grown hg1 (Nat.le_refl _) (by intro k hk; cases hk)
                 have c1 : w1.cell? ⟨w.heap.size, 0, none⟩ = some (.slice (some ad) L.length (k + 1)) := (A2.below k1 A2.lt).cell 0
                 rw [hln] at c1
                 have HN2 : Hid (News w1 (some ad) 0 []) := ⟨fun _ => rfl, fun ad' e j u hu => by cases hu⟩)
              | (refine step_app _ rfl _ _ 22 rfl W.heap.size 50 si _ 3 48 Try.underlying22 Hsi.out Sz0.out Sz1.out Sz2.out rfl (by decide) _ _ _ rfl hown1 (some ad) 0 0 [] rfl rfl HN2.out (fun u hu => by cases hu) (by unfold maxLen; omega) (by omega) k1.size ?_
                 intro v2 w2 hown2 hg2
                 have k2 : Below W.heap.size W w2 := k1.grown hg2 k1.size (fun g hg => own_row_ge hown1 g hg)
                 have hown3 := own_cut hlt (by rw [hln, hfl, Nat.sub_self]; exact hown2)
                 rw [← HM.out] at hown3
                 obtain ⟨A9, c9, rfl, hc9, hF9⟩ := own_files hown3
                 have B1 := AX.below k2 AX.lt
                 have x0 : w2.cell? ⟨q, 0, none⟩ = some (.slice Ac L.length cc) := B1.cell 0
                 have x1 := B1.free 0))
          case' neg =>
            have hcap2 : ¬ c - (k + 1) = 0 := by omega
            have c0 : W.drew.cell? ⟨w.heap.size, 0, none⟩ = some (.slice (some ad) L.length c) := A2.cell 0
            have HN1 : Hid (News W.drew (some ad) k (flCells (L.take k))) := by
              have := ((hP.up b3.drew).take k).news
              rw [List.length_take, Nat.min_eq_left (by omega)] at this
              exact this
            go_region_law (first
              | (refine step_app _ rfl _ _ 22 rfl W.heap.size 50 si _ 3 48 Try.underlying22 Hsi.out Sz0.out Sz1.out Sz2.out rfl (by decide) _ _ _ rfl (own_nil _ _ _ _) (some ad) k c (flCells (L.take k)) rfl (by rw [flCells_len, List.length_take, Nat.min_eq_left (by omega)]) HN1.out (flCells_one _) (by unfold maxLen; omega) (by omega) (Nat.le_refl _) ?_
                 intro v1 w1 hown1 hg1
                 rw [Nat.zero_add, List.nil_append] at hown1
                 have k1 : Below W.heap.size W w1 := ((Below.refl _ W).drew).grown hg1 (Nat.le_refl _) (by intro k hk; cases hk)
                 have c1 : w1.cell? ⟨w.heap.size, 0, none⟩ = some (.slice (some ad) L.length c) := (A2.below k1 A2.lt).cell 0
                 have HN2 : Hid (News w1 (some (ad.add ((k + 1) * 3))) (L.length - (k + 1)) (flCells (L.drop (k + 1)))) := by
                   have := ((hP.up (b3.trans (k1.mono b3.size))).drop (k + 1)).news
                   rw [List.length_drop] at this
                   exact this)
              | (refine step_app _ rfl _ _ 22 rfl W.heap.size 50 si _ 3 48 Try.underlying22 Hsi.out Sz0.out Sz1.out Sz2.out rfl (by decide) _ _ _ rfl hown1 (some (ad.add ((k + 1) * 3))) (L.length - (k + 1)) (c - (k + 1)) (flCells (L.drop (k + 1))) rfl (by rw [flCells_len, List.length_drop]) HN2.out (flCells_one _) (by unfold maxLen; omega) (by omega) k1.size ?_
                 intro v2 w2 hown2 hg2
                 have k2 : Below W.heap.size W w2 := k1.grown hg2 k1.size (fun g hg => own_row_ge hown1 g hg)
                 have hown3 := own_cut hlt (hown2)
                 rw [← HM.out] at hown3
                 obtain ⟨A9, c9, rfl, hc9, hF9⟩ := own_files hown3
                 have B1 := AX.below k2 AX.lt
                 have x0 : w2.cell? ⟨q, 0, none⟩ = some (.slice Ac L.length cc) := B1.cell 0
                 have x1 := B1.free 0))
          all_goals
            have AY : Arr (w2.setCell ⟨q, 0, none⟩ (.slice A9 M.length c9)) q 24 (dkArr M A9 c9 y) := B1.put 0 (.slice A9 M.length c9)
            have kk : w2.grownBy (w2.setCell ⟨q, 0, none⟩ (.slice A9 M.length c9)) (some q) := gb_set _ _ _
            have hA9 : ∀ ad, A9 = some ad → r < ad.block := fun ad e => by
              have := own_base9 hown3 ad e
              have := AZ.lt
              omega
            have B2 := AZ.below k2 AZ.lt
            go_upto_region 37 with fail
            refine wp_forget (fun W => Arr W r 50 (flArr f) ∧ Arr W q 24 (dkArr M A9 c9 y) ∧ Arr W (w.heap.size + 1) 24 dkZero ∧ Fls W W.heap.size A9 M ∧ Below w.heap.size w W) (by exact ⟨B2.kept kk (fun e => by have := Option.some.inj e; omega), AY, (A3.below k2 A3.lt).kept kk (fun e => by have := Option.some.inj e; omega), fls_cell hF9 B1, below_gb (b3.trans (k2.mono b3.size)) kk (by omega) (b3.trans (k2.mono b3.size)).size⟩) ?_
            clear AX AY AZ A2 A3 b3 hF9 B1 B2 x0 x1 kk hown1 hown2 hown3 hg1 hg2 k1 k2 c0 c1
            rintro W ⟨AZ, AX, A3, hFb, b3⟩
            have x0 : W.cell? ⟨r, 0, none⟩ = some (.string f.name) := AZ.cell 0
            have x1 := AZ.free 0
            have AY : Arr (W.setCell ⟨r, 0, none⟩ (.string s)) r 50 (flArr ⟨s, f.safe, f.tail⟩) := AZ.put 0 (.string s)
            have kk : W.grownBy (W.setCell ⟨r, 0, none⟩ (.string s)) (some r) := gb_set _ _ _
            go_upto_region 38 with fail
            refine wp_forget (fun W => Arr W r 50 (flArr ⟨s, f.safe, f.tail⟩) ∧ Arr W q 24 (dkArr M A9 c9 y) ∧ Arr W (w.heap.size + 1) 24 dkZero ∧ Fls W W.heap.size A9 M ∧ Below w.heap.size w W) (by exact ⟨AY, AX.kept kk (fun e => by have := Option.some.inj e; omega), A3.kept kk (fun e => by have := Option.some.inj e; omega), hFb.far hA9 kk, below_gb b3 kk (by omega) b3.size⟩) ?_
            clear AX AY AZ A3 b3 hFb x0 x1 kk
            rintro W ⟨AZ, AX, A3, hFb, b3⟩
            have e0 : W.cell? ⟨r, 0, none⟩ = some (.string s) := AZ.cell 0
            have e1 : W.cell? ⟨r, 1, none⟩ = some (.string f.safe) := AZ.cell 1
            have e2 : W.cell? ⟨r, 2, none⟩ = some (.string f.tail) := AZ.cell 2
            have d0 : W.cell? ⟨q, 0, none⟩ = some (.slice A9 M.length c9) := AX.cell 0
            have C1 : Hid (Calls Try.prog 44 #[.slice A9 M.length c9, .agg #[.string s, .string f.safe, .string f.tail]] W fun e w' => ∃ A' c', e = .returned (.slice A' (putL ⟨s, f.safe, f.tail⟩ M).length c') ∧ (putL ⟨s, f.safe, f.tail⟩ M).length ≤ c' ∧ Fls w' w'.heap.size A' (putL ⟨s, f.safe, f.tail⟩ M) ∧ Below W.heap.size W w') := RefPut_any M ⟨s, f.safe, f.tail⟩ A9 c9 W hFb hM4 hMr
            generalize putL ⟨s, f.safe, f.tail⟩ M = M2 at *
            go_wp2_with fail
            (with_reducible refine C1.out.mono ?_)
            clear C1 d0 e0 e1 e2
            rintro _ W2 ⟨Ab, cb, rfl, hcb, hFb2, b2⟩
            replace A3 := A3.below b2 A3.lt
            replace AX := AX.below b2 AX.lt
            replace b3 := b3.trans (b2.mono b3.size)
            clear b2 AZ hFb
            have d0 : W2.cell? ⟨q, 0, none⟩ = some (.slice A9 M.length c9) := AX.cell 0
            have x0 := AX.free 0
            have AY : Arr (W2.setCell ⟨q, 0, none⟩ (.slice Ab M2.length cb)) q 24 (dkArr M2 Ab cb y) := AX.put 0 (.slice Ab M2.length cb)
            have kk : W2.grownBy (W2.setCell ⟨q, 0, none⟩ (.slice Ab M2.length cb)) (some q) := gb_set _ _ _
            go_upto_region 39 with fail
            refine wp_forget (fun W => Arr W q 24 (dkArr M2 Ab cb y) ∧ Arr W (w.heap.size + 1) 24 dkZero ∧ Fls W W.heap.size Ab M2 ∧ Below w.heap.size w W) (by exact ⟨AY, A3.kept kk (fun e => by have := Option.some.inj e; omega), fls_cell hFb2 AX, below_gb b3 kk (by omega) b3.size⟩) ?_
            clear AX AY A3 b3 hFb2 d0 x0 kk
            rintro W ⟨AX, A3, hFb, b3⟩
            have d0 : W.cell? ⟨q, 0, none⟩ = some (.slice Ab M2.length cb) := AX.cell 0
            have d1 : W.cell? ⟨q, 1, none⟩ = some (.int .i64 y) := AX.cell 1
            go_wp2_with (refine wpList_store_row rfl 24 _ _ rfl (w.heap.size + 1) (dkArr M2 Ab cb y) rfl rfl 24 dkZero A3 (dkInfo _ _ _ _) rfl (dkArr_one _ _ _ _) ?_)
            rw [HQ0.out]
            exact HRet.out _ _ ⟨M2, y⟩ Ab cb 0 (A3.row _) (below_setRow b3 (show w.heap.size ≤ w.heap.size + 1 by omega) _) (hFb.row A3 _) hcb rfl rfl rfl
end Go.Proofs.Ytnijnphalhfabaa

/- keep.pick: its contract. -/
namespace Go.Proofs.Ytnijnphalhfabaa
open Go.RowKit

def pk (k n : Int) : Int := if k.tmod n < 0 then k.tmod n + n else k.tmod n
theorem pk_in (k : Int) (n : Nat) (hn : 0 < n) : 0 ≤ pk k n ∧ pk k n < n := by
  have h1 := Int.tmod_lt_of_pos k (b := (n : Int)) (by omega)
  have h2 := Int.lt_tmod_of_pos k (b := (n : Int)) (by omega)
  unfold pk
  split <;> omega
theorem pick_any (k : Int) (n : Nat) (hn : 0 < n) (hn2 : n ≤ 281474976710656) (w : World) :
    Calls Try.prog 28 #[.int .i64 k, .int .i64 (n : Int)] w fun e w' => e = .returned (.int .i64 (pk k n)) ∧ w = w' := by
  have h1 := Int.tmod_lt_of_pos k (b := (n : Int)) (by omega)
  have h2 := Int.lt_tmod_of_pos k (b := (n : Int)) (by omega)
  by_cases h : k.tmod n < 0
  · have HP : Hid (pk k n = k.tmod n + n) := by show _ = _; unfold pk; rw [if_pos h]
    have hw : wrap64 (k.tmod n + n) = k.tmod n + n := IntWalk.wrap64_in _ (by omega)
    go_enter Try.func28, Try.ntmps28
    go_wp2_with fail
    go_ret
    exact ⟨by rw [HP.out]; rfl, rfl⟩
  · have HP : Hid (pk k n = k.tmod n) := by show _ = _; unfold pk; rw [if_neg h]
    go_enter Try.func28, Try.ntmps28
    go_wp2_with fail
    go_ret
    exact ⟨by rw [HP.out]; rfl, rfl⟩

end Go.Proofs.Ytnijnphalhfabaa
