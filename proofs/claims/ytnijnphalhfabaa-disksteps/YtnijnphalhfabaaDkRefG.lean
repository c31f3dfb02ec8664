/- ref.Do 3 (Remove): its contract. -/
import Derived.Test.YtnijnphalhfabaaDkRefF
namespace Go.Proofs.Ytnijnphalhfabaa
open Go.RowKit

theorem del_at (n : ByteArray) : ∀ (L : List Fl) (b : ByteArray) (k : Nat) (f : Fl), ris b L → L[k]? = some f → f.name = n → del n L = L.take k ++ L.drop (k + 1)
  | [], _, _, _, _, h, _ => by simp at h
  | x :: l, _, 0, f, hr, h, hn => by
    obtain rfl : x = f := by simpa using h
    have e : del n l = l := by
      unfold del
      refine List.filter_eq_self.2 fun y hy => ?_
      have := ltB_ne (ris_lt hr.2 y hy)
      rw [hn] at this
      simpa using fun e : y.name = n => this e.symm
    show del n (x :: l) = l
    unfold del at e ⊢
    rw [List.filter_cons_of_neg (by simp [hn]), e]
  | x :: l, _, k + 1, f, hr, h, hn => by
    have h1 : l[k]? = some f := by simpa using h
    have hne : x.name ≠ n := fun e => ltB_ne (ris_lt hr.2 f (List.mem_of_getElem? h1)) (e.trans hn.symm)
    have ih := del_at n l _ k f hr.2 h1 hn
    show del n (x :: l) = x :: (l.take k ++ l.drop (k + 1))
    unfold del at ih ⊢
    rw [List.filter_cons_of_pos (by simp [hne]), ih]
theorem Fls.take {w : World} {B : Nat} {A : Option Addr} {L : List Fl} (h : Fls w B A L) (m : Nat) : Fls w B A (L.take m) := fun k x hx => by
  rw [List.getElem?_take] at hx
  split at hx
  · exact h k x hx
  · cases hx
theorem add_twice (ad : Addr) (m k : Nat) : (ad.add m).add k = ad.add (m + k) := by
  unfold Addr.add
  by_cases h1 : m = 0
  · subst h1; simp
  · by_cases h2 : k = 0
    · subst h2; simp [h1]
    · rw [if_neg h1, if_neg h2, if_neg (by omega)]
      simp [Nat.add_assoc]
theorem Fls.drop {w : World} {B : Nat} {ad : Addr} {L : List Fl} (h : Fls w B (some ad) L) (m : Nat) : Fls w B (some (ad.add (m * 3))) (L.drop m) := fun k x hx => by
  rw [List.getElem?_drop] at hx
  obtain ⟨ad', e, h0⟩ := h (m + k) x hx
  cases e
  refine ⟨_, rfl, ?_⟩
  rw [add_twice, ← Nat.add_mul]
  exact h0
theorem own_cut {w : World} {b k : Nat} {v : Value} {L : List Fl} (hk : k < L.length) (h : w.ownsRow b 50 3 v (k + (L.length - (k + 1))) (flCells (L.take k) ++ flCells (L.drop (k + 1)))) :
    w.ownsRow b 50 3 v (L.take k ++ L.drop (k + 1)).length (flCells (L.take k ++ L.drop (k + 1))) := by
  rw [flCells_app, List.length_append, List.length_take, List.length_drop, Nat.min_eq_left (by omega)]
  exact h
set_option maxRecDepth 100000 in
set_option maxHeartbeats 2000000 in
theorem RefDo_remove (L : List Fl) (n s : ByteArray) (A : Option Addr) (c : Nat) (z : Int) (hz1 : -9223372036854775808 ≤ z) (hz2 : z ≤ 9223372036854775807) (w : World) (hP : Fls w w.heap.size A L) (hz : Sized L) (hl : L.length * 48 ≤ 140737488355328) (hc : L.length ≤ c) :
    Calls Try.prog 16 #[.int .i64 3, .agg (dkArr L A c z), .string n, .string s] w (StEnd w (stepP ⟨L, z⟩ (rmP L n))) := by
  obtain ⟨si, hsi, sz0, sz1, sz2⟩ := info_parts info_file
  have Hsi := Lib.hid hsi
  have Sz0 := Lib.hid sz0
  have Sz1 := Lib.hid sz1
  have Sz2 := Lib.hid sz2
  clear hsi sz0 sz1 sz2
  have hl1 : L.length ≤ 140737488355328 := by omega
  have A0 : Arr ((w.alloc (.cells (dkArr L A c z) 24)).alloc (.cells dkZero 24)) w.heap.size 24 (dkArr L A c z) := (Arr.new _ _ _).alloc _
  have A1 : Arr ((w.alloc (.cells (dkArr L A c z) 24)).alloc (.cells dkZero 24)) (w.heap.size + 1) 24 dkZero := Arr.new_at _ _ _ (by simp)
  have b0 : Below w.heap.size w ((w.alloc (.cells (dkArr L A c z) 24)).alloc (.cells dkZero 24)) := ((Below.refl _ _).alloc (Nat.le_refl _) _).alloc (by simp) _
  have HS : Hid (stepP ⟨L, z⟩ (rmP L n) = if !goodD L then (⟨L, z⟩, 3) else if z = 0 then (⟨L, z⟩, 12) else okP ⟨L, z⟩ (rmP L n)) := rfl
  have HY : Hid (rmP L n = match getF n L with | none => .error 7 | some _ => .ok (del n L)) := rfl
  generalize rmP L n = Y at *
  generalize stepP ⟨L, z⟩ Y = Q at *
  go_enter Try.func16, Try.ntmps16
  go_upto_region 1 with fail
  refine wp_forget (fun V => Arr V w.heap.size 24 (dkArr L A c z) ∧ Arr V (w.heap.size + 1) 24 dkZero ∧ Below w.heap.size w V) (by exact ⟨A0, A1, b0⟩) ?_
  clear A0 A1 b0
  rintro V ⟨A0, A1, b0⟩
  have c0 : V.cell? ⟨w.heap.size, 0, none⟩ = some (.slice A L.length c) := A0.cell 0
  have c1 : V.cell? ⟨w.heap.size, 1, none⟩ = some (.int .i64 z) := A0.cell 1
  have CG : Hid (Calls Try.prog 19 #[.agg #[.slice A L.length c, .int .i64 z]] V fun e w' => e = .returned (.bool (goodD L)) ∧ Below V.heap.size V w') := GoodDisk_any L A c z V (hP.up b0) hz hl1
  have HRet : Hid (∀ (W : World) (a : Act) (d : Dk) (A' : Option Addr) (c' : Nat) (e : Int), Arr W (w.heap.size + 1) 24 (dkArr d.files A' c' d.fuse) → Below w.heap.size w W → Fls W W.heap.size A' d.files → d.files.length ≤ c' → a.tmps[8]? = some (.pointer (some ⟨w.heap.size + 1, 0, none⟩)) → a.tmps[9]? = some (.int .i64 e) → a.defers = [] → bodyPost Try.prog Try.f16 (StEnd w (d, e)) .ret a W) := fun W a d A' c' e h1 h2 h3 h4 h5 h6 h7 => by
    refine bodyPost_ret (v := .tuple #[.agg (dkArr d.files A' c' d.fuse), .int .i64 e]) ?_ h7 ⟨A', c', rfl, h3, h4, h2⟩
    rw [results_cell_tmp Try.results16]
    have hld := run_loadVar_row (P := Try.prog) _ _ _ 24 _ _ _ h1 Try.underlying24 rfl (dkInfo _ _ _ _)
    simp [Array.getD_eq_getD_getElem?, h5, h6, asAddr, hld, Result.andThen]
  have HBad : Hid (∀ (W : World) (a : Act) (e : Int), Q = (⟨L, z⟩, e) → Arr W (w.heap.size + 1) 24 dkZero → Below w.heap.size w W → a.tmps[8]? = some (.pointer (some ⟨w.heap.size + 1, 0, none⟩)) → a.tmps[9]? = some (.int .i64 e) → a.defers = [] → bodyPost Try.prog Try.f16 (StEnd w Q) .ret a (W.setRow (w.heap.size + 1) (dkArr L A c z))) := fun W a e hQ h1 h2 h3 h4 h5 => by
    rw [hQ]
    have b4 := below_setRow h2 (show w.heap.size ≤ w.heap.size + 1 by omega) (dkArr L A c z)
    exact HRet.out _ _ ⟨L, z⟩ A c e (h1.row _) b4 (hP.up b4) hc h3 h4 h5
  cases hg : goodD L with
  | false =>
    rw [hg] at CG
    have HQ : Hid (Q = (⟨L, z⟩, 3)) := by show _ = _; rw [HS.out, hg]; rfl
    clear HS hg
    go_wp2_with fail
    (with_reducible refine CG.out.mono ?_)
    clear CG c0 c1
    rintro _ V2 ⟨rfl, b2⟩
    have A2 := A0.below b2 A0.lt
    have A3 := A1.below b2 A1.lt
    have b3 := b0.trans (b2.mono b0.size)
    have c0 : V2.cell? ⟨w.heap.size, 0, none⟩ = some (.slice A L.length c) := A2.cell 0
    have c1 : V2.cell? ⟨w.heap.size, 1, none⟩ = some (.int .i64 z) := A2.cell 1
    go_wp2_with (refine wpList_store_row rfl 24 _ _ rfl (w.heap.size + 1) (dkArr L A c z) rfl rfl 24 dkZero A3 (dkInfo _ _ _ _) rfl (dkArr_one _ _ _ _) ?_)
    exact HBad.out _ _ 3 HQ.out A3 b3 rfl rfl rfl
  | true =>
    rw [hg] at CG
    obtain ⟨h4, hris, hall⟩ := (goodD_iff L).1 hg
    go_wp2_with fail
    (with_reducible refine CG.out.mono ?_)
    clear CG c0 c1
    rintro _ V2 ⟨rfl, b2⟩
    have A2 := A0.below b2 A0.lt
    have A3 := A1.below b2 A1.lt
    have b3 := b0.trans (b2.mono b0.size)
    clear A0 A1 b0 b2
    have c0 : V2.cell? ⟨w.heap.size, 0, none⟩ = some (.slice A L.length c) := A2.cell 0
    have c1 : V2.cell? ⟨w.heap.size, 1, none⟩ = some (.int .i64 z) := A2.cell 1
    cases hz0 : z == 0
    case true =>
      have HQ : Hid (Q = (⟨L, z⟩, 12)) := by show _ = _; rw [HS.out, hg, if_pos (eq_of_beq hz0)]; rfl
      clear HS hg
      go_wp2_with (refine wpList_store_row rfl 24 _ _ rfl (w.heap.size + 1) (dkArr L A c z) rfl rfl 24 dkZero A3 (dkInfo _ _ _ _) rfl (dkArr_one _ _ _ _) ?_)
      exact HBad.out _ _ 12 HQ.out A3 b3 rfl rfl rfl
    have HQ : Hid (Q = okP ⟨L, z⟩ Y) := by show _ = _; rw [HS.out, if_neg (by rw [hg]; decide), if_neg (fun e => by rw [e] at hz0; cases hz0)]
    clear HS hg
    have C1 := Lib.hid (CopyDisk_any L A c z V2 (hP.up b3) hl)
    go_wp2_with fail
    (with_reducible refine C1.out.mono ?_)
    clear C1 c0 c1
    rintro _ V3 ⟨Ac, cc, rfl, hFc, hcc, b2⟩
    replace A2 := A2.below b2 A2.lt
    replace A3 := A3.below b2 A3.lt
    replace b3 := b3.trans (b2.mono b3.size)
    clear b2
    have bb : Below V3.heap.size V3 ((V3.alloc (.cells dkZero 24)).setRow V3.heap.size (dkArr L Ac cc z)) := below_setRow ((Below.refl _ _).alloc (Nat.le_refl _) _) (Nat.le_refl _) _
    have AX : Arr ((V3.alloc (.cells dkZero 24)).setRow V3.heap.size (dkArr L Ac cc z)) V3.heap.size 24 (dkArr L Ac cc z) := (Arr.new _ _ _).row _
    have hq1 := A3.lt
    go_upto_region 6 with (refine wpList_store_row rfl 24 _ _ rfl V3.heap.size (dkArr L Ac cc z) rfl rfl 24 dkZero (Arr.new V3 _ _) (dkInfo _ _ _ _) rfl (dkArr_one _ _ _ _) ?_)
    refine wp_forget (fun W => Arr W V3.heap.size 24 (dkArr L Ac cc z) ∧ Arr W w.heap.size 24 (dkArr L A c z) ∧ Arr W (w.heap.size + 1) 24 dkZero ∧ Fls W W.heap.size Ac L ∧ Below w.heap.size w W) (by exact ⟨AX, A2.below bb A2.lt, A3.below bb A3.lt, hFc.up bb, b3.trans (bb.mono b3.size)⟩) ?_
    clear AX bb A2 A3 b3 hFc
    generalize V3.heap.size = q at *
    rintro V4 ⟨AX, A2, A3, hFc, b3⟩
    have d1 : V4.cell? ⟨q, 1, none⟩ = some (.int .i64 z) := AX.cell 1
    have x1 := AX.free 1
    have AY : Arr (V4.setCell ⟨q, 1, none⟩ (.int .i64 (z - 1))) q 24 (dkArr L Ac cc (z - 1)) := AX.put 1 (.int .i64 (z - 1))
    have kk : V4.grownBy (V4.setCell ⟨q, 1, none⟩ (.int .i64 (z - 1))) (some q) := gb_set _ _ _
    have hqq : w.heap.size + 1 < q := hq1
    have hFy := fls_cell (i := 1) (u := .int .i64 (z - 1)) hFc AX
    by_cases hpos : 0 < z
    case' pos =>
      have hb : burnt z = z - 1 := if_pos hpos
      go_upto_region 8 with fail
      refine wp_forget (fun W => Arr W q 24 (dkArr L Ac cc (burnt z)) ∧ Arr W w.heap.size 24 (dkArr L A c z) ∧ Arr W (w.heap.size + 1) 24 dkZero ∧ Fls W W.heap.size Ac L ∧ Below w.heap.size w W) (by rw [hb]; exact ⟨AY, A2.kept kk (fun e => by have := Option.some.inj e; omega), A3.kept kk (fun e => by have := Option.some.inj e; omega), hFy, below_gb b3 kk (by omega) b3.size⟩) ?_
    case' neg =>
      have hb : burnt z = z := if_neg hpos
      go_upto_region 8 with fail
      refine wp_forget (fun W => Arr W q 24 (dkArr L Ac cc (burnt z)) ∧ Arr W w.heap.size 24 (dkArr L A c z) ∧ Arr W (w.heap.size + 1) 24 dkZero ∧ Fls W W.heap.size Ac L ∧ Below w.heap.size w W) (by rw [hb]; exact ⟨AX, A2, A3, hFc, b3⟩) ?_
    all_goals
      clear AX AY A2 A3 b3 hFc hFy d1 x1 kk
      rintro V5 ⟨AX, A2, A3, hFc, b3⟩
      have c0 : V5.cell? ⟨w.heap.size, 0, none⟩ = some (.slice A L.length c) := A2.cell 0
      have c1 : V5.cell? ⟨w.heap.size, 1, none⟩ = some (.int .i64 z) := A2.cell 1
      have C1 := Lib.hid (at_any L n A c z V5 (hP.up b3) hl1 hris)
      obtain ⟨y, hy⟩ : ∃ y, y = burnt z := ⟨_, rfl⟩
      rw [← hy] at AX
      have HB := Lib.hid hy
      clear hy hb
      have hca := at_cases hris n
      generalize atP n L = p at *
      go_wp2_with fail
      (with_reducible refine C1.out.mono ?_)
      clear C1 c0 c1
      rintro _ V6 ⟨rfl, b2⟩
      replace A2 := A2.below b2 A2.lt
      replace A3 := A3.below b2 A3.lt
      replace AX := AX.below b2 AX.lt
      replace hFc := hFc.up b2
      replace b3 := b3.trans (b2.mono b3.size)
      clear b2
      have c0 : V6.cell? ⟨w.heap.size, 0, none⟩ = some (.slice A L.length c) := A2.cell 0
      have c1 : V6.cell? ⟨w.heap.size, 1, none⟩ = some (.int .i64 z) := A2.cell 1
      rcases hca with ⟨hgn, rfl⟩ | ⟨k, f, hgs, hk, rfl⟩
      · have HQ7 : Hid (Q = (⟨L, z⟩, 7)) := by show _ = _; rw [HQ.out, HY.out, hgn]; rfl
        clear HQ HY
        go_wp2_with (refine wpList_store_row rfl 24 _ _ rfl (w.heap.size + 1) (dkArr L A c z) rfl rfl 24 dkZero A3 (dkInfo _ _ _ _) rfl (dkArr_one _ _ _ _) ?_)
        exact HBad.out _ _ 7 HQ7.out A3 b3 rfl rfl rfl
      · have HQ0 : Hid (Q = (⟨del n L, y⟩, 0)) := by show _ = _; rw [HQ.out, HY.out, hgs, HB.out]; rfl
        have hlt := (List.getElem?_eq_some_iff.1 hk).1
        have HM := Lib.hid (del_at n L _ k f hris hk (getF_name hgs).1)
        clear HQ HY HB hgs
        generalize del n L = M at *
        have hj0 : ¬ (k : Int) < 0 := by omega
        have hj1 : (0 : Int) ≤ (k : Int) + 1 := by omega
        have hj2 : (k : Int) + 1 ≤ L.length := by omega
        have hj3 : (L.length : Int) ≤ c := by omega
        have hj4 : (k : Int) ≤ c := by omega
        have hj5 : ((k : Int) + 1).toNat = k + 1 := by omega
        have hj6 : (k : Int) ≤ L.length := by omega
        have hwr : IntKind.i64.wrap ((k : Int) + 1) = (k : Int) + 1 := IntWalk.i64_in _ (by omega)
        obtain ⟨ad, rfl, hbl, _⟩ := hP k f hk
        go_upto_region 12 with fail
        refine wp_forget (fun W => Arr W q 24 (dkArr L Ac cc y) ∧ Arr W w.heap.size 24 (dkArr L (some ad) c z) ∧ Arr W (w.heap.size + 1) 24 dkZero ∧ Below w.heap.size w W) (by exact ⟨AX, A2, A3, b3⟩) ?_
        clear AX A2 A3 b3 hFc c0 c1
        rintro W ⟨AX, A2, A3, b3⟩
        by_cases hcap : c = k + 1
        case' pos =>
          subst hcap
          have hln : L.length = k + 1 := by omega
          have hj7 : (k : Int) ≤ (k : Int) + 1 := by omega
          have hj8 : ¬ k + 1 = 0 := by omega
          have hj9 : (k : Int) + 1 ≤ 140737488355328 := by omega
          have hfl : flCells (L.drop (k + 1)) = [] := List.eq_nil_of_length_eq_zero (by rw [flCells_len, List.length_drop]; omega)
          have c0 : W.drew.cell? ⟨w.heap.size, 0, none⟩ = some (.slice (some ad) L.length (k + 1)) := A2.cell 0
          rw [hln] at c0
          have HN1 : Hid (News W.drew (some ad) k (flCells (L.take k))) := by
            have := ((hP.up b3.drew).take k).news
            rw [List.length_take, Nat.min_eq_left (by omega)] at this
            exact this
          go_region_law (first
            | (refine step_app _ rfl _ _ 22 rfl W.heap.size 50 si _ 3 48 Try.underlying22 Hsi.out Sz0.out Sz1.out Sz2.out rfl (by decide) _ _ _ rfl (own_nil _ _ _ _) (some ad) k (k + 1) (flCells (L.take k)) rfl (by rw [flCells_len, List.length_take, Nat.min_eq_left (by omega)]) HN1.out (flCells_one _) (by unfold maxLen; omega) (by omega) (Nat.le_refl _) ?_
               intro v1 w1 hown1 hg1
               rw [Nat.zero_add, List.nil_append] at hown1
               have k1 : Below W.heap.size W w1 := ((Below.refl _ W).drew).grown hg1 (Nat.le_refl _) (by intro k hk; cases hk)
               have c1 : w1.cell? ⟨w.heap.size, 0, none⟩ = some (.slice (some ad) L.length (k + 1)) := (A2.below k1 A2.lt).cell 0
               rw [hln] at c1
               have HN2 : Hid (News w1 (some ad) 0 []) := ⟨fun _ => rfl, fun ad' e j u hu => by cases hu⟩)
            | (refine step_app _ rfl _ _ 22 rfl W.heap.size 50 si _ 3 48 Try.underlying22 Hsi.out Sz0.out Sz1.out Sz2.out rfl (by decide) _ _ _ rfl hown1 (some ad) 0 0 [] rfl rfl HN2.out (fun u hu => by cases hu) (by unfold maxLen; omega) (by omega) k1.size ?_
               intro v2 w2 hown2 hg2
               have k2 : Below W.heap.size W w2 := k1.grown hg2 k1.size (fun g hg => own_row_ge hown1 g hg)
               have hown3 := own_cut hlt (by rw [hln, hfl, Nat.sub_self]; exact hown2)
               rw [← HM.out] at hown3
               obtain ⟨A9, c9, rfl, hc9, hF9⟩ := own_files hown3
               have B1 := AX.below k2 AX.lt
               have x0 : w2.cell? ⟨q, 0, none⟩ = some (.slice Ac L.length cc) := B1.cell 0
               have x1 := B1.free 0))
        case' neg =>
          have hcap2 : ¬ c - (k + 1) = 0 := by omega
          have c0 : W.drew.cell? ⟨w.heap.size, 0, none⟩ = some (.slice (some ad) L.length c) := A2.cell 0
          have HN1 : Hid (News W.drew (some ad) k (flCells (L.take k))) := by
            have := ((hP.up b3.drew).take k).news
            rw [List.length_take, Nat.min_eq_left (by omega)] at this
            exact this
          go_region_law (first
            | (refine step_app _ rfl _ _ 22 rfl W.heap.size 50 si _ 3 48 Try.underlying22 Hsi.out Sz0.out Sz1.out Sz2.out rfl (by decide) _ _ _ rfl (own_nil _ _ _ _) (some ad) k c (flCells (L.take k)) rfl (by rw [flCells_len, List.length_take, Nat.min_eq_left (by omega)]) HN1.out (flCells_one _) (by unfold maxLen; omega) (by omega) (Nat.le_refl _) ?_
               intro v1 w1 hown1 hg1
               rw [Nat.zero_add, List.nil_append] at hown1
               have k1 : Below W.heap.size W w1 := ((Below.refl _ W).drew).grown hg1 (Nat.le_refl _) (by intro k hk; cases hk)
               have c1 : w1.cell? ⟨w.heap.size, 0, none⟩ = some (.slice (some ad) L.length c) := (A2.below k1 A2.lt).cell 0
               have HN2 : Hid (News w1 (some (ad.add ((k + 1) * 3))) (L.length - (k + 1)) (flCells (L.drop (k + 1)))) := by
                 have := ((hP.up (b3.trans (k1.mono b3.size))).drop (k + 1)).news
                 rw [List.length_drop] at this
                 exact this)
            | (refine step_app _ rfl _ _ 22 rfl W.heap.size 50 si _ 3 48 Try.underlying22 Hsi.out Sz0.out Sz1.out Sz2.out rfl (by decide) _ _ _ rfl hown1 (some (ad.add ((k + 1) * 3))) (L.length - (k + 1)) (c - (k + 1)) (flCells (L.drop (k + 1))) rfl (by rw [flCells_len, List.length_drop]) HN2.out (flCells_one _) (by unfold maxLen; omega) (by omega) k1.size ?_
               intro v2 w2 hown2 hg2
               have k2 : Below W.heap.size W w2 := k1.grown hg2 k1.size (fun g hg => own_row_ge hown1 g hg)
               have hown3 := own_cut hlt (hown2)
               rw [← HM.out] at hown3
               obtain ⟨A9, c9, rfl, hc9, hF9⟩ := own_files hown3
               have B1 := AX.below k2 AX.lt
               have x0 : w2.cell? ⟨q, 0, none⟩ = some (.slice Ac L.length cc) := B1.cell 0
               have x1 := B1.free 0))
        all_goals
          have AY : Arr (w2.setCell ⟨q, 0, none⟩ (.slice A9 M.length c9)) q 24 (dkArr M A9 c9 y) := B1.put 0 (.slice A9 M.length c9)
          have kk : w2.grownBy (w2.setCell ⟨q, 0, none⟩ (.slice A9 M.length c9)) (some q) := gb_set _ _ _
          go_upto_region 39 with fail
          refine wp_forget (fun W => Arr W q 24 (dkArr M A9 c9 y) ∧ Arr W (w.heap.size + 1) 24 dkZero ∧ Fls W W.heap.size A9 M ∧ Below w.heap.size w W) (by exact ⟨AY, (A3.below k2 A3.lt).kept kk (fun e => by have := Option.some.inj e; omega), fls_cell hF9 B1, below_gb (b3.trans (k2.mono b3.size)) kk (by omega) (b3.trans (k2.mono b3.size)).size⟩) ?_
          clear AX AY A2 A3 b3 hF9 B1 x0 x1 kk hown1 hown2 hown3 hg1 hg2 k1 k2 c0 c1
          rintro W ⟨AX, A3, hFb, b3⟩
          have d0 : W.cell? ⟨q, 0, none⟩ = some (.slice A9 M.length c9) := AX.cell 0
          have d1 : W.cell? ⟨q, 1, none⟩ = some (.int .i64 y) := AX.cell 1
          go_wp2_with (refine wpList_store_row rfl 24 _ _ rfl (w.heap.size + 1) (dkArr M A9 c9 y) rfl rfl 24 dkZero A3 (dkInfo _ _ _ _) rfl (dkArr_one _ _ _ _) ?_)
          rw [HQ0.out]
          exact HRet.out _ _ ⟨M, y⟩ A9 c9 0 (A3.row _) (below_setRow b3 (show w.heap.size ≤ w.heap.size + 1 by omega) _) (hFb.row A3 _) hc9 rfl rfl rfl
end Go.Proofs.Ytnijnphalhfabaa
