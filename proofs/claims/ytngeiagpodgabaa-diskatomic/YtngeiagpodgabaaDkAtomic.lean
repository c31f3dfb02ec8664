/- keep.DiskAtomic: the walk. -/
import Derived.Test.YtngeiagpodgabaaDkLaws
namespace Go.Proofs.Ytngeiagpodgabaa
open Go.RowKit

theorem atom_early {w W W3 : World} {Lb : List Fl} {Ab : Option Addr} {cb : Nat} (hF : Fls W3 W3.heap.size Ab Lb) (hA : Arr W3 W.heap.size 24 dkZero) (hb : Below w.heap.size w W3) (hq : w.heap.size ≤ W.heap.size) (W' : World) (e : W' = (W3.setCell ⟨W.heap.size, 0, none⟩ (.slice Ab Lb.length cb)).setCell ⟨W.heap.size, 1, none⟩ (.int .i64 (-1))) :
    Arr W' W.heap.size 24 (dkArr Lb Ab cb (-1)) ∧ Fls W' W'.heap.size Ab Lb ∧ Below w.heap.size w W' := by
  subst e
  have k : W3.grownBy ((W3.setCell ⟨W.heap.size, 0, none⟩ (.slice Ab Lb.length cb)).setCell ⟨W.heap.size, 1, none⟩ (.int .i64 (-1))) (some W.heap.size) := gb_trans (gb_set _ _ _) (gb_set _ _ _)
  refine ⟨(hA.put 0 (.slice Ab Lb.length cb)).put 1 (.int .i64 (-1)), fun k' x hx => ?_, below_gb hb k hq hb.size⟩
  obtain ⟨ad, e, hbk, h0, h1, h2⟩ := hF k' x hx
  have hn : ¬ some (ad.add (k' * 3)).block = some W.heap.size := fun q => by
    rw [Option.some.inj q, hA.cell] at h1
    exact dkZero_no _ _ h1
  exact ⟨ad, e, Nat.lt_of_lt_of_le hbk k.size, k.cell h0 hn, k.cell h1 hn, k.cell h2 hn⟩
theorem atom_late {w W3 : World} {Lb : List Fl} {Ab : Option Addr} {cb : Nat} (hF : Fls W3 W3.heap.size Ab Lb) (hb : Below w.heap.size w W3) (W' : World) (e : W' = W3.alloc (.cells #[.slice Ab Lb.length cb, .int .i64 (-1)] 24)) :
    Arr W' W3.heap.size 24 (dkArr Lb Ab cb (-1)) ∧ Fls W' W'.heap.size Ab Lb ∧ Below w.heap.size w W' := by
  subst e
  have b1 : Below W3.heap.size W3 (W3.alloc (.cells #[.slice Ab Lb.length cb, .int .i64 (-1)] 24)) := (Below.refl _ _).alloc (Nat.le_refl _) _
  exact ⟨Arr.new _ _ _, hF.up b1, hb.trans (b1.mono hb.size)⟩
set_option maxRecDepth 100000 in
set_option maxHeartbeats 4000000 in
theorem DiskAtomic_any (L : List Fl) (n s : ByteArray) (hn : n.size ≤ 140737488355328) (hs : s.size ≤ 140737488355328) (m kp : Int) (A : Option Addr) (c : Nat) (z : Int) (w : World) (hP : Fls w w.heap.size A L) (hz : Sized L) (hl : L.length ≤ 140737488355328) (hc : L.length ≤ c) :
    Calls Try.prog 6 #[.agg (dkArr L A c z), .string n, .string s, .int .i64 m, .int .i64 kp] w fun e w' => e = .returned (.bool true) ∧ Below w.heap.size w w' := by
  have A0 : Arr (w.alloc (.cells (dkArr L A c z) 24)) w.heap.size 24 (dkArr L A c z) := Arr.new _ _ _
  have b0 : Below w.heap.size w (w.alloc (.cells (dkArr L A c z) 24)) := (Below.refl _ _).alloc (Nat.le_refl _) _
  have CK := fun V => Lib.hid (disks_keep V)
  go_enter Try.func6, Try.ntmps6
  go_upto_region 1 with fail
  refine wp_forget (fun V => Arr V w.heap.size 24 (dkArr L A c z) ∧ Below w.heap.size w V) (by exact ⟨A0, b0⟩) ?_
  clear A0 b0
  rintro V ⟨A0, b0⟩
  have c0 : V.cell? ⟨w.heap.size, 0, none⟩ = some (.slice A L.length c) := A0.cell 0
  have c1 : V.cell? ⟨w.heap.size, 1, none⟩ = some (.int .i64 z) := A0.cell 1
  have CG : Hid (Calls Try.prog 18 #[.agg #[.slice A L.length c, .int .i64 z]] V fun e w' => e = .returned (.bool (goodD L)) ∧ Below V.heap.size V w') := Good_any L A c z V (hP.up b0) hz hl
  cases hg : goodD L with
  | false =>
    rw [hg] at CG
    clear hg
    go_wp2_with fail
    (with_reducible refine CG.out.mono ?_)
    clear CG c0 c1
    rintro _ V2 ⟨rfl, b2⟩
    have b3 := b0.trans (b2.mono b0.size)
    go_wp2_with fail
    (with_reducible refine (CK V2).out.mono ?_)
    rintro _ V3 ⟨rfl, b4⟩
    go_wp2_with fail
    go_ret
    exact ⟨rfl, b3.trans (b4.mono b3.size)⟩
  | true =>
  rw [hg] at CG
  have HG := Lib.hid hg
  clear hg
  go_wp2_with fail
  (with_reducible refine CG.out.mono ?_)
  clear CG c0 c1
  rintro _ V2 ⟨rfl, b2⟩
  replace A0 := A0.below b2 A0.lt
  replace b0 := b0.trans (b2.mono b0.size)
  clear b2
  go_wp2_with fail
  (with_reducible refine (CK V2).out.mono ?_)
  clear CK
  rintro _ V3 ⟨rfl, b2⟩
  replace A0 := A0.below b2 A0.lt
  replace b0 := b0.trans (b2.mono b0.size)
  clear b2
  have d1 : V3.cell? ⟨w.heap.size, 1, none⟩ = some (.int .i64 z) := A0.cell 1
  have f1 := A0.free 1
  have A1 : Arr (V3.setCell ⟨w.heap.size, 1, none⟩ (.int .i64 (-1))) w.heap.size 24 (dkArr L A c (-1)) := A0.put 1 (.int .i64 (-1))
  have b1 := below_gb b0 (show V3.grownBy (V3.setCell ⟨w.heap.size, 1, none⟩ (.int .i64 (-1))) (some w.heap.size) from gb_set _ _ _) (Nat.le_refl _) b0.size
  go_upto_region 4 with fail
  refine wp_forget (fun V => Arr V w.heap.size 24 (dkArr L A c (-1)) ∧ Below w.heap.size w V) (by exact ⟨A1, b1⟩) ?_
  clear A1 b1 A0 b0 d1 f1
  rintro V ⟨A0, b0⟩
  have c0 : V.cell? ⟨w.heap.size, 0, none⟩ = some (.slice A L.length c) := A0.cell 0
  have c1 : V.cell? ⟨w.heap.size, 1, none⟩ = some (.int .i64 (-1)) := A0.cell 1
  have CC := Lib.hid (Crash_any L 0 (by omega) A c (-1) V (hP.up b0) hz hl hc)
  rw [show crashD ⟨L, -1⟩ 0 = (⟨L.map (crashF 0), -1⟩, 0) from crash_good HG.out 0] at CC
  have hG1 := good_crash HG.out 0
  have hT1 := crash_tails (L := L) 0
  generalize L.map (crashF 0) = L1 at *
  clear HG
  go_wp2_with fail
  (with_reducible refine CC.out.mono ?_)
  clear CC c0 c1
  rintro _ V4 ⟨A1, k1, rfl, hF, hc1, b2⟩
  simp only at hF hc1 ⊢
  replace A0 := A0.below b2 A0.lt
  replace b0 := b0.trans (b2.mono b0.size)
  clear b2
  have hFr := hF.rowD A0 (dkArr L1 A1 k1 (-1))
  have br := below_setRow b0 (Nat.le_refl _) (dkArr L1 A1 k1 (-1))
  have Br := A0.row (dkArr L1 A1 k1 (-1))
  go_upto_region 5 with (refine wpList_store_row rfl 24 _ _ rfl w.heap.size (dkArr L1 A1 k1 (-1)) rfl rfl 24 (dkArr L A c (-1)) A0 (dkInfo _ _ _ _) rfl (dkArr_one _ _ _ _) ?_)
  refine wp_forget (fun V => Arr V w.heap.size 24 (dkArr L1 A1 k1 (-1)) ∧ Fls V V.heap.size A1 L1 ∧ Below w.heap.size w V) (by exact ⟨Br, hFr, br⟩) ?_
  clear Br hFr br A0 b0 hF
  clear hP hz hl hc
  rintro V ⟨A0, hF, b0⟩
  obtain ⟨hsz, hl4⟩ := good_sized hG1
  have CR := Lib.hid (DkRead_any L1 n A1 k1 (-1) V hF hsz (by omega))
  have HRz : Hid (∀ z', readD ⟨L1, z'⟩ n = readD ⟨L1, -1⟩ n) := fun z' => rfl
  have c0 : V.cell? ⟨w.heap.size, 0, none⟩ = some (.slice A1 L1.length k1) := A0.cell 0
  have c1 : V.cell? ⟨w.heap.size, 1, none⟩ = some (.int .i64 (-1)) := A0.cell 1
  generalize hR : readD ⟨L1, -1⟩ n = R at *
  obtain ⟨was, f⟩ := R
  have HR := Lib.hid hR
  clear hR
  go_wp2_with fail
  (with_reducible refine CR.out.mono ?_)
  clear CR c0 c1
  rintro _ V2 ⟨rfl, b2⟩
  replace A0 := A0.below b2 A0.lt
  replace hF := hF.up b2
  replace b0 := b0.trans (b2.mono b0.size)
  clear b2
  have CP := Lib.hid (pick_any m 6 (by omega) (by omega) V2)
  obtain ⟨hp0, hp1⟩ := pk_in m 6 (by omega)
  change Hid (Calls Try.prog 28 #[.int .i64 m, .int .i64 6] V2 fun e w' => e = .returned (.int .i64 (pk m 6)) ∧ V2 = w') at CP
  have hp1' : pk m 6 < 6 := hp1
  clear hp0 hp1
  generalize pk m 6 = y at *
  go_wp2_with fail
  (with_reducible refine CP.out.mono ?_)
  clear CP
  rintro _ V2 ⟨rfl, rfl⟩
  have d1 : V2.cell? ⟨w.heap.size, 1, none⟩ = some (.int .i64 (-1)) := A0.cell 1
  have f1 := A0.free 1
  have B1 : Arr (V2.setCell ⟨w.heap.size, 1, none⟩ (.int .i64 y)) w.heap.size 24 (dkArr L1 A1 k1 y) := A0.put 1 (.int .i64 y)
  have kk : V2.grownBy (V2.setCell ⟨w.heap.size, 1, none⟩ (.int .i64 y)) (some w.heap.size) := gb_set _ _ _
  have b1 := below_gb b0 kk (Nat.le_refl _) b0.size
  have hF2 : Fls (V2.setCell ⟨w.heap.size, 1, none⟩ (.int .i64 y)) (V2.setCell ⟨w.heap.size, 1, none⟩ (.int .i64 y)).heap.size A1 L1 := fun k x hx => by
    obtain ⟨ad, e, hb, h0, h1, h2⟩ := hF k x hx
    have hn : ¬ some (ad.add (k * 3)).block = some w.heap.size := fun q => by
      rw [Option.some.inj q, A0.cell] at h1
      exact dkArr_no _ _ _ _ _ _ h1
    exact ⟨ad, e, Nat.lt_of_lt_of_le hb kk.size, kk.cell h0 hn, kk.cell h1 hn, kk.cell h2 hn⟩
  go_upto_region 7 with fail
  refine wp_forget (fun V => Arr V w.heap.size 24 (dkArr L1 A1 k1 y) ∧ Fls V V.heap.size A1 L1 ∧ Below w.heap.size w V) (by exact ⟨B1, hF2, b1⟩) ?_
  clear B1 hF2 b1 kk A0 b0 d1 f1 hF
  rintro V ⟨A0, hF, b0⟩
  have CS := Lib.hid (Save_any L1 n s hn hs A1 k1 y V hF hsz (by omega) hc1 (by omega))
  have HA := Lib.hid (fun k => save_atomic (n := n) (s := s) (z := y) hG1 hT1 k)
  rw [HRz.out y] at HA
  generalize saveD ⟨L1, y⟩ n s = Q at *
  obtain ⟨⟨La, za⟩, g⟩ := Q
  simp only at HA
  clear HRz hT1
  have c0 : V.cell? ⟨w.heap.size, 0, none⟩ = some (.slice A1 L1.length k1) := A0.cell 0
  have c1 : V.cell? ⟨w.heap.size, 1, none⟩ = some (.int .i64 y) := A0.cell 1
  go_wp2_with fail
  (with_reducible refine CS.out.mono ?_)
  clear CS c0 c1
  rintro _ V3 ⟨Aa, ca, rfl, hFa, hca, b2⟩
  simp only at hFa hca ⊢
  replace b0 := b0.trans (b2.mono b0.size)
  clear b2 A0 hF
  have bb : Below V3.heap.size V3 ((V3.alloc (.cells dkZero 24)).setRow V3.heap.size (dkArr La Aa ca za)) := below_setRow ((Below.refl _ _).alloc (Nat.le_refl _) _) (Nat.le_refl _) _
  have AX : Arr ((V3.alloc (.cells dkZero 24)).setRow V3.heap.size (dkArr La Aa ca za)) V3.heap.size 24 (dkArr La Aa ca za) := (Arr.new _ _ _).row _
  go_upto_region 8 with (refine wpList_store_row rfl 24 _ _ rfl V3.heap.size (dkArr La Aa ca za) rfl rfl 24 dkZero (Arr.new V3 _ _) (dkInfo _ _ _ _) rfl (dkArr_one _ _ _ _) ?_)
  refine wp_forget (fun W => Arr W V3.heap.size 24 (dkArr La Aa ca za) ∧ Fls W W.heap.size Aa La ∧ Below w.heap.size w W) (by exact ⟨AX, hFa.up bb, b0.trans (bb.mono b0.size)⟩) ?_
  clear AX bb b0 hFa
  generalize V3.heap.size = qa at *
  rintro W ⟨AX, hFa, b0⟩
  have gA := (HA.out 0).1
  obtain ⟨hsa, hla⟩ := good_sized gA
  obtain ⟨hp0, hp1⟩ := pk_in kp 1000 (by omega)
  obtain ⟨j, hj⟩ := Int.eq_ofNat_of_zero_le hp0
  have CP : ∀ V, Hid (Calls Try.prog 28 #[.int .i64 kp, .int .i64 1000] V fun e w' => e = .returned (.int .i64 (j : Int)) ∧ V = w') := fun V => by
    have := pick_any kp 1000 (by omega) (by omega) V
    rw [hj] at this
    exact this
  have hj2 : j < 1000 := by rw [hj] at hp1; omega
  clear hp0 hp1 hj
  have CC : ∀ V h, Hid (Calls Try.prog 23 #[.agg #[.slice Aa La.length ca, .int .i64 za], .int .i64 (j : Int)] V (StEnd V (⟨La.map (crashF j), -1⟩, 0))) := fun V h => by
    have := Crash_any La (j : Int) (by omega) Aa ca za V h hsa (by omega) hca
    rw [crash_good gA j] at this
    exact this
  have hGb := good_crash gA j
  obtain ⟨hsb, hlb⟩ := good_sized hGb
  have HY := Lib.hid (HA.out j).2.1
  have HN := Lib.hid (HA.out j).2.2
  have CRb := fun (V : World) (A' : Option Addr) (c' : Nat) h => Lib.hid (DkRead_any (La.map (crashF j)) n A' c' (-1) V h hsb (by omega))
  generalize La.map (crashF j) = Lb at *
  generalize readD ⟨Lb, -1⟩ n = Rb at *
  obtain ⟨now, i⟩ := Rb
  clear HA HR gA
  have d0 : W.drew.cell? ⟨qa, 0, none⟩ = some (.slice Aa La.length ca) := AX.cell 0
  have d1 : W.drew.cell? ⟨qa, 1, none⟩ = some (.int .i64 za) := AX.cell 1
  have hFd : Fls W.drew W.drew.heap.size Aa La := hFa
  have be : Below W.heap.size W (W.alloc (.cells dkZero 24)).drew := ((Below.refl _ W).alloc (Nat.le_refl _) _).drew
  have AE : Arr (W.alloc (.cells dkZero 24)).drew W.heap.size 24 dkZero := (Arr.new _ _ _).drew
  have hFe : Fls (W.alloc (.cells dkZero 24)).drew (W.alloc (.cells dkZero 24)).drew.heap.size Aa La := hFa.up be
  have CCd := CC _ hFd
  have CCe := CC _ hFe
  have bd : Below w.heap.size w W.drew := b0.drew
  have be2 : Below w.heap.size w (W.alloc (.cells dkZero 24)).drew := b0.trans (be.mono b0.size)
  have d0e : (W.alloc (.cells dkZero 24)).drew.cell? ⟨qa, 0, none⟩ = some (.slice Aa La.length ca) := (AX.below be AX.lt).cell 0
  have d1e : (W.alloc (.cells dkZero 24)).drew.cell? ⟨qa, 1, none⟩ = some (.int .i64 za) := (AX.below be AX.lt).cell 1
  unfold dkZero at CCe d0e d1e
  have hbq := b0.size
  clear CC hFd hFe hFa
  go_region_law (first
    | (go_simp; go_at_call 28; (with_reducible refine (CP _).out.mono ?_); rintro _ _ ⟨rfl, rfl⟩)
    | (go_simp; go_at_call 23; (with_reducible refine CCd.out.mono ?_); rintro _ W3 ⟨Ab, cb, rfl, hFb, hcb, b3⟩
       have HF : Hid (∀ W', W' = W3.alloc (.cells #[.slice Ab Lb.length cb, .int .i64 (-1)] 24) → Arr W' W3.heap.size 24 (dkArr Lb Ab cb (-1)) ∧ Fls W' W'.heap.size Ab Lb ∧ Below w.heap.size w W') := atom_late hFb (bd.trans (b3.mono bd.size))
       simp only [dkArr])
    | (go_simp; go_at_call 23; (with_reducible refine CCe.out.mono ?_); rintro _ W3 ⟨Ab, cb, rfl, hFb, hcb, b3⟩
       have AF := AE.below b3 AE.lt
       have HF : Hid (∀ W', W' = (W3.setCell ⟨W.heap.size, 0, none⟩ (.slice Ab Lb.length cb)).setCell ⟨W.heap.size, 1, none⟩ (.int .i64 (-1)) → Arr W' W.heap.size 24 (dkArr Lb Ab cb (-1)) ∧ Fls W' W'.heap.size Ab Lb ∧ Below w.heap.size w W') := atom_early hFb AF (be2.trans (b3.mono be2.size)) hbq
       have x0 : W3.cell? ⟨W.heap.size, 0, none⟩ = some (.slice none 0 0) := AF.cell 0
       have x1 := AF.free 0
       have AG := AF.put 0 (.slice Ab Lb.length cb)
       have x2 : (W3.setCell ⟨W.heap.size, 0, none⟩ (.slice Ab Lb.length cb)).cell? ⟨W.heap.size, 1, none⟩ = some (.int .i64 0) := AG.cell 1
       have x3 := AG.free 1
       simp only [dkArr]))
  all_goals
    go_upto_region 9 with fail
    first
      | (refine wp_forget (fun V => Arr V W3.heap.size 24 (dkArr Lb Ab cb (-1)) ∧ Fls V V.heap.size Ab Lb ∧ Below w.heap.size w V) (by exact HF.out _ rfl) ?_
         generalize W3.heap.size = qb)
      | (refine wp_forget (fun V => Arr V W.heap.size 24 (dkArr Lb Ab cb (-1)) ∧ Fls V V.heap.size Ab Lb ∧ Below w.heap.size w V) (by exact HF.out _ rfl) ?_
         generalize W.heap.size = qb)
    rintro V8 ⟨B8, F8, b8⟩
    have g0 : V8.cell? ⟨qb, 0, none⟩ = some (.slice Ab Lb.length cb) := B8.cell 0
    have g1 : V8.cell? ⟨qb, 1, none⟩ = some (.int .i64 (-1)) := B8.cell 1
    have C9 := CRb V8 Ab cb F8
    go_wp2_with fail
    (with_reducible refine C9.out.mono ?_)
    rintro _ V9 ⟨rfl, b9⟩
    have b10 := b8.trans (b9.mono b8.size)
    simp only
    by_cases hg0 : g = 0
    · have hyes := HY.out hg0
      simp only [Prod.mk.injEq] at hyes
      obtain ⟨rfl, rfl⟩ := hyes
      subst hg0
      go_wp2_with fail
      go_ret
      exact ⟨rfl, b10⟩
    · have hno := HN.out hg0
      simp only [Prod.mk.injEq] at hno
      obtain ⟨rfl, rfl⟩ := hno
      have hgb : (g == 0) = false := by rw [beq_eq_false_iff_ne]; exact hg0
      go_wp2_with fail
      go_ret
      exact ⟨rfl, b10⟩
end Go.Proofs.Ytngeiagpodgabaa
