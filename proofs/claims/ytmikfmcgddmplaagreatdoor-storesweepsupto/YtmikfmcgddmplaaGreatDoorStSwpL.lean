/- law.StoreSweeps: the walk. -/
import Derived.Test.YtmikfmcgddmplaaGreatDoorPStrings
import Derived.Test.YtmikfmcgddmplaaGreatDoorStSort
import Derived.Test.YtmikfmcgddmplaaGreatDoorORefSame
namespace Go.Proofs.YtmikfmcgddmplaaGreatDoor
open Go.RowKit

theorem sweepGo_len {keep : List ByteArray} : ∀ (l : List Fl) (a : Dk), (sweepGo keep l a).1.files.length ≤ a.files.length
  | [], _ => Nat.le_refl _
  | f :: l, a => by
    have hs : (stepP a (rmP a.files f.name)).1.files.length ≤ a.files.length := by
      unfold stepP
      split
      · exact Nat.le_refl _
      · split
        · exact Nat.le_refl _
        · unfold rmP
          split
          · rename_i h
            split at h
            · exact Nat.le_refl _
            · cases h
          · rename_i M h
            split at h
            · cases h
            · cases h
              exact List.length_filter_le _ _
    unfold sweepGo
    split
    · exact sweepGo_len l a
    · split
      · exact sweepGo_len l a
      · split
        · exact hs
        · exact Nat.le_trans (sweepGo_len l _) hs
theorem sweepD_len (L : List Fl) (z : Int) (U : List ByteArray) : (sweepD ⟨L, z⟩ U).1.files.length ≤ L.length := by
  unfold sweepD
  split
  · exact Nat.le_refl _
  · exact sweepGo_len _ _
theorem reach_len4 (G : ByteArray → ByteArray × Int) (U : List ByteArray) : (reachO G U).1.length ≤ 400 := by
  rcases reach_said (G := G) (U := U) with ⟨e, _⟩ | ⟨H, _, hl, _, ⟨e, _⟩ | ⟨e, _⟩ | ⟨e, _⟩⟩
  · rw [e]; simp
  · rw [e]; simp
  · rw [e]; simp
  · rw [e]
    show (sortB H).length ≤ 400
    rw [sortB_len]
    exact hl
/-- the two disks and the two lists of ids that are compared -/
def Dz (w : World) (M : List Fl) (Aa Ab : Option Addr) (ca cb : Nat) (y : Int) (q r : Nat) (K : List ByteArray) (KA KB : Option Addr) (W : World) : Prop :=
  Arr W q 37 (dkArr M Aa ca y) ∧ Arr W r 37 (dkArr M Ab cb y) ∧ Fls W W.heap.size Aa M ∧ Fls W W.heap.size Ab M ∧ Txs W W.heap.size KA K ∧ Txs W W.heap.size KB K ∧ Below w.heap.size w W
section
variable {w : World} {M : List Fl} {Aa Ab : Option Addr} {ca cb : Nat} {y : Int} {q r : Nat} {K : List ByteArray} {KA KB : Option Addr} {W W' : World}
theorem Dz.below (h : Dz w M Aa Ab ca cb y q r K KA KB W) (b : Below W.heap.size W W') : Dz w M Aa Ab ca cb y q r K KA KB W' := by
  obtain ⟨h1, h2, f1, f2, t1, t2, b0⟩ := h
  exact ⟨h1.below b h1.lt, h2.below b h2.lt, f1.up b, f2.up b, (t1.below b).mono b.size, (t2.below b).mono b.size, b0.trans (b.mono b0.size)⟩
theorem Dz.hold (h : Dz w M Aa Ab ca cb y q r K KA KB W) : W.cell? ⟨q, 0, none⟩ = some (.slice Aa M.length ca) ∧ W.cell? ⟨q, 1, none⟩ = some (.int .i64 y) ∧ W.cell? ⟨r, 0, none⟩ = some (.slice Ab M.length cb) ∧ W.cell? ⟨r, 1, none⟩ = some (.int .i64 y) :=
  ⟨h.1.cell 0, h.1.cell 1, h.2.1.cell 0, h.2.1.cell 1⟩
theorem Dz.f1 (h : Dz w M Aa Ab ca cb y q r K KA KB W) : Fls W W.heap.size Aa M := h.2.2.1
theorem Dz.f2 (h : Dz w M Aa Ab ca cb y q r K KA KB W) : Fls W W.heap.size Ab M := h.2.2.2.1
theorem Dz.t1 (h : Dz w M Aa Ab ca cb y q r K KA KB W) : Txs W W.heap.size KA K := h.2.2.2.2.1
theorem Dz.t2 (h : Dz w M Aa Ab ca cb y q r K KA KB W) : Txs W W.heap.size KB K := h.2.2.2.2.2.1
theorem Dz.b (h : Dz w M Aa Ab ca cb y q r K KA KB W) : Below w.heap.size w W := h.2.2.2.2.2.2
end
set_option maxRecDepth 100000 in
set_option maxHeartbeats 4000000 in
theorem StoreSweeps_any (L : List Fl) (A : Option Addr) (c : Nat) (z : Int) (U : List ByteArray) (UA : Option Addr) (uc : Nat) (w : World) (hP : Fls w w.heap.size A L) (hz : Sized L) (hl : L.length * 48 ≤ 140737488355328) (hc : L.length ≤ c) (hzg : -9223372036854775808 ≤ z) (hzf : z ≤ 9223372036854775807) (hU : Txs w w.heap.size UA U) (hul : U.length ≤ 1048576) (ht : Tab w) :
    Calls Tryz.prog 4 #[.agg (dkArr L A c z), .slice UA U.length uc] w fun e w' => e = .returned (.bool true) ∧ Below w.heap.size w w' := by
  have hl1 : L.length ≤ 140737488355328 := by omega
  have CD := fun V h => Lib.hid (CopyDisk_any L A c z V h hl)
  have CS : ∀ V, Below w.heap.size w V → Hid (Calls Tryz.prog 7 #[.slice UA U.length uc] V (CpEnd V U)) := fun V b => strings_law U UA uc V ((hU.below b).mono b.size) (by omega)
  have CW : ∀ (V : World) (A' UA' : Option Addr) (c' uc' : Nat), Fls V V.heap.size A' L → L.length ≤ c' → Tab V → Txs V V.heap.size UA' U → Hid (Calls Tryz.prog 13 #[.agg (dkArr L A' c' z), .slice UA' U.length uc'] V (StEnd V (sweepD ⟨L, z⟩ U))) := fun V A' UA' c' uc' h1 h2 h3 h4 => Sweep_st L A' c' z U UA' uc' V h1 hz hl1 h2 hzf h3 h4 (by omega)
  have CR : ∀ V, Below w.heap.size w V → Hid (Calls Tryz.prog 15 #[.agg #[.slice A L.length c, .int .i64 z], .slice UA U.length uc] V (StEnd V (sweepD ⟨L, z⟩ U))) := fun V b => RefSweep_any L A c z U UA uc V (hP.up b) hz hl hc hzg hzf ((hU.below b).mono b.size) hul
  have CC : ∀ (V : World) (A' UA' : Option Addr) (c' uc' : Nat), Fls V V.heap.size A' L → Tab V → Txs V V.heap.size UA' U → Hid (Calls Tryz.prog 16 #[.agg (dkArr L A' c' z), .slice UA' U.length uc'] V (RhEnd V (reachO (getO ⟨L, z⟩) U))) := fun V A' UA' c' uc' h1 h3 h4 => Closure_st L A' c' z U UA' uc' V h1 hz hl1 h3 h4 (by omega)
  have CG : ∀ V, Arr V w.heap.size 37 (dkArr L A c z) → Below w.heap.size w V → Hid (Calls Tryz.prog 8 #[.func (.func 17) #[] #[.pointer (some ⟨w.heap.size, 0, none⟩)], .slice UA U.length uc] V (RhEnd V (reachO (getO ⟨L, z⟩) U))) := fun V h b0 => by
    have h := Closed_lw (getO ⟨L, z⟩) U UA uc w.heap.size V (fun W b x => get_lw L x A c z w.heap.size W (h.below b h.lt) ((hP.up b0).up b) hz hl1) ((hU.below b0).mono b0.size) hul
    rw [closed_reach] at h
    exact h
  have hML := sweepD_len L z U
  have hKL := reach_len4 (getO ⟨L, z⟩) U
  generalize sweepD ⟨L, z⟩ U = Q at *
  generalize reachO (getO ⟨L, z⟩) U = R at *
  obtain ⟨⟨M, y⟩, g⟩ := Q
  obtain ⟨K, e⟩ := R
  have hM1 : M.length ≤ L.length := hML
  have hK4 : K.length ≤ 400 := hKL
  clear hML hKL
  have CE : ∀ (V : World) (A' B' : Option Addr) (c' d' : Nat), Fls V V.heap.size A' M → Fls V V.heap.size B' M → Hid (Calls Tryz.prog 19 #[.agg #[.slice A' M.length c', .int .i64 y], .agg #[.slice B' M.length d', .int .i64 y]] V fun e w' => e = .returned (.bool true) ∧ Below V.heap.size V w') := fun V A' B' c' d' h1 h2 => by
    have := RefSameDisk_any M M A' B' c' d' y y V h1 h2 (by omega) (by omega)
    rw [decide_eq_true rfl] at this
    exact this
  have CT : ∀ V A' B' c' d', Txs V V.heap.size A' K → Txs V V.heap.size B' K → Hid (Calls Tryz.prog 9 #[.slice A' K.length c', .slice B' K.length d'] V fun e w' => e = .returned (.bool true) ∧ Below V.heap.size V w') := fun V A' B' c' d' h1 h2 => by
    have h := RefStrings_any K K (by omega) (by omega) A' B' c' d' V h1 h2
    rw [decide_eq_true rfl] at h
    exact h
  have CO := fun V b => Lib.hid (stores_law V (ht.below b ht.1))
  have HTb := Lib.hid ht
  have A0 : Arr (w.alloc (.cells (dkArr L A c z) 37)) w.heap.size 37 (dkArr L A c z) := Arr.new _ _ _
  have b0 : Below w.heap.size w (w.alloc (.cells (dkArr L A c z) 37)) := (Below.refl _ _).alloc (Nat.le_refl _) _
  clear hU ht hul hzg hzf
  go_enter Tryz.func4, Tryz.ntmps4
  go_upto_region 1 with fail
  refine wp_forget (fun V => Arr V w.heap.size 37 (dkArr L A c z) ∧ Below w.heap.size w V) (by exact ⟨A0, b0⟩) ?_
  clear A0 b0
  rintro V ⟨A0, b0⟩
  have c0 : V.cell? ⟨w.heap.size, 0, none⟩ = some (.slice A L.length c) := A0.cell 0
  have c1 : V.cell? ⟨w.heap.size, 1, none⟩ = some (.int .i64 z) := A0.cell 1
  have C1 := CD V (hP.up b0)
  go_wp2_with fail
  (with_reducible refine C1.out.mono ?_)
  clear C1 c0 c1
  rintro _ V1 ⟨A1, k1, rfl, hF1, hk1, b2⟩
  replace A0 := A0.below b2 A0.lt
  replace b0 := b0.trans (b2.mono b0.size)
  clear b2
  go_wp2_with fail
  (with_reducible refine (CS V1 b0).out.mono ?_)
  rintro _ V2 ⟨SA, sc, rfl, S2, b2⟩
  replace A0 := A0.below b2 A0.lt
  replace hF1 := hF1.up b2
  replace b0 := b0.trans (b2.mono b0.size)
  clear b2
  have C1 := CW V2 A1 SA k1 sc hF1 hk1 (HTb.out.below b0 HTb.out.1) S2
  clear CW
  go_wp2_with fail
  (with_reducible refine C1.out.mono ?_)
  clear C1 S2 hF1
  rintro _ V3 ⟨Aa, ca, rfl, hFa, hca, b2⟩
  simp only at hFa hca ⊢
  replace A0 := A0.below b2 A0.lt
  replace b0 := b0.trans (b2.mono b0.size)
  clear b2
  have bb : Below V3.heap.size V3 ((V3.alloc (.cells dkZero 37)).setRow V3.heap.size (dkArr M Aa ca y)) := below_setRow ((Below.refl _ _).alloc (Nat.le_refl _) _) (Nat.le_refl _) _
  have AX : Arr ((V3.alloc (.cells dkZero 37)).setRow V3.heap.size (dkArr M Aa ca y)) V3.heap.size 37 (dkArr M Aa ca y) := (Arr.new _ _ _).row _
  go_upto_region 2 with (refine wpList_store_row rfl 37 _ _ rfl V3.heap.size (dkArr M Aa ca y) rfl rfl 37 dkZero (Arr.new V3 _ _) (dkInfo _ _ _ _) rfl (dkArr_one _ _ _ _) ?_)
  refine wp_forget (fun W => Arr W V3.heap.size 37 (dkArr M Aa ca y) ∧ Arr W w.heap.size 37 (dkArr L A c z) ∧ Fls W W.heap.size Aa M ∧ Below w.heap.size w W) (by exact ⟨AX, A0.below bb A0.lt, hFa.up bb, b0.trans (bb.mono b0.size)⟩) ?_
  clear AX bb A0 b0 hFa hk1 hca
  generalize V3.heap.size = q at *
  rintro W ⟨AX, A0, hFa, b0⟩
  have c0 : W.cell? ⟨w.heap.size, 0, none⟩ = some (.slice A L.length c) := A0.cell 0
  have c1 : W.cell? ⟨w.heap.size, 1, none⟩ = some (.int .i64 z) := A0.cell 1
  have C1 := CR W b0
  clear CR
  go_wp2_with fail
  (with_reducible refine C1.out.mono ?_)
  clear C1 c0 c1
  rintro _ W3 ⟨Ab, cb, rfl, hFb, hcb, b2⟩
  simp only at hFb hcb ⊢
  replace A0 := A0.below b2 A0.lt
  replace AX := AX.below b2 AX.lt
  replace hFa := hFa.up b2
  replace b0 := b0.trans (b2.mono b0.size)
  clear b2
  have bb : Below W3.heap.size W3 ((W3.alloc (.cells dkZero 37)).setRow W3.heap.size (dkArr M Ab cb y)) := below_setRow ((Below.refl _ _).alloc (Nat.le_refl _) _) (Nat.le_refl _) _
  have AY : Arr ((W3.alloc (.cells dkZero 37)).setRow W3.heap.size (dkArr M Ab cb y)) W3.heap.size 37 (dkArr M Ab cb y) := (Arr.new _ _ _).row _
  go_upto_region 3 with (refine wpList_store_row rfl 37 _ _ rfl W3.heap.size (dkArr M Ab cb y) rfl rfl 37 dkZero (Arr.new W3 _ _) (dkInfo _ _ _ _) rfl (dkArr_one _ _ _ _) ?_)
  refine wp_forget (fun W => Arr W W3.heap.size 37 (dkArr M Ab cb y) ∧ Arr W q 37 (dkArr M Aa ca y) ∧ Arr W w.heap.size 37 (dkArr L A c z) ∧ Fls W W.heap.size Aa M ∧ Fls W W.heap.size Ab M ∧ Below w.heap.size w W) (by exact ⟨AY, AX.below bb AX.lt, A0.below bb A0.lt, hFa.up bb, hFb.up bb, b0.trans (bb.mono b0.size)⟩) ?_
  clear AX AY bb A0 b0 hFa hFb hcb
  generalize W3.heap.size = r at *
  clear W3 W V V1 V2 V3
  rintro W ⟨AY, AX, A0, hFa, hFb, b0⟩
  have c0 : W.cell? ⟨w.heap.size, 0, none⟩ = some (.slice A L.length c) := A0.cell 0
  have c1 : W.cell? ⟨w.heap.size, 1, none⟩ = some (.int .i64 z) := A0.cell 1
  have C1 := CD W (hP.up b0)
  go_wp2_with fail
  (with_reducible refine C1.out.mono ?_)
  clear C1 c0 c1
  rintro _ V1 ⟨A1, k1, rfl, hF1, hk1, b2⟩
  replace A0 := A0.below b2 A0.lt
  replace AX := AX.below b2 AX.lt
  replace AY := AY.below b2 AY.lt
  replace hFa := hFa.up b2
  replace hFb := hFb.up b2
  replace b0 := b0.trans (b2.mono b0.size)
  clear b2
  go_wp2_with fail
  (with_reducible refine (CS V1 b0).out.mono ?_)
  clear CS
  rintro _ V2 ⟨SA, sc, rfl, S2, b2⟩
  replace A0 := A0.below b2 A0.lt
  replace AX := AX.below b2 AX.lt
  replace AY := AY.below b2 AY.lt
  replace hFa := hFa.up b2
  replace hFb := hFb.up b2
  replace hF1 := hF1.up b2
  replace b0 := b0.trans (b2.mono b0.size)
  clear b2
  have C1 := CC V2 A1 SA k1 sc hF1 (HTb.out.below b0 HTb.out.1) S2
  clear CC
  go_wp2_with fail
  (with_reducible refine C1.out.mono ?_)
  clear C1 S2 hF1 hk1
  rintro _ V3 ⟨KA, kc, rfl, K3, b2⟩
  simp only at K3 ⊢
  replace A0 := A0.below b2 A0.lt
  replace AX := AX.below b2 AX.lt
  replace AY := AY.below b2 AY.lt
  replace hFa := hFa.up b2
  replace hFb := hFb.up b2
  replace b0 := b0.trans (b2.mono b0.size)
  clear b2
  have C1 := CG V3 A0 b0
  clear CG
  go_wp2_with fail
  (with_reducible refine C1.out.mono ?_)
  clear C1 A0
  rintro _ V4 ⟨KB, kd, rfl, K4, b2⟩
  simp only at K4 ⊢
  have HV : Dz w M Aa Ab ca cb y q r K KA KB V4 := ⟨AX.below b2 AX.lt, AY.below b2 AY.lt, hFa.up b2, hFb.up b2, (K3.below b2).mono b2.size, K4, b0.trans (b2.mono b0.size)⟩
  clear b2 AX AY hFa hFb K3 K4 b0 hP CD
  go_upto_region 5 with fail
  obtain ⟨d0, d1, d2, d3⟩ := HV.hold
  have C1 := CE V4 Aa Ab ca cb HV.f1 HV.f2
  clear CE
  go_wp2_with fail
  (with_reducible refine C1.out.mono ?_)
  clear C1 d0 d1 d2 d3
  rintro _ w1 ⟨rfl, b1⟩
  have hV1 := HV.below b1
  clear b1 HV
  have C1 := CT w1 KA KB kc kd hV1.t1 hV1.t2
  clear CT
  go_wp2_with fail
  (with_reducible refine C1.out.mono ?_)
  clear C1
  rintro _ w2 ⟨rfl, b1⟩
  have hV2 := hV1.below b1
  clear b1 hV1
  have C1 := CO w2 hV2.b
  go_wp2_with fail
  (with_reducible refine C1.out.mono ?_)
  clear C1
  rintro _ w3 ⟨rfl, b1⟩
  have hV3 := hV2.below b1
  go_wp2_with fail
  go_ret
  exact ⟨rfl, hV3.b⟩
end Go.Proofs.YtmikfmcgddmplaaGreatDoor
