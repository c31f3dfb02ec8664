/- Texts in one: StRefW, StClsD, StPut, StBackP, StStoL, PStrings. -/
import Derived.Test.YtmikfmcgddmplaaGreatDoorParts
import Derived.Test.YtmikfmcgddmplaaGreatDoorStRefIn
import Derived.Test.YtmikfmcgddmplaaGreatDoorOPick
import Derived.Test.YtmikfmcgddmplaaGreatDoorOMapB
import Derived.Test.YtmikfmcgddmplaaGreatDoorORefSame
import Derived.Test.YtmikfmcgddmplaaGreatDoorRefUnhex
import Derived.Test.YtmikfmcgddmplaaGreatDoorRefMath
import Derived.Test.YtmikfmcgddmplaaGreatDoorDkSave
import Derived.Test.YtmikfmcgddmplaaGreatDoorStOnP
import Derived.Test.YtmikfmcgddmplaaGreatDoorOApp
/- ref.Sweep: its contract. -/
namespace Go.Proofs.YtmikfmcgddmplaaGreatDoor
open Go.RowKit

theorem at0_run (s : ByteArray) (hs : 0 < s.size) (w : World) : (Instr.index 9 (.string s) (.int .i64 0)).run Tryz.prog w = .ok (.int .u8 (s[0].toNat : Int)) w := by
  have h1 : (0 : Int) < s.size := by omega
  rw [run_index_string w _ _ _ _ Tryz.underlying9]
  simp [hs]
/-- the document's own test of an object's file name -/
theorem idP_len {s : ByteArray} (h : s.size ≠ 65) : (idP s).2 = false := by
  unfold idP
  rw [if_neg (fun q => h q.2)]
theorem idP_head {s : ByteArray} (hs : 0 < s.size) (h : s[0] ≠ 111) : (idP s).2 = false := by
  unfold idP
  rw [if_neg]
  rintro ⟨q, _⟩
  have e : s.data.toList = s[0] :: s.data.toList.drop 1 := by
    have hd : s.data.toList.drop 0 = s.data.toList[0]'hs :: s.data.toList.drop 1 := List.drop_eq_getElem_cons hs
    rw [List.drop_zero] at hd
    exact hd
  rw [e] at q
  unfold Lib.hasPrefix at q
  simp only [List.isPrefixOf, Bool.and_true, beq_iff_eq] at q
  exact h q.symm
theorem idP_hex {s : ByteArray} (hs : s.size = 65) (h : s[0]'(by omega) = 111) (e : Ending) (hu : UR (unpair (s.extract 1 65).data.toList) e) :
    e = .returned (.tuple #[.string (idP s).1, .int .i64 (if (idP s).2 = true then 0 else 2)]) := by
  have hx : (s.extract 1 65).data.toList = s.data.toList.drop 1 := by
    have hl : s.data.toList.length = 65 := hs
    have hd : (s.data.toList.drop 1).length = 64 := by rw [List.length_drop, hl]
    rw [extract_list, List.drop_take]
    exact List.take_of_length_le (by rw [hd]; omega)
  have hl : 0 < s.data.toList.length := by have : s.data.toList.length = 65 := hs; omega
  have e0 : s.data.toList = s[0]'(by omega) :: s.data.toList.drop 1 := by
    have hd : s.data.toList.drop 0 = s.data.toList[0]'hl :: s.data.toList.drop 1 := List.drop_eq_getElem_cons hl
    rw [List.drop_zero] at hd
    exact hd
  have hp : Lib.hasPrefix s.data.toList [111] = true := by
    rw [e0, h]
    unfold Lib.hasPrefix
    simp [List.isPrefixOf]
  rw [hx] at hu
  unfold idP
  rw [if_pos ⟨hp, hs⟩]
  cases hq : unpair (s.data.toList.drop 1) with
  | none =>
    rw [hq] at hu
    rw [show e = _ from hu]
    rfl
  | some p =>
    rw [hq] at hu
    rw [show e = _ from hu]
    rfl
theorem rm_sizedR {M : List Fl} {y : Int} {n : ByteArray} (h : (stepP ⟨M, y⟩ (rmP M n)).2 = 0) (hy : -9223372036854775808 ≤ y) : -9223372036854775808 ≤ (stepP ⟨M, y⟩ (rmP M n)).1.fuse := by
  obtain ⟨_, _, L', _, h3⟩ := step_yes rm_err h
  rw [h3]
  show _ ≤ burnt y
  unfold burnt
  split <;> omega
/-- where the document's Sweep stands: the disk that it changes, the ids kept, the files as they were -/
def RwW (w : World) (M : List Fl) (Aa : Option Addr) (ca : Nat) (y : Int) (K : List ByteArray) (KA : Option Addr) (L : List Fl) (FA : Option Addr) (W : World) : Prop :=
  Arr W w.heap.size 37 (dkArr M Aa ca y) ∧ Arr W (w.heap.size + 1) 37 dkZero ∧ Fls W W.heap.size Aa M ∧ Txs W W.heap.size KA K ∧ Fls W W.heap.size FA L ∧ Below w.heap.size w W
theorem RwW.below {w : World} {M : List Fl} {Aa : Option Addr} {ca : Nat} {y : Int} {K : List ByteArray} {KA : Option Addr} {L : List Fl} {FA : Option Addr} {W W' : World} (h : RwW w M Aa ca y K KA L FA W) (b : Below W.heap.size W W') : RwW w M Aa ca y K KA L FA W' := by
  obtain ⟨h1, h2, f1, t1, f2, b0⟩ := h
  exact ⟨h1.below b h1.lt, h2.below b h2.lt, f1.up b, (t1.below b).mono b.size, f2.up b, b0.trans (b.mono b0.size)⟩
def RwRel (w : World) (L : List Fl) (FA : Option Addr) (K : List ByteArray) (KA : Option Addr) (Q : Dk × Int) (i : Value) (wr : World) : Prop :=
  ∃ (k : Nat) (M : List Fl) (Aa : Option Addr) (ca : Nat) (y : Int), i = .int .i64 (k : Int) ∧ k ≤ L.length ∧ RwW w M Aa ca y K KA L FA wr ∧ M.length ≤ ca ∧ Sized M ∧ M.length * 48 ≤ 140737488355328 ∧ -9223372036854775808 ≤ y ∧ y ≤ 9223372036854775807 ∧ sweepGo K (L.drop k) ⟨M, y⟩ = Q
set_option maxRecDepth 100000 in
set_option maxHeartbeats 4000000 in
theorem RefSweep_any (L : List Fl) (A : Option Addr) (c : Nat) (z : Int) (U : List ByteArray) (UA : Option Addr) (uc : Nat) (w : World) (hP : Fls w w.heap.size A L) (hz : Sized L) (hl : L.length * 48 ≤ 140737488355328) (hc : L.length ≤ c) (hzl : -9223372036854775808 ≤ z) (hzf : z ≤ 9223372036854775807) (hU : Txs w w.heap.size UA U) (hul : U.length ≤ 1048576) :
    Calls Tryz.prog 15 #[.agg #[.slice A L.length c, .int .i64 z], .slice UA U.length uc] w (StEnd w (sweepD ⟨L, z⟩ U)) := by
  obtain ⟨si, hsi, sz0, sz1, sz2⟩ := info_parts info_file
  have Hsi := Lib.hid hsi
  have Sz0 := Lib.hid sz0
  have Sz1 := Lib.hid sz1
  have Sz2 := Lib.hid sz2
  clear hsi sz0 sz1 sz2
  have hl1 : L.length ≤ 140737488355328 := by omega
  have b0 : Below w.heap.size w ((w.alloc (.cells (dkArr L A c z) 37)).alloc (.cells dkZero 37)) := ((Below.refl _ _).alloc (Nat.le_refl _) _).alloc (by simp) _
  have h0 : Hid (Sv w L A c z ((w.alloc (.cells (dkArr L A c z) 37)).alloc (.cells dkZero 37))) := ⟨(Arr.new _ _ _).alloc _, Arr.new_at _ _ _ (by simp), hP.up b0, b0⟩
  have HRet : Hid (∀ (W : World) (a : Act) (d : Dk) (A' : Option Addr) (c' : Nat) (e : Int), Arr W (w.heap.size + 1) 37 (dkArr d.files A' c' d.fuse) → Below w.heap.size w W → Fls W W.heap.size A' d.files → d.files.length ≤ c' → a.tmps[4]? = some (.pointer (some ⟨w.heap.size + 1, 0, none⟩)) → a.tmps[5]? = some (.int .i64 e) → a.defers = [] → bodyPost Tryz.prog Tryz.f15 (StEnd w (d, e)) .ret a W) := fun W a d A' c' e h1 h2 h3 h4 h5 h6 h7 => by
    refine bodyPost_ret (v := .tuple #[.agg (dkArr d.files A' c' d.fuse), .int .i64 e]) ?_ h7 ⟨A', c', rfl, h3, h4, h2⟩
    rw [results_cell_tmp Tryz.results15]
    have hld := run_loadVar_row (P := Tryz.prog) _ _ _ 37 _ _ _ h1 Tryz.underlying37 rfl (dkInfo _ _ _ _)
    simp [Array.getD_eq_getD_getElem?, h5, h6, asAddr, hld, Result.andThen]
  have HQ0 : Hid (sweepD ⟨L, z⟩ U = if (reachO (getO ⟨L, z⟩) U).2 ≠ 0 then (⟨L, z⟩, (reachO (getO ⟨L, z⟩) U).2) else sweepGo (reachO (getO ⟨L, z⟩) U).1 L ⟨L, z⟩) := rfl
  have CC : ∀ V, Sv w L A c z V → Hid (Calls Tryz.prog 8 #[.func (.func 35) #[] #[.pointer (some ⟨w.heap.size, 0, none⟩)], .slice UA U.length uc] V (RhEnd V (reachO (getO ⟨L, z⟩) U))) := fun V S => by
    have h := Closed_rf (getO ⟨L, z⟩) U UA uc w.heap.size V (fun W b x => get_rf L x A c z w.heap.size W (S.1.below b S.1.lt) (S.2.2.1.up b) hz hl1) ((hU.below S.2.2.2).mono S.2.2.2.size) hul
    rw [closed_reach] at h
    exact h
  have HRs := fun h => Lib.hid (reachO_rsn (G := getO ⟨L, z⟩) (U := U) h)
  generalize sweepD ⟨L, z⟩ U = Q at *
  generalize reachO (getO ⟨L, z⟩) U = R at *
  obtain ⟨K, e⟩ := R
  have HQ : Hid (Q = if e ≠ 0 then (⟨L, z⟩, e) else sweepGo K L ⟨L, z⟩) := HQ0
  clear HQ0 hU
  go_enter Tryz.func15, Tryz.ntmps15
  go_upto_region 1 with fail
  refine wp_forget (Sv w L A c z) (by exact h0.out) ?_
  clear h0 b0
  intro V S
  have C1 : Hid (Calls Tryz.prog 8 #[.func (.func 35) #[] #[.pointer (some ⟨w.heap.size, 0, none⟩)], .slice UA U.length uc] V (RhEnd V (K, e))) := CC V S
  clear CC
  go_wp2_with fail
  (with_reducible refine C1.out.mono ?_)
  clear C1
  rintro _ V2 ⟨KA, kc, rfl, hKT, b2⟩
  replace S := S.below b2
  clear b2 V
  simp only at hKT ⊢
  have c0 : V2.cell? ⟨w.heap.size, 0, none⟩ = some (.slice A L.length c) := S.1.cell 0
  have c1 : V2.cell? ⟨w.heap.size, 1, none⟩ = some (.int .i64 z) := S.1.cell 1
  by_cases he : e = 0
  case neg =>
    have hb : (e != 0) = true := by rw [bne_iff_ne]; exact he
    have HR : Hid (Q = (⟨L, z⟩, e)) := by show _ = _; rw [HQ.out, if_pos he]
    clear HQ he HRs
    go_wp2_with (refine wpList_store_row rfl 37 _ _ rfl (w.heap.size + 1) (dkArr L A c z) rfl rfl 37 dkZero S.2.1 (dkInfo _ _ _ _) rfl (dkArr_one _ _ _ _) ?_)
    rw [HR.out]
    exact HRet.out _ _ ⟨L, z⟩ A c e (S.2.1.row _) (below_setRow S.2.2.2 (by omega) _) (S.2.2.1.row S.2.1 _) hc rfl rfl rfl
  subst he
  obtain ⟨hrsn, hk4⟩ := (HRs rfl).out
  have hk4' : K.length ≤ 400 := hk4
  clear HRs hrsn hk4
  have HQ1 : Hid (sweepGo K (L.drop 0) ⟨L, z⟩ = Q) := by show _ = _; rw [HQ.out, if_neg (fun h => h rfl)]; rfl
  clear HQ
  have HN : Hid (News V2 A L.length (flCells L)) := S.2.2.1.news
  go_wp2_with (at_builtin; refine wpList_app _ rfl _ _ 35 rfl V2.heap.size 68 si _ 3 48 Tryz.underlying35 Hsi.out Sz0.out Sz1.out Sz2.out rfl (by decide) _ _ _ rfl (own_nil _ _ _ _) A L.length c (flCells L) rfl (flCells_len L) HN.out (flCells_one L) (by unfold maxLen; omega) (by omega) (Nat.le_refl _) ?_)
  intro v1 w1 hown hgr
  have k1 : Below V2.heap.size V2 w1 := (Below.refl _ V2).grown hgr (Nat.le_refl _) (by intro k hk; cases hk)
  obtain ⟨A9, c9, rfl, hc9, hF9⟩ := own_files hown
  have h1 : Hid (RwRel w L A9 K KA Q (.int .i64 0) w1) := ⟨0, L, A, c, z, rfl, Nat.zero_le _, ⟨S.1.below k1 S.1.lt, S.2.1.below k1 S.2.1.lt, S.2.2.1.up k1, (hKT.below k1).mono k1.size, hF9, S.2.2.2.trans (k1.mono S.2.2.2.size)⟩, hc, hz, hl, hzl, hzf, HQ1.out⟩
  clear S hKT c0 c1 HN hown hgr k1 hF9 HQ1 hP Hsi Sz0 Sz1 Sz2 hzl hzf hl hc
  clear V2
  go_wp2_with fail
  go_loopw [26] (fun i wr => RwRel w L A9 K KA Q i wr) (fun i _ => L.length - (intOf i).toNat)
  case atStart => exact h1.out
  case round =>
    clear h1
    clear w1
    obtain ⟨k, M, Aa, ca, y, rfl, hk, SW, hca, hzM, hlM, hy1, hy2, hG⟩ := hrel
    by_cases hlt : k < L.length
    case neg =>
      obtain rfl : k = L.length := by omega
      have hi : ¬ (L.length : Int) < L.length := by omega
      rw [List.drop_length] at hG
      have HG : Hid (Q = (⟨M, y⟩, 0)) := hG.symm
      have d0 : wr.cell? ⟨w.heap.size, 0, none⟩ = some (.slice Aa M.length ca) := SW.1.cell 0
      have d1 : wr.cell? ⟨w.heap.size, 1, none⟩ = some (.int .i64 y) := SW.1.cell 1
      clear hG
      go_wp2_with (refine wpList_store_row rfl 37 _ _ rfl (w.heap.size + 1) (dkArr M Aa ca y) rfl rfl 37 dkZero SW.2.1 (dkInfo _ _ _ _) rfl (dkArr_one _ _ _ _) ?_)
      rw [HG.out]
      exact HRet.out _ _ ⟨M, y⟩ Aa ca 0 (SW.2.1.row _) (below_setRow SW.2.2.2.2.2 (by omega) _) (SW.2.2.1.row SW.2.1 _) hca rfl rfl rfl
    have hi : (k : Int) < L.length := by omega
    have hx : L[k]? = some L[k] := List.getElem?_eq_getElem hlt
    have hszx := (hz L[k] (List.getElem_mem hlt)).1
    obtain ⟨ad, rfl, hbl, g0, g1, g2⟩ := SW.2.2.2.2.1 k L[k] hx
    have hG2 : (if (idP L[k].name).2 = false then sweepGo K (L.drop (k + 1)) ⟨M, y⟩ else if memB (idP L[k].name).1 K = true then sweepGo K (L.drop (k + 1)) ⟨M, y⟩ else
      if (stepP ⟨M, y⟩ (rmP M L[k].name)).2 ≠ 0 then stepP ⟨M, y⟩ (rmP M L[k].name) else sweepGo K (L.drop (k + 1)) (stepP ⟨M, y⟩ (rmP M L[k].name)).1) = Q := by
      rw [← hG, List.drop_eq_getElem_cons hlt, sweepGo]
    have HG := Lib.hid hG2
    clear hG hG2 hx
    generalize L[k] = f at *
    have bb : Below wr.heap.size wr ((wr.alloc (.cells flZero 68)).setRow wr.heap.size (flArr f)) := below_setRow ((Below.refl _ _).alloc (Nat.le_refl _) _) (Nat.le_refl _) _
    have AX : Arr ((wr.alloc (.cells flZero 68)).setRow wr.heap.size (flArr f)) wr.heap.size 68 (flArr f) := (Arr.new _ _ _).row _
    have HW : Hid (RwW w M Aa ca y K KA L (some ad) ((wr.alloc (.cells flZero 68)).setRow wr.heap.size (flArr f)) ∧ Arr ((wr.alloc (.cells flZero 68)).setRow wr.heap.size (flArr f)) wr.heap.size 68 (flArr f)) := ⟨SW.below bb, AX⟩
    clear AX bb
    go_upto_region 7 with (refine wpList_store_row rfl 68 _ _ rfl wr.heap.size (flArr f) rfl rfl 68 flZero (Arr.new wr _ _) (flInfo _) rfl (flArr_one _) ?_)
    refine wp_forget (fun V => RwW w M Aa ca y K KA L (some ad) V ∧ Arr V wr.heap.size 68 (flArr f)) (by exact HW.out) ?_
    clear HW SW g0 g1 g2 hbl
    generalize wr.heap.size = q
    rintro V ⟨SW, AX⟩
    have f0 : V.cell? ⟨q, 0, none⟩ = some (.string f.name) := AX.cell 0
    generalize hn : f.name = n at *
    have HNm := Lib.hid hn
    clear hn
    by_cases h65 : n.size = 65
    case neg =>
      have hlb : ((n.size : Int) != 65) = true := by rw [bne_iff_ne]; omega
      have HG1 : Hid (sweepGo K (L.drop (k + 1)) ⟨M, y⟩ = Q) := by show _ = _; rw [← HG.out, if_pos (idP_len h65)]
      clear HG h65
      go_wp2_with fail
      go_roundw
      case rel => exact ⟨k + 1, M, Aa, ca, y, by rw [Int.natCast_add]; rfl, hlt, SW, hca, hzM, hlM, hy1, hy2, HG1.out⟩
      case measure => simp [intOf]; omega
    have hlb : ((n.size : Int) != 65) = false := by rw [h65]; rfl
    have ha0 := at0_run n (by omega) V
    by_cases h111 : n[0]'(by omega) = 111
    case neg =>
      have hcb : (((n[0]'(by omega)).toNat : Int) != 111) = true := by
        rw [bne_iff_ne]
        intro q
        exact h111 (UInt8.toNat_inj.1 (by have : (n[0]'(by omega)).toNat = 111 := by omega
                                          rw [this]; rfl))
      have HG1 : Hid (sweepGo K (L.drop (k + 1)) ⟨M, y⟩ = Q) := by show _ = _; rw [← HG.out, if_pos (idP_head (by omega) h111)]
      clear HG h111
      go_wp2_with fail
      go_roundw
      case rel => exact ⟨k + 1, M, Aa, ca, y, by rw [Int.natCast_add]; rfl, hlt, SW, hca, hzM, hlM, hy1, hy2, HG1.out⟩
      case measure => simp [intOf]; omega
    have hcb : (((n[0]'(by omega)).toNat : Int) != 111) = false := by rw [h111]; rfl
    have HE := fun e h => Lib.hid (idP_hex h65 h111 e h)
    have CU := Lib.hid (RefUnhex_any (n.extract 1 65) (by simp; omega) V)
    clear h111
    generalize idP n = I at *
    obtain ⟨id, fd⟩ := I
    go_wp2_with fail
    (with_reducible refine CU.out.mono ?_)
    clear CU ha0 hcb hlb
    intro e V2 ⟨hue, b2⟩
    obtain rfl := (HE e hue).out
    clear HE hue
    replace SW := SW.below b2
    replace AX := AX.below b2 AX.lt
    clear b2 f0
    simp only at HG ⊢
    cases fd with
    | false =>
      have HG1 : Hid (sweepGo K (L.drop (k + 1)) ⟨M, y⟩ = Q) := by show _ = _; rw [← HG.out, if_pos rfl]
      clear HG
      go_wp2_with fail
      go_roundw
      case rel => exact ⟨k + 1, M, Aa, ca, y, by rw [Int.natCast_add]; rfl, hlt, SW, hca, hzM, hlM, hy1, hy2, HG1.out⟩
      case measure => simp [intOf]; omega
    | true =>
    have CB := Lib.hid (refin_any K id (by omega) KA kc V2 SW.2.2.2.1)
    cases hm : memB id K with
    | true =>
      rw [hm] at CB
      have HG1 : Hid (sweepGo K (L.drop (k + 1)) ⟨M, y⟩ = Q) := by show _ = _; rw [← HG.out, if_neg (by simp), if_pos hm]
      clear HG hm
      go_wp2_with fail
      (with_reducible refine CB.out.mono ?_)
      clear CB
      rintro _ V3 ⟨rfl, b2⟩
      replace SW := SW.below b2
      clear b2
      go_wp2_with fail
      go_roundw
      case rel => exact ⟨k + 1, M, Aa, ca, y, by rw [Int.natCast_add]; rfl, hlt, SW, hca, hzM, hlM, hy1, hy2, HG1.out⟩
      case measure => simp [intOf]; omega
    | false =>
    rw [hm] at CB
    have HG1 : Hid ((if (stepP ⟨M, y⟩ (rmP M n)).2 ≠ 0 then stepP ⟨M, y⟩ (rmP M n) else sweepGo K (L.drop (k + 1)) (stepP ⟨M, y⟩ (rmP M n)).1) = Q) := by
      have h := HG.out
      rw [if_neg (by simp), if_neg (by rw [hm]; simp)] at h
      exact h
    clear HG hm
    go_wp2_with fail
    (with_reducible refine CB.out.mono ?_)
    clear CB
    rintro _ V3 ⟨rfl, b2⟩
    replace SW := SW.below b2
    replace AX := AX.below b2 AX.lt
    clear b2 V2
    have f0 : V3.cell? ⟨q, 0, none⟩ = some (.string n) := by have := AX.cell 0; rw [this]; show some (Value.string f.name) = _; rw [HNm.out]
    have d0 : V3.cell? ⟨w.heap.size, 0, none⟩ = some (.slice Aa M.length ca) := SW.1.cell 0
    have d1 : V3.cell? ⟨w.heap.size, 1, none⟩ = some (.int .i64 y) := SW.1.cell 1
    have CR : Hid (Calls Tryz.prog 37 #[.int .i64 3, .agg #[.slice Aa M.length ca, .int .i64 y], .string n, .string ⟨#[]⟩] V3 (StEnd V3 (stepP ⟨M, y⟩ (rmP M n)))) := RefDo_remove M n ⟨#[]⟩ Aa ca y hy1 hy2 V3 SW.2.2.1 hzM hlM hca
    have HZ := fun h => Lib.hid (rm_sized (M := M) (y := y) (n := n) h)
    have HZ2 := fun h => Lib.hid (rm_sizedR (M := M) (y := y) (n := n) h hy1)
    generalize stepP ⟨M, y⟩ (rmP M n) = R at *
    obtain ⟨⟨M2, y2⟩, e2⟩ := R
    go_wp2_with fail
    (with_reducible refine CR.out.mono ?_)
    clear CR f0 d0 d1 AX
    rintro _ V4 ⟨A2, c2, rfl, hF2, hc2, b2⟩
    simp only at hF2 hc2 HG1 HZ HZ2 ⊢
    replace SW := SW.below b2
    clear b2 V3
    have HS : Hid (RwW w M2 A2 c2 y2 K KA L (some ad) (V4.setRow w.heap.size (dkArr M2 A2 c2 y2))) :=
      ⟨SW.1.row _, SW.2.1.row_far (by omega) _, hF2.rowD SW.1 _, txs_row SW.2.2.2.1 SW.1 (fun i t => dkArr_no _ _ _ _ _ _), SW.2.2.2.2.1.rowD SW.1 _, below_setRow SW.2.2.2.2.2 (Nat.le_refl _) _⟩
    go_upto_region 11 with (refine wpList_store_row rfl 37 _ _ rfl w.heap.size (dkArr M2 A2 c2 y2) rfl rfl 37 (dkArr M Aa ca y) SW.1 (dkInfo _ _ _ _) rfl (dkArr_one _ _ _ _) ?_)
    refine wp_forget (RwW w M2 A2 c2 y2 K KA L (some ad)) (by exact HS.out) ?_
    clear HS SW hF2
    clear V4
    intro V5 SW
    by_cases he2 : e2 = 0
    · subst he2
      obtain ⟨z1, z2, z3⟩ := (HZ rfl).out
      have z1' : Sized M2 := z1
      have z2' : M2.length ≤ 400 := z2
      have z3' : y2 ≤ y := z3
      have z4' : -9223372036854775808 ≤ y2 := (HZ2 rfl).out
      have HG2 : Hid (sweepGo K (L.drop (k + 1)) ⟨M2, y2⟩ = Q) := by show _ = _; rw [← HG1.out, if_neg (fun h => h rfl)]
      clear HG1 HZ HZ2 z1 z2 z3
      go_wp2_with fail
      go_roundw
      case rel => exact ⟨k + 1, M2, A2, c2, y2, by rw [Int.natCast_add]; rfl, hlt, SW, hc2, z1', by omega, z4', by omega, HG2.out⟩
      case measure => simp [intOf]; omega
    · have hb : (e2 != 0) = true := by rw [bne_iff_ne]; exact he2
      have HG2 : Hid (Q = (⟨M2, y2⟩, e2)) := by show _ = _; rw [← HG1.out, if_pos he2]
      have d0 : V5.cell? ⟨w.heap.size, 0, none⟩ = some (.slice A2 M2.length c2) := SW.1.cell 0
      have d1 : V5.cell? ⟨w.heap.size, 1, none⟩ = some (.int .i64 y2) := SW.1.cell 1
      clear HG1 HZ HZ2 he2
      go_wp2_with (refine wpList_store_row rfl 37 _ _ rfl (w.heap.size + 1) (dkArr M2 A2 c2 y2) rfl rfl 37 dkZero SW.2.1 (dkInfo _ _ _ _) rfl (dkArr_one _ _ _ _) ?_)
      rw [HG2.out]
      exact HRet.out _ _ ⟨M2, y2⟩ A2 c2 e2 (SW.2.1.row _) (below_setRow SW.2.2.2.2.2 (by omega) _) (SW.2.2.1.row SW.2.1 _) hc2 rfl rfl rfl
end Go.Proofs.YtmikfmcgddmplaaGreatDoor

/- ref.Closed at law.StoreSweeps$1: its contract. -/
namespace Go.Proofs.YtmikfmcgddmplaaGreatDoor
open Go.RowKit

set_option maxRecDepth 100000 in
set_option maxHeartbeats 8000000 in
theorem Closed_lw (G : ByteArray → ByteArray × Int) (U : List ByteArray) (UA : Option Addr) (uc : Nat) (q : Nat) (w : World)
    (CG0 : ∀ W, Below w.heap.size w W → ∀ x, Calls Tryz.prog 17 #[.string x, .pointer (some ⟨q, 0, none⟩)] W fun e w' => e = .returned (.tuple #[.string (G x).1, .int .i64 (G x).2]) ∧ Below W.heap.size W w')
    (hU : Txs w w.heap.size UA U) (hul : U.length ≤ 1048576) :
    Calls Tryz.prog 8 #[.func (.func 17) #[] #[.pointer (some ⟨q, 0, none⟩)], .slice UA U.length uc] w (RhEnd w (closedO G U)) := by
  have hmm : ∀ W : World, (Instr.makeMap 62 none).run Tryz.prog W = .ok (.map (some W.heap.size)) (W.alloc (.map #[] 0)) := fun _ => rfl
  have CG := Lib.hid CG0
  clear CG0
  obtain ⟨si, hsi, sz0, sz1, sz2⟩ := info_parts info_str
  have Hsi := Lib.hid hsi
  have Sz0 := Lib.hid sz0
  have Sz1 := Lib.hid sz1
  have Sz2 := Lib.hid sz2
  clear hsi sz0 sz1 sz2
  have hgo : closedGo G 403 U [] false false = closedO G U := rfl
  generalize closedO G U = ans at *
  have b1 : Below w.heap.size w (w.alloc (.map #[] 0)) := (Below.refl _ _).alloc (Nat.le_refl _) _
  have h1 : Hid (ClRelS G ans w.heap.size w 403 (.slice UA U.length uc) (.bool false) (.bool false) (.bool false) (w.alloc (.map #[] 0))) :=
    ⟨U, [], false, false, false, UA, uc, rfl, rfl, rfl, rfl, (hU.below b1).mono b1.size, List.nodup_nil, MapAt.new w, Nat.le_refl _, b1, (fun e => by cases e), fun _ => ⟨by omega, by simp, hgo, (fun _ => by omega), fun _ => by simp⟩⟩
  clear hgo b1 hU
  go_enter Tryz.func8, Tryz.ntmps8
  go_wp2_with fail
  go_loopg [10, 7, 8, 9] 403 (fun n nv lv wv mv wr => ClRelS G ans w.heap.size w n nv lv wv mv wr)
  case atStart => exact h1.out
  case round =>
    clear h1 hmm
    obtain ⟨next, had, la, wo, many, NA, nc, rfl, rfl, rfl, rfl, hN, hnd, hM, hlo, hB, hyes, hno⟩ := hrel
    cases many
    case true =>
      have HA : Hid (ans = ([], 6)) := hyes rfl
      have HB := Lib.hid hB
      clear hyes hno hN hM
      by_cases hl : 0 < next.length
      · have hli : (0 : Int) < next.length := by omega
        go_wp2_with fail
        go_ret2
        exact ⟨none, 0, by rw [HA.out]; rfl, by rw [HA.out]; exact Txs.nil _ _ _, HB.out⟩
      · have hli : ¬ (0 : Int) < next.length := by omega
        go_wp2_with fail
        go_ret2
        exact ⟨none, 0, by rw [HA.out]; rfl, by rw [HA.out]; exact Txs.nil _ _ _, HB.out⟩
    case false =>
    obtain ⟨hnl, hh4, hgo, hn1, hn2⟩ := hno rfl
    clear hyes hno
    by_cases hl : 0 < next.length
    case neg =>
      have hnil : next = [] := List.eq_nil_of_length_eq_zero (by omega)
      obtain ⟨n', hn'⟩ : ∃ n', gk = n' + 1 := ⟨gk - 1, by have := hn1 hnil; omega⟩
      have hli : ¬ (0 : Int) < next.length := by omega
      rw [hn', hnil, closedGo, if_pos rfl] at hgo
      have HG := Lib.hid hgo
      have HB := Lib.hid hB
      clear hgo hn1 hn2 hN
      cases la
      case true =>
        have HA : Hid (ans = ([], 7)) := HG.out.symm
        clear HG hM
        go_wp2_with fail
        go_ret2
        exact ⟨none, 0, by rw [HA.out]; rfl, by rw [HA.out]; exact Txs.nil _ _ _, HB.out⟩
      case false =>
      cases wo
      case true =>
        have HA : Hid (ans = ([], 2)) := HG.out.symm
        clear HG hM
        go_wp2_with fail
        go_ret2
        exact ⟨none, 0, by rw [HA.out]; rfl, by rw [HA.out]; exact Txs.nil _ _ _, HB.out⟩
      case false =>
      have HA : Hid (ans = (sortB had, 0)) := HG.out.symm
      clear HG
      have hrg := run_range_map (P := Tryz.prog) wr 62 _ _ w.heap.size _ _ Tryz.underlying62 hM
      rw [hx_len] at hrg
      have hst : Hid (LsRel had w.heap.size wr.heap.size w had.length (.slice none 0 0) (wr.alloc (.mapIter (some w.heap.size) had.length #[] had.length))) := by
        have bb : Below wr.heap.size wr (wr.alloc (.mapIter (some w.heap.size) had.length #[] had.length)) := (Below.refl _ _).alloc (Nat.le_refl _) _
        exact ⟨[], [], _, rfl, hM.below bb hM.lt, ItrS.start, own_nil _ _ _ _, List.Pairwise.nil, (fun z => Iff.rfl), rfl, List.nodup_nil, by simp, hlo, hM.lt, HB.out.trans (bb.mono HB.out.size)⟩
      clear hM HB hn'
      go_wp2_with fail
      clear hrg
      generalize wr.heap.size = r at *
      go_loopg [17] had.length (fun gf v wx => LsRel had w.heap.size r w gf v wx)
      case atStart => exact hst.out
      case round =>
        clear hst
        obtain ⟨S, T, v, rfl, hM, hI, hO, hR, hST, hTS, hSn, hgf, hlo2, hhi, hB⟩ := hrel
        rcases itrS_next hnd hM hI (by omega) with ⟨hall, hnx⟩ | ⟨x, W', hxH, hxS, hnx, hent, hM', k', hI'⟩
        case inl =>
          have hsub : ∀ z ∈ S, z ∈ had := by
            obtain ⟨_, _, _, h, _⟩ := hI
            exact h
          have hT : T = sortB had := rsn_ext T (sortB had) hR (sortB_rsn hnd) (fun z => by rw [hST, sortB_mem]; exact ⟨hsub z, hall z⟩)
          obtain ⟨A, c, rfl, _, hTx, _⟩ := own_texts hO
          have HH : Hid (RhEnd w ans (.returned (.tuple #[.slice A T.length c, .int .i64 0])) wr) := by
            show RhEnd _ _ _ _
            rw [HA.out, ← hT]
            exact ⟨A, c, rfl, hTx, hB⟩
          clear hM hI hO hR hST hTS hB hall hT hTx
          go_wp2_with fail
          go_ret2
          exact HH.out
        case inr =>
          have hsub : ∀ z ∈ S ++ [x], z ∈ had := by
            obtain ⟨_, _, _, h, _⟩ := hI'
            exact h
          have hSn' : (S ++ [x]).Nodup := by
            obtain ⟨_, _, h, _⟩ := hI'
            exact h
          have hln := nodup_len (S ++ [x]) had hSn' hsub
          rw [List.length_append, List.length_singleton] at hln
          have hxT : x ∉ T := fun h => hxS ((hST x).1 h)
          have hO' : W'.ownsRow (r + 1) 9 1 v T.length (T.map sv) := own_kp hO (Kp.gb k') (fun g hg e => by have := own_row_ge hO g hg; have := Option.some.inj e; omega)
          have hB' : Below w.heap.size w W' := hB.grown k' hB.size (fun g hg => by cases hg; omega)
          have hr1 : r + 1 ≤ W'.heap.size := by
            obtain ⟨_, h, _⟩ := hI'
            exact (Array.getElem?_eq_some_iff.1 h).1
          have HM := Lib.hid hM'
          have HI := Lib.hid hI'
          have HO := Lib.hid hO'
          have HB' := Lib.hid hB'
          have hxS2 := Lib.hid (And.intro hxT (And.intro hSn' hsub))
          have hTl : T.length ≤ 400 := by omega
          have HTS := Lib.hid hTS
          have hgf2 : T.length + gk = had.length := by omega
          have hgf3 : 1 ≤ gk := by omega
          clear hTS
          obtain ⟨A, c, hv, hTc, hTx, hAb⟩ := own_texts hO'
          subst hv
          have HTx := Lib.hid hTx
          clear hM hI hO hB k' hM' hI' hO' hB' hxT hSn' hsub hTx
          go_wp2_with fail
          clear hnx hent
          go_loopw [19] (fun v wx => LiRel T x W' v wx) (fun v _ => T.length - (intOf v).toNat)
          case atStart => exact ⟨0, rfl, rfl, Nat.zero_le _, by rw [List.drop_zero, Nat.zero_add]⟩
          case round =>
            obtain ⟨j, rfl, rfl, hj, hls⟩ := hrel
            have hex : ((j < T.length ∧ ∃ y, T[j]? = some y ∧ ltB y x = false) ∨ ¬ j < T.length) ∧ lessN x T = j ∨ (∃ y, T[j]? = some y ∧ ltB y x = true ∧ lessN x T = (j + 1) + lessN x (T.drop (j + 1))) := by
              by_cases hlt : j < T.length
              · have hx := List.getElem?_eq_getElem hlt
                rw [List.drop_eq_getElem_cons hlt, lessN] at hls
                cases hq : ltB T[j] x
                · rw [hq, if_neg (by decide)] at hls
                  exact .inl ⟨.inl ⟨hlt, _, hx, hq⟩, by omega⟩
                · rw [hq, if_pos rfl] at hls
                  exact .inr ⟨_, hx, hq, by omega⟩
              · rw [List.drop_eq_nil_of_le (by omega), lessN] at hls
                exact .inl ⟨.inr hlt, by omega⟩
            clear hls
            rcases hex with ⟨hex, hls⟩ | ⟨y, hy, hyx, hls⟩
            case inr =>
              have hlt : j < T.length := (List.getElem?_eq_some_iff.1 hy).1
              have hji : (j : Int) < T.length := by omega
              obtain ⟨ad, rfl, _, g0⟩ := HTx.out j y hy
              have hb : Op.bytesLess y.toList x.toList = true := hyx
              have HLs := Lib.hid hls
              clear hy hyx hls
              go_wp2_with fail
              go_roundw
              case rel => exact ⟨j + 1, by rw [Int.natCast_add]; rfl, rfl, hlt, HLs.out⟩
              case measure => simp [intOf]; omega
            case inl =>
            have HLs := Lib.hid hls
            have hins : Hid (insB x T = T.take j ++ x :: T.drop j) := by
              show _ = _
              unfold insB
              rw [hls]
            have hj0 : (0 : Int) ≤ (j : Int) := by omega
            have hjl : (j : Int) ≤ (T.length : Int) := by omega
            have hjc : (j : Int) ≤ (c : Int) := by omega
            clear hls
            rcases hex with ⟨hlt, y, hy, hyx⟩ | hlt
            · have hji : (j : Int) < T.length := by omega
              have hcj : ¬ c = j := by omega
              obtain ⟨ad, rfl, _, g0⟩ := HTx.out j y hy
              have hb : Op.bytesLess y.toList x.toList = false := hyx
              clear hy hyx
              go_wp2_with fail
              have HN1 : Hid (News (wr.alloc (.cells #[.string x] 9)).drew (some (ad.add j)) (T.length - j) ((T.drop j).map sv)) := (news_drop (HTx.out.below (((Below.refl _ wr).alloc (Nat.le_refl _) _).drew)) j hlt)
              have hr3 : r + 1 ≤ (wr.alloc (.cells #[.string x] 9)).drew.heap.size := by rw [World.size_drew, World.size_alloc]; omega
              go_region_law (first
                | (refine step_app _ rfl _ _ 22 rfl (r + 1) 9 si _ 1 16 Tryz.underlying22 Hsi.out Sz0.out Sz1.out Sz2.out rfl (by decide) (.slice (some ⟨wr.heap.size, 0, none⟩) 1 1) 1 ([x].map sv) rfl (by exact own_one hr1) (some (ad.add j)) (T.length - j) (c - j) ((T.drop j).map sv) rfl (by rw [List.length_map, List.length_drop, Nat.mul_one]) (by exact HN1.out) (sv_one _) (by unfold maxLen; omega) (by omega) (by exact hr3) ?_
                   intro v1 w1 o1 g1
                   have o2 : w1.ownsRow (r + 1) 9 1 v1 (x :: T.drop j).length ((x :: T.drop j).map sv) := by
                     rw [List.length_cons, List.length_drop, Nat.add_comm (T.length - j) 1]
                     exact o1
                   obtain ⟨A1, c1, e1, _, hT1, _⟩ := own_texts o2
                   rw [List.length_cons, List.length_drop] at e1
                   have b1 : Below wr.heap.size wr w1 := (((Below.refl _ wr).alloc (Nat.le_refl _) _).drew).grown g1 (by rw [World.size_drew, World.size_alloc]; omega) (fun g hg => by cases hg; exact Nat.le_refl _)
                   obtain ⟨ad1, eA, _⟩ := hT1 0 x rfl
                   subst e1 eA
                   have HN2 : Hid (News w1 (some ad) j ((T.take j).map sv)) := by
                     have h := ((HTx.out.below b1).takeS j).news
                     rw [List.length_take, Nat.min_eq_left (by omega)] at h
                     exact h
                   have HN3 := Lib.hid (hT1.news.2 ad1 rfl)
                   have hr4 : r + 1 ≤ w1.heap.size := Nat.le_trans hr1 b1.size)
                | (refine step_grown rfl _ _ rfl (r + 1) (some ad) j (T.take j) rfl (by rw [List.length_take]; omega) HN2.out ad1 (T.length - j + 1) c1 (x :: T.drop j) rfl (by rw [List.length_cons, List.length_drop]) HN3.out (by omega) (by omega) hr4 ?_
                   intro v2 w2 o3 b2
                   have o4 : w2.ownsRow (r + 1) 9 1 v2 (insB x T).length ((insB x T).map sv) := by
                     rw [insB_len, hins.out, show T.length + 1 = j + (T.length - j + 1) from by omega]
                     exact o3
                   have HB2 := Lib.hid (b1.trans (b2.mono b1.size))
                   have HO4 := Lib.hid o4))
              go_wp2_with fail
              go_roundg (gk - 1)
              case measure => omega
              case rel => exact ⟨S ++ [x], insB x T, _, rfl, HM.out.below HB2.out HM.out.lt, HI.out.below HB2.out, HO4.out, insB_rsn hR hxS2.out.1, fun z => by rw [insB_mem, List.mem_append, List.mem_singleton, hST]; exact Or.comm, by rw [insB_len, List.length_append, List.length_singleton, HTS.out], hxS2.out.2.1, by rw [List.length_append, List.length_singleton]; omega, hlo2, hhi, HB'.out.trans (HB2.out.mono HB'.out.size)⟩
            · have hji : ¬ (j : Int) < T.length := by omega
              have hjT : j = T.length := by omega
              cases A with
              | none =>
                have hT0 : T.length = 0 := by
                  rcases HO.out.2 with ⟨_, h⟩ | ⟨g, _, _, h, _⟩
                  · exact h
                  · cases h
                have hc0 : c = 0 := by
                  rcases HO.out.2 with ⟨h, _⟩ | ⟨g, _, _, h, _⟩
                  · exact (Value.slice.inj h).2.2
                  · cases h
                have hT1 : Hid (T = []) := List.eq_nil_of_length_eq_zero hT0
                subst hjT
                rw [hc0, hT0]
                clear hj0 hjl hjc hj hji hc0 hTc
                go_wp2_with fail
                have b1 : Below wr.heap.size wr (wr.alloc (.cells #[.string x] 9)).drew := ((Below.refl _ wr).alloc (Nat.le_refl _) _).drew
                have HN2 : Hid (News (wr.alloc (.cells #[.string x] 9)).drew none 0 (([] : List ByteArray).map sv)) := ⟨fun _ => rfl, fun a e k u hu => by cases hu⟩
                have HN3 : Hid (∀ j u, ([x].map sv)[j]? = some u → (wr.alloc (.cells #[.string x] 9)).drew.cell? ((⟨wr.heap.size, 0, none⟩ : Addr).add j) = some u) := one_cell wr x
                have hr4 : r + 1 ≤ (wr.alloc (.cells #[.string x] 9)).drew.heap.size := Nat.le_trans hr1 b1.size
                go_region_law (first
                  | (refine step_grown rfl _ _ rfl (r + 1) none 0 ([] : List ByteArray) rfl rfl HN2.out ⟨wr.heap.size, 0, none⟩ 1 1 [x] rfl rfl HN3.out (by omega) (by omega) hr4 ?_
                     intro v2 w2 o3 b2
                     have o4 : w2.ownsRow (r + 1) 9 1 v2 (insB x T).length ((insB x T).map sv) := by
                       rw [insB_len, hins.out, hT1.out]
                       exact o3
                     have HB2 := Lib.hid (b1.trans (b2.mono b1.size))
                     have HO4 := Lib.hid o4))
                go_wp2_with fail
                go_roundg (gk - 1)
                case measure => omega
                case rel => exact ⟨S ++ [x], insB x T, _, rfl, HM.out.below HB2.out HM.out.lt, HI.out.below HB2.out, HO4.out, insB_rsn hR hxS2.out.1, fun z => by rw [insB_mem, List.mem_append, List.mem_singleton, hST]; exact Or.comm, by rw [insB_len, List.length_append, List.length_singleton, HTS.out], hxS2.out.2.1, by rw [List.length_append, List.length_singleton]; omega, hlo2, hhi, HB'.out.trans (HB2.out.mono HB'.out.size)⟩
              | some ad =>
                by_cases hcj : c = j
                · subst hjT
                  go_wp2_with fail
                  have b1 : Below wr.heap.size wr (wr.alloc (.cells #[.string x] 9)).drew := ((Below.refl _ wr).alloc (Nat.le_refl _) _).drew
                  have HN2 : Hid (News (wr.alloc (.cells #[.string x] 9)).drew (some ad) T.length (T.map sv)) := (HTx.out.below b1).news
                  have HN3 : Hid (∀ j u, ([x].map sv)[j]? = some u → (wr.alloc (.cells #[.string x] 9)).drew.cell? ((⟨wr.heap.size, 0, none⟩ : Addr).add j) = some u) := one_cell wr x
                  have hr4 : r + 1 ≤ (wr.alloc (.cells #[.string x] 9)).drew.heap.size := Nat.le_trans hr1 b1.size
                  go_region_law (first
                    | (refine step_grown rfl _ _ rfl (r + 1) (some ad) T.length T rfl rfl HN2.out ⟨wr.heap.size, 0, none⟩ 1 1 [x] rfl rfl HN3.out (by omega) (by omega) hr4 ?_
                       intro v2 w2 o3 b2
                       have o4 : w2.ownsRow (r + 1) 9 1 v2 (insB x T).length ((insB x T).map sv) := by
                         rw [insB_len, hins.out, List.take_length, List.drop_length]
                         exact o3
                       have HB2 := Lib.hid (b1.trans (b2.mono b1.size))
                       have HO4 := Lib.hid o4))
                  go_wp2_with fail
                  go_roundg (gk - 1)
                  case measure => omega
                  case rel => exact ⟨S ++ [x], insB x T, _, rfl, HM.out.below HB2.out HM.out.lt, HI.out.below HB2.out, HO4.out, insB_rsn hR hxS2.out.1, fun z => by rw [insB_mem, List.mem_append, List.mem_singleton, hST]; exact Or.comm, by rw [insB_len, List.length_append, List.length_singleton, HTS.out], hxS2.out.2.1, by rw [List.length_append, List.length_singleton]; omega, hlo2, hhi, HB'.out.trans (HB2.out.mono HB'.out.size)⟩
                · subst hjT
                  go_wp2_with fail
                  have b1 : Below wr.heap.size wr (wr.alloc (.cells #[.string x] 9)).drew := ((Below.refl _ wr).alloc (Nat.le_refl _) _).drew
                  have HN2 : Hid (News (wr.alloc (.cells #[.string x] 9)).drew (some ad) T.length (T.map sv)) := (HTx.out.below b1).news
                  have HN3 : Hid (∀ j u, ([x].map sv)[j]? = some u → (wr.alloc (.cells #[.string x] 9)).drew.cell? ((⟨wr.heap.size, 0, none⟩ : Addr).add j) = some u) := one_cell wr x
                  have hr4 : r + 1 ≤ (wr.alloc (.cells #[.string x] 9)).drew.heap.size := Nat.le_trans hr1 b1.size
                  go_region_law (first
                    | (refine step_grown rfl _ _ rfl (r + 1) (some ad) T.length T rfl rfl HN2.out ⟨wr.heap.size, 0, none⟩ 1 1 [x] rfl rfl HN3.out (by omega) (by omega) hr4 ?_
                       intro v2 w2 o3 b2
                       have o4 : w2.ownsRow (r + 1) 9 1 v2 (insB x T).length ((insB x T).map sv) := by
                         rw [insB_len, hins.out, List.take_length, List.drop_length]
                         exact o3
                       have HB2 := Lib.hid (b1.trans (b2.mono b1.size))
                       have HO4 := Lib.hid o4))
                  go_wp2_with fail
                  go_roundg (gk - 1)
                  case measure => omega
                  case rel => exact ⟨S ++ [x], insB x T, _, rfl, HM.out.below HB2.out HM.out.lt, HI.out.below HB2.out, HO4.out, insB_rsn hR hxS2.out.1, fun z => by rw [insB_mem, List.mem_append, List.mem_singleton, hST]; exact Or.comm, by rw [insB_len, List.length_append, List.length_singleton, HTS.out], hxS2.out.2.1, by rw [List.length_append, List.length_singleton]; omega, hlo2, hhi, HB'.out.trans (HB2.out.mono HB'.out.size)⟩
    case pos =>
    have hli : (0 : Int) < next.length := by omega
    have hne : next ≠ [] := fun e => by rw [e] at hl; exact absurd hl (by decide)
    have hn3 := hn2 hne
    obtain ⟨n', hn'⟩ : ∃ n', gk = n' + 1 := ⟨gk - 1, by omega⟩
    rw [hn', closedGo, if_neg hne] at hgo
    obtain ⟨R, hR⟩ : ∃ R, lvlO G next had [] la wo = R := ⟨_, rfl⟩
    rw [hR] at hgo
    have HG := Lib.hid hgo
    have h0 : Hid (LvRel G next NA R had.length wr.heap.size w.heap.size w (.int .i64 0) (.bool la) (.bool wo) (.slice none 0 0) wr) :=
      ⟨0, had, [], la, wo, _, rfl, rfl, rfl, rfl, Nat.zero_le _, hnd, ⟨hN, hM, own_nil _ _ _ _, hlo, hM.lt, Nat.le_refl _, hB⟩, Nat.le_refl _, by simp, by omega, by rw [List.drop_zero]; exact hR⟩
    clear hgo hn1 hn2 hN hM hB hR hlo hnd
    go_wp2_with fail
    generalize wr.heap.size = base at *
    go_loopw [31, 7, 8, 11] (fun i lv wv mv wx => LvRel G next NA R had.length base w.heap.size w i lv wv mv wx) (fun i _ _ _ _ => next.length - (intOf i).toNat)
    case atStart => exact h0.out
    case round =>
      clear h0
      obtain ⟨k, had1, more, la, wo, mv, rfl, rfl, rfl, rfl, hk, hnd, hX, hm1, hm2, hm3, he⟩ := hrel
      by_cases hlt : k < next.length
      · have hki : (k : Int) < next.length := by omega
        have hx := List.getElem?_eq_getElem hlt
        obtain ⟨ad, rfl, hb, g0⟩ := hX.nx k next[k] hx
        have hdr : next.drop k = next[k] :: next.drop (k + 1) := List.drop_eq_getElem_cons hlt
        rw [hdr, lvlO] at he
        clear hdr hx
        generalize next[k] = x at *
        have hlk := run_look hX.set x
        rw [hx_get] at hlk
        cases hm : memB x had1
        case true =>
          rw [hm] at hlk
          rw [hm, if_pos rfl] at he
          clear hm
          go_wp2_with fail
          go_roundw
          case rel => exact ⟨k + 1, had1, more, la, wo, _, by rw [Int.natCast_add]; rfl, rfl, rfl, rfl, hlt, hnd, hX, hm1, hm2, by omega, he⟩
          case measure => simp [intOf]; omega
        case false =>
        rw [hm] at hlk
        rw [hm, if_neg (by decide)] at he
        have C := Lib.hid (CG.out wr hX.bel x)
        have HX := Lib.hid hX
        have HEq := Lib.hid he
        have HNd := Lib.hid (memB_app hm hnd)
        have HMm := Lib.hid hm
        clear hX he hm
        generalize G x = gx at C HEq
        obtain ⟨s, e⟩ := gx
        simp only at C
        go_wp2_with fail
        (with_reducible refine C.out.mono ?_)
        clear C hlk g0
        rintro _ w2 ⟨rfl, b2⟩
        have HX2 := Lib.hid (HX.out.below b2)
        clear HX b2
        by_cases hez : e = 0
        case neg =>
          have heb : (e != 0) = true := by rw [bne_iff_ne]; exact hez
          have h7 : (loadR (s, e)).2 = 7 := by unfold loadR; rw [if_pos hez]
          rw [if_pos h7] at HEq
          clear h7 HNd HMm
          go_wp2_with fail
          go_roundw
          case rel => exact ⟨k + 1, had1, more, true, wo, _, by rw [Int.natCast_add]; rfl, rfl, rfl, rfl, hlt, hnd, HX2.out, hm1, hm2, by omega, HEq.out⟩
          case measure => simp [intOf]; omega
        case pos =>
        subst hez
        have CD := Lib.hid (RefDecode_any s w2)
        have hld : loadR (s, (0 : Int)) = if (decO s.data.toList).2 ≠ 0 then (Ob.none, 2) else ((decO s.data.toList).1, 0) := by
          unfold loadR
          rw [if_neg (by simp)]
        have hfc : (decO s.data.toList).2 = 0 → (decO s.data.toList).1.ents.length ≤ 64 ∧ (decO s.data.toList).1.pars.length ≤ 4 := fun h => ⟨(good_facts (dec_only h).2.1).ents, (good_facts (dec_only h).2.1).pars⟩
        rw [hld] at HEq
        have HFc := Lib.hid hfc
        clear hld hfc
        generalize decO s.data.toList = D at *
        obtain ⟨o, e2⟩ := D
        simp only at CD HEq HFc
        unfold DEnd at CD
        go_wp2_with fail
        (with_reducible refine CD.out.mono ?_)
        clear CD
        rintro _ w3 ⟨p, hx3, oin, b3⟩
        unfold obArr at hx3
        subst hx3
        have hX3 := HX2.out.below b3
        have NB : Below w3.heap.size w3 (w3.alloc (.cells (obArr o p) 53)) := (Below.refl _ _).alloc (Nat.le_refl _) _
        have A3 : Arr (w3.alloc (.cells (obArr o p) 53)) w3.heap.size 53 (obArr o p) := Arr.new _ _ _
        have hst : Hid (Lv next (some ad) base w.heap.size w had1 more mv (w3.alloc (.cells (obArr o p) 53)) ∧ Arr (w3.alloc (.cells (obArr o p) 53)) w3.heap.size 53 (obArr o p) ∧ ObIn (w3.alloc (.cells (obArr o p) 53)) (w3.alloc (.cells (obArr o p) 53)).heap.size o p) :=
          ⟨hX3.below NB, A3, (oin.below NB).mono NB.size⟩
        clear hX3 NB A3 oin b3 HX2
        go_upto_region 14 with fail
        refine wp_forget (fun V => Lv next (some ad) base w.heap.size w had1 more mv V ∧ Arr V w3.heap.size 53 (obArr o p) ∧ ObIn V V.heap.size o p) (by exact hst.out) ?_
        clear hst
        generalize w3.heap.size = q5
        rintro V ⟨hX, AO, hO⟩
        by_cases hd : e2 = 0
        case neg =>
          have heb : (e2 != 0) = true := by rw [bne_iff_ne]; exact hd
          have HEq2 : Hid (lvlO G (next.drop (k + 1)) had1 more la true = R) := by
            have h := HEq.out
            rw [if_pos hd, if_neg (by simp), if_pos rfl] at h
            exact h
          have HX := Lib.hid hX
          clear HEq HNd HMm HFc AO hO hX
          go_wp2_with fail
          go_roundw
          case rel => exact ⟨k + 1, had1, more, la, true, _, by rw [Int.natCast_add]; rfl, rfl, rfl, rfl, hlt, hnd, HX.out, hm1, hm2, by omega, HEq2.out⟩
          case measure => simp [intOf]; omega
        case pos =>
        subst hd
        have HEq2 : Hid (lvlO G (next.drop (k + 1)) (had1 ++ [x]) (more ++ linksL o) la wo = R) := by
          have h := HEq.out
          rw [if_neg (by simp), if_neg (by simp), if_neg (by simp)] at h
          exact h
        obtain ⟨hents, hpars⟩ := HFc.out rfl
        have hll : (linksL o).length ≤ 64 := linksL_len hents hpars
        have HM1 := Lib.hid hX.set
        clear HEq HFc hnd
        go_upto_region 17 with (refine wpList_up rfl _ _ _ (.inl rfl) w.heap.size _ HM1.out rfl x true rfl rfl ?_; intro W' hM' k')
        have hX2 := hX.up HMm.out hM' k'
        have AO2 := arr_mapS AO hX.set k'
        have hO2 := hO.map hX.set k'
        clear hX AO hO hM' k' HM1 HMm
        have CL := Lib.hid (RefLinks_far o p W' hO2 (by omega) (by omega))
        go_wp2_with (refine wpList_load_row rfl 53 _ rfl q5 rfl 53 _ (0, 0) _ AO2 Tryz.underlying53 rfl (obInfo _ _) ?_)
        (with_reducible refine CL.out.mono ?_)
        clear CL AO2 hO2
        rintro _ V2 ⟨LA, lc, rfl, hL, b4, _⟩
        have HX3 := Lib.hid (hX2.below b4)
        have HN := Lib.hid hL.news
        clear hX2 b4 hL
        generalize linksL o = T at *
        go_wp2_with (at_builtin; refine wpList_app _ rfl _ _ 22 rfl base 9 si _ 1 16 Tryz.underlying22 Hsi.out Sz0.out Sz1.out Sz2.out rfl (by decide) mv more.length (more.map sv) rfl HX3.out.own LA T.length lc (T.map sv) rfl (by rw [List.length_map, Nat.mul_one]) HN.out (sv_one _) (by unfold maxLen; omega) (by omega) HX3.out.size ?_)
        intro v' w' o1 k1
        have HX4 := Lib.hid (HX3.out.app o1 k1)
        clear HX3 HN o1 k1
        go_wp2_with fail
        go_roundw
        case rel => exact ⟨k + 1, had1 ++ [x], more ++ T, la, wo, _, by rw [Int.natCast_add]; rfl, rfl, rfl, rfl, hlt, HNd.out, HX4.out, by rw [List.length_append]; omega, by rw [List.length_append, List.length_append, List.length_singleton]; omega, by rw [List.length_append, List.length_singleton]; omega, HEq2.out⟩
        case measure => simp [intOf]; omega
      · obtain rfl : k = next.length := by omega
        have hki : ¬ (next.length : Int) < next.length := by omega
        rw [List.drop_length, lvlO] at he
        subst he
        have hG := HG.out
        simp only at hG
        have hlen := run_lenS hX.set 3
        rw [hx_len] at hlen
        obtain ⟨MA, mc, rfl, _, hT, _⟩ := own_texts hX.own
        by_cases hf : 400 < had1.length
        · rw [if_pos hf] at hG
          have hfi : (400 : Int) < had1.length := by omega
          have hC : Hid (ClRelS G ans w.heap.size w n' (.slice MA more.length mc) (.bool la) (.bool wo) (.bool true) wr) :=
            ⟨more, had1, la, wo, true, MA, mc, rfl, rfl, rfl, rfl, hT, hnd, hX.set, hX.lo, hX.bel, fun _ => hG.symm, fun e => by cases e⟩
          clear hX hT hG HG
          go_wp2_with fail
          go_roundg n'
          case measure => omega
          case rel => exact hC.out
        · rw [if_neg hf] at hG
          have hfi : ¬ (400 : Int) < had1.length := by omega
          have hC : Hid (ClRelS G ans w.heap.size w n' (.slice MA more.length mc) (.bool la) (.bool wo) (.bool false) wr) :=
            ⟨more, had1, la, wo, false, MA, mc, rfl, rfl, rfl, rfl, hT, hnd, hX.set, hX.lo, hX.bel, (fun e => by cases e), fun _ => ⟨by omega, by omega, hG, fun _ => by omega, fun hne2 => by
              have : 0 < more.length := List.length_pos_iff.2 hne2
              omega⟩⟩
          clear hX hT hG HG
          go_wp2_with fail
          go_roundg n'
          case measure => omega
          case rel => exact hC.out
end Go.Proofs.YtmikfmcgddmplaaGreatDoor

/- store.Put: its contract. -/
namespace Go.Proofs.YtmikfmcgddmplaaGreatDoor
open Go.RowKit

theorem results_cell_tmp_tmp {fn : Func} {p u v : Tmp} {ty : TypeId} (h : fn.results = #[.cell p ty, .tmp u, .tmp v]) (tmps : Array Value) (P : Program) (w : World) :
    (results fn tmps).run P w =
      ((asAddr (tmps.getD p undef)).run P w).andThen fun a w₁ => ((loadVar ty a).run P w₁).andThen fun x w₂ => .ok (.tuple #[x, tmps.getD u undef, tmps.getD v undef]) w₂ := by
  simp only [results, h]
  simp [Sem.run_bind, Result.andThen]
def PutEnd (w : World) (r : Dk × ByteArray × Int) (x : Ending) (w' : World) : Prop :=
  ∃ A c, x = .returned (.tuple #[.agg (dkArr r.1.files A c r.1.fuse), .string r.2.1, .int .i64 r.2.2]) ∧ Fls w' w'.heap.size A r.1.files ∧ r.1.files.length ≤ c ∧ Below w.heap.size w w'
theorem fileN_size {id : ByteArray} (h : id.size = 32) : (fileN id).size = 65 := by
  unfold fileN
  rw [ByteArray.size_append, bs_size, hexOf_length]
  show 1 + 2 * id.size = 65
  omega
/-- behind Save: what was saved in its block, the result's block still empty -/
def Xv (w : World) (M : List Fl) (Ab : Option Addr) (cb : Nat) (y : Int) (q : Nat) (W : World) : Prop :=
  Arr W q 37 (dkArr M Ab cb y) ∧ Arr W (w.heap.size + 1) 37 dkZero ∧ Fls W W.heap.size Ab M ∧ Below w.heap.size w W
theorem put_late {w V : World} {L M : List Fl} {A Ab : Option Addr} {c cb : Nat} {z y : Int} (hS : Sv w L A c z V) (hF : Fls V V.heap.size Ab M) (W' : World) (e : W' = V.alloc (.cells #[.slice Ab M.length cb, .int .i64 y] 37)) : Xv w M Ab cb y V.heap.size W' := by
  subst e
  have b1 : Below V.heap.size V (V.alloc (.cells #[.slice Ab M.length cb, .int .i64 y] 37)) := (Below.refl _ _).alloc (Nat.le_refl _) _
  exact ⟨Arr.new _ _ _, hS.2.1.alloc _, hF.up b1, hS.2.2.2.trans (b1.mono hS.2.2.2.size)⟩
theorem put_early {w V : World} {L M : List Fl} {A Ab : Option Addr} {c cb : Nat} {z y : Int} {q : Nat} (hS : Sv w L A c z V) (hF : Fls V V.heap.size Ab M) (hA : Arr V q 37 dkZero) (hq : w.heap.size + 1 < q) (W' : World) (e : W' = (V.setCell ⟨q, 0, none⟩ (.slice Ab M.length cb)).setCell ⟨q, 1, none⟩ (.int .i64 y)) : Xv w M Ab cb y q W' := by
  subst e
  have k : V.grownBy ((V.setCell ⟨q, 0, none⟩ (.slice Ab M.length cb)).setCell ⟨q, 1, none⟩ (.int .i64 y)) (some q) := gb_trans (gb_set _ _ _) (gb_set _ _ _)
  refine ⟨(hA.put 0 (.slice Ab M.length cb)).put 1 (.int .i64 y), hS.2.1.kept k (fun e => by cases e; omega), fun k' x hx => ?_, below_gb hS.2.2.2 k (by omega) hS.2.2.2.size⟩
  obtain ⟨ad, e, hbk, h0, h1, h2⟩ := hF k' x hx
  have hn : ¬ some (ad.add (k' * 3)).block = some q := fun e => by
    rw [Option.some.inj e, hA.cell] at h1
    exact dkZero_no _ _ h1
  exact ⟨ad, e, Nat.lt_of_lt_of_le hbk k.size, k.cell h0 hn, k.cell h1 hn, k.cell h2 hn⟩
set_option maxRecDepth 100000 in
set_option maxHeartbeats 2000000 in
theorem Put_st (L : List Fl) (s : ByteArray) (hs : s.size ≤ 140737488355328) (A : Option Addr) (c : Nat) (z : Int) (w : World) (hP : Fls w w.heap.size A L) (hz : Sized L) (hl : L.length ≤ 140737488355328) (hc : L.length ≤ c) (hzf : z ≤ 9223372036854775807) (ht : Tab w) :
    Calls Tryz.prog 30 #[.agg #[.slice A L.length c, .int .i64 z], .string s] w (PutEnd w (putO ⟨L, z⟩ s)) := by
  have b0 : Below w.heap.size w ((w.alloc (.cells (dkArr L A c z) 37)).alloc (.cells dkZero 37)) := ((Below.refl _ _).alloc (Nat.le_refl _) _).alloc (by simp) _
  have h0 : Hid (Sv w L A c z ((w.alloc (.cells (dkArr L A c z) 37)).alloc (.cells dkZero 37))) := ⟨(Arr.new _ _ _).alloc _, Arr.new_at _ _ _ (by simp), hP.up b0, b0⟩
  have HRet : Hid (∀ (W : World) (a : Act) (d : Dk) (A' : Option Addr) (c' : Nat) (i : ByteArray) (e : Int), Arr W (w.heap.size + 1) 37 (dkArr d.files A' c' d.fuse) → Below w.heap.size w W → Fls W W.heap.size A' d.files → d.files.length ≤ c' → a.tmps[4]? = some (.pointer (some ⟨w.heap.size + 1, 0, none⟩)) → a.tmps[5]? = some (.string i) → a.tmps[6]? = some (.int .i64 e) → a.defers = [] → bodyPost Tryz.prog Tryz.f30 (PutEnd w (d, i, e)) .ret a W) := fun W a d A' c' i e h1 h2 h3 h4 h5 h6 h8 h7 => by
    refine bodyPost_ret (v := .tuple #[.agg (dkArr d.files A' c' d.fuse), .string i, .int .i64 e]) ?_ h7 ⟨A', c', rfl, h3, h4, h2⟩
    rw [results_cell_tmp_tmp Tryz.results30]
    have hld := run_loadVar_row (P := Tryz.prog) _ _ _ 37 _ _ _ h1 Tryz.underlying37 rfl (dkInfo _ _ _ _)
    simp [Array.getD_eq_getD_getElem?, h5, h6, h8, asAddr, hld, Result.andThen]
  have HQ0 : Hid (putO ⟨L, z⟩ s = if (decO s.data.toList).2 ≠ 0 then (⟨L, z⟩, ⟨#[]⟩, (decO s.data.toList).2) else if hasO ⟨L, z⟩ (sumB s) = true then (⟨L, z⟩, sumB s, 0) else
    if (saveD ⟨L, z⟩ (fileN (sumB s)) s).2 ≠ 0 then ((saveD ⟨L, z⟩ (fileN (sumB s)) s).1, ⟨#[]⟩, (saveD ⟨L, z⟩ (fileN (sumB s)) s).2) else ((saveD ⟨L, z⟩ (fileN (sumB s)) s).1, sumB s, 0)) := rfl
  have CD := fun V => Lib.hid (Decode_any s V)
  have CI : ∀ V, Tab V → Hid (Calls Tryz.prog 52 #[.string s] V fun x w' => x = .returned (.string (sumB s)) ∧ Below V.heap.size V w') := fun V h => Id_any s (by omega) V h
  have CH := fun V a b => Lib.hid (has_st L (sumB s) A c z V a hz hl b)
  have CN := fun V => Lib.hid (fileName_st (sumB s) (sumB_size s) V)
  have CX := fun V h => Lib.hid (Save_any L (fileN (sumB s)) s (by rw [fileN_size (sumB_size s)]; omega) hs A c z V h hz hl hc hzf)
  generalize putO ⟨L, z⟩ s = Q at *
  generalize fileN (sumB s) = F at *
  generalize hasO ⟨L, z⟩ (sumB s) = H at *
  generalize saveD ⟨L, z⟩ F s = R at *
  generalize sumB s = I at *
  obtain ⟨⟨M, y⟩, g⟩ := R
  generalize decO s.data.toList = D at *
  obtain ⟨o, e⟩ := D
  have HQ : Hid (Q = if e ≠ 0 then (⟨L, z⟩, ⟨#[]⟩, e) else if H = true then (⟨L, z⟩, I, 0) else if g ≠ 0 then (⟨M, y⟩, ⟨#[]⟩, g) else (⟨M, y⟩, I, 0)) := HQ0
  clear HQ0
  go_enter Tryz.func30, Tryz.ntmps30
  go_upto_region 1 with fail
  refine wp_forget (Sv w L A c z) (by exact h0.out) ?_
  clear h0 b0
  intro V S
  have C1 : Hid (Calls Tryz.prog 41 #[.string s] V (DEnd V o e)) := CD V
  clear CD
  go_wp2_with fail
  (with_reducible refine C1.out.mono ?_)
  clear C1
  rintro _ V2 ⟨p, rfl, hO, b2⟩
  replace S := S.below b2
  clear b2 hO
  have S2 : Sv w L A c z ((V2.alloc (.cells zeroO 53)).setRow V2.heap.size (obArr o p)) := S.below (below_setRow ((Below.refl _ _).alloc (Nat.le_refl _) _) (Nat.le_refl _) _)
  go_upto_region 2 with (refine wpList_store_row rfl 53 _ _ rfl V2.heap.size (obArr o p) rfl rfl 53 zeroO (Arr.new V2 _ _) (obInfo _ _) rfl (obArr_one _ _) ?_)
  refine wp_forget (Sv w L A c z) (by exact S2) ?_
  clear S2 S V
  generalize V2.heap.size = qo
  clear V2
  intro V S
  have c0 : V.cell? ⟨w.heap.size, 0, none⟩ = some (.slice A L.length c) := S.1.cell 0
  have c1 : V.cell? ⟨w.heap.size, 1, none⟩ = some (.int .i64 z) := S.1.cell 1
  by_cases he : e = 0
  case neg =>
    have hb : (e != 0) = true := by rw [bne_iff_ne]; exact he
    have HR : Hid (Q = (⟨L, z⟩, ⟨#[]⟩, e)) := by show _ = _; rw [HQ.out, if_pos he]
    clear HQ he
    go_wp2_with (refine wpList_store_row rfl 37 _ _ rfl (w.heap.size + 1) (dkArr L A c z) rfl rfl 37 dkZero S.2.1 (dkInfo _ _ _ _) rfl (dkArr_one _ _ _ _) ?_)
    rw [HR.out]
    exact HRet.out _ _ ⟨L, z⟩ A c ⟨#[]⟩ e (S.2.1.row _) (below_setRow S.2.2.2 (by omega) _) (S.2.2.1.row S.2.1 _) hc rfl rfl rfl rfl
  subst he
  replace HQ : Hid (Q = if H = true then (⟨L, z⟩, I, 0) else if g ≠ 0 then (⟨M, y⟩, ⟨#[]⟩, g) else (⟨M, y⟩, I, 0)) := by show _ = _; rw [HQ.out, if_neg (fun h => h rfl)]
  have C1 := CI V (ht.below S.2.2.2 ht.1)
  clear CI c0 c1
  go_wp2_with fail
  (with_reducible refine C1.out.mono ?_)
  clear C1
  rintro _ V2 ⟨rfl, b2⟩
  replace S := S.below b2
  clear b2
  have c0 : V2.cell? ⟨w.heap.size, 0, none⟩ = some (.slice A L.length c) := S.1.cell 0
  have c1 : V2.cell? ⟨w.heap.size, 1, none⟩ = some (.int .i64 z) := S.1.cell 1
  have C1 := CH V2 S.2.2.1 (ht.below S.2.2.2 ht.1)
  clear CH
  go_wp2_with fail
  (with_reducible refine C1.out.mono ?_)
  clear C1 c0 c1
  rintro _ V3 ⟨rfl, b2⟩
  replace S := S.below b2
  clear b2 V V2
  have c0 : V3.cell? ⟨w.heap.size, 0, none⟩ = some (.slice A L.length c) := S.1.cell 0
  have c1 : V3.cell? ⟨w.heap.size, 1, none⟩ = some (.int .i64 z) := S.1.cell 1
  cases H with
  | true =>
    have HR : Hid (Q = (⟨L, z⟩, I, 0)) := by show _ = _; rw [HQ.out, if_pos rfl]
    clear HQ
    go_wp2_with (refine wpList_store_row rfl 37 _ _ rfl (w.heap.size + 1) (dkArr L A c z) rfl rfl 37 dkZero S.2.1 (dkInfo _ _ _ _) rfl (dkArr_one _ _ _ _) ?_)
    rw [HR.out]
    exact HRet.out _ _ ⟨L, z⟩ A c I 0 (S.2.1.row _) (below_setRow S.2.2.2 (by omega) _) (S.2.2.1.row S.2.1 _) hc rfl rfl rfl rfl
  | false =>
  replace HQ : Hid (Q = if g ≠ 0 then (⟨M, y⟩, ⟨#[]⟩, g) else (⟨M, y⟩, I, 0)) := by show _ = _; rw [HQ.out, if_neg (by simp)]
  have hq3 : w.heap.size + 1 < V3.heap.size := S.2.1.lt
  have Sd : Sv w L A c z V3.drew := S.below (below_drewN (Below.refl _ _) 1)
  have be : Below V3.heap.size V3 (V3.alloc (.cells dkZero 37)).drew := ((Below.refl _ V3).alloc (Nat.le_refl _) _).drew
  have Se : Sv w L A c z (V3.alloc (.cells dkZero 37)).drew := S.below be
  have AE : Arr (V3.alloc (.cells dkZero 37)).drew V3.heap.size 37 dkZero := (Arr.new _ _ _).drew
  have CNd := CN V3.drew
  have CNe := CN (V3.alloc (.cells dkZero 37)).drew
  replace CX : ∀ V, Fls V V.heap.size A L → Hid (Calls Tryz.prog 54 #[.agg #[.slice A L.length c, .int .i64 z], .string F, .string s] V (StEnd V (⟨M, y⟩, g))) := CX
  have d0 : V3.drew.cell? ⟨w.heap.size, 0, none⟩ = some (.slice A L.length c) := Sd.1.cell 0
  have d1 : V3.drew.cell? ⟨w.heap.size, 1, none⟩ = some (.int .i64 z) := Sd.1.cell 1
  have e0 : (V3.alloc (.cells dkZero 37)).drew.cell? ⟨w.heap.size, 0, none⟩ = some (.slice A L.length c) := Se.1.cell 0
  have e1 : (V3.alloc (.cells dkZero 37)).drew.cell? ⟨w.heap.size, 1, none⟩ = some (.int .i64 z) := Se.1.cell 1
  unfold dkZero at CNe e0 e1
  clear c0 c1 CN be
  go_upto_region 7 with fail
  go_region_law (first
    | (go_simp; go_at_call 55; (with_reducible refine CNd.out.mono ?_); rintro _ V4 ⟨rfl, b4⟩
       have S4 := Sd.below b4
       have x0 : V4.cell? ⟨w.heap.size, 0, none⟩ = some (.slice A L.length c) := S4.1.cell 0
       have x1 : V4.cell? ⟨w.heap.size, 1, none⟩ = some (.int .i64 z) := S4.1.cell 1
       have CX4 := CX V4 S4.2.2.1
       have Sf : Sv w L A c z (V4.alloc (.cells dkZero 37)) := S4.below ((Below.refl _ _).alloc (Nat.le_refl _) _)
       have AF : Arr (V4.alloc (.cells dkZero 37)) V4.heap.size 37 dkZero := Arr.new _ _ _
       have y0 : (V4.alloc (.cells dkZero 37)).cell? ⟨w.heap.size, 0, none⟩ = some (.slice A L.length c) := Sf.1.cell 0
       have y1 : (V4.alloc (.cells dkZero 37)).cell? ⟨w.heap.size, 1, none⟩ = some (.int .i64 z) := Sf.1.cell 1
       have CXf := CX (V4.alloc (.cells dkZero 37)) Sf.2.2.1
       have hq4 : w.heap.size + 1 < V4.heap.size := S4.2.1.lt
       unfold dkZero at y0 y1 CXf)
    | (go_simp; go_at_call 55; (with_reducible refine CNe.out.mono ?_); rintro _ V5 ⟨rfl, b5⟩
       have S5 := Se.below b5
       have AE5 := AE.below b5 AE.lt
       have x0 : V5.cell? ⟨w.heap.size, 0, none⟩ = some (.slice A L.length c) := S5.1.cell 0
       have x1 : V5.cell? ⟨w.heap.size, 1, none⟩ = some (.int .i64 z) := S5.1.cell 1
       have CX5 := CX V5 S5.2.2.1)
    | (go_simp; go_at_call 54; (with_reducible refine CX4.out.mono ?_); rintro _ V6 ⟨Ab, cb, rfl, hFb, hcb, b6⟩
       have HF : Hid (∀ W', W' = V6.alloc (.cells #[.slice Ab M.length cb, .int .i64 y] 37) → Xv w M Ab cb y V6.heap.size W') := put_late (S4.below b6) hFb
       simp only [dkArr])
    | (go_simp; go_at_call 54; (with_reducible refine CXf.out.mono ?_); rintro _ V6 ⟨Ab, cb, rfl, hFb, hcb, b6⟩
       have AF6 := AF.below b6 AF.lt
       have HF : Hid (∀ W', W' = (V6.setCell ⟨V4.heap.size, 0, none⟩ (.slice Ab M.length cb)).setCell ⟨V4.heap.size, 1, none⟩ (.int .i64 y) → Xv w M Ab cb y V4.heap.size W') := put_early (Sf.below b6) hFb AF6 hq4
       have z0 : V6.cell? ⟨V4.heap.size, 0, none⟩ = some (.slice none 0 0) := AF6.cell 0
       have z1 := AF6.free 0
       have AG := AF6.put 0 (.slice Ab M.length cb)
       have z2 : (V6.setCell ⟨V4.heap.size, 0, none⟩ (.slice Ab M.length cb)).cell? ⟨V4.heap.size, 1, none⟩ = some (.int .i64 0) := AG.cell 1
       have z3 := AG.free 1
       simp only [dkArr])
    | (go_simp; go_at_call 54; (with_reducible refine CX5.out.mono ?_); rintro _ V6 ⟨Ab, cb, rfl, hFb, hcb, b6⟩
       have AE6 := AE5.below b6 AE5.lt
       have HF : Hid (∀ W', W' = (V6.setCell ⟨V3.heap.size, 0, none⟩ (.slice Ab M.length cb)).setCell ⟨V3.heap.size, 1, none⟩ (.int .i64 y) → Xv w M Ab cb y V3.heap.size W') := put_early (S5.below b6) hFb AE6 hq3
       have z0 : V6.cell? ⟨V3.heap.size, 0, none⟩ = some (.slice none 0 0) := AE6.cell 0
       have z1 := AE6.free 0
       have AG := AE6.put 0 (.slice Ab M.length cb)
       have z2 : (V6.setCell ⟨V3.heap.size, 0, none⟩ (.slice Ab M.length cb)).cell? ⟨V3.heap.size, 1, none⟩ = some (.int .i64 0) := AG.cell 1
       have z3 := AG.free 1
       simp only [dkArr]))
  all_goals
    go_upto_region 8 with fail
    first
      | (refine wp_forget (Xv w M Ab cb y V6.heap.size) (by exact HF.out _ rfl) ?_
         generalize V6.heap.size = qb)
      | (refine wp_forget (Xv w M Ab cb y V4.heap.size) (by exact HF.out _ rfl) ?_
         generalize V4.heap.size = qb)
      | (refine wp_forget (Xv w M Ab cb y V3.heap.size) (by exact HF.out _ rfl) ?_
         generalize V3.heap.size = qb)
    intro V8 hX
    have g0 : V8.cell? ⟨qb, 0, none⟩ = some (.slice Ab M.length cb) := hX.1.cell 0
    have g1 : V8.cell? ⟨qb, 1, none⟩ = some (.int .i64 y) := hX.1.cell 1
    by_cases hg : g = 0
    · have HR : Hid (Q = (⟨M, y⟩, I, 0)) := by show _ = _; rw [HQ.out, if_neg (fun h => h hg)]
      subst hg
      go_wp2_with (refine wpList_store_row rfl 37 _ _ rfl (w.heap.size + 1) (dkArr M Ab cb y) rfl rfl 37 dkZero hX.2.1 (dkInfo _ _ _ _) rfl (dkArr_one _ _ _ _) ?_)
      rw [HR.out]
      exact HRet.out _ _ ⟨M, y⟩ Ab cb I 0 (hX.2.1.row _) (below_setRow hX.2.2.2 (by omega) _) (hX.2.2.1.row hX.2.1 _) hcb rfl rfl rfl rfl
    · have HR : Hid (Q = (⟨M, y⟩, ⟨#[]⟩, g)) := by show _ = _; rw [HQ.out, if_pos hg]
      have hgb : (g != 0) = true := by rw [bne_iff_ne]; exact hg
      go_wp2_with (refine wpList_store_row rfl 37 _ _ rfl (w.heap.size + 1) (dkArr M Ab cb y) rfl rfl 37 dkZero hX.2.1 (dkInfo _ _ _ _) rfl (dkArr_one _ _ _ _) ?_)
      rw [HR.out]
      exact HRet.out _ _ ⟨M, y⟩ Ab cb ⟨#[]⟩ g (hX.2.1.row _) (below_setRow hX.2.2.2 (by omega) _) (hX.2.2.1.row hX.2.1 _) hcb rfl rfl rfl rfl
end Go.Proofs.YtmikfmcgddmplaaGreatDoor

/- Put and Get, again and behind a crash: plain mathematics. -/
namespace Go.Proofs.YtmikfmcgddmplaaGreatDoor
open Go.RowKit

/-- a save that says yes: the file lies there, all of it safe -/
theorem save_yes {L : List Fl} {n s : ByteArray} {z : Int} (h : (saveD ⟨L, z⟩ n s).2 = 0) : goodD (saveD ⟨L, z⟩ n s).1.files = true ∧ getF n (saveD ⟨L, z⟩ n s).1.files = some ⟨n, s, ⟨#[]⟩⟩ := by
  have hnf : n ≠ newN n := fun e => new_ne n e.symm
  have hG : goodD L = true := by
    cases hG : goodD L with
    | true => rfl
    | false => unfold saveD at h; rw [hG] at h; simp at h
  unfold saveD at h ⊢
  simp only [hG, Bool.not_true, Bool.false_eq_true, if_false] at h ⊢
  by_cases hN : (!named n || !named (newN n)) = true
  · rw [if_pos hN] at h; simp at h
  rw [if_neg hN] at h ⊢
  obtain ⟨r0, hr0⟩ : ∃ r0, r0 = (if (getF (newN n) L).isSome = true then stepP ⟨L, z⟩ (rmP L (newN n)) else (⟨L, z⟩, 0)) := ⟨_, rfl⟩
  rw [← hr0] at h ⊢
  have K0 : Keep n ⟨L, z⟩ r0.1 := by
    rw [hr0]
    split
    · exact rm_keep hG hnf
    · exact keep_refl hG
  by_cases e0 : r0.2 = 0
  case neg => rw [then_err e0, then_err e0, then_err e0] at h; exact absurd h e0
  have N0 : getF (newN n) r0.1.files = none := by
    rw [hr0] at e0 ⊢
    split
    · rename_i hs
      rw [if_pos hs] at e0
      obtain ⟨_, _, L1, h1, h2⟩ := step_yes rm_err e0
      rw [h2]
      obtain ⟨rfl, _⟩ := rm_ok hG h1
      rw [getF_del, if_pos rfl]
    · rename_i hs
      cases hg : getF (newN n) L with
      | none => rfl
      | some f => rw [hg] at hs; simp at hs
  rw [then_ok e0] at h ⊢
  obtain ⟨d0, _⟩ := r0
  simp only at K0 N0 h ⊢
  clear hr0 e0
  obtain ⟨r1, hr1⟩ : ∃ r1, r1 = stepP d0 (wrP d0.files (newN n) s) := ⟨_, rfl⟩
  rw [← hr1] at h ⊢
  have K1 : Keep n ⟨L, z⟩ r1.1 := by rw [hr1]; exact keep_trans K0 (wr_keep K0.1 hnf)
  by_cases e1 : r1.2 = 0
  case neg => rw [then_err e1, then_err e1] at h; exact absurd h e1
  have N1 : getF (newN n) r1.1.files = some ⟨newN n, ⟨#[]⟩, s⟩ := by
    rw [hr1] at e1 ⊢
    obtain ⟨_, _, L1, h1, h2⟩ := step_yes wr_err e1
    rw [h2]
    obtain ⟨_, ⟨f, hf, rfl⟩, _⟩ := wr_ok K0.1 h1
    rcases hf with hf | ⟨_, rfl⟩
    · rw [N0] at hf; cases hf
    · rw [getF_put _ _ _ _ ((goodD_iff _).1 K0.1).2.1, if_pos rfl, empty_append]
  rw [then_ok e1] at h ⊢
  obtain ⟨d1, _⟩ := r1
  simp only at K1 N1 h ⊢
  clear hr1 e1
  obtain ⟨r2, hr2⟩ : ∃ r2, r2 = stepP d1 (syP d1.files (newN n)) := ⟨_, rfl⟩
  rw [← hr2] at h ⊢
  have K2 : Keep n ⟨L, z⟩ r2.1 := by rw [hr2]; exact keep_trans K1 (sy_keep K1.1 hnf)
  by_cases e2 : r2.2 = 0
  case neg => rw [then_err e2] at h; exact absurd h e2
  have N2 : getF (newN n) r2.1.files = some ⟨newN n, s, ⟨#[]⟩⟩ := by
    rw [hr2] at e2 ⊢
    obtain ⟨_, _, L1, h1, h2⟩ := step_yes sy_err e2
    rw [h2]
    obtain ⟨f, hf, rfl, _⟩ := sy_ok K1.1 h1
    rw [N1] at hf
    cases hf
    rw [getF_put _ _ _ _ ((goodD_iff _).1 K1.1).2.1, if_pos rfl]
    show some (⟨newN n, (⟨#[]⟩ : ByteArray) ++ s, ⟨#[]⟩⟩ : Fl) = _
    rw [empty_append]
  rw [then_ok e2] at h ⊢
  obtain ⟨d2, _⟩ := r2
  simp only at K2 N2 h ⊢
  clear hr2 e2
  obtain ⟨_, _, L3, h1, h2⟩ := step_yes rn_err h
  obtain ⟨f, k1, k2, _, k4⟩ := rn_ok K2.1 h1
  rw [N2] at k1
  cases k1
  rw [h2]
  exact ⟨k4, k2⟩
theorem step_fuse {d : Dk} {r : Except Int (List Fl)} : (stepP d r).1.fuse ≤ d.fuse := by
  unfold stepP burnt
  split
  · exact Int.le_refl _
  · split
    · exact Int.le_refl _
    · cases r with
      | error e => exact Int.le_refl _
      | ok L =>
        show (if 0 < d.fuse then d.fuse - 1 else d.fuse) ≤ d.fuse
        split <;> omega
theorem then_fuse {d : Dk} {r : Dk × Int} {f : Dk → Dk × Int} (h : r.1.fuse ≤ d.fuse) (k : ∀ x : Dk, (f x).1.fuse ≤ x.fuse) : (thenD r f).1.fuse ≤ d.fuse := by
  unfold thenD
  split
  · exact h
  · exact Int.le_trans (k _) h
theorem save_fuse {d : Dk} {n s : ByteArray} : (saveD d n s).1.fuse ≤ d.fuse := by
  unfold saveD
  split
  · exact Int.le_refl _
  · split
    · exact Int.le_refl _
    · refine then_fuse (then_fuse (then_fuse ?_ fun _ => step_fuse) fun _ => step_fuse) fun _ => step_fuse
      split
      · exact step_fuse
      · exact Int.le_refl _
theorem put_fuse {d : Dk} {s : ByteArray} : (putO d s).1.fuse ≤ d.fuse := by
  unfold putO
  split
  · exact Int.le_refl _
  · split
    · exact Int.le_refl _
    · split <;> exact save_fuse
theorem putO_no {d : Dk} {s : ByteArray} (h : (putO d s).2.2 ≠ 0) : (putO d s).2.1 = ⟨#[]⟩ := by
  unfold putO at h ⊢
  split
  · rfl
  · rename_i h1
    rw [if_neg h1] at h
    split
    · rename_i h2
      rw [if_pos h2] at h
      exact absurd rfl h
    · rename_i h2
      rw [if_neg h2] at h
      split
      · rfl
      · rename_i h3
        rw [if_neg h3] at h
        exact absurd rfl h
theorem getO_size (d : Dk) (id : ByteArray) : (getO d id).1.size ≤ 1048576 := by
  unfold getO tellR
  have := readD_size d (fileN id)
  split
  · exact Nat.zero_le _
  · split
    · exact Nat.zero_le _
    · split
      · exact Nat.zero_le _
      · exact this
/-- what Get tells of a disk on which the file lies -/
theorem getO_at {d : Dk} {id t : ByteArray} (hi : id.size = 32) (hr : readD d (fileN id) = (t, 0)) (hs : sumB t = id) : getO d id = (t, 0) := by
  unfold getO tellR
  rw [if_neg (fun h => h hi), hr]
  simp [hs]
theorem getO_ok {d : Dk} {id : ByteArray} (h : (getO d id).2 = 0) : id.size = 32 ∧ readD d (fileN id) = ((getO d id).1, 0) ∧ sumB (getO d id).1 = id := by
  unfold getO tellR at h ⊢
  by_cases h1 : id.size = 32
  case neg => rw [if_pos h1] at h; simp at h
  rw [if_neg (fun q => q h1)] at h ⊢
  by_cases h2 : (readD d (fileN id)).2 = 0
  case neg => rw [if_pos h2] at h; exact absurd h h2
  rw [if_neg (fun q => q h2)] at h ⊢
  by_cases h3 : sumB (readD d (fileN id)).1 = id
  case neg => rw [if_pos h3] at h; simp at h
  rw [if_neg (fun q => q h3)]
  exact ⟨h1, Prod.ext rfl h2, h3⟩
theorem readD_good {d : Dk} {n : ByteArray} (h : (readD d n).2 = 0) : goodD d.files = true := by
  cases hG : goodD d.files with
  | true => rfl
  | false => unfold readD at h; rw [hG] at h; simp at h
theorem hasO_ok {d : Dk} {id : ByteArray} (h : hasO d id = true) : (getO d id).2 = 0 ∧ (decO (getO d id).1.data.toList).2 = 0 := by
  unfold hasO loadR at h
  have h := of_decide_eq_true h
  by_cases h1 : (getO d id).2 = 0
  case neg => rw [if_pos h1] at h; simp at h
  rw [if_neg (fun q => q h1)] at h
  by_cases h2 : (decO (getO d id).1.data.toList).2 = 0
  case neg => rw [if_pos h2] at h; simp at h
  exact ⟨h1, h2⟩
theorem hasO_of {d : Dk} {id t : ByteArray} (h : getO d id = (t, 0)) (hd : (decO t.data.toList).2 = 0) : hasO d id = true := by
  unfold hasO loadR
  rw [h]
  simp [hd]
/-- a Put that says yes -/
theorem putO_yes {d : Dk} {s : ByteArray} (h : (putO d s).2.2 = 0) : (decO s.data.toList).2 = 0 ∧ (putO d s).2.1 = sumB s ∧ goodD (putO d s).1.files = true ∧
    ((hasO d (sumB s) = true ∧ (putO d s).1 = d) ∨ (getF (fileN (sumB s)) (putO d s).1.files = some ⟨fileN (sumB s), s, ⟨#[]⟩⟩)) := by
  unfold putO at h ⊢
  by_cases h1 : (decO s.data.toList).2 = 0
  case neg => rw [if_pos h1] at h; exact absurd h h1
  rw [if_neg (fun q => q h1)] at h ⊢
  by_cases h2 : hasO d (sumB s) = true
  · rw [if_pos h2] at h ⊢
    have hr := (getO_ok (hasO_ok h2).1).2.1
    exact ⟨h1, rfl, readD_good (n := fileN (sumB s)) (by rw [hr]), .inl ⟨h2, rfl⟩⟩
  rw [if_neg h2] at h ⊢
  by_cases h3 : (saveD d (fileN (sumB s)) s).2 = 0
  case neg => rw [if_pos h3] at h; exact absurd h h3
  rw [if_neg (fun q => q h3)]
  obtain ⟨L, z⟩ := d
  obtain ⟨k1, k2⟩ := save_yes h3
  exact ⟨h1, rfl, k1, .inr k2⟩
/-- what a Put that says yes has left -/
theorem put_back {d : Dk} {s : ByteArray} (k : Nat) (h : (putO d s).2.2 = 0) :
    putO (putO d s).1 s = ((putO d s).1, sumB s, 0) ∧ (getO (putO d s).1 (sumB s)).2 = 0 ∧ sumB (getO (putO d s).1 (sumB s)).1 = sumB s ∧
    ((getO (putO d s).1 (sumB s)).1 ≠ s → (getO d (sumB s)).2 = 0) ∧
    ((getO d (sumB s)).2 = 0 ∨ getO ⟨(putO d s).1.files.map (crashF k), -1⟩ (sumB s) = (s, 0)) := by
  obtain ⟨h1, _, hG, h2⟩ := putO_yes h
  generalize (putO d s).1 = a at *
  have again : hasO a (sumB s) = true → putO a s = (a, sumB s, 0) := fun hh => by
    unfold putO
    rw [if_neg (fun q => q h1), if_pos hh]
  rcases h2 with ⟨h2, rfl⟩ | h2
  · obtain ⟨k1, _⟩ := hasO_ok h2
    exact ⟨again h2, k1, (getO_ok k1).2.2, fun _ => k1, .inl k1⟩
  · have hr : readD a (fileN (sumB s)) = (s, 0) := by
      unfold readD
      rw [hG, h2]
      simp only [Bool.not_true, Bool.false_eq_true, if_false]
      rw [app_none]
    have hg : getO a (sumB s) = (s, 0) := getO_at (sumB_size s) hr rfl
    have hb : readD ⟨a.files.map (crashF k), -1⟩ (fileN (sumB s)) = (s, 0) := by
      unfold readD
      simp only [good_crash hG k, get_crash, h2, Option.map_some]
      rw [crash_still (f := ⟨fileN (sumB s), s, ⟨#[]⟩⟩) rfl k]
      simp only [Bool.not_true, Bool.false_eq_true, if_false]
      rw [app_none]
    refine ⟨again (hasO_of hg h1), by rw [hg], by rw [hg], fun q => absurd (by rw [hg]) q, .inr (getO_at (sumB_size s) hb rfl)⟩
def aaT : ByteArray := ⟨#[1, 1, 97]⟩
theorem stores_put : putO ⟨[], -1⟩ aaT = (⟨[⟨fileN (sumB aaT), aaT, ⟨#[]⟩⟩], -1⟩, sumB aaT, 0) := by decide +kernel
theorem stores_get : getO ⟨[⟨fileN (sumB aaT), aaT, ⟨#[]⟩⟩], -1⟩ (sumB aaT) = (aaT, 0) := by decide +kernel
end Go.Proofs.YtmikfmcgddmplaaGreatDoor

/- law.stores: the walk. Made by gensto.py out of StBack's text. -/
namespace Go.Proofs.YtmikfmcgddmplaaGreatDoor
open Go.RowKit

set_option maxRecDepth 100000 in
set_option maxHeartbeats 1000000 in
theorem stores_law (w : World) (ht : Tab w) : Calls Tryz.prog 12 #[] w fun e w' => e = .returned (.bool true) ∧ Below w.heap.size w w' := by
  have C1 : Hid (Calls Tryz.prog 30 #[.agg #[.slice none 0 0, .int .i64 (-1)], .string ⟨#[1, 1, 97]⟩] w (PutEnd w (⟨[⟨fileN (sumB aaT), aaT, ⟨#[]⟩⟩], -1⟩, sumB aaT, 0))) := by
    have := Put_st [] aaT (by decide) none 0 (-1) w (Fls.nil _ _ _) (fun f hf => by cases hf) (by simp) (by simp) (by decide) ht
    rw [stores_put] at this
    exact this
  have hG : goodD [⟨fileN (sumB aaT), aaT, ⟨#[]⟩⟩] = true := readD_good (d := ⟨[⟨fileN (sumB aaT), aaT, ⟨#[]⟩⟩], -1⟩) (n := fileN (sumB aaT)) (by have := (getO_ok (d := ⟨[⟨fileN (sumB aaT), aaT, ⟨#[]⟩⟩], -1⟩) (id := sumB aaT) (by rw [stores_get])).2.1; rw [this])
  have C2 : ∀ (V : World) (A : Option Addr) (c : Nat), Fls V V.heap.size A [⟨fileN (sumB aaT), aaT, ⟨#[]⟩⟩] → Tab V → Hid (Calls Tryz.prog 31 #[.agg #[.slice A 1 c, .int .i64 (-1)], .string (sumB aaT)] V fun e w' => e = .returned (.tuple #[.string ⟨#[1, 1, 97]⟩, .int .i64 0]) ∧ Below V.heap.size V w') := fun V A c h t => by
    have := Get_st [⟨fileN (sumB aaT), aaT, ⟨#[]⟩⟩] (sumB aaT) A c (-1) V h (good_sized hG).1 (by simp) t
    rw [stores_get] at this
    exact this
  clear hG
  generalize hLL : [(⟨fileN (sumB aaT), aaT, ⟨#[]⟩⟩ : Fl)] = LL at *
  have hl1 : LL.length = 1 := by rw [← hLL]; rfl
  have HL1 := Lib.hid hl1
  clear hLL hl1
  generalize sumB aaT = I at *
  go_enter Tryz.func12, Tryz.ntmps12
  go_wp2_with fail
  (with_reducible refine C1.out.mono ?_)
  clear C1
  rintro _ V ⟨A, c, rfl, hF, _, b1⟩
  simp only at hF ⊢
  have b2 : Below w.heap.size w ((V.alloc (.cells dkZero 37)).setRow V.heap.size (dkArr LL A c (-1))) := b1.trans ((below_setRow ((Below.refl _ _).alloc (Nat.le_refl _) _) (Nat.le_refl _) _).mono b1.size)
  have bb : Below V.heap.size V ((V.alloc (.cells dkZero 37)).setRow V.heap.size (dkArr LL A c (-1))) := below_setRow ((Below.refl _ _).alloc (Nat.le_refl _) _) (Nat.le_refl _) _
  have AX : Arr ((V.alloc (.cells dkZero 37)).setRow V.heap.size (dkArr LL A c (-1))) V.heap.size 37 (dkArr LL A c (-1)) := (Arr.new _ _ _).row _
  go_upto_region 2 with (refine wpList_store_row rfl 37 _ _ rfl V.heap.size (dkArr LL A c (-1)) rfl rfl 37 dkZero (Arr.new V _ _) (dkInfo _ _ _ _) rfl (dkArr_one _ _ _ _) ?_)
  refine wp_forget (fun W => Arr W V.heap.size 37 (dkArr LL A c (-1)) ∧ Fls W W.heap.size A LL ∧ Below w.heap.size w W) (by exact ⟨AX, hF.up bb, b2⟩) ?_
  clear AX b2 b1 bb hF
  generalize V.heap.size = q
  rintro W ⟨AX, hF, b2⟩
  have c0 : W.cell? ⟨q, 0, none⟩ = some (.slice A 1 c) := by have := AX.cell 0; rw [this]; show some (Value.slice A LL.length c) = _; rw [HL1.out]
  have c1 : W.cell? ⟨q, 1, none⟩ = some (.int .i64 (-1)) := AX.cell 1
  have C3 := C2 W A c hF (ht.below b2 ht.1)
  clear C2
  go_wp2_with fail
  (with_reducible refine C3.out.mono ?_)
  rintro _ W1 ⟨rfl, b3⟩
  go_wp2_with fail
  go_ret
  exact ⟨rfl, b2.trans (b3.mono b2.size)⟩
end Go.Proofs.YtmikfmcgddmplaaGreatDoor

/- law.strings: its contract. -/
namespace Go.Proofs.YtmikfmcgddmplaaGreatDoor
open Go.RowKit

/-- a copy of a list of texts -/
def CpEnd (w : World) (T : List ByteArray) (x : Ending) (w' : World) : Prop := ∃ A c, x = .returned (.slice A T.length c) ∧ Txs w' w'.heap.size A T ∧ Below w.heap.size w w'
set_option maxRecDepth 100000 in
theorem strings_law (T : List ByteArray) (A : Option Addr) (c : Nat) (w : World) (hT : Txs w w.heap.size A T) (hl : T.length * 16 ≤ 140737488355328) :
    Calls Tryz.prog 7 #[.slice A T.length c] w (CpEnd w T) := by
  obtain ⟨si, hsi, sz0, sz1, sz2⟩ := info_parts info_str
  have Hsi := Lib.hid hsi
  have Sz0 := Lib.hid sz0
  have Sz1 := Lib.hid sz1
  have Sz2 := Lib.hid sz2
  clear hsi sz0 sz1 sz2
  go_enter Tryz.func7, Tryz.ntmps7
  go_wp2_with (at_builtin; refine wpList_app _ rfl _ _ 22 rfl w.heap.size 9 si _ 1 16 Tryz.underlying22 Hsi.out Sz0.out Sz1.out Sz2.out rfl (by decide) _ _ _ rfl (own_nil _ _ _ _) A T.length c (T.map sv) rfl (by rw [List.length_map]; omega) hT.news (sv_one _) (by unfold maxLen; omega) (by omega) (Nat.le_refl _) ?_)
  intro v1 w1 hown hgrow
  obtain ⟨A1, c1, rfl, _, hx, _⟩ := own_texts hown
  go_wp2_with fail
  go_ret
  exact ⟨A1, c1, rfl, hx, (Below.refl _ _).grown hgrow (Nat.le_refl _) (by intro k hk; cases hk)⟩
end Go.Proofs.YtmikfmcgddmplaaGreatDoor
