/- Texts in one: StSweep, StIds, OPick. -/
import Derived.Test.YtmikfmcgddmplaaGreatDoorDkSave
import Derived.Test.YtmikfmcgddmplaaGreatDoorStSearch
import Derived.Test.YtmikfmcgddmplaaGreatDoorStShelf
import Derived.Test.YtmikfmcgddmplaaGreatDoorRefMath
import Derived.Test.YtmikfmcgddmplaaGreatDoorOLinks
import Derived.Deep.AppendLies
import Derived.Test.YtmikfmcgddmplaaGreatDoorProg
import Derived.Test.YtmikfmcgddmplaaGreatDoorMem
/- store.Sweep: its contract. -/
namespace Go.Proofs.YtmikfmcgddmplaaGreatDoor
open Go.RowKit

/-- the files whose names are seen one by one; those that are objects' and not kept go -/
def sweepGo (keep : List ByteArray) : List Fl → Dk → Dk × Int
  | [], a => (a, 0)
  | f :: l, a => if (idP f.name).2 = false then sweepGo keep l a else if memB (idP f.name).1 keep = true then sweepGo keep l a else
    if (stepP a (rmP a.files f.name)).2 ≠ 0 then stepP a (rmP a.files f.name) else sweepGo keep l (stepP a (rmP a.files f.name)).1
def sweepD (d : Dk) (U : List ByteArray) : Dk × Int :=
  if (reachO (getO d) U).2 ≠ 0 then (d, (reachO (getO d) U).2) else sweepGo (reachO (getO d) U).1 d.files d
theorem reachO_rsn {G : ByteArray → ByteArray × Int} {U : List ByteArray} (h : (reachO G U).2 = 0) : Rsn (reachO G U).1 ∧ (reachO G U).1.length ≤ 400 := by
  obtain ⟨V, h1, h2, _, _, h5, _⟩ := reachO_ok h
  rw [h1]
  exact ⟨sortB_rsn h2, by rw [sortB_len]; exact h5⟩
/-- where Sweep stands -/
def SwW (w : World) (M : List Fl) (Aa : Option Addr) (ca : Nat) (y : Int) (ql : Nat) (K : List ByteArray) (KA : Option Addr) (W : World) : Prop :=
  Arr W (w.heap.size + 1) 37 dkZero ∧ Arr W ql 37 (dkArr M Aa ca y) ∧ Fls W W.heap.size Aa M ∧ Txs W W.heap.size KA K ∧ Below w.heap.size w W ∧ w.heap.size + 1 < ql
theorem SwW.below {w : World} {M : List Fl} {Aa : Option Addr} {ca : Nat} {y : Int} {ql : Nat} {K : List ByteArray} {KA : Option Addr} {W W' : World} (h : SwW w M Aa ca y ql K KA W) (b : Below W.heap.size W W') : SwW w M Aa ca y ql K KA W' := by
  obtain ⟨h1, h2, f1, t1, b0, hq⟩ := h
  exact ⟨h1.below b h1.lt, h2.below b h2.lt, f1.up b, (t1.below b).mono b.size, b0.trans (b.mono b0.size), hq⟩
def SwRel (w : World) (L : List Fl) (ql : Nat) (K : List ByteArray) (KA : Option Addr) (Q : Dk × Int) (i : Value) (wr : World) : Prop :=
  ∃ (k : Nat) (M : List Fl) (Aa : Option Addr) (ca : Nat) (y : Int), i = .int .i64 (k : Int) ∧ k ≤ L.length ∧ SwW w M Aa ca y ql K KA wr ∧ M.length ≤ ca ∧ Sized M ∧ M.length ≤ 140737488355328 ∧ y ≤ 9223372036854775807 ∧ sweepGo K (L.drop k) ⟨M, y⟩ = Q
theorem txs_row {W : World} {g : Nat} {cs cs' : Array Value} {KA : Option Addr} {K : List ByteArray} (h : Txs W W.heap.size KA K) (hg : Arr W g 37 cs) (hn : ∀ (i : Nat) (t : ByteArray), cs[i]? ≠ some (.string t)) : Txs (W.setRow g cs') (W.setRow g cs').heap.size KA K := fun k x hx => by
  obtain ⟨ad, e, hb, h0⟩ := h k x hx
  have k1 : W.grownBy (W.setRow g cs') (some g) := gb_row _ _
  have hne : ¬ some (ad.add k).block = some g := fun q => by
    have q' := Option.some.inj q
    unfold World.cell? at h0
    unfold Arr at hg
    rw [q', hg] at h0
    simp only at h0
    split at h0
    · cases h0
    · exact hn _ _ h0
  exact ⟨ad, e, Nat.lt_of_lt_of_le hb k1.size, k1.cell h0 hne⟩
theorem rm_sized {M : List Fl} {y : Int} {n : ByteArray} (h : (stepP ⟨M, y⟩ (rmP M n)).2 = 0) : Sized (stepP ⟨M, y⟩ (rmP M n)).1.files ∧ (stepP ⟨M, y⟩ (rmP M n)).1.files.length ≤ 400 ∧ (stepP ⟨M, y⟩ (rmP M n)).1.fuse ≤ y := by
  obtain ⟨h1, _, L', h2, h3⟩ := step_yes rm_err h
  obtain ⟨_, h4⟩ := rm_ok h1 h2
  rw [h3]
  refine ⟨(good_sized h4).1, (good_sized h4).2, ?_⟩
  show burnt y ≤ y
  unfold burnt
  split <;> omega
set_option maxRecDepth 100000 in
set_option maxHeartbeats 4000000 in
theorem Sweep_st (L : List Fl) (A : Option Addr) (c : Nat) (z : Int) (U : List ByteArray) (UA : Option Addr) (uc : Nat) (w : World) (hP : Fls w w.heap.size A L) (hz : Sized L) (hl : L.length ≤ 140737488355328) (hc : L.length ≤ c) (hzf : z ≤ 9223372036854775807) (ht : Tab w) (hU : Txs w w.heap.size UA U) (hul : (U.length + 30000) * 16 ≤ 140737488355328) :
    Calls Tryz.prog 13 #[.agg #[.slice A L.length c, .int .i64 z], .slice UA U.length uc] w (StEnd w (sweepD ⟨L, z⟩ U)) := by
  have b0 : Below w.heap.size w ((w.alloc (.cells (dkArr L A c z) 37)).alloc (.cells dkZero 37)) := ((Below.refl _ _).alloc (Nat.le_refl _) _).alloc (by simp) _
  have h0 : Hid (Sv w L A c z ((w.alloc (.cells (dkArr L A c z) 37)).alloc (.cells dkZero 37))) := ⟨(Arr.new _ _ _).alloc _, Arr.new_at _ _ _ (by simp), hP.up b0, b0⟩
  have HRet : Hid (∀ (W : World) (a : Act) (d : Dk) (A' : Option Addr) (c' : Nat) (e : Int), Arr W (w.heap.size + 1) 37 (dkArr d.files A' c' d.fuse) → Below w.heap.size w W → Fls W W.heap.size A' d.files → d.files.length ≤ c' → a.tmps[4]? = some (.pointer (some ⟨w.heap.size + 1, 0, none⟩)) → a.tmps[5]? = some (.int .i64 e) → a.defers = [] → bodyPost Tryz.prog Tryz.f13 (StEnd w (d, e)) .ret a W) := fun W a d A' c' e h1 h2 h3 h4 h5 h6 h7 => by
    refine bodyPost_ret (v := .tuple #[.agg (dkArr d.files A' c' d.fuse), .int .i64 e]) ?_ h7 ⟨A', c', rfl, h3, h4, h2⟩
    rw [results_cell_tmp Tryz.results13]
    have hld := run_loadVar_row (P := Tryz.prog) _ _ _ 37 _ _ _ h1 Tryz.underlying37 rfl (dkInfo _ _ _ _)
    simp [Array.getD_eq_getD_getElem?, h5, h6, asAddr, hld, Result.andThen]
  have HQ0 : Hid (sweepD ⟨L, z⟩ U = if (reachO (getO ⟨L, z⟩) U).2 ≠ 0 then (⟨L, z⟩, (reachO (getO ⟨L, z⟩) U).2) else sweepGo (reachO (getO ⟨L, z⟩) U).1 L ⟨L, z⟩) := rfl
  have CC := fun V a b e => Lib.hid (Closure_st L A c z U UA uc V a hz hl b e hul)
  have HRs := fun h => Lib.hid (reachO_rsn (G := getO ⟨L, z⟩) (U := U) h)
  generalize sweepD ⟨L, z⟩ U = Q at *
  generalize reachO (getO ⟨L, z⟩) U = R at *
  obtain ⟨K, e⟩ := R
  have HQ : Hid (Q = if e ≠ 0 then (⟨L, z⟩, e) else sweepGo K L ⟨L, z⟩) := HQ0
  clear HQ0
  go_enter Tryz.func13, Tryz.ntmps13
  go_upto_region 1 with fail
  refine wp_forget (Sv w L A c z) (by exact h0.out) ?_
  clear h0 b0
  intro V S
  have c0 : V.cell? ⟨w.heap.size, 0, none⟩ = some (.slice A L.length c) := S.1.cell 0
  have c1 : V.cell? ⟨w.heap.size, 1, none⟩ = some (.int .i64 z) := S.1.cell 1
  have C1 : Hid (Calls Tryz.prog 16 #[.agg #[.slice A L.length c, .int .i64 z], .slice UA U.length uc] V (RhEnd V (K, e))) := CC V S.2.2.1 (ht.below S.2.2.2 ht.1) ((hU.below S.2.2.2).mono S.2.2.2.size)
  clear CC hul
  go_wp2_with fail
  (with_reducible refine C1.out.mono ?_)
  clear C1 c0 c1
  rintro _ V2 ⟨KA, kc, rfl, hKT, b2⟩
  replace S := S.below b2
  clear b2 V
  simp only at hKT ⊢
  have c0 : V2.cell? ⟨w.heap.size, 0, none⟩ = some (.slice A L.length c) := S.1.cell 0
  have c1 : V2.cell? ⟨w.heap.size, 1, none⟩ = some (.int .i64 z) := S.1.cell 1
  by_cases he : e = 0
  case neg =>
    have hb : (e != 0) = true := by rw [bne_iff_ne]; exact he
    have HR : Hid (Q = (⟨L, z⟩, e)) := by show _ = _; rw [HQ.out, if_pos he]
    clear HQ he HRs
    go_wp2_with (refine wpList_store_row rfl 37 _ _ rfl (w.heap.size + 1) (dkArr L A c z) rfl rfl 37 dkZero S.2.1 (dkInfo _ _ _ _) rfl (dkArr_one _ _ _ _) ?_)
    rw [HR.out]
    exact HRet.out _ _ ⟨L, z⟩ A c e (S.2.1.row _) (below_setRow S.2.2.2 (by omega) _) (S.2.2.1.row S.2.1 _) hc rfl rfl rfl
  subst he
  obtain ⟨hrsn, hk4⟩ := (HRs rfl).out
  have hrsn' : Rsn K := hrsn
  have hk4' : K.length ≤ 400 := hk4
  clear HRs hrsn hk4
  have HQ1 : Hid (sweepGo K (L.drop 0) ⟨L, z⟩ = Q) := by show _ = _; rw [HQ.out, if_neg (fun h => h rfl)]; rfl
  have hq : w.heap.size + 1 < V2.heap.size := S.2.1.lt
  have bb : Below V2.heap.size V2 ((V2.alloc (.cells dkZero 37)).setRow V2.heap.size (dkArr L A c z)) := below_setRow ((Below.refl _ _).alloc (Nat.le_refl _) _) (Nat.le_refl _) _
  have HW : Hid (SwW w L A c z V2.heap.size K KA ((V2.alloc (.cells dkZero 37)).setRow V2.heap.size (dkArr L A c z)) ∧ Arr ((V2.alloc (.cells dkZero 37)).setRow V2.heap.size (dkArr L A c z)) w.heap.size 37 (dkArr L A c z)) :=
    ⟨⟨S.2.1.below bb S.2.1.lt, (Arr.new _ _ _).row _, S.2.2.1.up bb, (hKT.below bb).mono bb.size, S.2.2.2.trans (bb.mono S.2.2.2.size), hq⟩, S.1.below bb S.1.lt⟩
  clear HQ hKT bb hq
  go_upto_region 5 with (refine wpList_store_row rfl 37 _ _ rfl V2.heap.size (dkArr L A c z) rfl rfl 37 dkZero (Arr.new V2 _ _) (dkInfo _ _ _ _) rfl (dkArr_one _ _ _ _) ?_)
  refine wp_forget (fun W => SwW w L A c z V2.heap.size K KA W ∧ Arr W w.heap.size 37 (dkArr L A c z)) (by exact HW.out) ?_
  clear HW S c0 c1
  generalize V2.heap.size = ql at *
  clear V2
  rintro W0 ⟨SW, A0⟩
  have c0 : W0.cell? ⟨w.heap.size, 0, none⟩ = some (.slice A L.length c) := A0.cell 0
  have h1 : Hid (SwRel w L ql K KA Q (.int .i64 0) W0) := ⟨0, L, A, c, z, rfl, Nat.zero_le _, SW, hc, hz, hl, hzf, HQ1.out⟩
  clear SW A0 HQ1
  go_wp2_with fail
  go_loopw [29] (fun i wr => SwRel w L ql K KA Q i wr) (fun i _ => L.length - (intOf i).toNat)
  case atStart => exact h1.out
  case round =>
    clear h1 c0 W0
    obtain ⟨k, M, Aa, ca, y, rfl, hk, SW, hca, hzM, hlM, hy, hG⟩ := hrel
    by_cases hlt : k < L.length
    case neg =>
      obtain rfl : k = L.length := by omega
      have hi : ¬ (L.length : Int) < L.length := by omega
      rw [List.drop_length] at hG
      have HG : Hid (Q = (⟨M, y⟩, 0)) := hG.symm
      have d0 : wr.cell? ⟨ql, 0, none⟩ = some (.slice Aa M.length ca) := SW.2.1.cell 0
      have d1 : wr.cell? ⟨ql, 1, none⟩ = some (.int .i64 y) := SW.2.1.cell 1
      clear hG
      go_wp2_with (refine wpList_store_row rfl 37 _ _ rfl (w.heap.size + 1) (dkArr M Aa ca y) rfl rfl 37 dkZero SW.1 (dkInfo _ _ _ _) rfl (dkArr_one _ _ _ _) ?_)
      rw [HG.out]
      exact HRet.out _ _ ⟨M, y⟩ Aa ca 0 (SW.1.row _) (below_setRow SW.2.2.2.2.1 (by omega) _) (SW.2.2.1.row SW.1 _) hca rfl rfl rfl
    have hi : (k : Int) < L.length := by omega
    have hx : L[k]? = some L[k] := List.getElem?_eq_getElem hlt
    have hszx := (hz L[k] (List.getElem_mem hlt)).1
    obtain ⟨ad, rfl, hbl, h0, h1, h2⟩ := hP k L[k] hx
    have hB := SW.2.2.2.2.1
    have g0 := (hB.cell hbl).trans h0
    have g1 := (hB.cell (p := ⟨(ad.add (k * 3)).block, (ad.add (k * 3)).off + 1, none⟩) hbl).trans h1
    have g2 := (hB.cell (p := ⟨(ad.add (k * 3)).block, (ad.add (k * 3)).off + 2, none⟩) hbl).trans h2
    have hG2 : (if (idP L[k].name).2 = false then sweepGo K (L.drop (k + 1)) ⟨M, y⟩ else if memB (idP L[k].name).1 K = true then sweepGo K (L.drop (k + 1)) ⟨M, y⟩ else
      if (stepP ⟨M, y⟩ (rmP M L[k].name)).2 ≠ 0 then stepP ⟨M, y⟩ (rmP M L[k].name) else sweepGo K (L.drop (k + 1)) (stepP ⟨M, y⟩ (rmP M L[k].name)).1) = Q := by
      rw [← hG, List.drop_eq_getElem_cons hlt, sweepGo]
    have HG := Lib.hid hG2
    clear hG hG2 h0 h1 h2 hx
    generalize L[k] = f at *
    have bb : Below wr.heap.size wr ((wr.alloc (.cells flZero 68)).setRow wr.heap.size (flArr f)) := below_setRow ((Below.refl _ _).alloc (Nat.le_refl _) _) (Nat.le_refl _) _
    have AX : Arr ((wr.alloc (.cells flZero 68)).setRow wr.heap.size (flArr f)) wr.heap.size 68 (flArr f) := (Arr.new _ _ _).row _
    have HW : Hid (SwW w M Aa ca y ql K KA ((wr.alloc (.cells flZero 68)).setRow wr.heap.size (flArr f)) ∧ Arr ((wr.alloc (.cells flZero 68)).setRow wr.heap.size (flArr f)) wr.heap.size 68 (flArr f)) := ⟨SW.below bb, AX⟩
    clear AX bb hB
    go_upto_region 8 with (refine wpList_store_row rfl 68 _ _ rfl wr.heap.size (flArr f) rfl rfl 68 flZero (Arr.new wr _ _) (flInfo _) rfl (flArr_one _) ?_)
    refine wp_forget (fun V => SwW w M Aa ca y ql K KA V ∧ Arr V wr.heap.size 68 (flArr f)) (by exact HW.out) ?_
    clear HW SW g0 g1 g2
    generalize wr.heap.size = q
    rintro V ⟨SW, AX⟩
    have f0 : V.cell? ⟨q, 0, none⟩ = some (.string f.name) := AX.cell 0
    have CI := Lib.hid (idOf_any f.name hszx V)
    generalize hn : f.name = n at *
    have HN := Lib.hid hn
    clear hn
    generalize idP n = I at *
    obtain ⟨id, fd⟩ := I
    go_wp2_with fail
    (with_reducible refine CI.out.mono ?_)
    clear CI
    rintro _ V2 ⟨rfl, b2⟩
    replace SW := SW.below b2
    replace AX := AX.below b2 AX.lt
    clear b2 f0 V
    simp only at HG ⊢
    cases fd with
    | false =>
      have HG1 : Hid (sweepGo K (L.drop (k + 1)) ⟨M, y⟩ = Q) := by show _ = _; rw [← HG.out, if_pos rfl]
      clear HG
      go_wp2_with fail
      go_roundw
      case rel => exact ⟨k + 1, M, Aa, ca, y, by rw [Int.natCast_add]; rfl, hlt, SW, hca, hzM, hlM, hy, HG1.out⟩
      case measure => simp [intOf]; omega
    | true =>
    have CB := Lib.hid (textSearch_any K id KA kc V2 SW.2.2.2.1 (by omega) hrsn')
    cases hm : memB id K with
    | true =>
      rw [hm] at CB
      have HG1 : Hid (sweepGo K (L.drop (k + 1)) ⟨M, y⟩ = Q) := by show _ = _; rw [← HG.out, if_neg (by simp), if_pos hm]
      clear HG hm
      go_wp2_with fail
      (with_reducible refine CB.out.mono ?_)
      clear CB
      rintro _ V3 ⟨⟨bi, rfl⟩, b2⟩
      replace SW := SW.below b2
      clear b2
      go_wp2_with fail
      go_roundw
      case rel => exact ⟨k + 1, M, Aa, ca, y, by rw [Int.natCast_add]; rfl, hlt, SW, hca, hzM, hlM, hy, HG1.out⟩
      case measure => simp [intOf]; omega
    | false =>
    rw [hm] at CB
    have HG1 : Hid ((if (stepP ⟨M, y⟩ (rmP M n)).2 ≠ 0 then stepP ⟨M, y⟩ (rmP M n) else sweepGo K (L.drop (k + 1)) (stepP ⟨M, y⟩ (rmP M n)).1) = Q) := by
      have h := HG.out
      rw [if_neg (by simp), if_neg (by rw [hm]; simp)] at h
      exact h
    clear HG hm
    go_wp2_with fail
    (with_reducible refine CB.out.mono ?_)
    clear CB
    rintro _ V3 ⟨⟨bi, rfl⟩, b2⟩
    replace SW := SW.below b2
    replace AX := AX.below b2 AX.lt
    clear b2 V2
    have f0 : V3.cell? ⟨q, 0, none⟩ = some (.string n) := by have := AX.cell 0; rw [this]; show some (Value.string f.name) = _; rw [HN.out]
    have d0 : V3.cell? ⟨ql, 0, none⟩ = some (.slice Aa M.length ca) := SW.2.1.cell 0
    have d1 : V3.cell? ⟨ql, 1, none⟩ = some (.int .i64 y) := SW.2.1.cell 1
    have CR := Lib.hid (Remove_any M n Aa ca y V3 SW.2.2.1 hzM hlM hca hy)
    have HZ := fun h => Lib.hid (rm_sized (M := M) (y := y) (n := n) h)
    generalize stepP ⟨M, y⟩ (rmP M n) = R at *
    obtain ⟨⟨M2, y2⟩, e2⟩ := R
    go_wp2_with fail
    (with_reducible refine CR.out.mono ?_)
    clear CR f0 d0 d1 AX
    rintro _ V4 ⟨A2, c2, rfl, hF2, hc2, b2⟩
    simp only at hF2 hc2 HG1 HZ ⊢
    replace SW := SW.below b2
    clear b2 V3
    have HS : Hid (SwW w M2 A2 c2 y2 ql K KA (V4.setRow ql (dkArr M2 A2 c2 y2))) :=
      ⟨SW.1.row_far (by have := SW.2.2.2.2.2; omega) _, SW.2.1.row _, hF2.rowD SW.2.1 _, txs_row SW.2.2.2.1 SW.2.1 (fun i t => dkArr_no _ _ _ _ _ _), below_setRow SW.2.2.2.2.1 (by have := SW.2.2.2.2.2; omega) _, SW.2.2.2.2.2⟩
    go_upto_region 13 with (refine wpList_store_row rfl 37 _ _ rfl ql (dkArr M2 A2 c2 y2) rfl rfl 37 (dkArr M Aa ca y) SW.2.1 (dkInfo _ _ _ _) rfl (dkArr_one _ _ _ _) ?_)
    refine wp_forget (SwW w M2 A2 c2 y2 ql K KA) (by exact HS.out) ?_
    clear HS SW hF2
    clear V4
    intro V5 SW
    by_cases he2 : e2 = 0
    · subst he2
      obtain ⟨z1, z2, z3⟩ := (HZ rfl).out
      have z1' : Sized M2 := z1
      have z2' : M2.length ≤ 400 := z2
      have z3' : y2 ≤ y := z3
      have HG2 : Hid (sweepGo K (L.drop (k + 1)) ⟨M2, y2⟩ = Q) := by show _ = _; rw [← HG1.out, if_neg (fun h => h rfl)]
      clear HG1 HZ z1 z2 z3
      go_wp2_with fail
      go_roundw
      case rel => exact ⟨k + 1, M2, A2, c2, y2, by rw [Int.natCast_add]; rfl, hlt, SW, hc2, z1', by omega, by omega, HG2.out⟩
      case measure => simp [intOf]; omega
    · have hb : (e2 != 0) = true := by rw [bne_iff_ne]; exact he2
      have HG2 : Hid (Q = (⟨M2, y2⟩, e2)) := by show _ = _; rw [← HG1.out, if_pos he2]
      have d0 : V5.cell? ⟨ql, 0, none⟩ = some (.slice A2 M2.length c2) := SW.2.1.cell 0
      have d1 : V5.cell? ⟨ql, 1, none⟩ = some (.int .i64 y2) := SW.2.1.cell 1
      clear HG1 HZ he2
      go_wp2_with (refine wpList_store_row rfl 37 _ _ rfl (w.heap.size + 1) (dkArr M2 A2 c2 y2) rfl rfl 37 dkZero SW.1 (dkInfo _ _ _ _) rfl (dkArr_one _ _ _ _) ?_)
      rw [HG2.out]
      exact HRet.out _ _ ⟨M2, y2⟩ A2 c2 e2 (SW.1.row _) (below_setRow SW.2.2.2.2.1 (by omega) _) (SW.2.2.1.row SW.1 _) hc2 rfl rfl rfl
end Go.Proofs.YtmikfmcgddmplaaGreatDoor

/- store.Ids: its contract. -/
namespace Go.Proofs.YtmikfmcgddmplaaGreatDoor
open Go.RowKit

/-- the ids of the objects that lie in these files -/
def idsD (d : Dk) : List Fl → List ByteArray
  | [] => []
  | f :: l => (if (idP f.name).2 = true ∧ hasO d (idP f.name).1 = true then [(idP f.name).1] else []) ++ idsD d l
theorem idsD_app (d : Dk) : ∀ (l : List Fl) (f : Fl), idsD d (l ++ [f]) = idsD d l ++ (if (idP f.name).2 = true ∧ hasO d (idP f.name).1 = true then [(idP f.name).1] else [])
  | [], f => by simp [idsD]
  | x :: l, f => by rw [List.cons_append, idsD, idsD, idsD_app d l f, List.append_assoc]
theorem idsD_len (d : Dk) : ∀ l : List Fl, (idsD d l).length ≤ l.length
  | [] => Nat.le_refl _
  | f :: l => by
    have := idsD_len d l
    rw [idsD, List.length_append, List.length_cons]
    split <;> simp <;> omega
def IdRel (w : World) (L : List Fl) (A : Option Addr) (c : Nat) (z : Int) (v i : Value) (wr : World) : Prop :=
  ∃ k : Nat, k ≤ L.length ∧ i = .int .i64 (k : Int) ∧ Pv w L A c z wr ∧ wr.ownsRow (w.heap.size + 1) 9 1 v (idsD ⟨L, z⟩ (L.take k)).length ((idsD ⟨L, z⟩ (L.take k)).map sv)
theorem take_next3 {α : Type} {l : List α} {k : Nat} {x : α} (h : l[k]? = some x) : l.take (k + 1) = l.take k ++ [x] := by
  obtain ⟨hk, rfl⟩ := List.getElem?_eq_some_iff.1 h
  exact List.take_succ_eq_append_getElem hk
end Go.Proofs.YtmikfmcgddmplaaGreatDoor

/- keep.pick: its contract. -/
namespace Go.Proofs.YtmikfmcgddmplaaGreatDoor
open Go.RowKit

def pk (k n : Int) : Int := if k.tmod n < 0 then k.tmod n + n else k.tmod n
theorem pk_in (k : Int) (n : Nat) (hn : 0 < n) : 0 ≤ pk k n ∧ pk k n < n := by
  have h1 := Int.tmod_lt_of_pos k (b := (n : Int)) (by omega)
  have h2 := Int.lt_tmod_of_pos k (b := (n : Int)) (by omega)
  unfold pk
  split <;> omega
end Go.Proofs.YtmikfmcgddmplaaGreatDoor
