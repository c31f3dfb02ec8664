/- Texts in one: StClos, DkCrash, DkSave. -/
import Derived.Test.YtmikfmcgddmplaaGreatDoorRefMath
import Derived.Test.YtmikfmcgddmplaaGreatDoorStSort
/- store.Closure: its contract. -/
namespace Go.Proofs.YtmikfmcgddmplaaGreatDoor
open Go.RowKit

set_option maxRecDepth 100000 in
set_option maxHeartbeats 1000000 in
theorem Closure_st (L : List Fl) (A : Option Addr) (c : Nat) (z : Int) (U : List ByteArray) (UA : Option Addr) (uc : Nat) (w : World) (hP : Fls w w.heap.size A L) (hz : Sized L) (hl : L.length ≤ 140737488355328) (ht : Tab w) (hU : Txs w w.heap.size UA U) (hul : (U.length + 30000) * 16 ≤ 140737488355328) :
    Calls Tryz.prog 16 #[.agg #[.slice A L.length c, .int .i64 z], .slice UA U.length uc] w (RhEnd w (reachO (getO ⟨L, z⟩) U)) := by
  have hV0 : Pv w L A c z (w.alloc (.cells (dkArr L A c z) 37)) := Pv.start hP
  have CO := fun V => Lib.hid (onDisk_st L A c z V)
  have CR := fun (q : Nat) (V : World) a b d e => Lib.hid (Reach_disk sort_said L A c z q V a b hz hl d U UA uc e hul)
  generalize reachO (getO ⟨L, z⟩) U = R at *
  go_enter Tryz.func16, Tryz.ntmps16
  go_upto_region 1 with fail
  refine wp_forget (Pv w L A c z) (by exact hV0) ?_
  clear hV0
  intro V hV
  obtain ⟨c0, c1⟩ := hV.hold
  have b0 := hV.bel
  have C1 : Hid (Calls Tryz.prog 38 #[.agg #[.slice A L.length c, .int .i64 z]] V (OdEnd V L A c z)) := CO V
  clear CO hul
  go_wp2_with fail
  (with_reducible refine C1.out.mono ?_)
  clear C1 c0 c1 hV
  rintro _ V1 ⟨rfl, hq, b2⟩
  replace b0 := b0.trans (b2.mono b0.size)
  have C2 := CR V.heap.size V1 hq (hP.up b0) (ht.below b0 ht.1) ((hU.below b0).mono b0.size)
  clear CR b2 hq
  generalize V.heap.size = q at *
  go_wp2_with fail
  (with_reducible refine C2.out.mono ?_)
  clear C2
  rintro _ V2 ⟨A2, c2, rfl, hT2, b2⟩
  go_wp2_with fail
  go_ret2
  exact ⟨A2, c2, rfl, hT2, b0.trans (b2.mono b0.size)⟩
end Go.Proofs.YtmikfmcgddmplaaGreatDoor

/- disk.Crash: its contract. -/
namespace Go.Proofs.YtmikfmcgddmplaaGreatDoor
open Go.RowKit

def zeroFl : Fl := ⟨⟨#[]⟩, ⟨#[]⟩, ⟨#[]⟩⟩
theorem cells_zero : ∀ n : Nat, flCells (List.replicate n zeroFl) = List.replicate (n * 3) (.string ⟨#[]⟩)
  | 0 => rfl
  | n + 1 => by
    rw [List.replicate_succ, flCells, cells_zero n, show (n + 1) * 3 = n * 3 + 1 + 1 + 1 from by omega]
    rfl
theorem made_zero (n : Nat) : (madeCells flZero (n * 3)).toList = flCells (List.replicate n zeroFl) := by
  rw [cells_zero]
  apply List.ext_getElem?
  intro j
  by_cases hj : j < n * 3
  · rw [List.getElem?_replicate, if_pos hj]
    have hm : j % 3 = 0 ∨ j % 3 = 1 ∨ j % 3 = 2 := by omega
    have e : flZero[j % flZero.size]! = .string ⟨#[]⟩ := by
      show flZero[j % 3]! = _
      rcases hm with m | m | m <;> rw [m] <;> rfl
    simp [madeCells, hj, e]
  · rw [List.getElem?_eq_none (by simp [madeCells]; omega), List.getElem?_eq_none (by simp; omega)]
/-- the first k files as a crash leaves them, the others not made yet -/
def mix (L : List Fl) (m k : Nat) : List Fl := (L.take k).map (crashF m) ++ List.replicate (L.length - k) zeroFl
theorem mix_len (L : List Fl) (m k : Nat) (h : k ≤ L.length) : (mix L m k).length = L.length := by
  unfold mix
  rw [List.length_append, List.length_map, List.length_take, List.length_replicate]
  omega
theorem mix_set {L : List Fl} {m k : Nat} {x : Fl} (h : L[k]? = some x) : (mix L m k).set k (crashF m x) = mix L m (k + 1) := by
  obtain ⟨hlt, he⟩ := List.getElem?_eq_some_iff.1 h
  unfold mix
  have hl : ((L.take k).map (crashF m)).length = k := by rw [List.length_map, List.length_take]; omega
  rw [List.set_append_right _ _ (by omega), hl, Nat.sub_self, List.take_succ_eq_append_getElem hlt, he, List.map_append, List.append_assoc, show L.length - k = (L.length - (k + 1)) + 1 from by omega, List.replicate_succ, List.set_cons_zero]
  rfl
def CrRel (L : List Fl) (m : Nat) (A : Option Addr) (c : Nat) (z : Int) (w : World) (g : Nat) (i : Value) (wr : World) : Prop :=
  ∃ k : Nat, k ≤ L.length ∧ i = .int .i64 (k : Int) ∧ Arr wr w.heap.size 37 (dkArr L A c z) ∧ Arr wr (w.heap.size + 1) 37 dkZero ∧ Arr wr g 68 (flCells (mix L m k)).toArray ∧ Below w.heap.size w wr
end Go.Proofs.YtmikfmcgddmplaaGreatDoor

/- disk.Save: its contract. -/
namespace Go.Proofs.YtmikfmcgddmplaaGreatDoor
open Go.RowKit

theorem dkArr_no (L : List Fl) (A : Option Addr) (c : Nat) (z : Int) : ∀ (i : Nat) (t : ByteArray), (dkArr L A c z)[i]? ≠ some (.string t)
  | 0, t => by simp [dkArr]
  | 1, t => by simp [dkArr]
  | n + 2, t => by simp [dkArr]
theorem Fls.rowD {w : World} {A : Option Addr} {L M : List Fl} {B : Option Addr} {d : Nat} {y : Int} {g : Nat} (h : Fls w w.heap.size A L) (hg : Arr w g 37 (dkArr M B d y)) (cs' : Array Value) : Fls (w.setRow g cs') (w.setRow g cs').heap.size A L := fun k x hx => by
  obtain ⟨ad, e, hb, h0, h1, h2⟩ := h k x hx
  have k1 : w.grownBy (w.setRow g cs') (some g) := gb_row _ _
  have hne : (ad.add (k * 3)).block ≠ g := fun q => by
    rw [q, hg.cell] at h1
    exact dkArr_no _ _ _ _ _ _ h1
  have hn : ¬ some (ad.add (k * 3)).block = some g := fun q => hne (Option.some.inj q)
  exact ⟨ad, e, Nat.lt_of_lt_of_le hb k1.size, k1.cell h0 hn, k1.cell h1 hn, k1.cell h2 hn⟩
theorem wr_err {L : List Fl} {n s : ByteArray} : ∀ e, wrP L n s = .error e → e ≠ 0 := fun e h => by
  unfold wrP at h
  split at h
  · cases h; decide
  · split at h
    · split at h
      · cases h; decide
      · split at h
        · cases h; decide
        · cases h
    · split at h
      · cases h; decide
      · cases h
theorem sy_err {L : List Fl} {n : ByteArray} : ∀ e, syP L n = .error e → e ≠ 0 := fun e h => by
  unfold syP at h
  split at h
  · cases h; decide
  · cases h
theorem rm_err {L : List Fl} {n : ByteArray} : ∀ e, rmP L n = .error e → e ≠ 0 := fun e h => by
  unfold rmP at h
  split at h
  · cases h; decide
  · cases h
theorem rm_ok {L L' : List Fl} {n : ByteArray} (hG : goodD L = true) (h : rmP L n = .ok L') : L' = del n L ∧ goodD L' = true := by
  unfold rmP at h
  split at h
  · cases h
  · cases h; exact ⟨rfl, good_del hG⟩
theorem sy_ok {L L' : List Fl} {n : ByteArray} (hG : goodD L = true) (h : syP L n = .ok L') : ∃ f, getF n L = some f ∧ L' = putL ⟨n, f.safe ++ f.tail, ⟨#[]⟩⟩ L ∧ goodD L' = true := by
  unfold syP at h
  cases hf : getF n L with
  | none => rw [hf] at h; cases h
  | some f =>
    rw [hf] at h
    cases h
    obtain ⟨h1, h2⟩ := fits_get hG hf
    refine ⟨f, rfl, rfl, good_put hG h1 ?_ (.inl ?_)⟩
    · unfold fits at h2 ⊢
      have := of_decide_eq_true h2
      refine decide_eq_true ?_
      show (f.safe ++ f.tail).size + 0 ≤ 1048576
      rw [ByteArray.size_append]
      omega
    · show (getF n L).isSome = true
      rw [hf]; rfl
theorem wr_ok {L L' : List Fl} {n s : ByteArray} (hG : goodD L = true) (h : wrP L n s = .ok L') : named n = true ∧ (∃ f : Fl, (getF n L = some f ∨ (getF n L = none ∧ f = ⟨n, ⟨#[]⟩, ⟨#[]⟩⟩)) ∧ L' = putL ⟨n, f.safe, f.tail ++ s⟩ L) ∧ goodD L' = true := by
  unfold wrP at h
  cases hn : named n with
  | false => rw [hn] at h; simp at h
  | true =>
    rw [hn] at h
    simp only [Bool.not_true, Bool.false_eq_true, if_false] at h
    refine ⟨rfl, ?_⟩
    cases hf : getF n L with
    | none =>
      rw [hf] at h
      simp only at h
      split at h
      · cases h
      · split at h
        · cases h
        · rename_i h4 h5
          cases h
          refine ⟨⟨⟨n, ⟨#[]⟩, ⟨#[]⟩⟩, .inr ⟨rfl, rfl⟩, by show _ = putL ⟨n, ⟨#[]⟩, (⟨#[]⟩ : ByteArray) ++ s⟩ L; rw [empty_append]⟩, good_put hG hn ?_ (.inr (by omega))⟩
          unfold fits
          exact decide_eq_true (by show 0 + s.size ≤ 1048576; omega)
    | some f =>
      rw [hf] at h
      simp only at h
      split at h
      · cases h
      · rename_i h5
        cases h
        refine ⟨⟨f, .inl rfl, rfl⟩, good_put hG hn ?_ (.inl (by show (getF n L).isSome = true; rw [hf]; rfl))⟩
        unfold fits
        refine decide_eq_true ?_
        show f.safe.size + (f.tail ++ s).size ≤ 1048576
        rw [ByteArray.size_append]
        omega
theorem burnt_le {z : Int} (h : z ≤ 9223372036854775807) : burnt z ≤ 9223372036854775807 := by
  unfold burnt
  split <;> omega
theorem then_err {r : Dk × Int} {f : Dk → Dk × Int} (h : r.2 ≠ 0) : thenD r f = r := by unfold thenD; rw [if_pos h]
theorem then_ok {r : Dk × Int} {f : Dk → Dk × Int} (h : r.2 = 0) : thenD r f = f r.1 := by unfold thenD; rw [if_neg (by simp [h])]
/-- where Save stands: the disk in its box, the place of the answer -/
def Sv (w : World) (L : List Fl) (A : Option Addr) (c : Nat) (z : Int) (W : World) : Prop :=
  Arr W w.heap.size 37 (dkArr L A c z) ∧ Arr W (w.heap.size + 1) 37 dkZero ∧ Fls W W.heap.size A L ∧ Below w.heap.size w W
theorem Sv.below {w : World} {L : List Fl} {A : Option Addr} {c : Nat} {z : Int} {W W' : World} (h : Sv w L A c z W) (b : Below W.heap.size W W') : Sv w L A c z W' := ⟨h.1.below b h.1.lt, h.2.1.below b h.2.1.lt, h.2.2.1.up b, h.2.2.2.trans (b.mono h.2.2.2.size)⟩
set_option maxRecDepth 100000 in
set_option maxHeartbeats 4000000 in
theorem Save_any (L : List Fl) (n s : ByteArray) (hn : n.size ≤ 140737488355328) (hs : s.size ≤ 140737488355328) (A : Option Addr) (c : Nat) (z : Int) (w : World) (hP : Fls w w.heap.size A L) (hz : Sized L) (hl : L.length ≤ 140737488355328) (hc : L.length ≤ c) (hzf : z ≤ 9223372036854775807) :
    Calls Tryz.prog 54 #[.agg #[.slice A L.length c, .int .i64 z], .string n, .string s] w (StEnd w (saveD ⟨L, z⟩ n s)) := by
  have b0 : Below w.heap.size w ((w.alloc (.cells (dkArr L A c z) 37)).alloc (.cells dkZero 37)) := ((Below.refl _ _).alloc (Nat.le_refl _) _).alloc (by simp) _
  have h0 : Hid (Sv w L A c z ((w.alloc (.cells (dkArr L A c z) 37)).alloc (.cells dkZero 37))) := ⟨(Arr.new _ _ _).alloc _, Arr.new_at _ _ _ (by simp), hP.up b0, b0⟩
  have HRet : Hid (∀ (W : World) (a : Act) (d : Dk) (A' : Option Addr) (c' : Nat) (e : Int), Arr W (w.heap.size + 1) 37 (dkArr d.files A' c' d.fuse) → Below w.heap.size w W → Fls W W.heap.size A' d.files → d.files.length ≤ c' → a.tmps[6]? = some (.pointer (some ⟨w.heap.size + 1, 0, none⟩)) → a.tmps[7]? = some (.int .i64 e) → a.defers = [] → bodyPost Tryz.prog Tryz.f54 (StEnd w (d, e)) .ret a W) := fun W a d A' c' e h1 h2 h3 h4 h5 h6 h7 => by
    refine bodyPost_ret (v := .tuple #[.agg (dkArr d.files A' c' d.fuse), .int .i64 e]) ?_ h7 ⟨A', c', rfl, h3, h4, h2⟩
    rw [results_cell_tmp Tryz.results54]
    have hld := run_loadVar_row (P := Tryz.prog) _ _ _ 37 _ _ _ h1 Tryz.underlying37 rfl (dkInfo _ _ _ _)
    simp [Array.getD_eq_getD_getElem?, h5, h6, asAddr, hld, Result.andThen]
  have HQ0 : Hid (saveD ⟨L, z⟩ n s = if !goodD L then (⟨L, z⟩, 3) else if !named n || !named (newN n) then (⟨L, z⟩, 2) else
    thenD (thenD (thenD (if hasN (newN n) L then stepP ⟨L, z⟩ (rmP L (newN n)) else (⟨L, z⟩, 0)) fun d => stepP d (wrP d.files (newN n) s)) fun d => stepP d (syP d.files (newN n))) fun d => stepP d (rnP d.files (newN n) n)) := rfl
  generalize saveD ⟨L, z⟩ n s = Q at *
  have hfr : Hid (newN n = n ++ ⟨#[46, 110, 101, 119]⟩) := rfl
  have hfs : (newN n).size ≤ 140737488355332 := by rw [hfr.out, ByteArray.size_append]; show n.size + 4 ≤ _; omega
  go_enter Tryz.func54, Tryz.ntmps54
  go_upto_region 1 with fail
  refine wp_forget (Sv w L A c z) (by exact h0.out) ?_
  clear h0 b0
  intro V S
  have c0 : V.cell? ⟨w.heap.size, 0, none⟩ = some (.slice A L.length c) := S.1.cell 0
  have c1 : V.cell? ⟨w.heap.size, 1, none⟩ = some (.int .i64 z) := S.1.cell 1
  have CG : Hid (Calls Tryz.prog 93 #[.agg #[.slice A L.length c, .int .i64 z]] V fun e w' => e = .returned (.bool (goodD L)) ∧ Below V.heap.size V w') := DkGood_any L A c z V S.2.2.1 hz hl
  have hcat : ¬ 9223372036854775807 < n.size + 4 := by omega
  go_upto_region 2 with fail
  rw [← hfr.out]
  generalize newN n = fr at *
  cases hg : goodD L with
  | false =>
    rw [hg] at CG
    have HQ : Hid (Q = (⟨L, z⟩, 3)) := by show _ = _; rw [HQ0.out, hg]; rfl
    clear HQ0 hg
    go_wp2_with fail
    (with_reducible refine CG.out.mono ?_)
    clear CG c0 c1
    rintro _ V2 ⟨rfl, b2⟩
    have S2 := S.below b2
    have c0 : V2.cell? ⟨w.heap.size, 0, none⟩ = some (.slice A L.length c) := S2.1.cell 0
    have c1 : V2.cell? ⟨w.heap.size, 1, none⟩ = some (.int .i64 z) := S2.1.cell 1
    go_wp2_with (refine wpList_store_row rfl 37 _ _ rfl (w.heap.size + 1) (dkArr L A c z) rfl rfl 37 dkZero S2.2.1 (dkInfo _ _ _ _) rfl (dkArr_one _ _ _ _) ?_)
    rw [HQ.out]
    exact HRet.out _ _ ⟨L, z⟩ A c 3 (S2.2.1.row _) (below_setRow S2.2.2.2 (by omega) _) (S2.2.2.1.row S2.2.1 _) hc rfl rfl rfl
  | true =>
  rw [hg] at CG
  go_wp2_with fail
  (with_reducible refine CG.out.mono ?_)
  clear CG c0 c1
  rintro _ V2 ⟨rfl, b2⟩
  replace S := S.below b2
  clear b2
  have CN := Lib.hid (Named_any n V2)
  have CN2 := Lib.hid (Named_any fr V2)
  cases hn1 : named n with
  | false =>
    rw [hn1] at CN
    have HQ : Hid (Q = (⟨L, z⟩, 2)) := by show _ = _; rw [HQ0.out, hg, hn1]; rfl
    clear HQ0 hg hn1
    go_wp2_with fail
    (with_reducible refine CN.out.mono ?_)
    rintro _ V2 ⟨rfl, rfl⟩
    have c0 : V2.cell? ⟨w.heap.size, 0, none⟩ = some (.slice A L.length c) := S.1.cell 0
    have c1 : V2.cell? ⟨w.heap.size, 1, none⟩ = some (.int .i64 z) := S.1.cell 1
    go_wp2_with (refine wpList_store_row rfl 37 _ _ rfl (w.heap.size + 1) (dkArr L A c z) rfl rfl 37 dkZero S.2.1 (dkInfo _ _ _ _) rfl (dkArr_one _ _ _ _) ?_)
    rw [HQ.out]
    exact HRet.out _ _ ⟨L, z⟩ A c 2 (S.2.1.row _) (below_setRow S.2.2.2 (by omega) _) (S.2.2.1.row S.2.1 _) hc rfl rfl rfl
  | true =>
  rw [hn1] at CN
  cases hn2 : named fr with
  | false =>
    rw [hn2] at CN2
    have HQ : Hid (Q = (⟨L, z⟩, 2)) := by show _ = _; rw [HQ0.out, hg, hn1, hn2]; rfl
    clear HQ0 hg hn1 hn2
    go_wp2_with fail
    (with_reducible refine CN.out.mono ?_)
    rintro _ V2 ⟨rfl, rfl⟩
    go_wp2_with fail
    (with_reducible refine CN2.out.mono ?_)
    rintro _ V2 ⟨rfl, rfl⟩
    have c0 : V2.cell? ⟨w.heap.size, 0, none⟩ = some (.slice A L.length c) := S.1.cell 0
    have c1 : V2.cell? ⟨w.heap.size, 1, none⟩ = some (.int .i64 z) := S.1.cell 1
    go_wp2_with (refine wpList_store_row rfl 37 _ _ rfl (w.heap.size + 1) (dkArr L A c z) rfl rfl 37 dkZero S.2.1 (dkInfo _ _ _ _) rfl (dkArr_one _ _ _ _) ?_)
    rw [HQ.out]
    exact HRet.out _ _ ⟨L, z⟩ A c 2 (S.2.1.row _) (below_setRow S.2.2.2 (by omega) _) (S.2.2.1.row S.2.1 _) hc rfl rfl rfl
  | true =>
  rw [hn2] at CN2
  have HQ1 : Hid (Q = thenD (thenD (thenD (if hasN fr L then stepP ⟨L, z⟩ (rmP L fr) else (⟨L, z⟩, 0)) fun d => stepP d (wrP d.files fr s)) fun d => stepP d (syP d.files fr)) fun d => stepP d (rnP d.files fr n)) := by show _ = _; rw [HQ0.out, hg, hn1, hn2]; rfl
  clear HQ0 hfr
  obtain ⟨h4, hr, _⟩ := (goodD_iff L).1 hg
  have HG := Lib.hid hg
  clear hn1 hn2 hg
  go_wp2_with fail
  (with_reducible refine CN.out.mono ?_)
  rintro _ V2 ⟨rfl, rfl⟩
  go_wp2_with fail
  (with_reducible refine CN2.out.mono ?_)
  clear CN CN2
  rintro _ V2 ⟨rfl, rfl⟩
  have c0 : V2.cell? ⟨w.heap.size, 0, none⟩ = some (.slice A L.length c) := S.1.cell 0
  have CF := Lib.hid (find_any L fr A c V2 S.2.2.1 (by omega) hr)
  clear hr
  cases hbn : hasN fr L with
  | false =>
    rw [hbn] at CF
    replace HQ1 : Hid (Q = thenD (thenD (stepP ⟨L, z⟩ (wrP L fr s)) fun d => stepP d (syP d.files fr)) fun d => stepP d (rnP d.files fr n)) := by show _ = _; rw [HQ1.out, hbn]; rfl
    clear hbn
    go_wp2_with fail
    (with_reducible refine CF.out.mono ?_)
    clear CF c0
    rintro _ V3 ⟨rfl, b3⟩
    replace S := S.below b3
    clear b3
    have e0 : V3.cell? ⟨w.heap.size, 0, none⟩ = some (.slice A L.length c) := S.1.cell 0
    have e1 : V3.cell? ⟨w.heap.size, 1, none⟩ = some (.int .i64 z) := S.1.cell 1
    have CX := Lib.hid (Write_any L fr s hs A c z V3 S.2.2.1 hz hl hc hzf)
    have HYes : Hid ((stepP ⟨L, z⟩ (wrP L fr s)).2 = 0 → ∃ L', stepP ⟨L, z⟩ (wrP L fr s) = (⟨L', burnt z⟩, 0) ∧ goodD L' = true) := fun h => by
      obtain ⟨h1, _, L', h2, h3⟩ := step_yes wr_err h
      exact ⟨L', h3, (wr_ok h1 h2).2.2⟩
    generalize hQ2 : stepP ⟨L, z⟩ (wrP L fr s) = Q2 at *
    clear hQ2
    go_wp2_with fail
    (with_reducible refine CX.out.mono ?_)
    clear CX e0 e1
    rintro _ V3 ⟨A1, c1, rfl, hF', hc1, b3⟩
    replace S := S.below b3
    clear b3
    obtain ⟨⟨L1, zz1⟩, e⟩ := Q2
    simp only at hF' hc1 HYes ⊢
    have S3 : Sv w L1 A1 c1 zz1 (V3.setRow w.heap.size (dkArr L1 A1 c1 zz1)) := ⟨S.1.row _, S.2.1.row_far (by omega) _, hF'.rowD S.1 _, below_setRow S.2.2.2 (Nat.le_refl _) _⟩
    go_upto_region 13 with (refine wpList_store_row rfl 37 _ _ rfl w.heap.size (dkArr L1 A1 c1 zz1) rfl rfl 37 (dkArr L A c z) S.1 (dkInfo _ _ _ _) rfl (dkArr_one _ _ _ _) ?_)
    refine wp_forget (Sv w L1 A1 c1 zz1) (by exact S3) ?_
    clear S3 S hF'
    intro W1 S
    by_cases he : e = 0
    case neg =>
      have hb : (e != 0) = true := by simpa using he
      have HE : Hid (Q = (⟨L1, zz1⟩, e)) := by show _ = _; rw [HQ1.out]; simp only [then_err (r := ((⟨L1, zz1⟩ : Dk), e)) he]
      have e0 : W1.cell? ⟨w.heap.size, 0, none⟩ = some (.slice A1 L1.length c1) := S.1.cell 0
      have e1 : W1.cell? ⟨w.heap.size, 1, none⟩ = some (.int .i64 zz1) := S.1.cell 1
      clear HYes HQ1 he
      go_wp2_with (refine wpList_store_row rfl 37 _ _ rfl (w.heap.size + 1) (dkArr L1 A1 c1 zz1) rfl rfl 37 dkZero S.2.1 (dkInfo _ _ _ _) rfl (dkArr_one _ _ _ _) ?_)
      rw [HE.out]
      exact HRet.out _ _ ⟨L1, zz1⟩ A1 c1 e (S.2.1.row _) (below_setRow S.2.2.2 (by omega) _) (S.2.2.1.row S.2.1 _) hc1 rfl rfl rfl
    subst he
    obtain ⟨_, hqq, hgd⟩ := HYes.out rfl
    simp only [Prod.mk.injEq, Dk.mk.injEq, and_true] at hqq
    obtain ⟨rfl, hzq⟩ := hqq
    have hzf1 : zz1 ≤ 9223372036854775807 := by rw [hzq]; exact burnt_le hzf
    have hz1 := (good_sized hgd).1
    have hl1 : L1.length ≤ 140737488355328 := by have := (good_sized hgd).2; omega
    replace HQ1 : Hid (Q = thenD (stepP ⟨L1, zz1⟩ (syP L1 fr)) fun d => stepP d (rnP d.files fr n)) := by show _ = _; rw [HQ1.out, then_ok (r := ((⟨L1, zz1⟩ : Dk), 0)) rfl]
    clear HYes hgd hzq
    have e0 : W1.cell? ⟨w.heap.size, 0, none⟩ = some (.slice A1 L1.length c1) := S.1.cell 0
    have e1 : W1.cell? ⟨w.heap.size, 1, none⟩ = some (.int .i64 zz1) := S.1.cell 1
    have CX := Lib.hid (Sync_any L1 fr A1 c1 zz1 W1 S.2.2.1 hz1 hl1 hc1 hzf1)
    have HYes : Hid ((stepP ⟨L1, zz1⟩ (syP L1 fr)).2 = 0 → ∃ L', stepP ⟨L1, zz1⟩ (syP L1 fr) = (⟨L', burnt zz1⟩, 0) ∧ goodD L' = true) := fun h => by
      obtain ⟨h1, _, L', h2, h3⟩ := step_yes sy_err h
      exact ⟨L', h3, by obtain ⟨_, _, _, q⟩ := sy_ok h1 h2; exact q⟩
    generalize hQ2 : stepP ⟨L1, zz1⟩ (syP L1 fr) = Q2 at *
    clear hQ2
    go_wp2_with fail
    (with_reducible refine CX.out.mono ?_)
    clear CX e0 e1
    rintro _ V3 ⟨A2, c2, rfl, hF', hc2, b3⟩
    replace S := S.below b3
    clear b3
    obtain ⟨⟨L2, zz2⟩, e⟩ := Q2
    simp only at hF' hc2 HYes ⊢
    have S3 : Sv w L2 A2 c2 zz2 (V3.setRow w.heap.size (dkArr L2 A2 c2 zz2)) := ⟨S.1.row _, S.2.1.row_far (by omega) _, hF'.rowD S.1 _, below_setRow S.2.2.2 (Nat.le_refl _) _⟩
    go_upto_region 16 with (refine wpList_store_row rfl 37 _ _ rfl w.heap.size (dkArr L2 A2 c2 zz2) rfl rfl 37 (dkArr L1 A1 c1 zz1) S.1 (dkInfo _ _ _ _) rfl (dkArr_one _ _ _ _) ?_)
    refine wp_forget (Sv w L2 A2 c2 zz2) (by exact S3) ?_
    clear S3 S hF'
    intro W2 S
    by_cases he : e = 0
    case neg =>
      have hb : (e != 0) = true := by simpa using he
      have HE : Hid (Q = (⟨L2, zz2⟩, e)) := by show _ = _; rw [HQ1.out]; simp only [then_err (r := ((⟨L2, zz2⟩ : Dk), e)) he]
      have e0 : W2.cell? ⟨w.heap.size, 0, none⟩ = some (.slice A2 L2.length c2) := S.1.cell 0
      have e1 : W2.cell? ⟨w.heap.size, 1, none⟩ = some (.int .i64 zz2) := S.1.cell 1
      clear HYes HQ1 he
      go_wp2_with (refine wpList_store_row rfl 37 _ _ rfl (w.heap.size + 1) (dkArr L2 A2 c2 zz2) rfl rfl 37 dkZero S.2.1 (dkInfo _ _ _ _) rfl (dkArr_one _ _ _ _) ?_)
      rw [HE.out]
      exact HRet.out _ _ ⟨L2, zz2⟩ A2 c2 e (S.2.1.row _) (below_setRow S.2.2.2 (by omega) _) (S.2.2.1.row S.2.1 _) hc2 rfl rfl rfl
    subst he
    obtain ⟨_, hqq, hgd⟩ := HYes.out rfl
    simp only [Prod.mk.injEq, Dk.mk.injEq, and_true] at hqq
    obtain ⟨rfl, hzq⟩ := hqq
    have hzf2 : zz2 ≤ 9223372036854775807 := by rw [hzq]; exact burnt_le hzf1
    have hz2 := (good_sized hgd).1
    have hl2 : L2.length ≤ 140737488355328 := by have := (good_sized hgd).2; omega
    replace HQ1 : Hid (Q = stepP ⟨L2, zz2⟩ (rnP L2 fr n)) := by show _ = _; rw [HQ1.out, then_ok (r := ((⟨L2, zz2⟩ : Dk), 0)) rfl]
    clear HYes hgd hzq
    have e0 : W2.cell? ⟨w.heap.size, 0, none⟩ = some (.slice A2 L2.length c2) := S.1.cell 0
    have e1 : W2.cell? ⟨w.heap.size, 1, none⟩ = some (.int .i64 zz2) := S.1.cell 1
    have CX := Lib.hid (Rename_any L2 fr n A2 c2 zz2 W2 S.2.2.1 hz2 hl2 hc2 hzf2)
    rw [← HQ1.out] at CX
    go_wp2_with fail
    (with_reducible refine CX.out.mono ?_)
    clear CX e0 e1 HQ1
    rintro _ V3 ⟨A9, c9, rfl, hF9, hc9, b3⟩
    replace S := S.below b3
    clear b3
    obtain ⟨⟨L9, z9⟩, e⟩ := Q
    simp only at hF9 hc9 ⊢
    go_wp2_with (refine wpList_store_row rfl 37 _ _ rfl (w.heap.size + 1) (dkArr L9 A9 c9 z9) rfl rfl 37 dkZero S.2.1 (dkInfo _ _ _ _) rfl (dkArr_one _ _ _ _) ?_)
    exact HRet.out _ _ ⟨L9, z9⟩ A9 c9 e (S.2.1.row _) (below_setRow S.2.2.2 (by omega) _) (hF9.row S.2.1 _) hc9 rfl rfl rfl
  | true =>
    rw [hbn] at CF
    replace HQ1 : Hid (Q = thenD (thenD (thenD (stepP ⟨L, z⟩ (rmP L fr)) fun d => stepP d (wrP d.files fr s)) fun d => stepP d (syP d.files fr)) fun d => stepP d (rnP d.files fr n)) := by show _ = _; rw [HQ1.out, hbn]; rfl
    clear hbn
    go_wp2_with fail
    (with_reducible refine CF.out.mono ?_)
    clear CF c0
    rintro _ V3 ⟨rfl, b3⟩
    replace S := S.below b3
    clear b3
    have e0 : V3.cell? ⟨w.heap.size, 0, none⟩ = some (.slice A L.length c) := S.1.cell 0
    have e1 : V3.cell? ⟨w.heap.size, 1, none⟩ = some (.int .i64 z) := S.1.cell 1
    have CX := Lib.hid (Remove_any L fr A c z V3 S.2.2.1 hz hl hc hzf)
    have HYes : Hid ((stepP ⟨L, z⟩ (rmP L fr)).2 = 0 → ∃ L', stepP ⟨L, z⟩ (rmP L fr) = (⟨L', burnt z⟩, 0) ∧ goodD L' = true) := fun h => by
      obtain ⟨h1, _, L', h2, h3⟩ := step_yes rm_err h
      exact ⟨L', h3, (rm_ok h1 h2).2⟩
    generalize hQ2 : stepP ⟨L, z⟩ (rmP L fr) = Q2 at *
    clear hQ2
    go_wp2_with fail
    (with_reducible refine CX.out.mono ?_)
    clear CX e0 e1
    rintro _ V3 ⟨A1, c1, rfl, hF', hc1, b3⟩
    replace S := S.below b3
    clear b3
    obtain ⟨⟨L1, zz1⟩, e⟩ := Q2
    simp only at hF' hc1 HYes ⊢
    have S3 : Sv w L1 A1 c1 zz1 (V3.setRow w.heap.size (dkArr L1 A1 c1 zz1)) := ⟨S.1.row _, S.2.1.row_far (by omega) _, hF'.rowD S.1 _, below_setRow S.2.2.2 (Nat.le_refl _) _⟩
    go_upto_region 10 with (refine wpList_store_row rfl 37 _ _ rfl w.heap.size (dkArr L1 A1 c1 zz1) rfl rfl 37 (dkArr L A c z) S.1 (dkInfo _ _ _ _) rfl (dkArr_one _ _ _ _) ?_)
    refine wp_forget (Sv w L1 A1 c1 zz1) (by exact S3) ?_
    clear S3 S hF'
    intro W1 S
    by_cases he : e = 0
    case neg =>
      have hb : (e != 0) = true := by simpa using he
      have HE : Hid (Q = (⟨L1, zz1⟩, e)) := by show _ = _; rw [HQ1.out]; simp only [then_err (r := ((⟨L1, zz1⟩ : Dk), e)) he]
      have e0 : W1.cell? ⟨w.heap.size, 0, none⟩ = some (.slice A1 L1.length c1) := S.1.cell 0
      have e1 : W1.cell? ⟨w.heap.size, 1, none⟩ = some (.int .i64 zz1) := S.1.cell 1
      clear HYes HQ1 he
      go_wp2_with (refine wpList_store_row rfl 37 _ _ rfl (w.heap.size + 1) (dkArr L1 A1 c1 zz1) rfl rfl 37 dkZero S.2.1 (dkInfo _ _ _ _) rfl (dkArr_one _ _ _ _) ?_)
      rw [HE.out]
      exact HRet.out _ _ ⟨L1, zz1⟩ A1 c1 e (S.2.1.row _) (below_setRow S.2.2.2 (by omega) _) (S.2.2.1.row S.2.1 _) hc1 rfl rfl rfl
    subst he
    obtain ⟨_, hqq, hgd⟩ := HYes.out rfl
    simp only [Prod.mk.injEq, Dk.mk.injEq, and_true] at hqq
    obtain ⟨rfl, hzq⟩ := hqq
    have hzf1 : zz1 ≤ 9223372036854775807 := by rw [hzq]; exact burnt_le hzf
    have hz1 := (good_sized hgd).1
    have hl1 : L1.length ≤ 140737488355328 := by have := (good_sized hgd).2; omega
    replace HQ1 : Hid (Q = thenD (thenD (stepP ⟨L1, zz1⟩ (wrP L1 fr s)) fun d => stepP d (syP d.files fr)) fun d => stepP d (rnP d.files fr n)) := by show _ = _; rw [HQ1.out, then_ok (r := ((⟨L1, zz1⟩ : Dk), 0)) rfl]
    clear HYes hgd hzq
    have e0 : W1.cell? ⟨w.heap.size, 0, none⟩ = some (.slice A1 L1.length c1) := S.1.cell 0
    have e1 : W1.cell? ⟨w.heap.size, 1, none⟩ = some (.int .i64 zz1) := S.1.cell 1
    have CX := Lib.hid (Write_any L1 fr s hs A1 c1 zz1 W1 S.2.2.1 hz1 hl1 hc1 hzf1)
    have HYes : Hid ((stepP ⟨L1, zz1⟩ (wrP L1 fr s)).2 = 0 → ∃ L', stepP ⟨L1, zz1⟩ (wrP L1 fr s) = (⟨L', burnt zz1⟩, 0) ∧ goodD L' = true) := fun h => by
      obtain ⟨h1, _, L', h2, h3⟩ := step_yes wr_err h
      exact ⟨L', h3, (wr_ok h1 h2).2.2⟩
    generalize hQ2 : stepP ⟨L1, zz1⟩ (wrP L1 fr s) = Q2 at *
    clear hQ2
    go_wp2_with fail
    (with_reducible refine CX.out.mono ?_)
    clear CX e0 e1
    rintro _ V3 ⟨A2, c2, rfl, hF', hc2, b3⟩
    replace S := S.below b3
    clear b3
    obtain ⟨⟨L2, zz2⟩, e⟩ := Q2
    simp only at hF' hc2 HYes ⊢
    have S3 : Sv w L2 A2 c2 zz2 (V3.setRow w.heap.size (dkArr L2 A2 c2 zz2)) := ⟨S.1.row _, S.2.1.row_far (by omega) _, hF'.rowD S.1 _, below_setRow S.2.2.2 (Nat.le_refl _) _⟩
    go_upto_region 13 with (refine wpList_store_row rfl 37 _ _ rfl w.heap.size (dkArr L2 A2 c2 zz2) rfl rfl 37 (dkArr L1 A1 c1 zz1) S.1 (dkInfo _ _ _ _) rfl (dkArr_one _ _ _ _) ?_)
    refine wp_forget (Sv w L2 A2 c2 zz2) (by exact S3) ?_
    clear S3 S hF'
    intro W2 S
    by_cases he : e = 0
    case neg =>
      have hb : (e != 0) = true := by simpa using he
      have HE : Hid (Q = (⟨L2, zz2⟩, e)) := by show _ = _; rw [HQ1.out]; simp only [then_err (r := ((⟨L2, zz2⟩ : Dk), e)) he]
      have e0 : W2.cell? ⟨w.heap.size, 0, none⟩ = some (.slice A2 L2.length c2) := S.1.cell 0
      have e1 : W2.cell? ⟨w.heap.size, 1, none⟩ = some (.int .i64 zz2) := S.1.cell 1
      clear HYes HQ1 he
      go_wp2_with (refine wpList_store_row rfl 37 _ _ rfl (w.heap.size + 1) (dkArr L2 A2 c2 zz2) rfl rfl 37 dkZero S.2.1 (dkInfo _ _ _ _) rfl (dkArr_one _ _ _ _) ?_)
      rw [HE.out]
      exact HRet.out _ _ ⟨L2, zz2⟩ A2 c2 e (S.2.1.row _) (below_setRow S.2.2.2 (by omega) _) (S.2.2.1.row S.2.1 _) hc2 rfl rfl rfl
    subst he
    obtain ⟨_, hqq, hgd⟩ := HYes.out rfl
    simp only [Prod.mk.injEq, Dk.mk.injEq, and_true] at hqq
    obtain ⟨rfl, hzq⟩ := hqq
    have hzf2 : zz2 ≤ 9223372036854775807 := by rw [hzq]; exact burnt_le hzf1
    have hz2 := (good_sized hgd).1
    have hl2 : L2.length ≤ 140737488355328 := by have := (good_sized hgd).2; omega
    replace HQ1 : Hid (Q = thenD (stepP ⟨L2, zz2⟩ (syP L2 fr)) fun d => stepP d (rnP d.files fr n)) := by show _ = _; rw [HQ1.out, then_ok (r := ((⟨L2, zz2⟩ : Dk), 0)) rfl]
    clear HYes hgd hzq
    have e0 : W2.cell? ⟨w.heap.size, 0, none⟩ = some (.slice A2 L2.length c2) := S.1.cell 0
    have e1 : W2.cell? ⟨w.heap.size, 1, none⟩ = some (.int .i64 zz2) := S.1.cell 1
    have CX := Lib.hid (Sync_any L2 fr A2 c2 zz2 W2 S.2.2.1 hz2 hl2 hc2 hzf2)
    have HYes : Hid ((stepP ⟨L2, zz2⟩ (syP L2 fr)).2 = 0 → ∃ L', stepP ⟨L2, zz2⟩ (syP L2 fr) = (⟨L', burnt zz2⟩, 0) ∧ goodD L' = true) := fun h => by
      obtain ⟨h1, _, L', h2, h3⟩ := step_yes sy_err h
      exact ⟨L', h3, by obtain ⟨_, _, _, q⟩ := sy_ok h1 h2; exact q⟩
    generalize hQ2 : stepP ⟨L2, zz2⟩ (syP L2 fr) = Q2 at *
    clear hQ2
    go_wp2_with fail
    (with_reducible refine CX.out.mono ?_)
    clear CX e0 e1
    rintro _ V3 ⟨A3, c3, rfl, hF', hc3, b3⟩
    replace S := S.below b3
    clear b3
    obtain ⟨⟨L3, zz3⟩, e⟩ := Q2
    simp only at hF' hc3 HYes ⊢
    have S3 : Sv w L3 A3 c3 zz3 (V3.setRow w.heap.size (dkArr L3 A3 c3 zz3)) := ⟨S.1.row _, S.2.1.row_far (by omega) _, hF'.rowD S.1 _, below_setRow S.2.2.2 (Nat.le_refl _) _⟩
    go_upto_region 16 with (refine wpList_store_row rfl 37 _ _ rfl w.heap.size (dkArr L3 A3 c3 zz3) rfl rfl 37 (dkArr L2 A2 c2 zz2) S.1 (dkInfo _ _ _ _) rfl (dkArr_one _ _ _ _) ?_)
    refine wp_forget (Sv w L3 A3 c3 zz3) (by exact S3) ?_
    clear S3 S hF'
    intro W3 S
    by_cases he : e = 0
    case neg =>
      have hb : (e != 0) = true := by simpa using he
      have HE : Hid (Q = (⟨L3, zz3⟩, e)) := by show _ = _; rw [HQ1.out]; simp only [then_err (r := ((⟨L3, zz3⟩ : Dk), e)) he]
      have e0 : W3.cell? ⟨w.heap.size, 0, none⟩ = some (.slice A3 L3.length c3) := S.1.cell 0
      have e1 : W3.cell? ⟨w.heap.size, 1, none⟩ = some (.int .i64 zz3) := S.1.cell 1
      clear HYes HQ1 he
      go_wp2_with (refine wpList_store_row rfl 37 _ _ rfl (w.heap.size + 1) (dkArr L3 A3 c3 zz3) rfl rfl 37 dkZero S.2.1 (dkInfo _ _ _ _) rfl (dkArr_one _ _ _ _) ?_)
      rw [HE.out]
      exact HRet.out _ _ ⟨L3, zz3⟩ A3 c3 e (S.2.1.row _) (below_setRow S.2.2.2 (by omega) _) (S.2.2.1.row S.2.1 _) hc3 rfl rfl rfl
    subst he
    obtain ⟨_, hqq, hgd⟩ := HYes.out rfl
    simp only [Prod.mk.injEq, Dk.mk.injEq, and_true] at hqq
    obtain ⟨rfl, hzq⟩ := hqq
    have hzf3 : zz3 ≤ 9223372036854775807 := by rw [hzq]; exact burnt_le hzf2
    have hz3 := (good_sized hgd).1
    have hl3 : L3.length ≤ 140737488355328 := by have := (good_sized hgd).2; omega
    replace HQ1 : Hid (Q = stepP ⟨L3, zz3⟩ (rnP L3 fr n)) := by show _ = _; rw [HQ1.out, then_ok (r := ((⟨L3, zz3⟩ : Dk), 0)) rfl]
    clear HYes hgd hzq
    have e0 : W3.cell? ⟨w.heap.size, 0, none⟩ = some (.slice A3 L3.length c3) := S.1.cell 0
    have e1 : W3.cell? ⟨w.heap.size, 1, none⟩ = some (.int .i64 zz3) := S.1.cell 1
    have CX := Lib.hid (Rename_any L3 fr n A3 c3 zz3 W3 S.2.2.1 hz3 hl3 hc3 hzf3)
    rw [← HQ1.out] at CX
    go_wp2_with fail
    (with_reducible refine CX.out.mono ?_)
    clear CX e0 e1 HQ1
    rintro _ V3 ⟨A9, c9, rfl, hF9, hc9, b3⟩
    replace S := S.below b3
    clear b3
    obtain ⟨⟨L9, z9⟩, e⟩ := Q
    simp only at hF9 hc9 ⊢
    go_wp2_with (refine wpList_store_row rfl 37 _ _ rfl (w.heap.size + 1) (dkArr L9 A9 c9 z9) rfl rfl 37 dkZero S.2.1 (dkInfo _ _ _ _) rfl (dkArr_one _ _ _ _) ?_)
    exact HRet.out _ _ ⟨L9, z9⟩ A9 c9 e (S.2.1.row _) (below_setRow S.2.2.2 (by omega) _) (hF9.row S.2.1 _) hc9 rfl rfl rfl
end Go.Proofs.YtmikfmcgddmplaaGreatDoor
