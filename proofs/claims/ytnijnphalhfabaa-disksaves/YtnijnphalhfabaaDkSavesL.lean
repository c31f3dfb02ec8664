/- Texts in one: DkFuse, DkLaws, DkSavesL. -/
import Derived.Test.YtnijnphalhfabaaDkRefI
import Derived.Test.YtnijnphalhfabaaOPick
import Derived.Test.YtnijnphalhfabaaDkRefA
/- keep.DiskFuse: the walk. -/
namespace Go.Proofs.Ytnijnphalhfabaa
open Go.RowKit

theorem wr_no12 {L : List Fl} {n s : ByteArray} : ∀ e, wrP L n s = .error e → e ≠ 12 := fun e h => by
  unfold wrP at h
  split at h
  · cases h; decide
  · split at h
    · split at h
      · cases h; decide
      · split at h
        · cases h; decide
        · cases h
    · split at h
      · cases h; decide
      · cases h
/-- what a write upon a disk that is one comes to -/
theorem wr_step {L : List Fl} {n s : ByteArray} {z : Int} (hG : goodD L = true) (h0 : 0 ≤ z) : (z = 0 ∧ stepP ⟨L, z⟩ (wrP L n s) = (⟨L, z⟩, 12)) ∨
    (0 < z ∧ ∃ L', stepP ⟨L, z⟩ (wrP L n s) = (⟨L', z - 1⟩, 0) ∧ goodD L' = true) ∨ (0 < z ∧ ∃ e, stepP ⟨L, z⟩ (wrP L n s) = (⟨L, z⟩, e) ∧ e ≠ 0 ∧ e ≠ 12) := by
  unfold stepP
  simp only [hG, Bool.not_true, Bool.false_eq_true, if_false]
  by_cases hz : z = 0
  · exact .inl ⟨hz, by rw [if_pos hz]⟩
  · right
    rw [if_neg hz]
    cases hr : wrP L n s with
    | error e => exact .inr ⟨by omega, e, rfl, wr_err e hr, wr_no12 e hr⟩
    | ok L' =>
      refine .inl ⟨by omega, L', ?_, (wr_ok hG hr).2.2⟩
      simp only [burnt]
      rw [if_pos (by omega)]
theorem crash_good {L : List Fl} {z : Int} (hG : goodD L = true) (m : Nat) : crashD ⟨L, z⟩ (m : Int) = (⟨L.map (crashF m), -1⟩, 0) := by
  unfold crashD
  simp only [hG, Bool.not_true, Bool.false_or, Int.toNat_natCast]
  rw [if_neg (by simp)]
/-- where the law stands: the disk in its box -/
def FuRel (w : World) (i : Value) (wr : World) : Prop :=
  ∃ (k : Nat) (L : List Fl) (A : Option Addr) (c : Nat) (z : Int), i = .int .i64 (k : Int) ∧ k ≤ 8 ∧ goodD L = true ∧ 0 ≤ z ∧ z ≤ 4 ∧ L.length ≤ c ∧ Arr wr w.heap.size 24 (dkArr L A c z) ∧ Fls wr wr.heap.size A L ∧ Below w.heap.size w wr
set_option maxRecDepth 100000 in
set_option maxHeartbeats 4000000 in
theorem DiskFuse_any (L : List Fl) (n s : ByteArray) (hs : s.size ≤ 140737488355328) (m : Int) (A : Option Addr) (c : Nat) (z : Int) (w : World) (hP : Fls w w.heap.size A L) (hz : Sized L) (hl : L.length ≤ 140737488355328) (hc : L.length ≤ c) :
    Calls Try.prog 8 #[.agg (dkArr L A c z), .string n, .string s, .int .i64 m] w fun e w' => e = .returned (.bool true) ∧ Below w.heap.size w w' := by
  have A0 : Arr (w.alloc (.cells (dkArr L A c z) 24)) w.heap.size 24 (dkArr L A c z) := Arr.new _ _ _
  have b0 : Below w.heap.size w (w.alloc (.cells (dkArr L A c z) 24)) := (Below.refl _ _).alloc (Nat.le_refl _) _
  have CK := fun V => Lib.hid (disks_keep V)
  go_enter Try.func8, Try.ntmps8
  go_upto_region 1 with fail
  refine wp_forget (fun V => Arr V w.heap.size 24 (dkArr L A c z) ∧ Below w.heap.size w V) (by exact ⟨A0, b0⟩) ?_
  clear A0 b0
  rintro V ⟨A0, b0⟩
  have c0 : V.cell? ⟨w.heap.size, 0, none⟩ = some (.slice A L.length c) := A0.cell 0
  have c1 : V.cell? ⟨w.heap.size, 1, none⟩ = some (.int .i64 z) := A0.cell 1
  have CG : Hid (Calls Try.prog 18 #[.agg #[.slice A L.length c, .int .i64 z]] V fun e w' => e = .returned (.bool (goodD L)) ∧ Below V.heap.size V w') := DkGood_any L A c z V (hP.up b0) hz hl
  cases hg : goodD L with
  | false =>
    rw [hg] at CG
    clear hg
    go_wp2_with fail
    (with_reducible refine CG.out.mono ?_)
    clear CG c0 c1
    rintro _ V2 ⟨rfl, b2⟩
    have b3 := b0.trans (b2.mono b0.size)
    go_wp2_with fail
    (with_reducible refine (CK V2).out.mono ?_)
    rintro _ V3 ⟨rfl, b4⟩
    go_wp2_with fail
    go_ret
    exact ⟨rfl, b3.trans (b4.mono b3.size)⟩
  | true =>
    rw [hg] at CG
    have HG := Lib.hid hg
    clear hg
    go_wp2_with fail
    (with_reducible refine CG.out.mono ?_)
    clear CG c0 c1
    rintro _ V2 ⟨rfl, b2⟩
    replace A0 := A0.below b2 A0.lt
    replace b0 := b0.trans (b2.mono b0.size)
    clear b2
    go_wp2_with fail
    (with_reducible refine (CK V2).out.mono ?_)
    clear CK
    rintro _ V3 ⟨rfl, b2⟩
    replace A0 := A0.below b2 A0.lt
    replace b0 := b0.trans (b2.mono b0.size)
    clear b2
    have CP := Lib.hid (pick_any m 5 (by omega) (by omega) V3)
    obtain ⟨hp0, hp1⟩ := pk_in m 5 (by omega)
    change Hid (Calls Try.prog 28 #[.int .i64 m, .int .i64 5] V3 fun e w' => e = .returned (.int .i64 (pk m 5)) ∧ V3 = w') at CP
    have hp0' : 0 ≤ pk m 5 := hp0
    have hp1' : pk m 5 < 5 := hp1
    clear hp0 hp1
    generalize pk m 5 = y at *
    go_wp2_with fail
    (with_reducible refine CP.out.mono ?_)
    clear CP
    rintro _ V3 ⟨rfl, rfl⟩
    have d1 : V3.cell? ⟨w.heap.size, 1, none⟩ = some (.int .i64 z) := A0.cell 1
    have f1 := A0.free 1
    have A1 : Arr (V3.setCell ⟨w.heap.size, 1, none⟩ (.int .i64 y)) w.heap.size 24 (dkArr L A c y) := A0.put 1 (.int .i64 y)
    have b1 := below_gb b0 (show V3.grownBy (V3.setCell ⟨w.heap.size, 1, none⟩ (.int .i64 y)) (some w.heap.size) from gb_set _ _ _) (Nat.le_refl _) b0.size
    have hR0 : Hid (FuRel w (.int .i64 0) (V3.setCell ⟨w.heap.size, 1, none⟩ (.int .i64 y))) := ⟨0, L, A, c, y, rfl, by omega, HG.out, hp0', by omega, hc, A1, hP.up b1, b1⟩
    clear A0 b0 A1 b1
    go_wp2_with fail
    go_loopw [9] (fun i wr => FuRel w i wr) (fun i _ => 8 - (intOf i).toNat)
    case atStart => exact hR0.out
    case round =>
      clear hR0 d1 f1 HG
      obtain ⟨k, L1, A1, c1, z1, rfl, hk, hG, hz0, hz4, hc1, B0, hF, bel⟩ := hrel
      obtain ⟨hsz, hl4⟩ := good_sized hG
      have c0 : wr.cell? ⟨w.heap.size, 0, none⟩ = some (.slice A1 L1.length c1) := B0.cell 0
      have c1' : wr.cell? ⟨w.heap.size, 1, none⟩ = some (.int .i64 z1) := B0.cell 1
      by_cases hlt : k < 8
      case neg =>
        obtain rfl : k = 8 := by omega
        have hj : ¬ ((8 : Nat) : Int) < 8 := by omega
        have CC := Lib.hid (Crash_any L1 0 (by omega) A1 c1 z1 wr hF hsz (by omega) hc1)
        rw [show crashD ⟨L1, z1⟩ 0 = (⟨L1.map (crashF 0), -1⟩, 0) from crash_good hG 0] at CC
        go_wp2_with fail
        (with_reducible refine CC.out.mono ?_)
        clear CC c0 c1'
        rintro _ V4 ⟨A4, c4, rfl, _, _, b4⟩
        have b5 := bel.trans (b4.mono bel.size)
        have bb : Below V4.heap.size V4 ((V4.alloc (.cells dkZero 24)).setRow V4.heap.size (dkArr (L1.map (crashF 0)) A4 c4 (-1))) := below_setRow ((Below.refl _ _).alloc (Nat.le_refl _) _) (Nat.le_refl _) _
        have AX : Arr ((V4.alloc (.cells dkZero 24)).setRow V4.heap.size (dkArr (L1.map (crashF 0)) A4 c4 (-1))) V4.heap.size 24 (dkArr (L1.map (crashF 0)) A4 c4 (-1)) := (Arr.new _ _ _).row _
        go_upto_region 13 with (refine wpList_store_row rfl 24 _ _ rfl V4.heap.size (dkArr (L1.map (crashF 0)) A4 c4 (-1)) rfl rfl 24 dkZero (Arr.new V4 _ _) (dkInfo _ _ _ _) rfl (dkArr_one _ _ _ _) ?_)
        refine wp_forget (fun W => Arr W V4.heap.size 24 (dkArr (L1.map (crashF 0)) A4 c4 (-1)) ∧ Below w.heap.size w W) (by exact ⟨AX, b5.trans (bb.mono b5.size)⟩) ?_
        clear AX bb b5 b4
        generalize V4.heap.size = q
        rintro W ⟨AX, b5⟩
        have e1 : W.cell? ⟨q, 1, none⟩ = some (.int .i64 (-1)) := AX.cell 1
        go_wp2_with fail
        go_ret
        exact ⟨rfl, b5⟩
      have hj : (k : Int) < 8 := by omega
      have CW := Lib.hid (Write_any L1 n s hs A1 c1 z1 wr hF hsz (by omega) hc1 (by omega))
      have HW := Lib.hid (wr_step (n := n) (s := s) hG hz0)
      generalize stepP ⟨L1, z1⟩ (wrP L1 n s) = Q at *
      obtain ⟨⟨L2, z2⟩, e⟩ := Q
      go_wp2_with fail
      (with_reducible refine CW.out.mono ?_)
      clear CW c0 c1'
      rintro _ V4 ⟨A2, c2, rfl, hF2, hc2, b4⟩
      simp only at hF2 hc2 ⊢
      have B1 := B0.below b4 B0.lt
      have hF1 := hF.up b4
      have b5 := bel.trans (b4.mono bel.size)
      have hlq := B1.lt
      clear B0 hF bel b4
      have bb : Below V4.heap.size V4 ((V4.alloc (.cells dkZero 24)).setRow V4.heap.size (dkArr L2 A2 c2 z2)) := below_setRow ((Below.refl _ _).alloc (Nat.le_refl _) _) (Nat.le_refl _) _
      have AX : Arr ((V4.alloc (.cells dkZero 24)).setRow V4.heap.size (dkArr L2 A2 c2 z2)) V4.heap.size 24 (dkArr L2 A2 c2 z2) := (Arr.new _ _ _).row _
      go_upto_region 9 with (refine wpList_store_row rfl 24 _ _ rfl V4.heap.size (dkArr L2 A2 c2 z2) rfl rfl 24 dkZero (Arr.new V4 _ _) (dkInfo _ _ _ _) rfl (dkArr_one _ _ _ _) ?_)
      refine wp_forget (fun W => Arr W V4.heap.size 24 (dkArr L2 A2 c2 z2) ∧ Arr W w.heap.size 24 (dkArr L1 A1 c1 z1) ∧ Fls W W.heap.size A1 L1 ∧ Fls W W.heap.size A2 L2 ∧ Below w.heap.size w W) (by exact ⟨AX, B1.below bb B1.lt, hF1.up bb, hF2.up bb, b5.trans (bb.mono b5.size)⟩) ?_
      clear AX bb b5 B1 hF1 hF2
      generalize V4.heap.size = q at *
      rintro W ⟨AX, B1, hF1, hF2, b5⟩
      have c0 : W.cell? ⟨w.heap.size, 0, none⟩ = some (.slice A1 L1.length c1) := B1.cell 0
      have c1' : W.cell? ⟨w.heap.size, 1, none⟩ = some (.int .i64 z1) := B1.cell 1
      have d0 : W.cell? ⟨q, 0, none⟩ = some (.slice A2 L2.length c2) := AX.cell 0
      have d1 : W.cell? ⟨q, 1, none⟩ = some (.int .i64 z2) := AX.cell 1
      rcases HW.out with ⟨rfl, he⟩ | ⟨hzp, L3, he, hG3⟩ | ⟨hzp, e3, he, he0, he12⟩
      · simp only [Prod.mk.injEq, Dk.mk.injEq] at he
        obtain ⟨⟨rfl, rfl⟩, rfl⟩ := he
        have CS := Lib.hid (sameDisk_any L2 L2 A2 A1 c2 c1 0 0 W hF2 hF1 (by omega) (by omega))
        simp only [decide_true] at CS
        clear HW
        go_wp2_with fail
        (with_reducible refine CS.out.mono ?_)
        clear CS c0 c1' d0 d1
        rintro _ W2 ⟨rfl, b6⟩
        replace AX := AX.below b6 AX.lt
        replace B1 := B1.below b6 B1.lt
        replace hF2 := hF2.up b6
        replace b5 := b5.trans (b6.mono b5.size)
        have c1' : W2.cell? ⟨w.heap.size, 1, none⟩ = some (.int .i64 0) := B1.cell 1
        have d0 : W2.cell? ⟨q, 0, none⟩ = some (.slice A2 L2.length c2) := AX.cell 0
        have d1 : W2.cell? ⟨q, 1, none⟩ = some (.int .i64 0) := AX.cell 1
        have hFr := hF2.rowD B1 (dkArr L2 A2 c2 0)
        have br := below_setRow b5 (Nat.le_refl _) (dkArr L2 A2 c2 0)
        have Br := B1.row (dkArr L2 A2 c2 0)
        go_wp2_with (refine wpList_store_row rfl 24 _ _ rfl w.heap.size (dkArr L2 A2 c2 0) rfl rfl 24 (dkArr L2 A1 c1 0) B1 (dkInfo _ _ _ _) rfl (dkArr_one _ _ _ _) ?_)
        go_roundw
        case rel => exact ⟨k + 1, L2, A2, c2, 0, by rw [Int.natCast_add]; rfl, by omega, hG, by omega, by omega, hc2, Br, hFr, br⟩
        case measure => simp [intOf]; omega
      · simp only [Prod.mk.injEq, Dk.mk.injEq] at he
        obtain ⟨⟨rfl, rfl⟩, rfl⟩ := he
        have i1 : (z1 == 0) = false := by rw [beq_eq_false_iff_ne]; omega
        have i2 : IntKind.i64.wrap (z1 - (z1 - 1)) = 1 := by rw [show z1 - (z1 - 1) = 1 from by omega]; rfl
        clear HW
        have hFr := hF2.rowD B1 (dkArr L2 A2 c2 (z1 - 1))
        have br := below_setRow b5 (Nat.le_refl _) (dkArr L2 A2 c2 (z1 - 1))
        have Br := B1.row (dkArr L2 A2 c2 (z1 - 1))
        go_wp2_with (refine wpList_store_row rfl 24 _ _ rfl w.heap.size (dkArr L2 A2 c2 (z1 - 1)) rfl rfl 24 (dkArr L1 A1 c1 z1) B1 (dkInfo _ _ _ _) rfl (dkArr_one _ _ _ _) ?_)
        go_roundw
        case rel => exact ⟨k + 1, L2, A2, c2, z1 - 1, by rw [Int.natCast_add]; rfl, by omega, hG3, by omega, by omega, hc2, Br, hFr, br⟩
        case measure => simp [intOf]; omega
      · simp only [Prod.mk.injEq, Dk.mk.injEq] at he
        obtain ⟨⟨rfl, rfl⟩, rfl⟩ := he
        have i1 : (z2 == 0) = false := by rw [beq_eq_false_iff_ne]; omega
        have i2 : (e == 12) = false := by rw [beq_eq_false_iff_ne]; exact he12
        have i3 : (e == 0) = false := by rw [beq_eq_false_iff_ne]; exact he0
        have i4 : (e != 0) = true := by simpa using he0
        have CS := Lib.hid (sameDisk_any L2 L2 A2 A1 c2 c1 z2 z2 W hF2 hF1 (by omega) (by omega))
        simp only [decide_true] at CS
        clear HW he0 he12
        go_wp2_with fail
        (with_reducible refine CS.out.mono ?_)
        clear CS c0 c1' d0 d1
        rintro _ W2 ⟨rfl, b6⟩
        replace AX := AX.below b6 AX.lt
        replace B1 := B1.below b6 B1.lt
        replace hF2 := hF2.up b6
        replace b5 := b5.trans (b6.mono b5.size)
        have d0 : W2.cell? ⟨q, 0, none⟩ = some (.slice A2 L2.length c2) := AX.cell 0
        have d1 : W2.cell? ⟨q, 1, none⟩ = some (.int .i64 z2) := AX.cell 1
        have hFr := hF2.rowD B1 (dkArr L2 A2 c2 z2)
        have br := below_setRow b5 (Nat.le_refl _) (dkArr L2 A2 c2 z2)
        have Br := B1.row (dkArr L2 A2 c2 z2)
        go_wp2_with (refine wpList_store_row rfl 24 _ _ rfl w.heap.size (dkArr L2 A2 c2 z2) rfl rfl 24 (dkArr L2 A1 c1 z2) B1 (dkInfo _ _ _ _) rfl (dkArr_one _ _ _ _) ?_)
        go_roundw
        case rel => exact ⟨k + 1, L2, A2, c2, z2, by rw [Int.natCast_add]; rfl, by omega, hG, by omega, by omega, hc2, Br, hFr, br⟩
        case measure => simp [intOf]; omega
end Go.Proofs.Ytnijnphalhfabaa

/- What Save leaves of other files, and of its own behind a crash: plain mathematics. -/
namespace Go.Proofs.Ytnijnphalhfabaa
open Go.RowKit

/-- a disk, and a file's bytes, as they were -/
def Keep (o : ByteArray) (d d' : Dk) : Prop := goodD d'.files = true ∧ getF o d'.files = getF o d.files
theorem keep_refl {o : ByteArray} {d : Dk} (h : goodD d.files = true) : Keep o d d := ⟨h, rfl⟩
theorem keep_trans {o : ByteArray} {a b c : Dk} (h : Keep o a b) (k : Keep o b c) : Keep o a c := ⟨k.1, k.2.trans h.2⟩
theorem step_keep {o : ByteArray} {d : Dk} {r : Except Int (List Fl)} (hG : goodD d.files = true) (h : ∀ L, r = .ok L → goodD L = true ∧ getF o L = getF o d.files) : Keep o d (stepP d r).1 := by
  unfold stepP
  simp only [hG, Bool.not_true, Bool.false_eq_true, if_false]
  split
  · exact keep_refl hG
  · cases r with
    | error e => exact keep_refl hG
    | ok L => exact h L rfl
theorem rm_keep {o n : ByteArray} {d : Dk} (hG : goodD d.files = true) (hn : o ≠ n) : Keep o d (stepP d (rmP d.files n)).1 := step_keep hG fun L h => by
  obtain ⟨rfl, h2⟩ := rm_ok hG h
  exact ⟨h2, by rw [getF_del, if_neg (fun e => hn e.symm)]⟩
theorem sy_keep {o n : ByteArray} {d : Dk} (hG : goodD d.files = true) (hn : o ≠ n) : Keep o d (stepP d (syP d.files n)).1 := step_keep hG fun L h => by
  obtain ⟨f, _, rfl, h2⟩ := sy_ok hG h
  exact ⟨h2, by rw [getF_put o _ _ _ ((goodD_iff _).1 hG).2.1, if_neg (fun e => hn e.symm)]⟩
theorem wr_keep {o n s : ByteArray} {d : Dk} (hG : goodD d.files = true) (hn : o ≠ n) : Keep o d (stepP d (wrP d.files n s)).1 := step_keep hG fun L h => by
  obtain ⟨_, ⟨f, _, rfl⟩, h2⟩ := wr_ok hG h
  exact ⟨h2, by rw [getF_put o _ _ _ ((goodD_iff _).1 hG).2.1, if_neg (fun e => hn e.symm)]⟩
theorem rn_list {L L' : List Fl} {n m : ByteArray} (h : rnP L n m = .ok L') : ∃ f, getF n L = some f ∧ L' = putL ⟨m, f.safe, f.tail⟩ (del n L) := by
  unfold rnP at h
  cases hm : named m with
  | false => rw [hm] at h; simp at h
  | true =>
    rw [hm] at h
    simp only [Bool.not_true, Bool.false_eq_true, if_false] at h
    cases hf : getF n L with
    | none => rw [hf] at h; cases h
    | some f => rw [hf] at h; cases h; exact ⟨f, rfl, rfl⟩
theorem rn_keep {o n m : ByteArray} {d : Dk} (hG : goodD d.files = true) (hn : o ≠ n) (hm : o ≠ m) : Keep o d (stepP d (rnP d.files n m)).1 := step_keep hG fun L h => by
  obtain ⟨_, _, _, _, h2⟩ := rn_ok hG h
  obtain ⟨f, _, rfl⟩ := rn_list h
  exact ⟨h2, by rw [getF_put o _ _ _ (del_ris _ _ _ ((goodD_iff _).1 hG).2.1), if_neg (fun e => hm e.symm), getF_del, if_neg (fun e => hn e.symm)]⟩
theorem then_keep {o : ByteArray} {d : Dk} {r : Dk × Int} {f : Dk → Dk × Int} (h : Keep o d r.1) (k : ∀ d', goodD d'.files = true → Keep o d' (f d').1) : Keep o d (thenD r f).1 := by
  unfold thenD
  split
  · exact h
  · exact keep_trans h (k _ h.1)
/-- Save leaves what is neither its file nor that with .new behind -/
theorem save_keep {o n s : ByteArray} {d : Dk} (hG : goodD d.files = true) (hn : o ≠ n) (hf : o ≠ newN n) : Keep o d (saveD d n s).1 := by
  unfold saveD
  simp only [hG, Bool.not_true, Bool.false_eq_true, if_false]
  split
  · exact keep_refl hG
  · refine then_keep (then_keep (then_keep ?_ fun d' h => wr_keep h hf) fun d' h => sy_keep h hf) fun d' h => rn_keep h hf hn
    split
    · exact rm_keep hG hf
    · exact keep_refl hG
theorem save_bad {n s : ByteArray} {d : Dk} (hG : goodD d.files = false) : (saveD d n s).1 = d := by
  unfold saveD
  simp [hG]
theorem step_bad {r : Except Int (List Fl)} {d : Dk} (hG : goodD d.files = false) : (stepP d r).1 = d := by
  unfold stepP
  simp [hG]
theorem read_keep {o : ByteArray} {d d' : Dk} (hG : goodD d.files = true) (h : Keep o d d') : readD d' o = readD d o := by
  unfold readD
  rw [hG, h.1, h.2]
theorem new_ne (n : ByteArray) : newN n ≠ n := fun e => by
  have := congrArg ByteArray.size e
  unfold newN at this
  rw [ByteArray.size_append] at this
  have : n.size + 4 = n.size := this
  omega
theorem crashF_name (k : Nat) (f : Fl) : (crashF k f).name = f.name := rfl
theorem ris_map (k : Nat) : ∀ (L : List Fl) (b : ByteArray), ris b L → ris b (L.map (crashF k))
  | [], _, _ => trivial
  | _ :: l, _, h => ⟨h.1, ris_map k l _ h.2⟩
theorem good_crash {L : List Fl} (hG : goodD L = true) (k : Nat) : goodD (L.map (crashF k)) = true := by
  obtain ⟨h1, h2, h3⟩ := (goodD_iff L).1 hG
  refine (goodD_iff _).2 ⟨by rw [List.length_map]; exact h1, ris_map k L _ h2, fun g hg => ?_⟩
  obtain ⟨f, hf, rfl⟩ := List.mem_map.1 hg
  obtain ⟨k1, k2⟩ := h3 f hf
  refine ⟨k1, ?_⟩
  unfold fits at k2 ⊢
  have k2 := of_decide_eq_true k2
  refine decide_eq_true ?_
  show (f.safe ++ f.tail.extract 0 (min k f.tail.size)).size + 0 ≤ 1048576
  rw [ByteArray.size_append, ByteArray.size_extract]
  omega
theorem get_crash (n : ByteArray) (k : Nat) : ∀ L : List Fl, getF n (L.map (crashF k)) = (getF n L).map (crashF k)
  | [] => rfl
  | f :: l => by
    have ih := get_crash n k l
    unfold getF at ih ⊢
    rw [List.map_cons, List.find?_cons, List.find?_cons]
    by_cases e : f.name = n
    · simp [crashF_name, e]
    · simp only [crashF_name, e, decide_false]
      exact ih
theorem app_none (s : ByteArray) : s ++ (⟨#[]⟩ : ByteArray) = s := by
  apply ByteArray.ext
  simp
theorem crash_still {f : Fl} (h : f.tail = ⟨#[]⟩) (k : Nat) : crashF k f = f := by
  obtain ⟨a, b, c⟩ := f
  obtain rfl : c = ⟨#[]⟩ := h
  unfold crashF
  simp only
  rw [show ((⟨#[]⟩ : ByteArray).extract 0 (min k (⟨#[]⟩ : ByteArray).size)) = ⟨#[]⟩ from by apply bytes_eq; rw [extract_drop]; simp, app_none]
/-- of what was safe, a save that says no leaves the file as it was, one that says yes the new one -/
theorem save_atomic {L : List Fl} {n s : ByteArray} {z : Int} (hG : goodD L = true) (ht : ∀ f ∈ L, f.tail = ⟨#[]⟩) (k : Nat) : goodD (saveD ⟨L, z⟩ n s).1.files = true ∧
    ((saveD ⟨L, z⟩ n s).2 = 0 → readD ⟨(saveD ⟨L, z⟩ n s).1.files.map (crashF k), -1⟩ n = (s, 0)) ∧
    ((saveD ⟨L, z⟩ n s).2 ≠ 0 → readD ⟨(saveD ⟨L, z⟩ n s).1.files.map (crashF k), -1⟩ n = readD ⟨L, z⟩ n) := by
  have hnf : n ≠ newN n := fun e => new_ne n e.symm
  -- a disk on which the file is as it was
  have still : ∀ d' : Dk, Keep n ⟨L, z⟩ d' → readD ⟨d'.files.map (crashF k), -1⟩ n = readD ⟨L, z⟩ n := fun d' h => by
    unfold readD
    simp only [hG, good_crash h.1 k, get_crash, h.2]
    cases hf : getF n L with
    | none => rfl
    | some f =>
      have := crash_still (ht f (getF_name hf).2) k
      simp only [Option.map_some, this]
  unfold saveD
  simp only [hG, Bool.not_true, Bool.false_eq_true, if_false]
  by_cases hN : (!named n || !named (newN n)) = true
  · rw [if_pos hN]
    exact ⟨hG, fun h => absurd h (by simp), fun _ => still _ (keep_refl hG)⟩
  rw [if_neg hN]
  obtain ⟨r0, hr0⟩ : ∃ r0, r0 = (if (getF (newN n) L).isSome = true then stepP ⟨L, z⟩ (rmP L (newN n)) else (⟨L, z⟩, 0)) := ⟨_, rfl⟩
  rw [← hr0]
  have K0 : Keep n ⟨L, z⟩ r0.1 := by
    rw [hr0]
    split
    · exact rm_keep hG hnf
    · exact keep_refl hG
  by_cases e0 : r0.2 = 0
  case neg => rw [then_err e0, then_err e0, then_err e0]; exact ⟨K0.1, fun h => absurd h e0, fun _ => still _ K0⟩
  have N0 : getF (newN n) r0.1.files = none := by
    rw [hr0] at e0 ⊢
    split
    · rename_i hs
      rw [if_pos hs] at e0
      obtain ⟨_, _, L1, h1, h2⟩ := step_yes rm_err e0
      rw [h2]
      obtain ⟨rfl, _⟩ := rm_ok hG h1
      rw [getF_del, if_pos rfl]
    · rename_i hs
      cases hg : getF (newN n) L with
      | none => rfl
      | some f => rw [hg] at hs; simp at hs
  rw [then_ok e0]
  obtain ⟨d0, _⟩ := r0
  simp only at K0 N0 ⊢
  clear hr0 e0
  obtain ⟨r1, hr1⟩ : ∃ r1, r1 = stepP d0 (wrP d0.files (newN n) s) := ⟨_, rfl⟩
  rw [← hr1]
  have K1 : Keep n ⟨L, z⟩ r1.1 := by rw [hr1]; exact keep_trans K0 (wr_keep K0.1 hnf)
  by_cases e1 : r1.2 = 0
  case neg => rw [then_err e1, then_err e1]; exact ⟨K1.1, fun h => absurd h e1, fun _ => still _ K1⟩
  have N1 : getF (newN n) r1.1.files = some ⟨newN n, ⟨#[]⟩, s⟩ := by
    rw [hr1] at e1 ⊢
    obtain ⟨_, _, L1, h1, h2⟩ := step_yes wr_err e1
    rw [h2]
    obtain ⟨_, ⟨f, hf, rfl⟩, _⟩ := wr_ok K0.1 h1
    rcases hf with hf | ⟨_, rfl⟩
    · rw [N0] at hf; cases hf
    · rw [getF_put _ _ _ _ ((goodD_iff _).1 K0.1).2.1, if_pos rfl, empty_append]
  rw [then_ok e1]
  obtain ⟨d1, _⟩ := r1
  simp only at K1 N1 ⊢
  clear hr1 e1
  obtain ⟨r2, hr2⟩ : ∃ r2, r2 = stepP d1 (syP d1.files (newN n)) := ⟨_, rfl⟩
  rw [← hr2]
  have K2 : Keep n ⟨L, z⟩ r2.1 := by rw [hr2]; exact keep_trans K1 (sy_keep K1.1 hnf)
  by_cases e2 : r2.2 = 0
  case neg => rw [then_err e2]; exact ⟨K2.1, fun h => absurd h e2, fun _ => still _ K2⟩
  have N2 : getF (newN n) r2.1.files = some ⟨newN n, s, ⟨#[]⟩⟩ := by
    rw [hr2] at e2 ⊢
    obtain ⟨_, _, L1, h1, h2⟩ := step_yes sy_err e2
    rw [h2]
    obtain ⟨f, hf, rfl, _⟩ := sy_ok K1.1 h1
    rw [N1] at hf
    cases hf
    rw [getF_put _ _ _ _ ((goodD_iff _).1 K1.1).2.1, if_pos rfl]
    show some (⟨newN n, (⟨#[]⟩ : ByteArray) ++ s, ⟨#[]⟩⟩ : Fl) = _
    rw [empty_append]
  rw [then_ok e2]
  obtain ⟨d2, _⟩ := r2
  simp only at K2 N2 ⊢
  clear hr2 e2
  by_cases e3 : (stepP d2 (rnP d2.files (newN n) n)).2 = 0
  · obtain ⟨_, _, L3, h1, h2⟩ := step_yes rn_err e3
    obtain ⟨f, k1, k2, _, k4⟩ := rn_ok K2.1 h1
    rw [N2] at k1
    cases k1
    rw [h2]
    refine ⟨k4, fun _ => ?_, fun h => absurd rfl h⟩
    unfold readD
    simp only [good_crash k4 k, get_crash, k2, Option.map_some]
    rw [crash_still (f := ⟨n, s, ⟨#[]⟩⟩) rfl k]
    simp only [Bool.not_true, Bool.false_eq_true, if_false]
    rw [app_none]
  · have := step_no e3
    rw [this]
    exact ⟨K2.1, fun h => absurd h e3, fun _ => still _ K2⟩
theorem crash_tails {L : List Fl} (k : Nat) : ∀ f ∈ L.map (crashF k), f.tail = ⟨#[]⟩ := fun f hf => by
  obtain ⟨g, _, rfl⟩ := List.mem_map.1 hf
  rfl
end Go.Proofs.Ytnijnphalhfabaa

/- law.DiskSaves: the walk. -/
namespace Go.Proofs.Ytnijnphalhfabaa
open Go.RowKit

theorem save_good {L : List Fl} {n s : ByteArray} {z : Int} (hG : goodD L = true) : goodD (saveD ⟨L, z⟩ n s).1.files = true := by
  have h1 : (⟨Array.replicate (n.size + 5) 0⟩ : ByteArray).size = n.size + 5 := by
    show (Array.replicate (n.size + 5) (0 : UInt8)).size = n.size + 5
    exact Array.size_replicate
  refine (save_keep (o := ⟨Array.replicate (n.size + 5) 0⟩) (d := ⟨L, z⟩) hG (fun e => ?_) (fun e => ?_)).1
  · rw [e] at h1; omega
  · have h2 : (newN n).size = n.size + 4 := by unfold newN; rw [ByteArray.size_append]; rfl
    rw [e] at h1; omega
theorem save_len {L : List Fl} {n s : ByteArray} {z : Int} (h : L.length ≤ 140737488355328) : (saveD ⟨L, z⟩ n s).1.files.length ≤ 140737488355328 := by
  cases hG : goodD L with
  | true => have := (good_sized (save_good (n := n) (s := s) (z := z) hG)).2; omega
  | false => rw [save_bad (d := ⟨L, z⟩) hG]; exact h
set_option maxRecDepth 100000 in
set_option maxHeartbeats 4000000 in
theorem DiskSaves_any (L : List Fl) (n s : ByteArray) (hn : n.size ≤ 140737488355328) (hs : s.size ≤ 140737488355328) (A : Option Addr) (c : Nat) (z : Int) (w : World) (hP : Fls w w.heap.size A L) (hz : Sized L) (hl : L.length * 48 ≤ 140737488355328) (hc : L.length ≤ c) (hzf : z ≤ 9223372036854775807) (hzg : -9223372036854775808 ≤ z) :
    Calls Try.prog 5 #[.agg (dkArr L A c z), .string n, .string s] w fun e w' => e = .returned (.bool true) ∧ Below w.heap.size w w' := by
  have A0 : Arr (w.alloc (.cells (dkArr L A c z) 24)) w.heap.size 24 (dkArr L A c z) := Arr.new _ _ _
  have b0 : Below w.heap.size w (w.alloc (.cells (dkArr L A c z) 24)) := (Below.refl _ _).alloc (Nat.le_refl _) _
  have hl1 : L.length ≤ 140737488355328 := by omega
  have CC := fun V h => Lib.hid (CopyDisk_any L A c z V h hl)
  have CX := fun (V : World) (A' : Option Addr) (c' : Nat) h h2 => Lib.hid (Save_any L n s hn hs A' c' z V h hz hl1 h2 hzf)
  have CY := fun V h => Lib.hid (RefSave_any L n s hn hs A c z V h hz hl hc hzf hzg)
  have CD := fun V => Lib.hid (disks_law V)
  have hlQ := save_len (n := n) (s := s) (z := z) hl1
  generalize saveD ⟨L, z⟩ n s = Q at *
  obtain ⟨⟨M, y⟩, g⟩ := Q
  have hm1 : M.length ≤ 140737488355328 := hlQ
  clear hlQ
  have CS : ∀ (V : World) (A' B' : Option Addr) (c' d' : Nat), Fls V V.heap.size A' M → Fls V V.heap.size B' M → Hid (Calls Try.prog 17 #[.agg #[.slice A' M.length c', .int .i64 y], .agg #[.slice B' M.length d', .int .i64 y]] V fun e w' => e = .returned (.bool true) ∧ Below V.heap.size V w') := fun V A' B' c' d' h1 h2 => by
    have := RefSameDisk_any M M A' B' c' d' y y V h1 h2 hm1 hm1
    rw [decide_eq_true rfl] at this
    exact this
  go_enter Try.func5, Try.ntmps5
  have c0 : (w.alloc (.cells (dkArr L A c z) 24)).cell? ⟨w.heap.size, 0, none⟩ = some (.slice A L.length c) := A0.cell 0
  have c1 : (w.alloc (.cells (dkArr L A c z) 24)).cell? ⟨w.heap.size, 1, none⟩ = some (.int .i64 z) := A0.cell 1
  have C1 := CC _ (hP.up b0)
  go_wp2_with fail
  (with_reducible refine C1.out.mono ?_)
  clear C1 c0 c1
  rintro _ V1 ⟨A1, k1, rfl, hF1, hk1, b2⟩
  replace A0 := A0.below b2 A0.lt
  replace b0 := b0.trans (b2.mono b0.size)
  clear b2
  have C1 : Hid (Calls Try.prog 25 #[.agg (dkArr L A1 k1 z), .string n, .string s] V1 (StEnd V1 (⟨M, y⟩, g))) := CX V1 A1 k1 hF1 hk1
  clear CX CC
  go_wp2_with fail
  (with_reducible refine C1.out.mono ?_)
  clear C1 hF1 hk1
  rintro _ V5 ⟨Aa, ca, rfl, hFa, hca, b2⟩
  simp only at hFa hca ⊢
  replace A0 := A0.below b2 A0.lt
  replace b0 := b0.trans (b2.mono b0.size)
  clear b2
  have bb : Below V5.heap.size V5 ((V5.alloc (.cells dkZero 24)).setRow V5.heap.size (dkArr M Aa ca y)) := below_setRow ((Below.refl _ _).alloc (Nat.le_refl _) _) (Nat.le_refl _) _
  have AX : Arr ((V5.alloc (.cells dkZero 24)).setRow V5.heap.size (dkArr M Aa ca y)) V5.heap.size 24 (dkArr M Aa ca y) := (Arr.new _ _ _).row _
  go_upto_region 2 with (refine wpList_store_row rfl 24 _ _ rfl V5.heap.size (dkArr M Aa ca y) rfl rfl 24 dkZero (Arr.new V5 _ _) (dkInfo _ _ _ _) rfl (dkArr_one _ _ _ _) ?_)
  refine wp_forget (fun W => Arr W V5.heap.size 24 (dkArr M Aa ca y) ∧ Arr W w.heap.size 24 (dkArr L A c z) ∧ Fls W W.heap.size Aa M ∧ Below w.heap.size w W) (by exact ⟨AX, A0.below bb A0.lt, hFa.up bb, b0.trans (bb.mono b0.size)⟩) ?_
  clear AX bb A0 b0 hFa
  generalize V5.heap.size = qa at *
  rintro W ⟨AX, A0, hFa, b0⟩
  have c0 : W.cell? ⟨w.heap.size, 0, none⟩ = some (.slice A L.length c) := A0.cell 0
  have c1 : W.cell? ⟨w.heap.size, 1, none⟩ = some (.int .i64 z) := A0.cell 1
  have C1 := CY W (hP.up b0)
  clear CY
  go_wp2_with fail
  (with_reducible refine C1.out.mono ?_)
  clear C1 c0 c1
  rintro _ W2 ⟨Ab, cb, rfl, hFb, hcb, b2⟩
  simp only at hFb hcb ⊢
  replace AX := AX.below b2 AX.lt
  replace hFa := hFa.up b2
  replace b0 := b0.trans (b2.mono b0.size)
  clear b2 A0
  have bb : Below W2.heap.size W2 ((W2.alloc (.cells dkZero 24)).setRow W2.heap.size (dkArr M Ab cb y)) := below_setRow ((Below.refl _ _).alloc (Nat.le_refl _) _) (Nat.le_refl _) _
  have AY : Arr ((W2.alloc (.cells dkZero 24)).setRow W2.heap.size (dkArr M Ab cb y)) W2.heap.size 24 (dkArr M Ab cb y) := (Arr.new _ _ _).row _
  go_upto_region 3 with (refine wpList_store_row rfl 24 _ _ rfl W2.heap.size (dkArr M Ab cb y) rfl rfl 24 dkZero (Arr.new W2 _ _) (dkInfo _ _ _ _) rfl (dkArr_one _ _ _ _) ?_)
  refine wp_forget (fun W => Arr W W2.heap.size 24 (dkArr M Ab cb y) ∧ Arr W qa 24 (dkArr M Aa ca y) ∧ Fls W W.heap.size Aa M ∧ Fls W W.heap.size Ab M ∧ Below w.heap.size w W) (by exact ⟨AY, AX.below bb AX.lt, hFa.up bb, hFb.up bb, b0.trans (bb.mono b0.size)⟩) ?_
  clear AX AY bb b0 hFa hFb
  generalize W2.heap.size = qb at *
  rintro W ⟨AY, AX, hFa, hFb, b0⟩
  have d0 : W.cell? ⟨qa, 0, none⟩ = some (.slice Aa M.length ca) := AX.cell 0
  have d1 : W.cell? ⟨qa, 1, none⟩ = some (.int .i64 y) := AX.cell 1
  have e0 : W.cell? ⟨qb, 0, none⟩ = some (.slice Ab M.length cb) := AY.cell 0
  have e1 : W.cell? ⟨qb, 1, none⟩ = some (.int .i64 y) := AY.cell 1
  have C1 := CS W Aa Ab ca cb hFa hFb
  clear CS
  go_wp2_with fail
  (with_reducible refine C1.out.mono ?_)
  clear C1 d0 d1 e0 e1
  rintro _ W3 ⟨rfl, b2⟩
  replace b0 := b0.trans (b2.mono b0.size)
  clear b2
  go_wp2_with fail
  (with_reducible refine (CD W3).out.mono ?_)
  rintro _ W4 ⟨rfl, b2⟩
  go_wp2_with fail
  go_ret
  exact ⟨rfl, b0.trans (b2.mono b0.size)⟩
end Go.Proofs.Ytnijnphalhfabaa
