/- keep.DiskFuse: the walk. -/
import Derived.Test.YtngeiagpodgabaaDkSave
import Derived.Test.YtngeiagpodgabaaOPick
namespace Go.Proofs.Ytngeiagpodgabaa
open Go.RowKit

theorem wr_no12 {L : List Fl} {n s : ByteArray} : ∀ e, wrP L n s = .error e → e ≠ 12 := fun e h => by
  unfold wrP at h
  split at h
  · cases h; decide
  · split at h
    · split at h
      · cases h; decide
      · split at h
        · cases h; decide
        · cases h
    · split at h
      · cases h; decide
      · cases h
/-- what a write upon a disk that is one comes to -/
theorem wr_step {L : List Fl} {n s : ByteArray} {z : Int} (hG : goodD L = true) (h0 : 0 ≤ z) : (z = 0 ∧ stepP ⟨L, z⟩ (wrP L n s) = (⟨L, z⟩, 12)) ∨
    (0 < z ∧ ∃ L', stepP ⟨L, z⟩ (wrP L n s) = (⟨L', z - 1⟩, 0) ∧ goodD L' = true) ∨ (0 < z ∧ ∃ e, stepP ⟨L, z⟩ (wrP L n s) = (⟨L, z⟩, e) ∧ e ≠ 0 ∧ e ≠ 12) := by
  unfold stepP
  simp only [hG, Bool.not_true, Bool.false_eq_true, if_false]
  by_cases hz : z = 0
  · exact .inl ⟨hz, by rw [if_pos hz]⟩
  · right
    rw [if_neg hz]
    cases hr : wrP L n s with
    | error e => exact .inr ⟨by omega, e, rfl, wr_err e hr, wr_no12 e hr⟩
    | ok L' =>
      refine .inl ⟨by omega, L', ?_, (wr_ok hG hr).2.2⟩
      simp only [burnt]
      rw [if_pos (by omega)]
theorem crash_good {L : List Fl} {z : Int} (hG : goodD L = true) (m : Nat) : crashD ⟨L, z⟩ (m : Int) = (⟨L.map (crashF m), -1⟩, 0) := by
  unfold crashD
  simp only [hG, Bool.not_true, Bool.false_or, Int.toNat_natCast]
  rw [if_neg (by simp)]
/-- where the law stands: the disk in its box -/
def FuRel (w : World) (i : Value) (wr : World) : Prop :=
  ∃ (k : Nat) (L : List Fl) (A : Option Addr) (c : Nat) (z : Int), i = .int .i64 (k : Int) ∧ k ≤ 8 ∧ goodD L = true ∧ 0 ≤ z ∧ z ≤ 4 ∧ L.length ≤ c ∧ Arr wr w.heap.size 24 (dkArr L A c z) ∧ Fls wr wr.heap.size A L ∧ Below w.heap.size w wr
set_option maxRecDepth 100000 in
set_option maxHeartbeats 4000000 in
theorem DiskFuse_any (L : List Fl) (n s : ByteArray) (hs : s.size ≤ 140737488355328) (m : Int) (A : Option Addr) (c : Nat) (z : Int) (w : World) (hP : Fls w w.heap.size A L) (hz : Sized L) (hl : L.length ≤ 140737488355328) (hc : L.length ≤ c) :
    Calls Try.prog 8 #[.agg (dkArr L A c z), .string n, .string s, .int .i64 m] w fun e w' => e = .returned (.bool true) ∧ Below w.heap.size w w' := by
  have A0 : Arr (w.alloc (.cells (dkArr L A c z) 24)) w.heap.size 24 (dkArr L A c z) := Arr.new _ _ _
  have b0 : Below w.heap.size w (w.alloc (.cells (dkArr L A c z) 24)) := (Below.refl _ _).alloc (Nat.le_refl _) _
  have CK := fun V => Lib.hid (disks_keep V)
  go_enter Try.func8, Try.ntmps8
  go_upto_region 1 with fail
  refine wp_forget (fun V => Arr V w.heap.size 24 (dkArr L A c z) ∧ Below w.heap.size w V) (by exact ⟨A0, b0⟩) ?_
  clear A0 b0
  rintro V ⟨A0, b0⟩
  have c0 : V.cell? ⟨w.heap.size, 0, none⟩ = some (.slice A L.length c) := A0.cell 0
  have c1 : V.cell? ⟨w.heap.size, 1, none⟩ = some (.int .i64 z) := A0.cell 1
  have CG : Hid (Calls Try.prog 18 #[.agg #[.slice A L.length c, .int .i64 z]] V fun e w' => e = .returned (.bool (goodD L)) ∧ Below V.heap.size V w') := Good_any L A c z V (hP.up b0) hz hl
  cases hg : goodD L with
  | false =>
    rw [hg] at CG
    clear hg
    go_wp2_with fail
    (with_reducible refine CG.out.mono ?_)
    clear CG c0 c1
    rintro _ V2 ⟨rfl, b2⟩
    have b3 := b0.trans (b2.mono b0.size)
    go_wp2_with fail
    (with_reducible refine (CK V2).out.mono ?_)
    rintro _ V3 ⟨rfl, b4⟩
    go_wp2_with fail
    go_ret
    exact ⟨rfl, b3.trans (b4.mono b3.size)⟩
  | true =>
    rw [hg] at CG
    have HG := Lib.hid hg
    clear hg
    go_wp2_with fail
    (with_reducible refine CG.out.mono ?_)
    clear CG c0 c1
    rintro _ V2 ⟨rfl, b2⟩
    replace A0 := A0.below b2 A0.lt
    replace b0 := b0.trans (b2.mono b0.size)
    clear b2
    go_wp2_with fail
    (with_reducible refine (CK V2).out.mono ?_)
    clear CK
    rintro _ V3 ⟨rfl, b2⟩
    replace A0 := A0.below b2 A0.lt
    replace b0 := b0.trans (b2.mono b0.size)
    clear b2
    have CP := Lib.hid (pick_any m 5 (by omega) (by omega) V3)
    obtain ⟨hp0, hp1⟩ := pk_in m 5 (by omega)
    change Hid (Calls Try.prog 28 #[.int .i64 m, .int .i64 5] V3 fun e w' => e = .returned (.int .i64 (pk m 5)) ∧ V3 = w') at CP
    have hp0' : 0 ≤ pk m 5 := hp0
    have hp1' : pk m 5 < 5 := hp1
    clear hp0 hp1
    generalize pk m 5 = y at *
    go_wp2_with fail
    (with_reducible refine CP.out.mono ?_)
    clear CP
    rintro _ V3 ⟨rfl, rfl⟩
    have d1 : V3.cell? ⟨w.heap.size, 1, none⟩ = some (.int .i64 z) := A0.cell 1
    have f1 := A0.free 1
    have A1 : Arr (V3.setCell ⟨w.heap.size, 1, none⟩ (.int .i64 y)) w.heap.size 24 (dkArr L A c y) := A0.put 1 (.int .i64 y)
    have b1 := below_gb b0 (show V3.grownBy (V3.setCell ⟨w.heap.size, 1, none⟩ (.int .i64 y)) (some w.heap.size) from gb_set _ _ _) (Nat.le_refl _) b0.size
    have hR0 : Hid (FuRel w (.int .i64 0) (V3.setCell ⟨w.heap.size, 1, none⟩ (.int .i64 y))) := ⟨0, L, A, c, y, rfl, by omega, HG.out, hp0', by omega, hc, A1, hP.up b1, b1⟩
    clear A0 b0 A1 b1
    go_wp2_with fail
    go_loopw [9] (fun i wr => FuRel w i wr) (fun i _ => 8 - (intOf i).toNat)
    case atStart => exact hR0.out
    case round =>
      clear hR0 d1 f1 HG
      obtain ⟨k, L1, A1, c1, z1, rfl, hk, hG, hz0, hz4, hc1, B0, hF, bel⟩ := hrel
      obtain ⟨hsz, hl4⟩ := good_sized hG
      have c0 : wr.cell? ⟨w.heap.size, 0, none⟩ = some (.slice A1 L1.length c1) := B0.cell 0
      have c1' : wr.cell? ⟨w.heap.size, 1, none⟩ = some (.int .i64 z1) := B0.cell 1
      by_cases hlt : k < 8
      case neg =>
        obtain rfl : k = 8 := by omega
        have hj : ¬ ((8 : Nat) : Int) < 8 := by omega
        have CC := Lib.hid (Crash_any L1 0 (by omega) A1 c1 z1 wr hF hsz (by omega) hc1)
        rw [show crashD ⟨L1, z1⟩ 0 = (⟨L1.map (crashF 0), -1⟩, 0) from crash_good hG 0] at CC
        go_wp2_with fail
        (with_reducible refine CC.out.mono ?_)
        clear CC c0 c1'
        rintro _ V4 ⟨A4, c4, rfl, _, _, b4⟩
        have b5 := bel.trans (b4.mono bel.size)
        have bb : Below V4.heap.size V4 ((V4.alloc (.cells dkZero 24)).setRow V4.heap.size (dkArr (L1.map (crashF 0)) A4 c4 (-1))) := below_setRow ((Below.refl _ _).alloc (Nat.le_refl _) _) (Nat.le_refl _) _
        have AX : Arr ((V4.alloc (.cells dkZero 24)).setRow V4.heap.size (dkArr (L1.map (crashF 0)) A4 c4 (-1))) V4.heap.size 24 (dkArr (L1.map (crashF 0)) A4 c4 (-1)) := (Arr.new _ _ _).row _
        go_upto_region 13 with (refine wpList_store_row rfl 24 _ _ rfl V4.heap.size (dkArr (L1.map (crashF 0)) A4 c4 (-1)) rfl rfl 24 dkZero (Arr.new V4 _ _) (dkInfo _ _ _ _) rfl (dkArr_one _ _ _ _) ?_)
        refine wp_forget (fun W => Arr W V4.heap.size 24 (dkArr (L1.map (crashF 0)) A4 c4 (-1)) ∧ Below w.heap.size w W) (by exact ⟨AX, b5.trans (bb.mono b5.size)⟩) ?_
        clear AX bb b5 b4
        generalize V4.heap.size = q
        rintro W ⟨AX, b5⟩
        have e1 : W.cell? ⟨q, 1, none⟩ = some (.int .i64 (-1)) := AX.cell 1
        go_wp2_with fail
        go_ret
        exact ⟨rfl, b5⟩
      have hj : (k : Int) < 8 := by omega
      have CW := Lib.hid (Write_any L1 n s hs A1 c1 z1 wr hF hsz (by omega) hc1 (by omega))
      have HW := Lib.hid (wr_step (n := n) (s := s) hG hz0)
      generalize stepP ⟨L1, z1⟩ (wrP L1 n s) = Q at *
      obtain ⟨⟨L2, z2⟩, e⟩ := Q
      go_wp2_with fail
      (with_reducible refine CW.out.mono ?_)
      clear CW c0 c1'
      rintro _ V4 ⟨A2, c2, rfl, hF2, hc2, b4⟩
      simp only at hF2 hc2 ⊢
      have B1 := B0.below b4 B0.lt
      have hF1 := hF.up b4
      have b5 := bel.trans (b4.mono bel.size)
      have hlq := B1.lt
      clear B0 hF bel b4
      have bb : Below V4.heap.size V4 ((V4.alloc (.cells dkZero 24)).setRow V4.heap.size (dkArr L2 A2 c2 z2)) := below_setRow ((Below.refl _ _).alloc (Nat.le_refl _) _) (Nat.le_refl _) _
      have AX : Arr ((V4.alloc (.cells dkZero 24)).setRow V4.heap.size (dkArr L2 A2 c2 z2)) V4.heap.size 24 (dkArr L2 A2 c2 z2) := (Arr.new _ _ _).row _
      go_upto_region 9 with (refine wpList_store_row rfl 24 _ _ rfl V4.heap.size (dkArr L2 A2 c2 z2) rfl rfl 24 dkZero (Arr.new V4 _ _) (dkInfo _ _ _ _) rfl (dkArr_one _ _ _ _) ?_)
      refine wp_forget (fun W => Arr W V4.heap.size 24 (dkArr L2 A2 c2 z2) ∧ Arr W w.heap.size 24 (dkArr L1 A1 c1 z1) ∧ Fls W W.heap.size A1 L1 ∧ Fls W W.heap.size A2 L2 ∧ Below w.heap.size w W) (by exact ⟨AX, B1.below bb B1.lt, hF1.up bb, hF2.up bb, b5.trans (bb.mono b5.size)⟩) ?_
      clear AX bb b5 B1 hF1 hF2
      generalize V4.heap.size = q at *
      rintro W ⟨AX, B1, hF1, hF2, b5⟩
      have c0 : W.cell? ⟨w.heap.size, 0, none⟩ = some (.slice A1 L1.length c1) := B1.cell 0
      have c1' : W.cell? ⟨w.heap.size, 1, none⟩ = some (.int .i64 z1) := B1.cell 1
      have d0 : W.cell? ⟨q, 0, none⟩ = some (.slice A2 L2.length c2) := AX.cell 0
      have d1 : W.cell? ⟨q, 1, none⟩ = some (.int .i64 z2) := AX.cell 1
      rcases HW.out with ⟨rfl, he⟩ | ⟨hzp, L3, he, hG3⟩ | ⟨hzp, e3, he, he0, he12⟩
      · simp only [Prod.mk.injEq, Dk.mk.injEq] at he
        obtain ⟨⟨rfl, rfl⟩, rfl⟩ := he
        have CS := Lib.hid (sameDisk_any L2 L2 A2 A1 c2 c1 0 0 W hF2 hF1 (by omega) (by omega))
        simp only [decide_true] at CS
        clear HW
        go_wp2_with fail
        (with_reducible refine CS.out.mono ?_)
        clear CS c0 c1' d0 d1
        rintro _ W2 ⟨rfl, b6⟩
        replace AX := AX.below b6 AX.lt
        replace B1 := B1.below b6 B1.lt
        replace hF2 := hF2.up b6
        replace b5 := b5.trans (b6.mono b5.size)
        have c1' : W2.cell? ⟨w.heap.size, 1, none⟩ = some (.int .i64 0) := B1.cell 1
        have d0 : W2.cell? ⟨q, 0, none⟩ = some (.slice A2 L2.length c2) := AX.cell 0
        have d1 : W2.cell? ⟨q, 1, none⟩ = some (.int .i64 0) := AX.cell 1
        have hFr := hF2.rowD B1 (dkArr L2 A2 c2 0)
        have br := below_setRow b5 (Nat.le_refl _) (dkArr L2 A2 c2 0)
        have Br := B1.row (dkArr L2 A2 c2 0)
        go_wp2_with (refine wpList_store_row rfl 24 _ _ rfl w.heap.size (dkArr L2 A2 c2 0) rfl rfl 24 (dkArr L2 A1 c1 0) B1 (dkInfo _ _ _ _) rfl (dkArr_one _ _ _ _) ?_)
        go_roundw
        case rel => exact ⟨k + 1, L2, A2, c2, 0, by rw [Int.natCast_add]; rfl, by omega, hG, by omega, by omega, hc2, Br, hFr, br⟩
        case measure => simp [intOf]; omega
      · simp only [Prod.mk.injEq, Dk.mk.injEq] at he
        obtain ⟨⟨rfl, rfl⟩, rfl⟩ := he
        have i1 : (z1 == 0) = false := by rw [beq_eq_false_iff_ne]; omega
        have i2 : IntKind.i64.wrap (z1 - (z1 - 1)) = 1 := by rw [show z1 - (z1 - 1) = 1 from by omega]; rfl
        clear HW
        have hFr := hF2.rowD B1 (dkArr L2 A2 c2 (z1 - 1))
        have br := below_setRow b5 (Nat.le_refl _) (dkArr L2 A2 c2 (z1 - 1))
        have Br := B1.row (dkArr L2 A2 c2 (z1 - 1))
        go_wp2_with (refine wpList_store_row rfl 24 _ _ rfl w.heap.size (dkArr L2 A2 c2 (z1 - 1)) rfl rfl 24 (dkArr L1 A1 c1 z1) B1 (dkInfo _ _ _ _) rfl (dkArr_one _ _ _ _) ?_)
        go_roundw
        case rel => exact ⟨k + 1, L2, A2, c2, z1 - 1, by rw [Int.natCast_add]; rfl, by omega, hG3, by omega, by omega, hc2, Br, hFr, br⟩
        case measure => simp [intOf]; omega
      · simp only [Prod.mk.injEq, Dk.mk.injEq] at he
        obtain ⟨⟨rfl, rfl⟩, rfl⟩ := he
        have i1 : (z2 == 0) = false := by rw [beq_eq_false_iff_ne]; omega
        have i2 : (e == 12) = false := by rw [beq_eq_false_iff_ne]; exact he12
        have i3 : (e == 0) = false := by rw [beq_eq_false_iff_ne]; exact he0
        have i4 : (e != 0) = true := by simpa using he0
        have CS := Lib.hid (sameDisk_any L2 L2 A2 A1 c2 c1 z2 z2 W hF2 hF1 (by omega) (by omega))
        simp only [decide_true] at CS
        clear HW he0 he12
        go_wp2_with fail
        (with_reducible refine CS.out.mono ?_)
        clear CS c0 c1' d0 d1
        rintro _ W2 ⟨rfl, b6⟩
        replace AX := AX.below b6 AX.lt
        replace B1 := B1.below b6 B1.lt
        replace hF2 := hF2.up b6
        replace b5 := b5.trans (b6.mono b5.size)
        have d0 : W2.cell? ⟨q, 0, none⟩ = some (.slice A2 L2.length c2) := AX.cell 0
        have d1 : W2.cell? ⟨q, 1, none⟩ = some (.int .i64 z2) := AX.cell 1
        have hFr := hF2.rowD B1 (dkArr L2 A2 c2 z2)
        have br := below_setRow b5 (Nat.le_refl _) (dkArr L2 A2 c2 z2)
        have Br := B1.row (dkArr L2 A2 c2 z2)
        go_wp2_with (refine wpList_store_row rfl 24 _ _ rfl w.heap.size (dkArr L2 A2 c2 z2) rfl rfl 24 (dkArr L2 A1 c1 z2) B1 (dkInfo _ _ _ _) rfl (dkArr_one _ _ _ _) ?_)
        go_roundw
        case rel => exact ⟨k + 1, L2, A2, c2, z2, by rw [Int.natCast_add]; rfl, by omega, hG, by omega, by omega, hc2, Br, hFr, br⟩
        case measure => simp [intOf]; omega
end Go.Proofs.Ytngeiagpodgabaa
