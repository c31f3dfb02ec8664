/- disk.step: its contract, at each change. -/
import Derived.Test.YtnijnphalhfabaaDkCh5
namespace Go.Proofs.Ytnijnphalhfabaa
open Go.RowKit

/-- a disk and an error, handed back -/
def StEnd (w : World) (d : Dk × Int) (x : Ending) (w' : World) : Prop :=
  ∃ A c, x = .returned (.tuple #[.agg (dkArr d.1.files A c d.1.fuse), .int .i64 d.2]) ∧ Fls w' w'.heap.size A d.1.files ∧ d.1.files.length ≤ c ∧ Below w.heap.size w w'
theorem own_fls {w : World} {base : Nat} {v : Value} {L : List Fl} (h : w.ownsRow base 50 3 v L.length (flCells L)) : ∃ A c, v = .slice A L.length c ∧ L.length ≤ c ∧ Fls w w.heap.size A L := own_files h
set_option maxRecDepth 100000 in
set_option maxHeartbeats 2000000 in
theorem stepRemove_any (L : List Fl) (n : ByteArray) (A : Option Addr) (c : Nat) (z : Int) (w : World) (hP : Fls w w.heap.size A L) (hz : Sized L) (hl : L.length ≤ 140737488355328) (hc : L.length ≤ c) (hzf : z ≤ 9223372036854775807) (p1 : Nat) (hp1 : w.cell? ⟨p1, 0, none⟩ = some (.string n)) (hq1 : p1 < w.heap.size) :
    Calls Try.prog 30 #[.agg (dkArr L A c z), .func (.func 41) #[] #[.pointer (some ⟨p1, 0, none⟩)]] w (StEnd w (stepP ⟨L, z⟩ (rmP L n))) := by
  have A0 : Arr ((w.alloc (.cells (dkArr L A c z) 24)).alloc (.cells dkZero 24)) w.heap.size 24 (dkArr L A c z) := (Arr.new _ _ _).alloc _
  have A1 : Arr ((w.alloc (.cells (dkArr L A c z) 24)).alloc (.cells dkZero 24)) (w.heap.size + 1) 24 dkZero := Arr.new_at _ _ _ (by simp)
  have b0 : Below w.heap.size w ((w.alloc (.cells (dkArr L A c z) 24)).alloc (.cells dkZero 24)) := ((Below.refl _ _).alloc (Nat.le_refl _) _).alloc (by simp) _
  have HS : Hid (stepP ⟨L, z⟩ (rmP L n) = if !goodD L then (⟨L, z⟩, 3) else if z = 0 then (⟨L, z⟩, 12) else match rmP L n with
    | .error e => (⟨L, z⟩, e)
    | .ok L' => (⟨L', burnt z⟩, 0)) := rfl
  generalize stepP ⟨L, z⟩ (rmP L n) = Q at *
  go_enter Try.func30, Try.ntmps30
  go_upto_region 1 with fail
  refine wp_forget (fun V => Arr V w.heap.size 24 (dkArr L A c z) ∧ Arr V (w.heap.size + 1) 24 dkZero ∧ Below w.heap.size w V) (by exact ⟨A0, A1, b0⟩) ?_
  clear A0 A1 b0
  rintro V ⟨A0, A1, b0⟩
  have c0 : V.cell? ⟨w.heap.size, 0, none⟩ = some (.slice A L.length c) := A0.cell 0
  have c1 : V.cell? ⟨w.heap.size, 1, none⟩ = some (.int .i64 z) := A0.cell 1
  have CG : Hid (Calls Try.prog 18 #[.agg #[.slice A L.length c, .int .i64 z]] V fun e w' => e = .returned (.bool (goodD L)) ∧ Below V.heap.size V w') := Good_any L A c z V (hP.up b0) hz hl
  have HRet : Hid (∀ (W : World) (a : Act) (d : Dk) (A' : Option Addr) (c' : Nat) (e : Int), Arr W (w.heap.size + 1) 24 (dkArr d.files A' c' d.fuse) → Below w.heap.size w W → Fls W W.heap.size A' d.files → d.files.length ≤ c' → a.tmps[4]? = some (.pointer (some ⟨w.heap.size + 1, 0, none⟩)) → a.tmps[5]? = some (.int .i64 e) → a.defers = [] → bodyPost Try.prog Try.f30 (StEnd w (d, e)) .ret a W) := fun W a d A' c' e h1 h2 h3 h4 h5 h6 h7 => by
    refine bodyPost_ret (v := .tuple #[.agg (dkArr d.files A' c' d.fuse), .int .i64 e]) ?_ h7 ⟨A', c', rfl, h3, h4, h2⟩
    rw [results_cell_tmp Try.results30]
    have hld := run_loadVar_row (P := Try.prog) _ _ _ 24 _ _ _ h1 Try.underlying24 rfl (dkInfo _ _ _ _)
    simp [Array.getD_eq_getD_getElem?, h5, h6, asAddr, hld, Result.andThen]
  cases hg : goodD L with
  | false =>
    rw [hg] at CG
    have HQ : Hid (Q = (⟨L, z⟩, 3)) := by show _ = _; rw [HS.out, hg]; rfl
    clear HS hg
    go_wp2_with fail
    (with_reducible refine CG.out.mono ?_)
    clear CG c0 c1
    rintro _ V2 ⟨rfl, b2⟩
    have A2 := A0.below b2 A0.lt
    have A3 := A1.below b2 A1.lt
    have b3 := b0.trans (b2.mono b0.size)
    have c0 : V2.cell? ⟨w.heap.size, 0, none⟩ = some (.slice A L.length c) := A2.cell 0
    have c1 : V2.cell? ⟨w.heap.size, 1, none⟩ = some (.int .i64 z) := A2.cell 1
    go_wp2_with (refine wpList_store_row rfl 24 _ _ rfl (w.heap.size + 1) (dkArr L A c z) rfl rfl 24 dkZero A3 (dkInfo _ _ _ _) rfl (dkArr_one _ _ _ _) ?_)
    rw [HQ.out]
    have b4 := below_setRow b3 (show w.heap.size ≤ w.heap.size + 1 by omega) (dkArr L A c z)
    exact HRet.out _ _ ⟨L, z⟩ A c 3 (A3.row _) b4 (hP.up b4) hc rfl rfl rfl
  | true =>
    rw [hg] at CG
    by_cases h0 : z = 0
    · have HQ : Hid (Q = (⟨L, z⟩, 12)) := by show _ = _; rw [HS.out, hg, if_pos h0]; rfl
      subst h0
      clear HS hg
      go_wp2_with fail
      (with_reducible refine CG.out.mono ?_)
      clear CG c0 c1
      rintro _ V2 ⟨rfl, b2⟩
      have A2 := A0.below b2 A0.lt
      have A3 := A1.below b2 A1.lt
      have b3 := b0.trans (b2.mono b0.size)
      have c0 : V2.cell? ⟨w.heap.size, 0, none⟩ = some (.slice A L.length c) := A2.cell 0
      have c1 : V2.cell? ⟨w.heap.size, 1, none⟩ = some (.int .i64 0) := A2.cell 1
      go_wp2_with (refine wpList_store_row rfl 24 _ _ rfl (w.heap.size + 1) (dkArr L A c 0) rfl rfl 24 dkZero A3 (dkInfo _ _ _ _) rfl (dkArr_one _ _ _ _) ?_)
      rw [HQ.out]
      have b4 := below_setRow b3 (show w.heap.size ≤ w.heap.size + 1 by omega) (dkArr L A c 0)
      exact HRet.out _ _ ⟨L, 0⟩ A c 12 (A3.row _) b4 (hP.up b4) hc rfl rfl rfl
    have HQ : Hid (Q = match rmP L n with
      | .error e => (⟨L, z⟩, e)
      | .ok L' => (⟨L', burnt z⟩, 0)) := by show _ = _; rw [HS.out, hg, if_neg h0]; rfl
    have h0' : (z == 0) = false := by rw [beq_eq_false_iff_ne]; exact h0
    obtain ⟨h4, _, _⟩ := (goodD_iff L).1 hg
    have CH := fun v base (V : World) h (h1 : V.cell? ⟨p1, 0, none⟩ = some (.string n) ∧ base ≤ V.heap.size) => Lib.hid (removeCh_any L n hg v base p1 V h h1.1 h1.2)
    generalize rmP L n = R at *
    clear HS hg h0
    go_wp2_with fail
    (with_reducible refine CG.out.mono ?_)
    clear CG c0 c1
    rintro _ V2 ⟨rfl, b2⟩
    have A2 := A0.below b2 A0.lt
    have A3 := A1.below b2 A1.lt
    have b3 := b0.trans (b2.mono b0.size)
    clear A0 A1 b0 b2
    have c0 : V2.cell? ⟨w.heap.size, 0, none⟩ = some (.slice A L.length c) := A2.cell 0
    have c1 : V2.cell? ⟨w.heap.size, 1, none⟩ = some (.int .i64 z) := A2.cell 1
    have CL := Lib.hid (Clone_any L A c V2 (hP.up b3) (by omega))
    go_wp2_with fail
    (with_reducible refine CL.out.mono ?_)
    clear CL c0 c1
    rintro _ V3 ⟨v3, rfl, h3, b4⟩
    have A4 := A2.below b4 A2.lt
    have A5 := A3.below b4 A3.lt
    have b5 := b3.trans (b4.mono b3.size)
    have hw3 := A5.lt
    have hw2 := A3.lt
    have C3 := CH v3 V2.heap.size V3 h3 ⟨((b5.cell (p := ⟨p1, 0, none⟩) hq1).trans hp1), b4.size⟩
    clear CH A2
    go_wp2_with fail
    (with_reducible refine C3.out.mono ?_)
    clear C3
    rintro x V4 ⟨hx, b6⟩
    have A6 := A4.below b6 (Nat.lt_of_lt_of_le (by omega) (Nat.le_refl _))
    have A7 := A5.below b6 (Nat.lt_of_lt_of_le (by omega) (Nat.le_refl _))
    have b7 := b5.trans (b6.mono b3.size)
    clear A4 A5 b6
    have c0 : V4.cell? ⟨w.heap.size, 0, none⟩ = some (.slice A L.length c) := A6.cell 0
    have c1 : V4.cell? ⟨w.heap.size, 1, none⟩ = some (.int .i64 z) := A6.cell 1
    cases R with
    | error e =>
      obtain ⟨he, rfl⟩ := hx
      go_wp2_with (refine wpList_store_row rfl 24 _ _ rfl (w.heap.size + 1) (dkArr L A c z) rfl rfl 24 dkZero A7 (dkInfo _ _ _ _) rfl (dkArr_one _ _ _ _) ?_)
      rw [HQ.out]
      have b8 := below_setRow b7 (show w.heap.size ≤ w.heap.size + 1 by omega) (dkArr L A c z)
      exact HRet.out _ _ ⟨L, z⟩ A c e (A7.row _) b8 (hP.up b8) hc rfl rfl rfl
    | ok L' =>
      obtain ⟨v', rfl, h8⟩ := hx
      obtain ⟨A', c', rfl, hc', hF'⟩ := own_files h8
      have CB := Lib.hid (burnt_any z hzf V4)
      go_wp2_with fail
      (with_reducible refine CB.out.mono ?_)
      clear CB
      rintro _ V4 ⟨rfl, rfl⟩
      generalize hbz : burnt z = bz at *
      have HBz := Lib.hid hbz
      clear hbz
      go_wp2_with (refine wpList_store_row rfl 24 _ _ rfl (w.heap.size + 1) (dkArr L' A' c' bz) rfl rfl 24 dkZero A7 (dkInfo _ _ _ _) rfl (dkArr_one _ _ _ _) ?_)
      rw [HQ.out]
      have b8 := below_setRow b7 (show w.heap.size ≤ w.heap.size + 1 by omega) (dkArr L' A' c' bz)
      have k8 : V4.grownBy (V4.setRow (w.heap.size + 1) (dkArr L' A' c' bz)) (some (w.heap.size + 1)) := gb_row _ _
      have h9 := own_kp h8 (Kp.gb k8) (fun q hq e => by have := own_row_ge h8 q hq; have := Option.some.inj e; omega)
      obtain ⟨A9, c9, e9, hc9, hF9⟩ := own_files h9
      simp only [Value.slice.injEq] at e9
      obtain ⟨rfl, _, rfl⟩ := e9
      exact HRet.out _ _ ⟨L', bz⟩ A' c' 0 (A7.row _) b8 hF9 hc9 rfl rfl rfl
set_option maxRecDepth 100000 in
set_option maxHeartbeats 2000000 in
theorem stepSync_any (L : List Fl) (n : ByteArray) (A : Option Addr) (c : Nat) (z : Int) (w : World) (hP : Fls w w.heap.size A L) (hz : Sized L) (hl : L.length ≤ 140737488355328) (hc : L.length ≤ c) (hzf : z ≤ 9223372036854775807) (p1 : Nat) (hp1 : w.cell? ⟨p1, 0, none⟩ = some (.string n)) (hq1 : p1 < w.heap.size) :
    Calls Try.prog 30 #[.agg (dkArr L A c z), .func (.func 36) #[] #[.pointer (some ⟨p1, 0, none⟩)]] w (StEnd w (stepP ⟨L, z⟩ (syP L n))) := by
  have A0 : Arr ((w.alloc (.cells (dkArr L A c z) 24)).alloc (.cells dkZero 24)) w.heap.size 24 (dkArr L A c z) := (Arr.new _ _ _).alloc _
  have A1 : Arr ((w.alloc (.cells (dkArr L A c z) 24)).alloc (.cells dkZero 24)) (w.heap.size + 1) 24 dkZero := Arr.new_at _ _ _ (by simp)
  have b0 : Below w.heap.size w ((w.alloc (.cells (dkArr L A c z) 24)).alloc (.cells dkZero 24)) := ((Below.refl _ _).alloc (Nat.le_refl _) _).alloc (by simp) _
  have HS : Hid (stepP ⟨L, z⟩ (syP L n) = if !goodD L then (⟨L, z⟩, 3) else if z = 0 then (⟨L, z⟩, 12) else match syP L n with
    | .error e => (⟨L, z⟩, e)
    | .ok L' => (⟨L', burnt z⟩, 0)) := rfl
  generalize stepP ⟨L, z⟩ (syP L n) = Q at *
  go_enter Try.func30, Try.ntmps30
  go_upto_region 1 with fail
  refine wp_forget (fun V => Arr V w.heap.size 24 (dkArr L A c z) ∧ Arr V (w.heap.size + 1) 24 dkZero ∧ Below w.heap.size w V) (by exact ⟨A0, A1, b0⟩) ?_
  clear A0 A1 b0
  rintro V ⟨A0, A1, b0⟩
  have c0 : V.cell? ⟨w.heap.size, 0, none⟩ = some (.slice A L.length c) := A0.cell 0
  have c1 : V.cell? ⟨w.heap.size, 1, none⟩ = some (.int .i64 z) := A0.cell 1
  have CG : Hid (Calls Try.prog 18 #[.agg #[.slice A L.length c, .int .i64 z]] V fun e w' => e = .returned (.bool (goodD L)) ∧ Below V.heap.size V w') := Good_any L A c z V (hP.up b0) hz hl
  have HRet : Hid (∀ (W : World) (a : Act) (d : Dk) (A' : Option Addr) (c' : Nat) (e : Int), Arr W (w.heap.size + 1) 24 (dkArr d.files A' c' d.fuse) → Below w.heap.size w W → Fls W W.heap.size A' d.files → d.files.length ≤ c' → a.tmps[4]? = some (.pointer (some ⟨w.heap.size + 1, 0, none⟩)) → a.tmps[5]? = some (.int .i64 e) → a.defers = [] → bodyPost Try.prog Try.f30 (StEnd w (d, e)) .ret a W) := fun W a d A' c' e h1 h2 h3 h4 h5 h6 h7 => by
    refine bodyPost_ret (v := .tuple #[.agg (dkArr d.files A' c' d.fuse), .int .i64 e]) ?_ h7 ⟨A', c', rfl, h3, h4, h2⟩
    rw [results_cell_tmp Try.results30]
    have hld := run_loadVar_row (P := Try.prog) _ _ _ 24 _ _ _ h1 Try.underlying24 rfl (dkInfo _ _ _ _)
    simp [Array.getD_eq_getD_getElem?, h5, h6, asAddr, hld, Result.andThen]
  cases hg : goodD L with
  | false =>
    rw [hg] at CG
    have HQ : Hid (Q = (⟨L, z⟩, 3)) := by show _ = _; rw [HS.out, hg]; rfl
    clear HS hg
    go_wp2_with fail
    (with_reducible refine CG.out.mono ?_)
    clear CG c0 c1
    rintro _ V2 ⟨rfl, b2⟩
    have A2 := A0.below b2 A0.lt
    have A3 := A1.below b2 A1.lt
    have b3 := b0.trans (b2.mono b0.size)
    have c0 : V2.cell? ⟨w.heap.size, 0, none⟩ = some (.slice A L.length c) := A2.cell 0
    have c1 : V2.cell? ⟨w.heap.size, 1, none⟩ = some (.int .i64 z) := A2.cell 1
    go_wp2_with (refine wpList_store_row rfl 24 _ _ rfl (w.heap.size + 1) (dkArr L A c z) rfl rfl 24 dkZero A3 (dkInfo _ _ _ _) rfl (dkArr_one _ _ _ _) ?_)
    rw [HQ.out]
    have b4 := below_setRow b3 (show w.heap.size ≤ w.heap.size + 1 by omega) (dkArr L A c z)
    exact HRet.out _ _ ⟨L, z⟩ A c 3 (A3.row _) b4 (hP.up b4) hc rfl rfl rfl
  | true =>
    rw [hg] at CG
    by_cases h0 : z = 0
    · have HQ : Hid (Q = (⟨L, z⟩, 12)) := by show _ = _; rw [HS.out, hg, if_pos h0]; rfl
      subst h0
      clear HS hg
      go_wp2_with fail
      (with_reducible refine CG.out.mono ?_)
      clear CG c0 c1
      rintro _ V2 ⟨rfl, b2⟩
      have A2 := A0.below b2 A0.lt
      have A3 := A1.below b2 A1.lt
      have b3 := b0.trans (b2.mono b0.size)
      have c0 : V2.cell? ⟨w.heap.size, 0, none⟩ = some (.slice A L.length c) := A2.cell 0
      have c1 : V2.cell? ⟨w.heap.size, 1, none⟩ = some (.int .i64 0) := A2.cell 1
      go_wp2_with (refine wpList_store_row rfl 24 _ _ rfl (w.heap.size + 1) (dkArr L A c 0) rfl rfl 24 dkZero A3 (dkInfo _ _ _ _) rfl (dkArr_one _ _ _ _) ?_)
      rw [HQ.out]
      have b4 := below_setRow b3 (show w.heap.size ≤ w.heap.size + 1 by omega) (dkArr L A c 0)
      exact HRet.out _ _ ⟨L, 0⟩ A c 12 (A3.row _) b4 (hP.up b4) hc rfl rfl rfl
    have HQ : Hid (Q = match syP L n with
      | .error e => (⟨L, z⟩, e)
      | .ok L' => (⟨L', burnt z⟩, 0)) := by show _ = _; rw [HS.out, hg, if_neg h0]; rfl
    have h0' : (z == 0) = false := by rw [beq_eq_false_iff_ne]; exact h0
    obtain ⟨h4, _, _⟩ := (goodD_iff L).1 hg
    have CH := fun v base (V : World) h (h1 : V.cell? ⟨p1, 0, none⟩ = some (.string n) ∧ base ≤ V.heap.size) => Lib.hid (syncCh_any L n hg v base p1 V h h1.1 h1.2)
    generalize syP L n = R at *
    clear HS hg h0
    go_wp2_with fail
    (with_reducible refine CG.out.mono ?_)
    clear CG c0 c1
    rintro _ V2 ⟨rfl, b2⟩
    have A2 := A0.below b2 A0.lt
    have A3 := A1.below b2 A1.lt
    have b3 := b0.trans (b2.mono b0.size)
    clear A0 A1 b0 b2
    have c0 : V2.cell? ⟨w.heap.size, 0, none⟩ = some (.slice A L.length c) := A2.cell 0
    have c1 : V2.cell? ⟨w.heap.size, 1, none⟩ = some (.int .i64 z) := A2.cell 1
    have CL := Lib.hid (Clone_any L A c V2 (hP.up b3) (by omega))
    go_wp2_with fail
    (with_reducible refine CL.out.mono ?_)
    clear CL c0 c1
    rintro _ V3 ⟨v3, rfl, h3, b4⟩
    have A4 := A2.below b4 A2.lt
    have A5 := A3.below b4 A3.lt
    have b5 := b3.trans (b4.mono b3.size)
    have hw3 := A5.lt
    have hw2 := A3.lt
    have C3 := CH v3 V2.heap.size V3 h3 ⟨((b5.cell (p := ⟨p1, 0, none⟩) hq1).trans hp1), b4.size⟩
    clear CH A2
    go_wp2_with fail
    (with_reducible refine C3.out.mono ?_)
    clear C3
    rintro x V4 ⟨hx, b6⟩
    have A6 := A4.below b6 (Nat.lt_of_lt_of_le (by omega) (Nat.le_refl _))
    have A7 := A5.below b6 (Nat.lt_of_lt_of_le (by omega) (Nat.le_refl _))
    have b7 := b5.trans (b6.mono b3.size)
    clear A4 A5 b6
    have c0 : V4.cell? ⟨w.heap.size, 0, none⟩ = some (.slice A L.length c) := A6.cell 0
    have c1 : V4.cell? ⟨w.heap.size, 1, none⟩ = some (.int .i64 z) := A6.cell 1
    cases R with
    | error e =>
      obtain ⟨he, rfl⟩ := hx
      go_wp2_with (refine wpList_store_row rfl 24 _ _ rfl (w.heap.size + 1) (dkArr L A c z) rfl rfl 24 dkZero A7 (dkInfo _ _ _ _) rfl (dkArr_one _ _ _ _) ?_)
      rw [HQ.out]
      have b8 := below_setRow b7 (show w.heap.size ≤ w.heap.size + 1 by omega) (dkArr L A c z)
      exact HRet.out _ _ ⟨L, z⟩ A c e (A7.row _) b8 (hP.up b8) hc rfl rfl rfl
    | ok L' =>
      obtain ⟨v', rfl, h8⟩ := hx
      obtain ⟨A', c', rfl, hc', hF'⟩ := own_files h8
      have CB := Lib.hid (burnt_any z hzf V4)
      go_wp2_with fail
      (with_reducible refine CB.out.mono ?_)
      clear CB
      rintro _ V4 ⟨rfl, rfl⟩
      generalize hbz : burnt z = bz at *
      have HBz := Lib.hid hbz
      clear hbz
      go_wp2_with (refine wpList_store_row rfl 24 _ _ rfl (w.heap.size + 1) (dkArr L' A' c' bz) rfl rfl 24 dkZero A7 (dkInfo _ _ _ _) rfl (dkArr_one _ _ _ _) ?_)
      rw [HQ.out]
      have b8 := below_setRow b7 (show w.heap.size ≤ w.heap.size + 1 by omega) (dkArr L' A' c' bz)
      have k8 : V4.grownBy (V4.setRow (w.heap.size + 1) (dkArr L' A' c' bz)) (some (w.heap.size + 1)) := gb_row _ _
      have h9 := own_kp h8 (Kp.gb k8) (fun q hq e => by have := own_row_ge h8 q hq; have := Option.some.inj e; omega)
      obtain ⟨A9, c9, e9, hc9, hF9⟩ := own_files h9
      simp only [Value.slice.injEq] at e9
      obtain ⟨rfl, _, rfl⟩ := e9
      exact HRet.out _ _ ⟨L', bz⟩ A' c' 0 (A7.row _) b8 hF9 hc9 rfl rfl rfl
set_option maxRecDepth 100000 in
set_option maxHeartbeats 2000000 in
theorem stepRename_any (L : List Fl) (n m : ByteArray) (A : Option Addr) (c : Nat) (z : Int) (w : World) (hP : Fls w w.heap.size A L) (hz : Sized L) (hl : L.length ≤ 140737488355328) (hc : L.length ≤ c) (hzf : z ≤ 9223372036854775807) (p1 p2 : Nat) (hp1 : w.cell? ⟨p1, 0, none⟩ = some (.string m)) (hp2 : w.cell? ⟨p2, 0, none⟩ = some (.string n)) (hq1 : p1 < w.heap.size) (hq2 : p2 < w.heap.size) :
    Calls Try.prog 30 #[.agg (dkArr L A c z), .func (.func 38) #[] #[.pointer (some ⟨p1, 0, none⟩), .pointer (some ⟨p2, 0, none⟩)]] w (StEnd w (stepP ⟨L, z⟩ (rnP L n m))) := by
  have A0 : Arr ((w.alloc (.cells (dkArr L A c z) 24)).alloc (.cells dkZero 24)) w.heap.size 24 (dkArr L A c z) := (Arr.new _ _ _).alloc _
  have A1 : Arr ((w.alloc (.cells (dkArr L A c z) 24)).alloc (.cells dkZero 24)) (w.heap.size + 1) 24 dkZero := Arr.new_at _ _ _ (by simp)
  have b0 : Below w.heap.size w ((w.alloc (.cells (dkArr L A c z) 24)).alloc (.cells dkZero 24)) := ((Below.refl _ _).alloc (Nat.le_refl _) _).alloc (by simp) _
  have HS : Hid (stepP ⟨L, z⟩ (rnP L n m) = if !goodD L then (⟨L, z⟩, 3) else if z = 0 then (⟨L, z⟩, 12) else match rnP L n m with
    | .error e => (⟨L, z⟩, e)
    | .ok L' => (⟨L', burnt z⟩, 0)) := rfl
  generalize stepP ⟨L, z⟩ (rnP L n m) = Q at *
  go_enter Try.func30, Try.ntmps30
  go_upto_region 1 with fail
  refine wp_forget (fun V => Arr V w.heap.size 24 (dkArr L A c z) ∧ Arr V (w.heap.size + 1) 24 dkZero ∧ Below w.heap.size w V) (by exact ⟨A0, A1, b0⟩) ?_
  clear A0 A1 b0
  rintro V ⟨A0, A1, b0⟩
  have c0 : V.cell? ⟨w.heap.size, 0, none⟩ = some (.slice A L.length c) := A0.cell 0
  have c1 : V.cell? ⟨w.heap.size, 1, none⟩ = some (.int .i64 z) := A0.cell 1
  have CG : Hid (Calls Try.prog 18 #[.agg #[.slice A L.length c, .int .i64 z]] V fun e w' => e = .returned (.bool (goodD L)) ∧ Below V.heap.size V w') := Good_any L A c z V (hP.up b0) hz hl
  have HRet : Hid (∀ (W : World) (a : Act) (d : Dk) (A' : Option Addr) (c' : Nat) (e : Int), Arr W (w.heap.size + 1) 24 (dkArr d.files A' c' d.fuse) → Below w.heap.size w W → Fls W W.heap.size A' d.files → d.files.length ≤ c' → a.tmps[4]? = some (.pointer (some ⟨w.heap.size + 1, 0, none⟩)) → a.tmps[5]? = some (.int .i64 e) → a.defers = [] → bodyPost Try.prog Try.f30 (StEnd w (d, e)) .ret a W) := fun W a d A' c' e h1 h2 h3 h4 h5 h6 h7 => by
    refine bodyPost_ret (v := .tuple #[.agg (dkArr d.files A' c' d.fuse), .int .i64 e]) ?_ h7 ⟨A', c', rfl, h3, h4, h2⟩
    rw [results_cell_tmp Try.results30]
    have hld := run_loadVar_row (P := Try.prog) _ _ _ 24 _ _ _ h1 Try.underlying24 rfl (dkInfo _ _ _ _)
    simp [Array.getD_eq_getD_getElem?, h5, h6, asAddr, hld, Result.andThen]
  cases hg : goodD L with
  | false =>
    rw [hg] at CG
    have HQ : Hid (Q = (⟨L, z⟩, 3)) := by show _ = _; rw [HS.out, hg]; rfl
    clear HS hg
    go_wp2_with fail
    (with_reducible refine CG.out.mono ?_)
    clear CG c0 c1
    rintro _ V2 ⟨rfl, b2⟩
    have A2 := A0.below b2 A0.lt
    have A3 := A1.below b2 A1.lt
    have b3 := b0.trans (b2.mono b0.size)
    have c0 : V2.cell? ⟨w.heap.size, 0, none⟩ = some (.slice A L.length c) := A2.cell 0
    have c1 : V2.cell? ⟨w.heap.size, 1, none⟩ = some (.int .i64 z) := A2.cell 1
    go_wp2_with (refine wpList_store_row rfl 24 _ _ rfl (w.heap.size + 1) (dkArr L A c z) rfl rfl 24 dkZero A3 (dkInfo _ _ _ _) rfl (dkArr_one _ _ _ _) ?_)
    rw [HQ.out]
    have b4 := below_setRow b3 (show w.heap.size ≤ w.heap.size + 1 by omega) (dkArr L A c z)
    exact HRet.out _ _ ⟨L, z⟩ A c 3 (A3.row _) b4 (hP.up b4) hc rfl rfl rfl
  | true =>
    rw [hg] at CG
    by_cases h0 : z = 0
    · have HQ : Hid (Q = (⟨L, z⟩, 12)) := by show _ = _; rw [HS.out, hg, if_pos h0]; rfl
      subst h0
      clear HS hg
      go_wp2_with fail
      (with_reducible refine CG.out.mono ?_)
      clear CG c0 c1
      rintro _ V2 ⟨rfl, b2⟩
      have A2 := A0.below b2 A0.lt
      have A3 := A1.below b2 A1.lt
      have b3 := b0.trans (b2.mono b0.size)
      have c0 : V2.cell? ⟨w.heap.size, 0, none⟩ = some (.slice A L.length c) := A2.cell 0
      have c1 : V2.cell? ⟨w.heap.size, 1, none⟩ = some (.int .i64 0) := A2.cell 1
      go_wp2_with (refine wpList_store_row rfl 24 _ _ rfl (w.heap.size + 1) (dkArr L A c 0) rfl rfl 24 dkZero A3 (dkInfo _ _ _ _) rfl (dkArr_one _ _ _ _) ?_)
      rw [HQ.out]
      have b4 := below_setRow b3 (show w.heap.size ≤ w.heap.size + 1 by omega) (dkArr L A c 0)
      exact HRet.out _ _ ⟨L, 0⟩ A c 12 (A3.row _) b4 (hP.up b4) hc rfl rfl rfl
    have HQ : Hid (Q = match rnP L n m with
      | .error e => (⟨L, z⟩, e)
      | .ok L' => (⟨L', burnt z⟩, 0)) := by show _ = _; rw [HS.out, hg, if_neg h0]; rfl
    have h0' : (z == 0) = false := by rw [beq_eq_false_iff_ne]; exact h0
    obtain ⟨h4, _, _⟩ := (goodD_iff L).1 hg
    have CH := fun v base (V : World) h (h1 : V.cell? ⟨p1, 0, none⟩ = some (.string m) ∧ V.cell? ⟨p2, 0, none⟩ = some (.string n) ∧ p1 < base ∧ p2 < base ∧ base ≤ V.heap.size) => Lib.hid (renameCh_any L n m hg v base p1 p2 V h h1.1 h1.2.1 h1.2.2.1 h1.2.2.2.1 h1.2.2.2.2)
    generalize rnP L n m = R at *
    clear HS hg h0
    go_wp2_with fail
    (with_reducible refine CG.out.mono ?_)
    clear CG c0 c1
    rintro _ V2 ⟨rfl, b2⟩
    have A2 := A0.below b2 A0.lt
    have A3 := A1.below b2 A1.lt
    have b3 := b0.trans (b2.mono b0.size)
    clear A0 A1 b0 b2
    have c0 : V2.cell? ⟨w.heap.size, 0, none⟩ = some (.slice A L.length c) := A2.cell 0
    have c1 : V2.cell? ⟨w.heap.size, 1, none⟩ = some (.int .i64 z) := A2.cell 1
    have CL := Lib.hid (Clone_any L A c V2 (hP.up b3) (by omega))
    go_wp2_with fail
    (with_reducible refine CL.out.mono ?_)
    clear CL c0 c1
    rintro _ V3 ⟨v3, rfl, h3, b4⟩
    have A4 := A2.below b4 A2.lt
    have A5 := A3.below b4 A3.lt
    have b5 := b3.trans (b4.mono b3.size)
    have hw3 := A5.lt
    have hw2 := A3.lt
    have C3 := CH v3 V2.heap.size V3 h3 ⟨((b5.cell (p := ⟨p1, 0, none⟩) hq1).trans hp1), ((b5.cell (p := ⟨p2, 0, none⟩) hq2).trans hp2), (Nat.lt_of_lt_of_le hq1 b3.size), (Nat.lt_of_lt_of_le hq2 b3.size), b4.size⟩
    clear CH A2
    go_wp2_with fail
    (with_reducible refine C3.out.mono ?_)
    clear C3
    rintro x V4 ⟨hx, b6⟩
    have A6 := A4.below b6 (Nat.lt_of_lt_of_le (by omega) (Nat.le_refl _))
    have A7 := A5.below b6 (Nat.lt_of_lt_of_le (by omega) (Nat.le_refl _))
    have b7 := b5.trans (b6.mono b3.size)
    clear A4 A5 b6
    have c0 : V4.cell? ⟨w.heap.size, 0, none⟩ = some (.slice A L.length c) := A6.cell 0
    have c1 : V4.cell? ⟨w.heap.size, 1, none⟩ = some (.int .i64 z) := A6.cell 1
    cases R with
    | error e =>
      obtain ⟨he, rfl⟩ := hx
      go_wp2_with (refine wpList_store_row rfl 24 _ _ rfl (w.heap.size + 1) (dkArr L A c z) rfl rfl 24 dkZero A7 (dkInfo _ _ _ _) rfl (dkArr_one _ _ _ _) ?_)
      rw [HQ.out]
      have b8 := below_setRow b7 (show w.heap.size ≤ w.heap.size + 1 by omega) (dkArr L A c z)
      exact HRet.out _ _ ⟨L, z⟩ A c e (A7.row _) b8 (hP.up b8) hc rfl rfl rfl
    | ok L' =>
      obtain ⟨v', rfl, h8⟩ := hx
      obtain ⟨A', c', rfl, hc', hF'⟩ := own_files h8
      have CB := Lib.hid (burnt_any z hzf V4)
      go_wp2_with fail
      (with_reducible refine CB.out.mono ?_)
      clear CB
      rintro _ V4 ⟨rfl, rfl⟩
      generalize hbz : burnt z = bz at *
      have HBz := Lib.hid hbz
      clear hbz
      go_wp2_with (refine wpList_store_row rfl 24 _ _ rfl (w.heap.size + 1) (dkArr L' A' c' bz) rfl rfl 24 dkZero A7 (dkInfo _ _ _ _) rfl (dkArr_one _ _ _ _) ?_)
      rw [HQ.out]
      have b8 := below_setRow b7 (show w.heap.size ≤ w.heap.size + 1 by omega) (dkArr L' A' c' bz)
      have k8 : V4.grownBy (V4.setRow (w.heap.size + 1) (dkArr L' A' c' bz)) (some (w.heap.size + 1)) := gb_row _ _
      have h9 := own_kp h8 (Kp.gb k8) (fun q hq e => by have := own_row_ge h8 q hq; have := Option.some.inj e; omega)
      obtain ⟨A9, c9, e9, hc9, hF9⟩ := own_files h9
      simp only [Value.slice.injEq] at e9
      obtain ⟨rfl, _, rfl⟩ := e9
      exact HRet.out _ _ ⟨L', bz⟩ A' c' 0 (A7.row _) b8 hF9 hc9 rfl rfl rfl
set_option maxRecDepth 100000 in
set_option maxHeartbeats 2000000 in
theorem stepWrite_any (L : List Fl) (n s : ByteArray) (hs : s.size ≤ 140737488355328) (A : Option Addr) (c : Nat) (z : Int) (w : World) (hP : Fls w w.heap.size A L) (hz : Sized L) (hl : L.length ≤ 140737488355328) (hc : L.length ≤ c) (hzf : z ≤ 9223372036854775807) (p1 p2 : Nat) (hp1 : w.cell? ⟨p1, 0, none⟩ = some (.string n)) (hp2 : w.cell? ⟨p2, 0, none⟩ = some (.string s)) (hq1 : p1 < w.heap.size) (hq2 : p2 < w.heap.size) :
    Calls Try.prog 30 #[.agg (dkArr L A c z), .func (.func 31) #[] #[.pointer (some ⟨p1, 0, none⟩), .pointer (some ⟨p2, 0, none⟩)]] w (StEnd w (stepP ⟨L, z⟩ (wrP L n s))) := by
  have A0 : Arr ((w.alloc (.cells (dkArr L A c z) 24)).alloc (.cells dkZero 24)) w.heap.size 24 (dkArr L A c z) := (Arr.new _ _ _).alloc _
  have A1 : Arr ((w.alloc (.cells (dkArr L A c z) 24)).alloc (.cells dkZero 24)) (w.heap.size + 1) 24 dkZero := Arr.new_at _ _ _ (by simp)
  have b0 : Below w.heap.size w ((w.alloc (.cells (dkArr L A c z) 24)).alloc (.cells dkZero 24)) := ((Below.refl _ _).alloc (Nat.le_refl _) _).alloc (by simp) _
  have HS : Hid (stepP ⟨L, z⟩ (wrP L n s) = if !goodD L then (⟨L, z⟩, 3) else if z = 0 then (⟨L, z⟩, 12) else match wrP L n s with
    | .error e => (⟨L, z⟩, e)
    | .ok L' => (⟨L', burnt z⟩, 0)) := rfl
  generalize stepP ⟨L, z⟩ (wrP L n s) = Q at *
  go_enter Try.func30, Try.ntmps30
  go_upto_region 1 with fail
  refine wp_forget (fun V => Arr V w.heap.size 24 (dkArr L A c z) ∧ Arr V (w.heap.size + 1) 24 dkZero ∧ Below w.heap.size w V) (by exact ⟨A0, A1, b0⟩) ?_
  clear A0 A1 b0
  rintro V ⟨A0, A1, b0⟩
  have c0 : V.cell? ⟨w.heap.size, 0, none⟩ = some (.slice A L.length c) := A0.cell 0
  have c1 : V.cell? ⟨w.heap.size, 1, none⟩ = some (.int .i64 z) := A0.cell 1
  have CG : Hid (Calls Try.prog 18 #[.agg #[.slice A L.length c, .int .i64 z]] V fun e w' => e = .returned (.bool (goodD L)) ∧ Below V.heap.size V w') := Good_any L A c z V (hP.up b0) hz hl
  have HRet : Hid (∀ (W : World) (a : Act) (d : Dk) (A' : Option Addr) (c' : Nat) (e : Int), Arr W (w.heap.size + 1) 24 (dkArr d.files A' c' d.fuse) → Below w.heap.size w W → Fls W W.heap.size A' d.files → d.files.length ≤ c' → a.tmps[4]? = some (.pointer (some ⟨w.heap.size + 1, 0, none⟩)) → a.tmps[5]? = some (.int .i64 e) → a.defers = [] → bodyPost Try.prog Try.f30 (StEnd w (d, e)) .ret a W) := fun W a d A' c' e h1 h2 h3 h4 h5 h6 h7 => by
    refine bodyPost_ret (v := .tuple #[.agg (dkArr d.files A' c' d.fuse), .int .i64 e]) ?_ h7 ⟨A', c', rfl, h3, h4, h2⟩
    rw [results_cell_tmp Try.results30]
    have hld := run_loadVar_row (P := Try.prog) _ _ _ 24 _ _ _ h1 Try.underlying24 rfl (dkInfo _ _ _ _)
    simp [Array.getD_eq_getD_getElem?, h5, h6, asAddr, hld, Result.andThen]
  cases hg : goodD L with
  | false =>
    rw [hg] at CG
    have HQ : Hid (Q = (⟨L, z⟩, 3)) := by show _ = _; rw [HS.out, hg]; rfl
    clear HS hg
    go_wp2_with fail
    (with_reducible refine CG.out.mono ?_)
    clear CG c0 c1
    rintro _ V2 ⟨rfl, b2⟩
    have A2 := A0.below b2 A0.lt
    have A3 := A1.below b2 A1.lt
    have b3 := b0.trans (b2.mono b0.size)
    have c0 : V2.cell? ⟨w.heap.size, 0, none⟩ = some (.slice A L.length c) := A2.cell 0
    have c1 : V2.cell? ⟨w.heap.size, 1, none⟩ = some (.int .i64 z) := A2.cell 1
    go_wp2_with (refine wpList_store_row rfl 24 _ _ rfl (w.heap.size + 1) (dkArr L A c z) rfl rfl 24 dkZero A3 (dkInfo _ _ _ _) rfl (dkArr_one _ _ _ _) ?_)
    rw [HQ.out]
    have b4 := below_setRow b3 (show w.heap.size ≤ w.heap.size + 1 by omega) (dkArr L A c z)
    exact HRet.out _ _ ⟨L, z⟩ A c 3 (A3.row _) b4 (hP.up b4) hc rfl rfl rfl
  | true =>
    rw [hg] at CG
    by_cases h0 : z = 0
    · have HQ : Hid (Q = (⟨L, z⟩, 12)) := by show _ = _; rw [HS.out, hg, if_pos h0]; rfl
      subst h0
      clear HS hg
      go_wp2_with fail
      (with_reducible refine CG.out.mono ?_)
      clear CG c0 c1
      rintro _ V2 ⟨rfl, b2⟩
      have A2 := A0.below b2 A0.lt
      have A3 := A1.below b2 A1.lt
      have b3 := b0.trans (b2.mono b0.size)
      have c0 : V2.cell? ⟨w.heap.size, 0, none⟩ = some (.slice A L.length c) := A2.cell 0
      have c1 : V2.cell? ⟨w.heap.size, 1, none⟩ = some (.int .i64 0) := A2.cell 1
      go_wp2_with (refine wpList_store_row rfl 24 _ _ rfl (w.heap.size + 1) (dkArr L A c 0) rfl rfl 24 dkZero A3 (dkInfo _ _ _ _) rfl (dkArr_one _ _ _ _) ?_)
      rw [HQ.out]
      have b4 := below_setRow b3 (show w.heap.size ≤ w.heap.size + 1 by omega) (dkArr L A c 0)
      exact HRet.out _ _ ⟨L, 0⟩ A c 12 (A3.row _) b4 (hP.up b4) hc rfl rfl rfl
    have HQ : Hid (Q = match wrP L n s with
      | .error e => (⟨L, z⟩, e)
      | .ok L' => (⟨L', burnt z⟩, 0)) := by show _ = _; rw [HS.out, hg, if_neg h0]; rfl
    have h0' : (z == 0) = false := by rw [beq_eq_false_iff_ne]; exact h0
    obtain ⟨h4, _, _⟩ := (goodD_iff L).1 hg
    have CH := fun v base (V : World) h (h1 : V.cell? ⟨p1, 0, none⟩ = some (.string n) ∧ V.cell? ⟨p2, 0, none⟩ = some (.string s) ∧ p1 < base ∧ p2 < base ∧ base ≤ V.heap.size) => Lib.hid (writeCh_any L n s hs hg v base p1 p2 V h h1.1 h1.2.1 h1.2.2.1 h1.2.2.2.1 h1.2.2.2.2)
    generalize wrP L n s = R at *
    clear HS hg h0
    go_wp2_with fail
    (with_reducible refine CG.out.mono ?_)
    clear CG c0 c1
    rintro _ V2 ⟨rfl, b2⟩
    have A2 := A0.below b2 A0.lt
    have A3 := A1.below b2 A1.lt
    have b3 := b0.trans (b2.mono b0.size)
    clear A0 A1 b0 b2
    have c0 : V2.cell? ⟨w.heap.size, 0, none⟩ = some (.slice A L.length c) := A2.cell 0
    have c1 : V2.cell? ⟨w.heap.size, 1, none⟩ = some (.int .i64 z) := A2.cell 1
    have CL := Lib.hid (Clone_any L A c V2 (hP.up b3) (by omega))
    go_wp2_with fail
    (with_reducible refine CL.out.mono ?_)
    clear CL c0 c1
    rintro _ V3 ⟨v3, rfl, h3, b4⟩
    have A4 := A2.below b4 A2.lt
    have A5 := A3.below b4 A3.lt
    have b5 := b3.trans (b4.mono b3.size)
    have hw3 := A5.lt
    have hw2 := A3.lt
    have C3 := CH v3 V2.heap.size V3 h3 ⟨((b5.cell (p := ⟨p1, 0, none⟩) hq1).trans hp1), ((b5.cell (p := ⟨p2, 0, none⟩) hq2).trans hp2), (Nat.lt_of_lt_of_le hq1 b3.size), (Nat.lt_of_lt_of_le hq2 b3.size), b4.size⟩
    clear CH A2
    go_wp2_with fail
    (with_reducible refine C3.out.mono ?_)
    clear C3
    rintro x V4 ⟨hx, b6⟩
    have A6 := A4.below b6 (Nat.lt_of_lt_of_le (by omega) (Nat.le_refl _))
    have A7 := A5.below b6 (Nat.lt_of_lt_of_le (by omega) (Nat.le_refl _))
    have b7 := b5.trans (b6.mono b3.size)
    clear A4 A5 b6
    have c0 : V4.cell? ⟨w.heap.size, 0, none⟩ = some (.slice A L.length c) := A6.cell 0
    have c1 : V4.cell? ⟨w.heap.size, 1, none⟩ = some (.int .i64 z) := A6.cell 1
    cases R with
    | error e =>
      obtain ⟨he, rfl⟩ := hx
      go_wp2_with (refine wpList_store_row rfl 24 _ _ rfl (w.heap.size + 1) (dkArr L A c z) rfl rfl 24 dkZero A7 (dkInfo _ _ _ _) rfl (dkArr_one _ _ _ _) ?_)
      rw [HQ.out]
      have b8 := below_setRow b7 (show w.heap.size ≤ w.heap.size + 1 by omega) (dkArr L A c z)
      exact HRet.out _ _ ⟨L, z⟩ A c e (A7.row _) b8 (hP.up b8) hc rfl rfl rfl
    | ok L' =>
      obtain ⟨v', rfl, h8⟩ := hx
      obtain ⟨A', c', rfl, hc', hF'⟩ := own_files h8
      have CB := Lib.hid (burnt_any z hzf V4)
      go_wp2_with fail
      (with_reducible refine CB.out.mono ?_)
      clear CB
      rintro _ V4 ⟨rfl, rfl⟩
      generalize hbz : burnt z = bz at *
      have HBz := Lib.hid hbz
      clear hbz
      go_wp2_with (refine wpList_store_row rfl 24 _ _ rfl (w.heap.size + 1) (dkArr L' A' c' bz) rfl rfl 24 dkZero A7 (dkInfo _ _ _ _) rfl (dkArr_one _ _ _ _) ?_)
      rw [HQ.out]
      have b8 := below_setRow b7 (show w.heap.size ≤ w.heap.size + 1 by omega) (dkArr L' A' c' bz)
      have k8 : V4.grownBy (V4.setRow (w.heap.size + 1) (dkArr L' A' c' bz)) (some (w.heap.size + 1)) := gb_row _ _
      have h9 := own_kp h8 (Kp.gb k8) (fun q hq e => by have := own_row_ge h8 q hq; have := Option.some.inj e; omega)
      obtain ⟨A9, c9, e9, hc9, hF9⟩ := own_files h9
      simp only [Value.slice.injEq] at e9
      obtain ⟨rfl, _, rfl⟩ := e9
      exact HRet.out _ _ ⟨L', bz⟩ A' c' 0 (A7.row _) b8 hF9 hc9 rfl rfl rfl
end Go.Proofs.Ytnijnphalhfabaa
