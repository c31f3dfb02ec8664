/- disk.Write, Sync, Rename, Remove: their contracts. -/
import Derived.Test.YtnijnphalhfabaaDkStep
namespace Go.Proofs.Ytnijnphalhfabaa
open Go.RowKit

theorem dkZero_no : ∀ (i : Nat) (t : ByteArray), dkZero[i]? ≠ some (.string t)
  | 0, t => by simp [dkZero]
  | 1, t => by simp [dkZero]
  | n + 2, t => by simp [dkZero]
theorem Fls.row {w : World} {A : Option Addr} {L : List Fl} {g : Nat} (h : Fls w w.heap.size A L) (hg : Arr w g 24 dkZero) (cs' : Array Value) : Fls (w.setRow g cs') (w.setRow g cs').heap.size A L := fun k x hx => by
  obtain ⟨ad, e, hb, h0, h1, h2⟩ := h k x hx
  have k1 : w.grownBy (w.setRow g cs') (some g) := gb_row _ _
  have hne : (ad.add (k * 3)).block ≠ g := fun q => by
    rw [q, hg.cell] at h1
    exact dkZero_no _ _ h1
  have hn : ¬ some (ad.add (k * 3)).block = some g := fun q => hne (Option.some.inj q)
  exact ⟨ad, e, Nat.lt_of_lt_of_le hb k1.size, k1.cell h0 hn, k1.cell h1 hn, k1.cell h2 hn⟩
set_option maxRecDepth 100000 in
set_option maxHeartbeats 1000000 in
theorem Remove_any (L : List Fl) (n : ByteArray) (A : Option Addr) (c : Nat) (z : Int) (w : World) (hP : Fls w w.heap.size A L) (hz : Sized L) (hl : L.length ≤ 140737488355328) (hc : L.length ≤ c) (hzf : z ≤ 9223372036854775807) :
    Calls Try.prog 15 #[.agg #[.slice A L.length c, .int .i64 z], .string n] w (StEnd w (stepP ⟨L, z⟩ (rmP L n))) := by
  obtain ⟨W0, hW0⟩ : ∃ W0, W0 = ((w.alloc (.cells (dkArr L A c z) 24)).alloc (.cells #[.string n] 9)).alloc (.cells dkZero 24) := ⟨_, rfl⟩
  have hfacts : Arr W0 w.heap.size 24 (dkArr L A c z) ∧ Arr W0 (w.heap.size + 1) 9 #[.string n] ∧ Arr W0 (w.heap.size + 2) 24 dkZero ∧ Below w.heap.size w W0 := by
    rw [hW0]
    exact ⟨(((Arr.new _ _ _).alloc _).alloc _), ((Arr.new_at _ _ _ (by simp)).alloc _), Arr.new_at _ _ _ (by simp), (((Below.refl _ _).alloc (Nat.le_refl _) _).alloc (by simp <;> omega) _).alloc (by simp <;> omega) _⟩
  have HF := Lib.hid hfacts
  have HW := Lib.hid hW0
  clear hfacts hW0
  generalize hQ : stepP ⟨L, z⟩ (rmP L n) = Q at *
  have HQ := Lib.hid hQ
  clear hQ
  go_enter Try.func15, Try.ntmps15
  go_upto_region 1 with fail
  refine wp_forget (fun V => Arr V w.heap.size 24 (dkArr L A c z) ∧ Arr V (w.heap.size + 1) 9 #[.string n] ∧ Arr V (w.heap.size + 2) 24 dkZero ∧ Below w.heap.size w V) (by have := HF.out; rw [HW.out] at this; exact this) ?_
  clear HF HW
  clear W0
  rintro V ⟨A0, B1, A1, b0⟩
  have c0 : V.cell? ⟨w.heap.size, 0, none⟩ = some (.slice A L.length c) := A0.cell 0
  have c1 : V.cell? ⟨w.heap.size, 1, none⟩ = some (.int .i64 z) := A0.cell 1
  have CS : Hid (Calls Try.prog 30 #[.agg #[.slice A L.length c, .int .i64 z], .func (.func 41) #[] #[.pointer (some ⟨w.heap.size + 1, 0, none⟩)]] V (StEnd V (stepP ⟨L, z⟩ (rmP L n)))) := stepRemove_any L n A c z V (hP.up b0) hz hl hc hzf (w.heap.size + 1) (B1.cell 0) B1.lt
  rw [HQ.out] at CS
  go_wp2_with fail
  (with_reducible refine CS.out.mono ?_)
  clear CS c0 c1
  rintro _ V2 ⟨A', c', rfl, hF, hc', b2⟩
  have A2 := A1.below b2 A1.lt
  have b3 := b0.trans (b2.mono b0.size)
  clear A0 A1 b0 b2
  obtain ⟨d, e⟩ := Q
  simp only at hF hc'
  go_wp2_with (refine wpList_store_row rfl 24 _ _ rfl (w.heap.size + 2) (dkArr d.files A' c' d.fuse) rfl rfl 24 dkZero A2 (dkInfo _ _ _ _) rfl (dkArr_one _ _ _ _) ?_)
  refine bodyPost_ret (v := .tuple #[.agg (dkArr d.files A' c' d.fuse), .int .i64 e]) ?_ rfl ⟨A', c', rfl, hF.row A2 _, hc', below_setRow b3 (by omega) _⟩
  rw [results_cell_tmp Try.results15]
  have hld := run_loadVar_row (P := Try.prog) _ _ _ 24 _ _ _ (A2.row (dkArr d.files A' c' d.fuse)) Try.underlying24 rfl (dkInfo _ _ _ _)
  simp [asAddr, hld, Result.andThen]
set_option maxRecDepth 100000 in
set_option maxHeartbeats 1000000 in
theorem Sync_any (L : List Fl) (n : ByteArray) (A : Option Addr) (c : Nat) (z : Int) (w : World) (hP : Fls w w.heap.size A L) (hz : Sized L) (hl : L.length ≤ 140737488355328) (hc : L.length ≤ c) (hzf : z ≤ 9223372036854775807) :
    Calls Try.prog 13 #[.agg #[.slice A L.length c, .int .i64 z], .string n] w (StEnd w (stepP ⟨L, z⟩ (syP L n))) := by
  obtain ⟨W0, hW0⟩ : ∃ W0, W0 = ((w.alloc (.cells (dkArr L A c z) 24)).alloc (.cells #[.string n] 9)).alloc (.cells dkZero 24) := ⟨_, rfl⟩
  have hfacts : Arr W0 w.heap.size 24 (dkArr L A c z) ∧ Arr W0 (w.heap.size + 1) 9 #[.string n] ∧ Arr W0 (w.heap.size + 2) 24 dkZero ∧ Below w.heap.size w W0 := by
    rw [hW0]
    exact ⟨(((Arr.new _ _ _).alloc _).alloc _), ((Arr.new_at _ _ _ (by simp)).alloc _), Arr.new_at _ _ _ (by simp), (((Below.refl _ _).alloc (Nat.le_refl _) _).alloc (by simp <;> omega) _).alloc (by simp <;> omega) _⟩
  have HF := Lib.hid hfacts
  have HW := Lib.hid hW0
  clear hfacts hW0
  generalize hQ : stepP ⟨L, z⟩ (syP L n) = Q at *
  have HQ := Lib.hid hQ
  clear hQ
  go_enter Try.func13, Try.ntmps13
  go_upto_region 1 with fail
  refine wp_forget (fun V => Arr V w.heap.size 24 (dkArr L A c z) ∧ Arr V (w.heap.size + 1) 9 #[.string n] ∧ Arr V (w.heap.size + 2) 24 dkZero ∧ Below w.heap.size w V) (by have := HF.out; rw [HW.out] at this; exact this) ?_
  clear HF HW
  clear W0
  rintro V ⟨A0, B1, A1, b0⟩
  have c0 : V.cell? ⟨w.heap.size, 0, none⟩ = some (.slice A L.length c) := A0.cell 0
  have c1 : V.cell? ⟨w.heap.size, 1, none⟩ = some (.int .i64 z) := A0.cell 1
  have CS : Hid (Calls Try.prog 30 #[.agg #[.slice A L.length c, .int .i64 z], .func (.func 36) #[] #[.pointer (some ⟨w.heap.size + 1, 0, none⟩)]] V (StEnd V (stepP ⟨L, z⟩ (syP L n)))) := stepSync_any L n A c z V (hP.up b0) hz hl hc hzf (w.heap.size + 1) (B1.cell 0) B1.lt
  rw [HQ.out] at CS
  go_wp2_with fail
  (with_reducible refine CS.out.mono ?_)
  clear CS c0 c1
  rintro _ V2 ⟨A', c', rfl, hF, hc', b2⟩
  have A2 := A1.below b2 A1.lt
  have b3 := b0.trans (b2.mono b0.size)
  clear A0 A1 b0 b2
  obtain ⟨d, e⟩ := Q
  simp only at hF hc'
  go_wp2_with (refine wpList_store_row rfl 24 _ _ rfl (w.heap.size + 2) (dkArr d.files A' c' d.fuse) rfl rfl 24 dkZero A2 (dkInfo _ _ _ _) rfl (dkArr_one _ _ _ _) ?_)
  refine bodyPost_ret (v := .tuple #[.agg (dkArr d.files A' c' d.fuse), .int .i64 e]) ?_ rfl ⟨A', c', rfl, hF.row A2 _, hc', below_setRow b3 (by omega) _⟩
  rw [results_cell_tmp Try.results13]
  have hld := run_loadVar_row (P := Try.prog) _ _ _ 24 _ _ _ (A2.row (dkArr d.files A' c' d.fuse)) Try.underlying24 rfl (dkInfo _ _ _ _)
  simp [asAddr, hld, Result.andThen]
set_option maxRecDepth 100000 in
set_option maxHeartbeats 1000000 in
theorem Rename_any (L : List Fl) (n m : ByteArray) (A : Option Addr) (c : Nat) (z : Int) (w : World) (hP : Fls w w.heap.size A L) (hz : Sized L) (hl : L.length ≤ 140737488355328) (hc : L.length ≤ c) (hzf : z ≤ 9223372036854775807) :
    Calls Try.prog 14 #[.agg #[.slice A L.length c, .int .i64 z], .string n, .string m] w (StEnd w (stepP ⟨L, z⟩ (rnP L n m))) := by
  obtain ⟨W0, hW0⟩ : ∃ W0, W0 = (((w.alloc (.cells (dkArr L A c z) 24)).alloc (.cells #[.string n] 9)).alloc (.cells #[.string m] 9)).alloc (.cells dkZero 24) := ⟨_, rfl⟩
  have hfacts : Arr W0 w.heap.size 24 (dkArr L A c z) ∧ Arr W0 (w.heap.size + 1) 9 #[.string n] ∧ Arr W0 (w.heap.size + 2) 9 #[.string m] ∧ Arr W0 (w.heap.size + 3) 24 dkZero ∧ Below w.heap.size w W0 := by
    rw [hW0]
    exact ⟨((((Arr.new _ _ _).alloc _).alloc _).alloc _), (((Arr.new_at _ _ _ (by simp)).alloc _).alloc _), ((Arr.new_at _ _ _ (by simp)).alloc _), Arr.new_at _ _ _ (by simp), ((((Below.refl _ _).alloc (Nat.le_refl _) _).alloc (by simp <;> omega) _).alloc (by simp <;> omega) _).alloc (by simp <;> omega) _⟩
  have HF := Lib.hid hfacts
  have HW := Lib.hid hW0
  clear hfacts hW0
  generalize hQ : stepP ⟨L, z⟩ (rnP L n m) = Q at *
  have HQ := Lib.hid hQ
  clear hQ
  go_enter Try.func14, Try.ntmps14
  go_upto_region 1 with fail
  refine wp_forget (fun V => Arr V w.heap.size 24 (dkArr L A c z) ∧ Arr V (w.heap.size + 1) 9 #[.string n] ∧ Arr V (w.heap.size + 2) 9 #[.string m] ∧ Arr V (w.heap.size + 3) 24 dkZero ∧ Below w.heap.size w V) (by have := HF.out; rw [HW.out] at this; exact this) ?_
  clear HF HW
  clear W0
  rintro V ⟨A0, B1, B2, A1, b0⟩
  have c0 : V.cell? ⟨w.heap.size, 0, none⟩ = some (.slice A L.length c) := A0.cell 0
  have c1 : V.cell? ⟨w.heap.size, 1, none⟩ = some (.int .i64 z) := A0.cell 1
  have CS : Hid (Calls Try.prog 30 #[.agg #[.slice A L.length c, .int .i64 z], .func (.func 38) #[] #[.pointer (some ⟨w.heap.size + 2, 0, none⟩), .pointer (some ⟨w.heap.size + 1, 0, none⟩)]] V (StEnd V (stepP ⟨L, z⟩ (rnP L n m)))) := stepRename_any L n m A c z V (hP.up b0) hz hl hc hzf (w.heap.size + 2) (w.heap.size + 1) (B2.cell 0) (B1.cell 0) B2.lt B1.lt
  rw [HQ.out] at CS
  go_wp2_with fail
  (with_reducible refine CS.out.mono ?_)
  clear CS c0 c1
  rintro _ V2 ⟨A', c', rfl, hF, hc', b2⟩
  have A2 := A1.below b2 A1.lt
  have b3 := b0.trans (b2.mono b0.size)
  clear A0 A1 b0 b2
  obtain ⟨d, e⟩ := Q
  simp only at hF hc'
  go_wp2_with (refine wpList_store_row rfl 24 _ _ rfl (w.heap.size + 3) (dkArr d.files A' c' d.fuse) rfl rfl 24 dkZero A2 (dkInfo _ _ _ _) rfl (dkArr_one _ _ _ _) ?_)
  refine bodyPost_ret (v := .tuple #[.agg (dkArr d.files A' c' d.fuse), .int .i64 e]) ?_ rfl ⟨A', c', rfl, hF.row A2 _, hc', below_setRow b3 (by omega) _⟩
  rw [results_cell_tmp Try.results14]
  have hld := run_loadVar_row (P := Try.prog) _ _ _ 24 _ _ _ (A2.row (dkArr d.files A' c' d.fuse)) Try.underlying24 rfl (dkInfo _ _ _ _)
  simp [asAddr, hld, Result.andThen]
set_option maxRecDepth 100000 in
set_option maxHeartbeats 1000000 in
theorem Write_any (L : List Fl) (n s : ByteArray) (hs : s.size ≤ 140737488355328) (A : Option Addr) (c : Nat) (z : Int) (w : World) (hP : Fls w w.heap.size A L) (hz : Sized L) (hl : L.length ≤ 140737488355328) (hc : L.length ≤ c) (hzf : z ≤ 9223372036854775807) :
    Calls Try.prog 12 #[.agg #[.slice A L.length c, .int .i64 z], .string n, .string s] w (StEnd w (stepP ⟨L, z⟩ (wrP L n s))) := by
  obtain ⟨W0, hW0⟩ : ∃ W0, W0 = (((w.alloc (.cells (dkArr L A c z) 24)).alloc (.cells #[.string n] 9)).alloc (.cells #[.string s] 9)).alloc (.cells dkZero 24) := ⟨_, rfl⟩
  have hfacts : Arr W0 w.heap.size 24 (dkArr L A c z) ∧ Arr W0 (w.heap.size + 1) 9 #[.string n] ∧ Arr W0 (w.heap.size + 2) 9 #[.string s] ∧ Arr W0 (w.heap.size + 3) 24 dkZero ∧ Below w.heap.size w W0 := by
    rw [hW0]
    exact ⟨((((Arr.new _ _ _).alloc _).alloc _).alloc _), (((Arr.new_at _ _ _ (by simp)).alloc _).alloc _), ((Arr.new_at _ _ _ (by simp)).alloc _), Arr.new_at _ _ _ (by simp), ((((Below.refl _ _).alloc (Nat.le_refl _) _).alloc (by simp <;> omega) _).alloc (by simp <;> omega) _).alloc (by simp <;> omega) _⟩
  have HF := Lib.hid hfacts
  have HW := Lib.hid hW0
  clear hfacts hW0
  generalize hQ : stepP ⟨L, z⟩ (wrP L n s) = Q at *
  have HQ := Lib.hid hQ
  clear hQ
  go_enter Try.func12, Try.ntmps12
  go_upto_region 1 with fail
  refine wp_forget (fun V => Arr V w.heap.size 24 (dkArr L A c z) ∧ Arr V (w.heap.size + 1) 9 #[.string n] ∧ Arr V (w.heap.size + 2) 9 #[.string s] ∧ Arr V (w.heap.size + 3) 24 dkZero ∧ Below w.heap.size w V) (by have := HF.out; rw [HW.out] at this; exact this) ?_
  clear HF HW
  clear W0
  rintro V ⟨A0, B1, B2, A1, b0⟩
  have c0 : V.cell? ⟨w.heap.size, 0, none⟩ = some (.slice A L.length c) := A0.cell 0
  have c1 : V.cell? ⟨w.heap.size, 1, none⟩ = some (.int .i64 z) := A0.cell 1
  have CS : Hid (Calls Try.prog 30 #[.agg #[.slice A L.length c, .int .i64 z], .func (.func 31) #[] #[.pointer (some ⟨w.heap.size + 1, 0, none⟩), .pointer (some ⟨w.heap.size + 2, 0, none⟩)]] V (StEnd V (stepP ⟨L, z⟩ (wrP L n s)))) := stepWrite_any L n s hs A c z V (hP.up b0) hz hl hc hzf (w.heap.size + 1) (w.heap.size + 2) (B1.cell 0) (B2.cell 0) B1.lt B2.lt
  rw [HQ.out] at CS
  go_wp2_with fail
  (with_reducible refine CS.out.mono ?_)
  clear CS c0 c1
  rintro _ V2 ⟨A', c', rfl, hF, hc', b2⟩
  have A2 := A1.below b2 A1.lt
  have b3 := b0.trans (b2.mono b0.size)
  clear A0 A1 b0 b2
  obtain ⟨d, e⟩ := Q
  simp only at hF hc'
  go_wp2_with (refine wpList_store_row rfl 24 _ _ rfl (w.heap.size + 3) (dkArr d.files A' c' d.fuse) rfl rfl 24 dkZero A2 (dkInfo _ _ _ _) rfl (dkArr_one _ _ _ _) ?_)
  refine bodyPost_ret (v := .tuple #[.agg (dkArr d.files A' c' d.fuse), .int .i64 e]) ?_ rfl ⟨A', c', rfl, hF.row A2 _, hc', below_setRow b3 (by omega) _⟩
  rw [results_cell_tmp Try.results12]
  have hld := run_loadVar_row (P := Try.prog) _ _ _ 24 _ _ _ (A2.row (dkArr d.files A' c' d.fuse)) Try.underlying24 rfl (dkInfo _ _ _ _)
  simp [asAddr, hld, Result.andThen]
end Go.Proofs.Ytnijnphalhfabaa
