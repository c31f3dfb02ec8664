/- law.DiskReads: the walk. -/
import Derived.Test.YtngeiagpodgabaaDkRefC
import Derived.Test.YtngeiagpodgabaaDkRead
import Derived.Test.YtngeiagpodgabaaDkDisks
namespace Go.Proofs.Ytngeiagpodgabaa
open Go.RowKit

theorem crash_len (L : List Fl) (z keep : Int) : (crashD ⟨L, z⟩ keep).1.files.length = L.length := by
  have h : crashD ⟨L, z⟩ keep = if !goodD L || decide (keep < 0) then (⟨L, z⟩, 3) else (⟨L.map (crashF keep.toNat), -1⟩, 0) := rfl
  rw [h]
  split
  · rfl
  · exact List.length_map _
set_option maxRecDepth 100000 in
set_option maxHeartbeats 4000000 in
theorem DiskReads_any (L : List Fl) (n : ByteArray) (m : Int) (hm : m ≤ 9223372036854775807) (A : Option Addr) (c : Nat) (z : Int) (w : World) (hP : Fls w w.heap.size A L) (hz : Sized L) (hl : L.length * 48 ≤ 140737488355328) (hc : L.length ≤ c) :
    Calls Try.prog 4 #[.agg (dkArr L A c z), .string n, .int .i64 m] w fun e w' => e = .returned (.bool true) ∧ Below w.heap.size w w' := by
  have A0 : Arr (w.alloc (.cells (dkArr L A c z) 24)) w.heap.size 24 (dkArr L A c z) := Arr.new _ _ _
  have b0 : Below w.heap.size w (w.alloc (.cells (dkArr L A c z) 24)) := (Below.refl _ _).alloc (Nat.le_refl _) _
  have hl1 : L.length ≤ 140737488355328 := by omega
  have CC := fun V h => Lib.hid (CopyDisk_any L A c z V h hl)
  have CR := fun (V : World) (A' : Option Addr) (c' : Nat) h => Lib.hid (DkRead_any L n A' c' z V h hz hl1)
  have CF := fun V h => Lib.hid (ReadFile_any L n A c z V h hz hl1)
  have CX := fun (V : World) (A' : Option Addr) (c' : Nat) h h2 => Lib.hid (Crash_any L m hm A' c' z V h hz hl1 h2)
  have CY := fun V h => Lib.hid (RefCrash_any L m hm A c z V h hz hl1 hc)
  have CD := fun V => Lib.hid (disks_law V)
  have hlQ := crash_len L z m
  generalize readD ⟨L, z⟩ n = R at *
  generalize crashD ⟨L, z⟩ m = Q at *
  obtain ⟨rs, re⟩ := R
  obtain ⟨⟨M, y⟩, g⟩ := Q
  have hm1 : M.length ≤ 140737488355328 := by have : M.length = L.length := hlQ; omega
  clear hlQ
  have CS : ∀ (V : World) (A' B' : Option Addr) (c' d' : Nat), Fls V V.heap.size A' M → Fls V V.heap.size B' M → Hid (Calls Try.prog 17 #[.agg #[.slice A' M.length c', .int .i64 y], .agg #[.slice B' M.length d', .int .i64 y]] V fun e w' => e = .returned (.bool true) ∧ Below V.heap.size V w') := fun V A' B' c' d' h1 h2 => by
    have := RefSameDisk_any M M A' B' c' d' y y V h1 h2 hm1 hm1
    rw [decide_eq_true rfl] at this
    exact this
  go_enter Try.func4, Try.ntmps4
  have c0 : (w.alloc (.cells (dkArr L A c z) 24)).cell? ⟨w.heap.size, 0, none⟩ = some (.slice A L.length c) := A0.cell 0
  have c1 : (w.alloc (.cells (dkArr L A c z) 24)).cell? ⟨w.heap.size, 1, none⟩ = some (.int .i64 z) := A0.cell 1
  have C1 := CC _ (hP.up b0)
  go_wp2_with fail
  (with_reducible refine C1.out.mono ?_)
  clear C1 c0 c1
  rintro _ V1 ⟨A1, k1, rfl, hF1, hk1, b2⟩
  replace A0 := A0.below b2 A0.lt
  replace b0 := b0.trans (b2.mono b0.size)
  clear b2
  have C1 : Hid (Calls Try.prog 21 #[.agg (dkArr L A1 k1 z), .string n] V1 fun e w' => e = .returned (.tuple #[.string rs, .int .i64 re]) ∧ Below V1.heap.size V1 w') := CR V1 A1 k1 hF1
  clear CR
  go_wp2_with fail
  (with_reducible refine C1.out.mono ?_)
  clear C1 hF1
  rintro _ V2 ⟨rfl, b2⟩
  replace A0 := A0.below b2 A0.lt
  replace b0 := b0.trans (b2.mono b0.size)
  clear b2
  have c0 : V2.cell? ⟨w.heap.size, 0, none⟩ = some (.slice A L.length c) := A0.cell 0
  have c1 : V2.cell? ⟨w.heap.size, 1, none⟩ = some (.int .i64 z) := A0.cell 1
  have C1 := CF V2 (hP.up b0)
  clear CF
  go_wp2_with fail
  (with_reducible refine C1.out.mono ?_)
  clear C1 c0 c1
  rintro _ V3 ⟨rfl, b2⟩
  replace A0 := A0.below b2 A0.lt
  replace b0 := b0.trans (b2.mono b0.size)
  clear b2
  have c0 : V3.cell? ⟨w.heap.size, 0, none⟩ = some (.slice A L.length c) := A0.cell 0
  have c1 : V3.cell? ⟨w.heap.size, 1, none⟩ = some (.int .i64 z) := A0.cell 1
  have C1 := CC V3 (hP.up b0)
  clear CC
  go_wp2_with fail
  (with_reducible refine C1.out.mono ?_)
  clear C1 c0 c1
  rintro _ V4 ⟨A2, k2, rfl, hF2, hk2, b2⟩
  replace A0 := A0.below b2 A0.lt
  replace b0 := b0.trans (b2.mono b0.size)
  clear b2
  have C1 : Hid (Calls Try.prog 23 #[.agg (dkArr L A2 k2 z), .int .i64 m] V4 (StEnd V4 (⟨M, y⟩, g))) := CX V4 A2 k2 hF2 hk2
  clear CX
  go_wp2_with fail
  (with_reducible refine C1.out.mono ?_)
  clear C1 hF2 hk2
  rintro _ V5 ⟨Aa, ca, rfl, hFa, hca, b2⟩
  simp only at hFa hca ⊢
  replace A0 := A0.below b2 A0.lt
  replace b0 := b0.trans (b2.mono b0.size)
  clear b2
  have bb : Below V5.heap.size V5 ((V5.alloc (.cells dkZero 24)).setRow V5.heap.size (dkArr M Aa ca y)) := below_setRow ((Below.refl _ _).alloc (Nat.le_refl _) _) (Nat.le_refl _) _
  have AX : Arr ((V5.alloc (.cells dkZero 24)).setRow V5.heap.size (dkArr M Aa ca y)) V5.heap.size 24 (dkArr M Aa ca y) := (Arr.new _ _ _).row _
  go_upto_region 4 with (refine wpList_store_row rfl 24 _ _ rfl V5.heap.size (dkArr M Aa ca y) rfl rfl 24 dkZero (Arr.new V5 _ _) (dkInfo _ _ _ _) rfl (dkArr_one _ _ _ _) ?_)
  refine wp_forget (fun W => Arr W V5.heap.size 24 (dkArr M Aa ca y) ∧ Arr W w.heap.size 24 (dkArr L A c z) ∧ Fls W W.heap.size Aa M ∧ Below w.heap.size w W) (by exact ⟨AX, A0.below bb A0.lt, hFa.up bb, b0.trans (bb.mono b0.size)⟩) ?_
  clear AX bb A0 b0 hFa
  generalize V5.heap.size = qa at *
  rintro W ⟨AX, A0, hFa, b0⟩
  have c0 : W.cell? ⟨w.heap.size, 0, none⟩ = some (.slice A L.length c) := A0.cell 0
  have c1 : W.cell? ⟨w.heap.size, 1, none⟩ = some (.int .i64 z) := A0.cell 1
  have C1 := CY W (hP.up b0)
  clear CY
  go_wp2_with fail
  (with_reducible refine C1.out.mono ?_)
  clear C1 c0 c1
  rintro _ W2 ⟨Ab, cb, rfl, hFb, hcb, b2⟩
  simp only at hFb hcb ⊢
  replace AX := AX.below b2 AX.lt
  replace hFa := hFa.up b2
  replace b0 := b0.trans (b2.mono b0.size)
  clear b2 A0
  have bb : Below W2.heap.size W2 ((W2.alloc (.cells dkZero 24)).setRow W2.heap.size (dkArr M Ab cb y)) := below_setRow ((Below.refl _ _).alloc (Nat.le_refl _) _) (Nat.le_refl _) _
  have AY : Arr ((W2.alloc (.cells dkZero 24)).setRow W2.heap.size (dkArr M Ab cb y)) W2.heap.size 24 (dkArr M Ab cb y) := (Arr.new _ _ _).row _
  go_upto_region 5 with (refine wpList_store_row rfl 24 _ _ rfl W2.heap.size (dkArr M Ab cb y) rfl rfl 24 dkZero (Arr.new W2 _ _) (dkInfo _ _ _ _) rfl (dkArr_one _ _ _ _) ?_)
  refine wp_forget (fun W => Arr W W2.heap.size 24 (dkArr M Ab cb y) ∧ Arr W qa 24 (dkArr M Aa ca y) ∧ Fls W W.heap.size Aa M ∧ Fls W W.heap.size Ab M ∧ Below w.heap.size w W) (by exact ⟨AY, AX.below bb AX.lt, hFa.up bb, hFb.up bb, b0.trans (bb.mono b0.size)⟩) ?_
  clear AX AY bb b0 hFa hFb
  generalize W2.heap.size = qb at *
  rintro W ⟨AY, AX, hFa, hFb, b0⟩
  have d0 : W.cell? ⟨qa, 0, none⟩ = some (.slice Aa M.length ca) := AX.cell 0
  have d1 : W.cell? ⟨qa, 1, none⟩ = some (.int .i64 y) := AX.cell 1
  have e0 : W.cell? ⟨qb, 0, none⟩ = some (.slice Ab M.length cb) := AY.cell 0
  have e1 : W.cell? ⟨qb, 1, none⟩ = some (.int .i64 y) := AY.cell 1
  have C1 := CS W Aa Ab ca cb hFa hFb
  clear CS
  go_wp2_with fail
  (with_reducible refine C1.out.mono ?_)
  clear C1 d0 d1 e0 e1
  rintro _ W3 ⟨rfl, b2⟩
  replace b0 := b0.trans (b2.mono b0.size)
  clear b2
  go_wp2_with fail
  (with_reducible refine (CD W3).out.mono ?_)
  rintro _ W4 ⟨rfl, b2⟩
  go_wp2_with fail
  go_ret
  exact ⟨rfl, b0.trans (b2.mono b0.size)⟩
end Go.Proofs.Ytngeiagpodgabaa
