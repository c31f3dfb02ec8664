/- keep.DiskMoved: the walk. -/
import Derived.Test.YtngeiagpodgabaaDkDisks
namespace Go.Proofs.Ytngeiagpodgabaa
open Go.RowKit

/-- a disk in a box -/
def Bd (w : World) (g : Nat) (L : List Fl) (A : Option Addr) (c : Nat) (z : Int) (W : World) : Prop := Arr W g 24 (dkArr L A c z) ∧ Below w.heap.size w W
set_option maxRecDepth 100000 in
set_option maxHeartbeats 2000000 in
theorem DiskMoved_any (L : List Fl) (n m : ByteArray) (A : Option Addr) (c : Nat) (z : Int) (w : World) (hP : Fls w w.heap.size A L) (hz : Sized L) (hl : L.length ≤ 140737488355328) (hc : L.length ≤ c) (hzf : z ≤ 9223372036854775807) :
    Calls Try.prog 9 #[.agg (dkArr L A c z), .string n, .string m] w fun e w' => e = .returned (.bool true) ∧ Below w.heap.size w w' := by
  have A0 : Arr (w.alloc (.cells (dkArr L A c z) 24)) w.heap.size 24 (dkArr L A c z) := Arr.new _ _ _
  have b0 : Below w.heap.size w (w.alloc (.cells (dkArr L A c z) 24)) := (Below.refl _ _).alloc (Nat.le_refl _) _
  have CR1 := fun V h => Lib.hid (DkRead_any L n A c z V h hz hl)
  have CN := fun V h => Lib.hid (Rename_any L n m A c z V h hz hl hc hzf)
  have CK := fun V => Lib.hid (disks_keep V)
  have HNo : Hid ((stepP ⟨L, z⟩ (rnP L n m)).2 ≠ 0 → (stepP ⟨L, z⟩ (rnP L n m)).1 = ⟨L, z⟩) := fun h => step_no h
  have HYes : Hid ((stepP ⟨L, z⟩ (rnP L n m)).2 = 0 → ∃ (L' : List Fl) (f : Fl), stepP ⟨L, z⟩ (rnP L n m) = (⟨L', burnt z⟩, 0) ∧ readD ⟨L, z⟩ n = (f.safe ++ f.tail, 0) ∧ readD ⟨L', burnt z⟩ m = (f.safe ++ f.tail, 0) ∧ (n ≠ m → (readD ⟨L', burnt z⟩ n).2 = 7) ∧ goodD L' = true) := fun h => by
    obtain ⟨h1, _, L', h2, h3⟩ := step_yes rn_err h
    obtain ⟨f, k1, k2, k3, k4⟩ := rn_ok h1 h2
    refine ⟨L', f, h3, ?_, ?_, fun hne => ?_, k4⟩
    · unfold readD; simp only [h1, k1]; rfl
    · unfold readD; simp only [k4, k2]; rfl
    · unfold readD; simp only [k4, k3 hne]; rfl
  generalize stepP ⟨L, z⟩ (rnP L n m) = Q at *
  generalize hR1 : readD ⟨L, z⟩ n = R1 at *
  go_enter Try.func9, Try.ntmps9
  go_upto_region 1 with fail
  refine wp_forget (fun V => Arr V w.heap.size 24 (dkArr L A c z) ∧ Below w.heap.size w V) (by exact ⟨A0, b0⟩) ?_
  clear A0 b0
  rintro V ⟨A0, b0⟩
  have c0 : V.cell? ⟨w.heap.size, 0, none⟩ = some (.slice A L.length c) := A0.cell 0
  have c1 : V.cell? ⟨w.heap.size, 1, none⟩ = some (.int .i64 z) := A0.cell 1
  have C1 := CR1 V (hP.up b0)
  clear CR1
  obtain ⟨was, e⟩ := R1
  have HR1 := Lib.hid hR1
  clear hR1
  go_wp2_with fail
  (with_reducible refine C1.out.mono ?_)
  clear C1 c0 c1
  rintro _ V2 ⟨rfl, b2⟩
  have A2 := A0.below b2 A0.lt
  have b3 := b0.trans (b2.mono b0.size)
  clear A0 b0 b2
  have c0 : V2.cell? ⟨w.heap.size, 0, none⟩ = some (.slice A L.length c) := A2.cell 0
  have c1 : V2.cell? ⟨w.heap.size, 1, none⟩ = some (.int .i64 z) := A2.cell 1
  have C2 := CN V2 (hP.up b3)
  clear CN
  go_wp2_with fail
  (with_reducible refine C2.out.mono ?_)
  clear C2 c0 c1
  rintro _ V3 ⟨A', c', rfl, hF, hc', b4⟩
  have A3 := A2.below b4 A2.lt
  have b5 := b3.trans (b4.mono b3.size)
  have hlt := A3.lt
  clear A2 b3 b4
  obtain ⟨⟨L', z'⟩, f⟩ := Q
  simp only at hF hc' HNo HYes ⊢
  have bb : Below V3.heap.size V3 ((V3.alloc (.cells dkZero 24)).setRow V3.heap.size (dkArr L' A' c' z')) := below_setRow ((Below.refl _ _).alloc (Nat.le_refl _) _) (Nat.le_refl _) _
  have AX : Arr ((V3.alloc (.cells dkZero 24)).setRow V3.heap.size (dkArr L' A' c' z')) V3.heap.size 24 (dkArr L' A' c' z') := (Arr.new _ _ _).row _
  go_upto_region 3 with (refine wpList_store_row rfl 24 _ _ rfl V3.heap.size (dkArr L' A' c' z') rfl rfl 24 dkZero (Arr.new V3 _ _) (dkInfo _ _ _ _) rfl (dkArr_one _ _ _ _) ?_)
  refine wp_forget (fun W => Arr W V3.heap.size 24 (dkArr L' A' c' z') ∧ Arr W w.heap.size 24 (dkArr L A c z) ∧ Fls W W.heap.size A' L' ∧ Below w.heap.size w W) (by exact ⟨AX, A3.below bb A3.lt, hF.up bb, b5.trans (bb.mono b5.size)⟩) ?_
  clear bb AX A3 hF b5
  generalize V3.heap.size = q at *
  rintro W ⟨AX, A3, hF, b5⟩
  by_cases hf : f = 0
  case neg =>
    have hfb : (f != 0) = true := by simpa using hf
    have hd := HNo.out hf
    simp only [Dk.mk.injEq] at hd
    obtain ⟨rfl, rfl⟩ := hd
    have c0 : W.cell? ⟨w.heap.size, 0, none⟩ = some (.slice A L'.length c) := A3.cell 0
    have c1 : W.cell? ⟨w.heap.size, 1, none⟩ = some (.int .i64 z') := A3.cell 1
    have d0 : W.cell? ⟨q, 0, none⟩ = some (.slice A' L'.length c') := AX.cell 0
    have d1 : W.cell? ⟨q, 1, none⟩ = some (.int .i64 z') := AX.cell 1
    have CS := Lib.hid (sameDisk_any L' L' A' A c' c z' z' W hF (hP.up b5) hl hl)
    simp only [decide_true] at CS
    clear HNo HYes hf
    go_wp2_with fail
    (with_reducible refine CS.out.mono ?_)
    clear CS c0 c1 d0 d1
    rintro _ W2 ⟨rfl, b6⟩
    have b7 := b5.trans (b6.mono b5.size)
    go_wp2_with fail
    (with_reducible refine (CK W2).out.mono ?_)
    rintro _ W3 ⟨rfl, b8⟩
    go_wp2_with fail
    go_ret
    exact ⟨rfl, b7.trans (b8.mono b7.size)⟩
  subst hf
  obtain ⟨L2, ff, he, k1, k2, k3, k4⟩ := HYes.out rfl
  simp only [Prod.mk.injEq, Dk.mk.injEq, and_true] at he
  obtain ⟨rfl, rfl⟩ := he
  simp only [Prod.mk.injEq] at k1
  obtain ⟨rfl, rfl⟩ := k1
  have HK3 := Lib.hid k3
  obtain ⟨hs', h4'⟩ := good_sized k4
  have CG : Hid (∀ V, Fls V V.heap.size A' L' → Calls Try.prog 18 #[.agg #[.slice A' L'.length c', .int .i64 (burnt z)]] V fun e w' => e = .returned (.bool true) ∧ Below V.heap.size V w') := fun V h => by
    have := Good_any L' A' c' (burnt z) V h hs' (by omega)
    rw [k4] at this
    exact this
  have CR2 := fun V h => Lib.hid (DkRead_any L' m A' c' (burnt z) V h hs' (by omega))
  have CR3 := fun V h => Lib.hid (DkRead_any L' n A' c' (burnt z) V h hs' (by omega))
  rw [k2] at CR2
  have HB : Hid ((n.toList == m.toList) = true ∨ ((n.toList == m.toList) = false ∧ (readD ⟨L', burnt z⟩ n).2 = 7)) := by
    by_cases e : n = m
    · exact .inl (by rw [e]; simp)
    · refine .inr ⟨?_, k3 e⟩
      rw [beq_eq_false_iff_ne, toList_data, toList_data]
      exact fun q => e (bytes_eq q)
  clear HNo HYes k2 k3 HK3 HR1 k4
  generalize burnt z = bz at *
  generalize readD ⟨L', bz⟩ n = R3 at *
  obtain ⟨t3, e3⟩ := R3
  simp only at HB
  generalize ff.safe ++ ff.tail = con at *
  go_wp2_with fail
  (with_reducible refine (CK W).out.mono ?_)
  rintro _ W1 ⟨rfl, bk⟩
  replace AX := AX.below bk AX.lt
  replace A3 := A3.below bk A3.lt
  replace hF := hF.up bk
  replace b5 := b5.trans (bk.mono b5.size)
  clear bk CK
  have d0 : W1.cell? ⟨q, 0, none⟩ = some (.slice A' L'.length c') := AX.cell 0
  have d1 : W1.cell? ⟨q, 1, none⟩ = some (.int .i64 bz) := AX.cell 1
  have C4 := CR2 W1 hF
  go_wp2_with fail
  (with_reducible refine C4.out.mono ?_)
  clear C4 CR2 d0 d1
  rintro _ W2 ⟨rfl, b6⟩
  replace AX := AX.below b6 AX.lt
  replace hF := hF.up b6
  replace b5 := b5.trans (b6.mono b5.size)
  clear b6 A3
  have d0 : W2.cell? ⟨q, 0, none⟩ = some (.slice A' L'.length c') := AX.cell 0
  have d1 : W2.cell? ⟨q, 1, none⟩ = some (.int .i64 bz) := AX.cell 1
  have C5 := CR3 W2 hF
  go_wp2_with fail
  (with_reducible refine C5.out.mono ?_)
  clear C5 CR3 d0 d1
  rintro _ W3 ⟨rfl, b6⟩
  replace AX := AX.below b6 AX.lt
  replace hF := hF.up b6
  replace b5 := b5.trans (b6.mono b5.size)
  clear b6
  have d0 : W3.cell? ⟨q, 0, none⟩ = some (.slice A' L'.length c') := AX.cell 0
  have d1 : W3.cell? ⟨q, 1, none⟩ = some (.int .i64 bz) := AX.cell 1
  have C6 := Lib.hid (CG.out W3 hF)
  clear CG
  simp only at d0 d1 ⊢
  rcases HB.out with hb | ⟨hb, rfl⟩
  · go_wp2_with fail
    (with_reducible refine C6.out.mono ?_)
    rintro _ W4 ⟨rfl, b6⟩
    go_wp2_with fail
    go_ret
    exact ⟨rfl, b5.trans (b6.mono b5.size)⟩
  · go_wp2_with fail
    (with_reducible refine C6.out.mono ?_)
    rintro _ W4 ⟨rfl, b6⟩
    go_wp2_with fail
    go_ret
    exact ⟨rfl, b5.trans (b6.mono b5.size)⟩
end Go.Proofs.Ytngeiagpodgabaa
