/- keep.DiskOthers: the walk. -/
import Derived.Test.YtngeiagpodgabaaDkLaws
namespace Go.Proofs.Ytngeiagpodgabaa
open Go.RowKit

theorem others_facts {L : List Fl} {y : Int} {o n : ByteArray} {d' : Dk} (hz : Sized L) (hl : L.length ≤ 140737488355328) (h1 : goodD L = true → Keep o ⟨L, y⟩ d') (h2 : goodD L = false → d' = ⟨L, y⟩) :
    readD d' o = readD ⟨L, y⟩ o ∧ Sized d'.files ∧ d'.files.length ≤ 140737488355328 ∧ (goodD L = true → goodD d'.files = true) ∧ n = n := by
  cases hg : goodD L with
  | true =>
    have k := h1 hg
    obtain ⟨s1, s2⟩ := good_sized k.1
    exact ⟨read_keep hg k, s1, by omega, fun _ => k.1, rfl⟩
  | false =>
    have := h2 hg
    subst this
    exact ⟨rfl, hz, hl, fun h => (by cases h), rfl⟩
set_option maxRecDepth 100000 in
set_option maxHeartbeats 4000000 in
theorem DiskOthers_any (L : List Fl) (n o s : ByteArray) (hn : n.size ≤ 140737488355328) (hs : s.size ≤ 140737488355328) (m : Int) (A : Option Addr) (c : Nat) (z : Int) (w : World) (hP : Fls w w.heap.size A L) (hz : Sized L) (hl : L.length ≤ 140737488355328) (hc : L.length ≤ c) :
    Calls Try.prog 7 #[.agg (dkArr L A c z), .string n, .string o, .string s, .int .i64 m] w fun e w' => e = .returned (.bool true) ∧ Below w.heap.size w w' := by
  have A0 : Arr (w.alloc (.cells (dkArr L A c z) 24)) w.heap.size 24 (dkArr L A c z) := Arr.new _ _ _
  have b0 : Below w.heap.size w (w.alloc (.cells (dkArr L A c z) 24)) := (Below.refl _ _).alloc (Nat.le_refl _) _
  have CK := fun V => Lib.hid (disks_keep V)
  have hcat : ¬ 9223372036854775807 < n.size + 4 := by omega
  have HNew : Hid (newN n = n ++ ⟨#[46, 110, 101, 119]⟩) := rfl
  go_enter Try.func7, Try.ntmps7
  go_upto_region 1 with fail
  refine wp_forget (fun V => Arr V w.heap.size 24 (dkArr L A c z) ∧ Below w.heap.size w V) (by exact ⟨A0, b0⟩) ?_
  clear A0 b0
  rintro V ⟨A0, b0⟩
  cases h1 : n.toList == o.toList
  case true =>
    go_wp2_with fail
    (with_reducible refine (CK V).out.mono ?_)
    rintro _ V3 ⟨rfl, b4⟩
    go_wp2_with fail
    go_ret
    exact ⟨rfl, b0.trans (b4.mono b0.size)⟩
  cases h2 : o.toList == (n ++ (⟨#[46, 110, 101, 119]⟩ : ByteArray)).toList
  case true =>
    go_wp2_with fail
    (with_reducible refine (CK V).out.mono ?_)
    rintro _ V3 ⟨rfl, b4⟩
    go_wp2_with fail
    go_ret
    exact ⟨rfl, b0.trans (b4.mono b0.size)⟩
  have hon : o ≠ n := fun e => by rw [e] at h1; simp at h1
  have hof : o ≠ newN n := fun e => by rw [HNew.out] at e; rw [e] at h2; simp at h2
  have HOn := Lib.hid hon
  have HOf := Lib.hid hof
  clear hon hof
  go_wp2_with fail
  (with_reducible refine (CK V).out.mono ?_)
  clear CK
  rintro _ V2 ⟨rfl, b2⟩
  replace A0 := A0.below b2 A0.lt
  replace b0 := b0.trans (b2.mono b0.size)
  clear b2
  have CP := Lib.hid (pick_any m 7 (by omega) (by omega) V2)
  obtain ⟨hp0, hp1⟩ := pk_in m 7 (by omega)
  change Hid (Calls Try.prog 28 #[.int .i64 m, .int .i64 7] V2 fun e w' => e = .returned (.int .i64 (pk m 7)) ∧ V2 = w') at CP
  have hp0' : 0 ≤ pk m 7 := hp0
  have hp1' : pk m 7 < 7 := hp1
  clear hp0 hp1
  generalize pk m 7 = p at *
  go_wp2_with fail
  (with_reducible refine CP.out.mono ?_)
  clear CP
  rintro _ V2 ⟨rfl, rfl⟩
  obtain ⟨y, hy⟩ : ∃ y, y = p - 1 := ⟨_, rfl⟩
  have hyf : y ≤ 9223372036854775807 := by omega
  have d1 : V2.cell? ⟨w.heap.size, 1, none⟩ = some (.int .i64 z) := A0.cell 1
  have f1 := A0.free 1
  have A1 : Arr (V2.setCell ⟨w.heap.size, 1, none⟩ (.int .i64 (p - 1))) w.heap.size 24 (dkArr L A c (p - 1)) := A0.put 1 (.int .i64 (p - 1))
  have b1 := below_gb b0 (show V2.grownBy (V2.setCell ⟨w.heap.size, 1, none⟩ (.int .i64 (p - 1))) (some w.heap.size) from gb_set _ _ _) (Nat.le_refl _) b0.size
  go_upto_region 4 with fail
  refine wp_forget (fun V => Arr V w.heap.size 24 (dkArr L A c (p - 1)) ∧ Below w.heap.size w V) (by exact ⟨A1, b1⟩) ?_
  clear A1 b1 A0 b0 d1 f1 V2 h1 h2
  rw [← hy]
  clear hy hp0' hp1'
  rintro V ⟨A0, b0⟩
  have CR := Lib.hid (DkRead_any L o A c y V (hP.up b0) hz hl)
  have CG0 := fun W h => Lib.hid (Good_any L A c y W h hz hl)
  have CSv := fun W h => Lib.hid (Save_any L n s hn hs A c y W h hz hl hc hyf)
  have CRm := fun W h => Lib.hid (Remove_any L n A c y W h hz hl hc hyf)
  have HSv := Lib.hid (others_facts (o := o) (n := n) (y := y) (d' := (saveD ⟨L, y⟩ n s).1) hz hl (fun h => save_keep h HOn.out HOf.out) (fun h => save_bad h))
  have HRm := Lib.hid (others_facts (o := o) (n := n) (y := y) (d' := (stepP ⟨L, y⟩ (rmP L n)).1) hz hl (fun h => rm_keep h HOn.out) (fun h => step_bad h))
  generalize saveD ⟨L, y⟩ n s = Q1 at *
  generalize stepP ⟨L, y⟩ (rmP L n) = Q2 at *
  obtain ⟨⟨La, za⟩, ea⟩ := Q1
  obtain ⟨⟨Lb, zb⟩, eb⟩ := Q2
  obtain ⟨ra, sa, la, ga, _⟩ := HSv.out
  obtain ⟨rb, sb, lb, gb, _⟩ := HRm.out
  simp only at ra sa la ga rb sb lb gb
  clear HSv HRm HOn HOf
  have CRa := fun (W : World) (A' : Option Addr) (c' : Nat) h => Lib.hid (DkRead_any La o A' c' za W h sa la)
  have CRb := fun (W : World) (A' : Option Addr) (c' : Nat) h => Lib.hid (DkRead_any Lb o A' c' zb W h sb lb)
  rw [ra] at CRa
  rw [rb] at CRb
  have CGa := fun (W : World) (A' : Option Addr) (c' : Nat) h => Lib.hid (Good_any La A' c' za W h sa la)
  have CGb := fun (W : World) (A' : Option Addr) (c' : Nat) h => Lib.hid (Good_any Lb A' c' zb W h sb lb)
  generalize readD ⟨L, y⟩ o = R at *
  obtain ⟨was, e⟩ := R
  clear ra rb
  have c0 : V.cell? ⟨w.heap.size, 0, none⟩ = some (.slice A L.length c) := A0.cell 0
  have c1 : V.cell? ⟨w.heap.size, 1, none⟩ = some (.int .i64 y) := A0.cell 1
  go_wp2_with fail
  (with_reducible refine CR.out.mono ?_)
  clear CR c0 c1
  rintro _ V2 ⟨rfl, b2⟩
  replace A0 := A0.below b2 A0.lt
  replace b0 := b0.trans (b2.mono b0.size)
  clear b2
  have c0 : V2.cell? ⟨w.heap.size, 0, none⟩ = some (.slice A L.length c) := A0.cell 0
  have c1 : V2.cell? ⟨w.heap.size, 1, none⟩ = some (.int .i64 y) := A0.cell 1
  have C2 := CSv V2 (hP.up b0)
  clear CSv
  go_wp2_with fail
  (with_reducible refine C2.out.mono ?_)
  clear C2 c0 c1
  rintro _ V3 ⟨Aa, ca, rfl, hFa, hca, b2⟩
  simp only at hFa hca ⊢
  replace A0 := A0.below b2 A0.lt
  replace b0 := b0.trans (b2.mono b0.size)
  clear b2
  have bb : Below V3.heap.size V3 ((V3.alloc (.cells dkZero 24)).setRow V3.heap.size (dkArr La Aa ca za)) := below_setRow ((Below.refl _ _).alloc (Nat.le_refl _) _) (Nat.le_refl _) _
  have AX : Arr ((V3.alloc (.cells dkZero 24)).setRow V3.heap.size (dkArr La Aa ca za)) V3.heap.size 24 (dkArr La Aa ca za) := (Arr.new _ _ _).row _
  go_upto_region 6 with (refine wpList_store_row rfl 24 _ _ rfl V3.heap.size (dkArr La Aa ca za) rfl rfl 24 dkZero (Arr.new V3 _ _) (dkInfo _ _ _ _) rfl (dkArr_one _ _ _ _) ?_)
  refine wp_forget (fun W => Arr W V3.heap.size 24 (dkArr La Aa ca za) ∧ Arr W w.heap.size 24 (dkArr L A c y) ∧ Fls W W.heap.size Aa La ∧ Below w.heap.size w W) (by exact ⟨AX, A0.below bb A0.lt, hFa.up bb, b0.trans (bb.mono b0.size)⟩) ?_
  clear AX bb A0 b0 hFa
  generalize V3.heap.size = qa at *
  rintro W ⟨AX, A0, hFa, b0⟩
  have d0 : W.cell? ⟨qa, 0, none⟩ = some (.slice Aa La.length ca) := AX.cell 0
  have d1 : W.cell? ⟨qa, 1, none⟩ = some (.int .i64 za) := AX.cell 1
  have C3 := CRa W Aa ca hFa
  clear CRa
  go_wp2_with fail
  (with_reducible refine C3.out.mono ?_)
  clear C3 d0 d1
  rintro _ W2 ⟨rfl, b2⟩
  replace A0 := A0.below b2 A0.lt
  replace AX := AX.below b2 AX.lt
  replace hFa := hFa.up b2
  replace b0 := b0.trans (b2.mono b0.size)
  clear b2
  have c0 : W2.cell? ⟨w.heap.size, 0, none⟩ = some (.slice A L.length c) := A0.cell 0
  have c1 : W2.cell? ⟨w.heap.size, 1, none⟩ = some (.int .i64 y) := A0.cell 1
  have C4 := CRm W2 (hP.up b0)
  clear CRm
  go_wp2_with fail
  (with_reducible refine C4.out.mono ?_)
  clear C4 c0 c1
  rintro _ W3 ⟨Ab, cb, rfl, hFb, hcb, b2⟩
  simp only at hFb hcb ⊢
  replace A0 := A0.below b2 A0.lt
  replace AX := AX.below b2 AX.lt
  replace hFa := hFa.up b2
  replace b0 := b0.trans (b2.mono b0.size)
  clear b2
  have bb : Below W3.heap.size W3 ((W3.alloc (.cells dkZero 24)).setRow W3.heap.size (dkArr Lb Ab cb zb)) := below_setRow ((Below.refl _ _).alloc (Nat.le_refl _) _) (Nat.le_refl _) _
  have AY : Arr ((W3.alloc (.cells dkZero 24)).setRow W3.heap.size (dkArr Lb Ab cb zb)) W3.heap.size 24 (dkArr Lb Ab cb zb) := (Arr.new _ _ _).row _
  go_upto_region 8 with (refine wpList_store_row rfl 24 _ _ rfl W3.heap.size (dkArr Lb Ab cb zb) rfl rfl 24 dkZero (Arr.new W3 _ _) (dkInfo _ _ _ _) rfl (dkArr_one _ _ _ _) ?_)
  refine wp_forget (fun W => Arr W W3.heap.size 24 (dkArr Lb Ab cb zb) ∧ Arr W qa 24 (dkArr La Aa ca za) ∧ Arr W w.heap.size 24 (dkArr L A c y) ∧ Fls W W.heap.size Aa La ∧ Fls W W.heap.size Ab Lb ∧ Below w.heap.size w W) (by exact ⟨AY, AX.below bb AX.lt, A0.below bb A0.lt, hFa.up bb, hFb.up bb, b0.trans (bb.mono b0.size)⟩) ?_
  clear AX AY bb A0 b0 hFa hFb
  generalize W3.heap.size = qb at *
  rintro W ⟨AY, AX, A0, hFa, hFb, b0⟩
  have d0 : W.cell? ⟨qb, 0, none⟩ = some (.slice Ab Lb.length cb) := AY.cell 0
  have d1 : W.cell? ⟨qb, 1, none⟩ = some (.int .i64 zb) := AY.cell 1
  have C5 := CRb W Ab cb hFb
  clear CRb
  go_wp2_with fail
  (with_reducible refine C5.out.mono ?_)
  clear C5 d0 d1
  rintro _ W4 ⟨rfl, b2⟩
  replace A0 := A0.below b2 A0.lt
  replace AX := AX.below b2 AX.lt
  replace AY := AY.below b2 AY.lt
  replace hFa := hFa.up b2
  replace hFb := hFb.up b2
  replace b0 := b0.trans (b2.mono b0.size)
  clear b2
  have c0 : W4.cell? ⟨w.heap.size, 0, none⟩ = some (.slice A L.length c) := A0.cell 0
  have c1 : W4.cell? ⟨w.heap.size, 1, none⟩ = some (.int .i64 y) := A0.cell 1
  have C6 : Hid (Calls Try.prog 18 #[.agg #[.slice A L.length c, .int .i64 y]] W4 fun e w' => e = .returned (.bool (goodD L)) ∧ Below W4.heap.size W4 w') := CG0 W4 (hP.up b0)
  clear CG0
  simp only
  cases hg : goodD L with
  | false =>
    rw [hg] at C6
    go_wp2_with fail
    (with_reducible refine C6.out.mono ?_)
    rintro _ W5 ⟨rfl, b2⟩
    go_wp2_with fail
    go_ret
    exact ⟨rfl, b0.trans (b2.mono b0.size)⟩
  | true =>
    rw [hg] at C6
    have g1 := ga hg
    have g2 := gb hg
    rw [g1] at CGa
    rw [g2] at CGb
    clear ga gb hg g1 g2
    go_wp2_with fail
    (with_reducible refine C6.out.mono ?_)
    clear C6 c0 c1
    rintro _ W5 ⟨rfl, b2⟩
    replace AX := AX.below b2 AX.lt
    replace AY := AY.below b2 AY.lt
    replace hFa := hFa.up b2
    replace hFb := hFb.up b2
    replace b0 := b0.trans (b2.mono b0.size)
    clear b2 A0
    have d0 : W5.cell? ⟨qa, 0, none⟩ = some (.slice Aa La.length ca) := AX.cell 0
    have d1 : W5.cell? ⟨qa, 1, none⟩ = some (.int .i64 za) := AX.cell 1
    have C7 : Hid (Calls Try.prog 18 #[.agg #[.slice Aa La.length ca, .int .i64 za]] W5 fun e w' => e = .returned (.bool true) ∧ Below W5.heap.size W5 w') := CGa W5 Aa ca hFa
    clear CGa
    go_wp2_with fail
    (with_reducible refine C7.out.mono ?_)
    clear C7 d0 d1
    rintro _ W6 ⟨rfl, b2⟩
    replace AY := AY.below b2 AY.lt
    replace hFb := hFb.up b2
    replace b0 := b0.trans (b2.mono b0.size)
    clear b2 AX hFa
    have d0 : W6.cell? ⟨qb, 0, none⟩ = some (.slice Ab Lb.length cb) := AY.cell 0
    have d1 : W6.cell? ⟨qb, 1, none⟩ = some (.int .i64 zb) := AY.cell 1
    have C8 : Hid (Calls Try.prog 18 #[.agg #[.slice Ab Lb.length cb, .int .i64 zb]] W6 fun e w' => e = .returned (.bool true) ∧ Below W6.heap.size W6 w') := CGb W6 Ab cb hFb
    clear CGb
    go_wp2_with fail
    (with_reducible refine C8.out.mono ?_)
    clear C8 d0 d1
    rintro _ W7 ⟨rfl, b2⟩
    go_wp2_with fail
    go_ret
    exact ⟨rfl, b0.trans (b2.mono b0.size)⟩
end Go.Proofs.Ytngeiagpodgabaa
