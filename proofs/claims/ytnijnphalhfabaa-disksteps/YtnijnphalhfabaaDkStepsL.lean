/- law.DiskSteps: the walk. -/
import Derived.Test.YtnijnphalhfabaaDkRefH
import Derived.Test.YtnijnphalhfabaaDkDisks
import Derived.Test.YtnijnphalhfabaaOPick
namespace Go.Proofs.Ytnijnphalhfabaa
open Go.RowKit

theorem lawpick_any (k : Int) (n : Nat) (hn : 0 < n) (hn2 : n ≤ 281474976710656) (w : World) :
    Calls Try.prog 10 #[.int .i64 k, .int .i64 (n : Int)] w fun e w' => e = .returned (.int .i64 (pk k n)) ∧ w = w' := by
  have h1 := Int.tmod_lt_of_pos k (b := (n : Int)) (by omega)
  have h2 := Int.lt_tmod_of_pos k (b := (n : Int)) (by omega)
  by_cases h : k.tmod n < 0
  · have HP : Hid (pk k n = k.tmod n + n) := by show _ = _; unfold pk; rw [if_pos h]
    have hw : wrap64 (k.tmod n + n) = k.tmod n + n := IntWalk.wrap64_in _ (by omega)
    go_enter Try.func10, Try.ntmps10
    go_wp2_with fail
    go_ret
    exact ⟨by rw [HP.out]; rfl, rfl⟩
  · have HP : Hid (pk k n = k.tmod n) := by show _ = _; unfold pk; rw [if_neg h]
    go_enter Try.func10, Try.ntmps10
    go_wp2_with fail
    go_ret
    exact ⟨by rw [HP.out]; rfl, rfl⟩
/-- the four disks of the walk -/
def Dq (w : World) (L M : List Fl) (A Aa A1 Ab : Option Addr) (c ca k1 cb : Nat) (z y : Int) (q r : Nat) (W : World) : Prop :=
  Arr W w.heap.size 24 (dkArr L A c z) ∧ Arr W (w.heap.size + 1) 24 (dkArr M Aa ca y) ∧ Arr W q 24 (dkArr L A1 k1 z) ∧ Arr W r 24 (dkArr M Ab cb y) ∧
  Fls W W.heap.size A L ∧ Fls W W.heap.size Aa M ∧ Fls W W.heap.size A1 L ∧ Fls W W.heap.size Ab M ∧ Below w.heap.size w W
theorem Dq.below {w : World} {L M : List Fl} {A Aa A1 Ab : Option Addr} {c ca k1 cb : Nat} {z y : Int} {q r : Nat} {W W' : World} (h : Dq w L M A Aa A1 Ab c ca k1 cb z y q r W) (b : Below W.heap.size W W') : Dq w L M A Aa A1 Ab c ca k1 cb z y q r W' := by
  obtain ⟨h1, h2, h3, h4, f1, f2, f3, f4, b0⟩ := h
  exact ⟨h1.below b h1.lt, h2.below b h2.lt, h3.below b h3.lt, h4.below b h4.lt, f1.up b, f2.up b, f3.up b, f4.up b, b0.trans (b.mono b0.size)⟩
theorem Dq.drew {w : World} {L M : List Fl} {A Aa A1 Ab : Option Addr} {c ca k1 cb : Nat} {z y : Int} {q r : Nat} {W : World} (h : Dq w L M A Aa A1 Ab c ca k1 cb z y q r W) : Dq w L M A Aa A1 Ab c ca k1 cb z y q r W.drew := h.below (below_drewN (Below.refl _ _) 1)
theorem Dq.hold {w : World} {L M : List Fl} {A Aa A1 Ab : Option Addr} {c ca k1 cb : Nat} {z y : Int} {q r : Nat} {W : World} (h : Dq w L M A Aa A1 Ab c ca k1 cb z y q r W) :
    W.cell? ⟨w.heap.size, 0, none⟩ = some (.slice A L.length c) ∧ W.cell? ⟨w.heap.size, 1, none⟩ = some (.int .i64 z) ∧ W.cell? ⟨w.heap.size + 1, 0, none⟩ = some (.slice Aa M.length ca) ∧ W.cell? ⟨w.heap.size + 1, 1, none⟩ = some (.int .i64 y) ∧
    W.cell? ⟨q, 0, none⟩ = some (.slice A1 L.length k1) ∧ W.cell? ⟨q, 1, none⟩ = some (.int .i64 z) ∧ W.cell? ⟨r, 0, none⟩ = some (.slice Ab M.length cb) ∧ W.cell? ⟨r, 1, none⟩ = some (.int .i64 y) :=
  ⟨h.1.cell 0, h.1.cell 1, h.2.1.cell 0, h.2.1.cell 1, h.2.2.1.cell 0, h.2.2.1.cell 1, h.2.2.2.1.cell 0, h.2.2.2.1.cell 1⟩
theorem Dq.f1 {w : World} {L M : List Fl} {A Aa A1 Ab : Option Addr} {c ca k1 cb : Nat} {z y : Int} {q r : Nat} {W : World} (h : Dq w L M A Aa A1 Ab c ca k1 cb z y q r W) : Fls W W.heap.size A L := h.2.2.2.2.1
theorem Dq.f2 {w : World} {L M : List Fl} {A Aa A1 Ab : Option Addr} {c ca k1 cb : Nat} {z y : Int} {q r : Nat} {W : World} (h : Dq w L M A Aa A1 Ab c ca k1 cb z y q r W) : Fls W W.heap.size Aa M := h.2.2.2.2.2.1
theorem Dq.f3 {w : World} {L M : List Fl} {A Aa A1 Ab : Option Addr} {c ca k1 cb : Nat} {z y : Int} {q r : Nat} {W : World} (h : Dq w L M A Aa A1 Ab c ca k1 cb z y q r W) : Fls W W.heap.size A1 L := h.2.2.2.2.2.2.1
theorem Dq.f4 {w : World} {L M : List Fl} {A Aa A1 Ab : Option Addr} {c ca k1 cb : Nat} {z y : Int} {q r : Nat} {W : World} (h : Dq w L M A Aa A1 Ab c ca k1 cb z y q r W) : Fls W W.heap.size Ab M := h.2.2.2.2.2.2.2.1
theorem steps_len {L : List Fl} {z : Int} {r : Except Int (List Fl)} (hl : L.length * 48 ≤ 140737488355328) (h : ∀ M, r = .ok M → M.length ≤ L.length + 1) : (stepP ⟨L, z⟩ r).1.files.length ≤ 140737488355328 := by
  unfold stepP
  split
  · show L.length ≤ _; omega
  · split
    · show L.length ≤ _; omega
    · cases r with
      | error e => show L.length ≤ _; omega
      | ok M => have := h M rfl; show M.length ≤ _; omega
theorem putL_len (f : Fl) : ∀ L : List Fl, (putL f L).length ≤ L.length + 1
  | [] => by simp [putL]
  | x :: l => by
    have := putL_len f l
    unfold putL
    split
    · simp only [List.length_cons]; omega
    · split <;> simp only [List.length_cons] <;> omega
theorem wr_len {L : List Fl} {n s : ByteArray} : ∀ M, wrP L n s = .ok M → M.length ≤ L.length + 1 := fun M h => by
  unfold wrP at h
  split at h
  · cases h
  · split at h
    · split at h
      · cases h
      · split at h
        · cases h
        · cases h; exact putL_len _ _
    · split at h
      · cases h
      · cases h; exact putL_len _ _
theorem sy_len {L : List Fl} {n : ByteArray} : ∀ M, syP L n = .ok M → M.length ≤ L.length + 1 := fun M h => by
  unfold syP at h
  split at h
  · cases h
  · cases h; exact putL_len _ _
theorem rm_len {L : List Fl} {n : ByteArray} : ∀ M, rmP L n = .ok M → M.length ≤ L.length + 1 := fun M h => by
  unfold rmP at h
  split at h
  · cases h
  · cases h; exact Nat.le_succ_of_le (List.length_filter_le _ _)
theorem rn_len {L : List Fl} {n m : ByteArray} : ∀ M, rnP L n m = .ok M → M.length ≤ L.length + 1 := fun M h => by
  unfold rnP at h
  split at h
  · cases h
  · split at h
    · cases h
    · cases h
      refine Nat.le_trans (putL_len _ _) (Nat.succ_le_succ ?_)
      exact List.length_filter_le _ _
set_option maxRecDepth 100000 in
set_option maxHeartbeats 4000000 in
theorem DiskSteps_write (x : Int) (hx : pk x 4 = 0) (L : List Fl) (n s : ByteArray) (hn : n.size ≤ 140737488355328) (hs : s.size ≤ 140737488355328) (A : Option Addr) (c : Nat) (z : Int) (w : World) (hP : Fls w w.heap.size A L) (hz : Sized L) (hl : L.length * 48 ≤ 140737488355328) (hc : L.length ≤ c) (hzf : z ≤ 9223372036854775807) (hzg : -9223372036854775808 ≤ z) :
    Calls Try.prog 3 #[.int .i64 x, .agg (dkArr L A c z), .string n, .string s] w fun e w' => e = .returned (.bool true) ∧ Below w.heap.size w w' := by
  have A0 : Arr (w.alloc (.cells (dkArr L A c z) 24)) w.heap.size 24 (dkArr L A c z) := Arr.new _ _ _
  have b0 : Below w.heap.size w (w.alloc (.cells (dkArr L A c z) 24)) := (Below.refl _ _).alloc (Nat.le_refl _) _
  have CP : Hid (Calls Try.prog 10 #[.int .i64 x, .int .i64 4] (w.alloc (.cells (dkArr L A c z) 24)) fun e w' => e = .returned (.int .i64 0) ∧ w.alloc (.cells (dkArr L A c z) 24) = w') := by
    have q := lawpick_any x 4 (by omega) (by omega) (w.alloc (.cells (dkArr L A c z) 24))
    have hx' : pk x ((4 : Nat) : Int) = 0 := hx
    rw [hx'] at q
    exact q
  have hl1 : L.length ≤ 140737488355328 := by omega
  have CC := fun V h => Lib.hid (CopyDisk_any L A c z V h hl)
  have CX : ∀ (V : World) (A' : Option Addr) (c' : Nat), Fls V V.heap.size A' L → L.length ≤ c' → Hid (Calls Try.prog 12 #[.agg #[.slice A' L.length c', .int .i64 z], .string n, .string s] V (StEnd V (stepP ⟨L, z⟩ (wrP L n s)))) := fun V A' c' h h2 => Write_any L n s hs A' c' z V h hz hl1 h2 hzf
  have CY : ∀ V, Fls V V.heap.size A L → Hid (Calls Try.prog 16 #[.int .i64 0, .agg #[.slice A L.length c, .int .i64 z], .string n, .string s] V (StEnd V (stepP ⟨L, z⟩ (wrP L n s)))) := fun V h => RefDo_write L n s hn hs A c z hzg hzf V h hz hl hc
  have CD := fun V => Lib.hid (disks_law V)
  have CG := fun (V : World) (A' : Option Addr) (c' : Nat) h => Lib.hid (Good_any L A' c' z V h hz hl1)
  have CH : ∀ V, Fls V V.heap.size A L → Hid (Calls Try.prog 19 #[.agg #[.slice A L.length c, .int .i64 z]] V fun e w' => e = .returned (.bool (goodD L)) ∧ Below V.heap.size V w') := fun V h => GoodDisk_any L A c z V h hz hl1
  have hlQ : (stepP ⟨L, z⟩ (wrP L n s)).1.files.length ≤ 140737488355328 := steps_len hl wr_len
  generalize stepP ⟨L, z⟩ (wrP L n s) = Q at *
  obtain ⟨⟨M, y⟩, g⟩ := Q
  have hm1 : M.length ≤ 140737488355328 := hlQ
  clear hlQ
  generalize goodD L = G at *
  have CS : ∀ (V : World) (A' B' : Option Addr) (c' d' : Nat), Fls V V.heap.size A' M → Fls V V.heap.size B' M → Hid (Calls Try.prog 17 #[.agg #[.slice A' M.length c', .int .i64 y], .agg #[.slice B' M.length d', .int .i64 y]] V fun e w' => e = .returned (.bool true) ∧ Below V.heap.size V w') := fun V A' B' c' d' h1 h2 => by
    have := RefSameDisk_any M M A' B' c' d' y y V h1 h2 hm1 hm1
    rw [decide_eq_true rfl] at this
    exact this
  have CT : ∀ (V : World) (A' B' : Option Addr) (c' d' : Nat), Fls V V.heap.size A' L → Fls V V.heap.size B' L → Hid (Calls Try.prog 17 #[.agg #[.slice A' L.length c', .int .i64 z], .agg #[.slice B' L.length d', .int .i64 z]] V fun e w' => e = .returned (.bool true) ∧ Below V.heap.size V w') := fun V A' B' c' d' h1 h2 => by
    have := RefSameDisk_any L L A' B' c' d' z z V h1 h2 hl1 hl1
    rw [decide_eq_true rfl] at this
    exact this
  clear hx
  go_enter Try.func3, Try.ntmps3
  go_wp2_with fail
  (with_reducible refine CP.out.mono ?_)
  clear CP
  rintro _ _ ⟨rfl, rfl⟩
  have B0 : Arr ((w.alloc (.cells (dkArr L A c z) 24)).alloc (.cells dkZero 24)) (w.heap.size + 1) 24 dkZero := Arr.new_at _ _ _ (by simp)
  have b1 : Below w.heap.size w ((w.alloc (.cells (dkArr L A c z) 24)).alloc (.cells dkZero 24)) := b0.alloc (by simp <;> omega) _
  go_upto_region 4 with fail
  refine wp_forget (fun V => Arr V w.heap.size 24 (dkArr L A c z) ∧ Arr V (w.heap.size + 1) 24 dkZero ∧ Below w.heap.size w V) (by exact ⟨A0.alloc _, B0, b1⟩) ?_
  clear A0 B0 b0 b1
  rintro V ⟨A0, B0, b0⟩
  have c0 : V.cell? ⟨w.heap.size, 0, none⟩ = some (.slice A L.length c) := A0.cell 0
  have c1 : V.cell? ⟨w.heap.size, 1, none⟩ = some (.int .i64 z) := A0.cell 1
  have C1 := CC V (hP.up b0)
  go_wp2_with fail
  (with_reducible refine C1.out.mono ?_)
  clear C1 c0 c1
  rintro _ V1 ⟨A1, k1, rfl, hF1, hk1, b2⟩
  replace A0 := A0.below b2 A0.lt
  replace B0 := B0.below b2 B0.lt
  replace b0 := b0.trans (b2.mono b0.size)
  clear b2
  have bb : Below V1.heap.size V1 ((V1.alloc (.cells dkZero 24)).setRow V1.heap.size (dkArr L A1 k1 z)) := below_setRow ((Below.refl _ _).alloc (Nat.le_refl _) _) (Nat.le_refl _) _
  have AX : Arr ((V1.alloc (.cells dkZero 24)).setRow V1.heap.size (dkArr L A1 k1 z)) V1.heap.size 24 (dkArr L A1 k1 z) := (Arr.new _ _ _).row _
  go_upto_region 5 with (refine wpList_store_row rfl 24 _ _ rfl V1.heap.size (dkArr L A1 k1 z) rfl rfl 24 dkZero (Arr.new V1 _ _) (dkInfo _ _ _ _) rfl (dkArr_one _ _ _ _) ?_)
  refine wp_forget (fun W => Arr W V1.heap.size 24 (dkArr L A1 k1 z) ∧ Arr W w.heap.size 24 (dkArr L A c z) ∧ Arr W (w.heap.size + 1) 24 dkZero ∧ Fls W W.heap.size A1 L ∧ Below w.heap.size w W ∧ w.heap.size + 2 ≤ V1.heap.size) (by exact ⟨AX, A0.below bb A0.lt, B0.below bb B0.lt, hF1.up bb, b0.trans (bb.mono b0.size), B0.lt⟩) ?_
  clear AX bb A0 B0 b0 hF1
  generalize V1.heap.size = q at *
  rintro V ⟨AX, A0, B0, hF1, b0, hq⟩
  have c0 : V.cell? ⟨q, 0, none⟩ = some (.slice A1 L.length k1) := AX.cell 0
  have c1 : V.cell? ⟨q, 1, none⟩ = some (.int .i64 z) := AX.cell 1
  have C1 : Hid (Calls Try.prog 12 #[.agg #[.slice A1 L.length k1, .int .i64 z], .string n, .string s] V (StEnd V (⟨M, y⟩, g))) := CX V A1 k1 hF1 hk1
  clear CX
  go_wp2_with fail
  (with_reducible refine C1.out.mono ?_)
  clear C1 c0 c1
  rintro _ V5 ⟨Aa, ca, rfl, hFa, hca, b2⟩
  simp only at hFa hca ⊢
  replace A0 := A0.below b2 A0.lt
  replace B0 := B0.below b2 B0.lt
  replace AX := AX.below b2 AX.lt
  replace hF1 := hF1.up b2
  replace b0 := b0.trans (b2.mono b0.size)
  clear b2
  have bb := below_setRow b0 (show w.heap.size ≤ w.heap.size + 1 by omega) (dkArr M Aa ca y)
  go_upto_region 13 with (refine wpList_store_row rfl 24 _ _ rfl (w.heap.size + 1) (dkArr M Aa ca y) rfl rfl 24 dkZero B0 (dkInfo _ _ _ _) rfl (dkArr_one _ _ _ _) ?_)
  refine wp_forget (fun W => Arr W (w.heap.size + 1) 24 (dkArr M Aa ca y) ∧ Arr W w.heap.size 24 (dkArr L A c z) ∧ Arr W q 24 (dkArr L A1 k1 z) ∧ Fls W W.heap.size Aa M ∧ Fls W W.heap.size A1 L ∧ Below w.heap.size w W) (by exact ⟨B0.row _, A0.row_far (by omega) _, AX.row_far (by omega) _, hFa.row B0 _, hF1.row B0 _, bb⟩) ?_
  clear AX A0 B0 bb b0 hFa hF1
  rintro W ⟨B0, A0, AX, hFa, hF1, b0⟩
  have c0 : W.cell? ⟨w.heap.size, 0, none⟩ = some (.slice A L.length c) := A0.cell 0
  have c1 : W.cell? ⟨w.heap.size, 1, none⟩ = some (.int .i64 z) := A0.cell 1
  have C1 := CY W (hP.up b0)
  clear CY
  go_wp2_with fail
  (with_reducible refine C1.out.mono ?_)
  clear C1 c0 c1
  rintro _ W2 ⟨Ab, cb, rfl, hFb, hcb, b2⟩
  simp only at hFb hcb ⊢
  have HV : Dq w L M A Aa A1 Ab c ca k1 cb z y q W2.heap.size ((W2.alloc (.cells dkZero 24)).setRow W2.heap.size (dkArr M Ab cb y)) := by
    have bb : Below W2.heap.size W2 ((W2.alloc (.cells dkZero 24)).setRow W2.heap.size (dkArr M Ab cb y)) := below_setRow ((Below.refl _ _).alloc (Nat.le_refl _) _) (Nat.le_refl _) _
    have AY : Arr ((W2.alloc (.cells dkZero 24)).setRow W2.heap.size (dkArr M Ab cb y)) W2.heap.size 24 (dkArr M Ab cb y) := (Arr.new _ _ _).row _
    have b3 := b0.trans (b2.mono b0.size)
    have b4 := b3.trans (bb.mono b3.size)
    exact ⟨(A0.below b2 A0.lt).below bb (A0.below b2 A0.lt).lt, (B0.below b2 B0.lt).below bb (B0.below b2 B0.lt).lt, (AX.below b2 AX.lt).below bb (AX.below b2 AX.lt).lt, AY, hP.up b4, (hFa.up b2).up bb, (hF1.up b2).up bb, hFb.up bb, b4⟩
  go_upto_region 14 with (refine wpList_store_row rfl 24 _ _ rfl W2.heap.size (dkArr M Ab cb y) rfl rfl 24 dkZero (Arr.new W2 _ _) (dkInfo _ _ _ _) rfl (dkArr_one _ _ _ _) ?_)
  refine wp_forget (Dq w L M A Aa A1 Ab c ca k1 cb z y q W2.heap.size) (by exact HV) ?_
  clear HV b2 hFb b0 B0 A0 AX hFa hF1 hP
  generalize W2.heap.size = r at *
  intro W HV
  have hV := HV.drew
  go_wp2_with fail
  go_region_held3 (fun w' => w'.cell? ⟨w.heap.size, 0, none⟩ = some (.slice A L.length c) ∧ w'.cell? ⟨w.heap.size, 1, none⟩ = some (.int .i64 z) ∧ w'.cell? ⟨w.heap.size + 1, 0, none⟩ = some (.slice Aa M.length ca) ∧ w'.cell? ⟨w.heap.size + 1, 1, none⟩ = some (.int .i64 y) ∧
    w'.cell? ⟨q, 0, none⟩ = some (.slice A1 L.length k1) ∧ w'.cell? ⟨q, 1, none⟩ = some (.int .i64 z) ∧ w'.cell? ⟨r, 0, none⟩ = some (.slice Ab M.length cb) ∧ w'.cell? ⟨r, 1, none⟩ = some (.int .i64 y))
    (first | exact hV.hold | exact hV1.hold | exact hV2.hold | exact hV3.hold | exact hV4.hold | exact hV5.hold | exact hV6.hold)
    (first
      | (go_at_call 17
         (with_reducible refine ((CS _ Aa Ab ca cb hV.f2 hV.f4).out).mono ?_)
         rintro _ w1 ⟨rfl, b1⟩
         have hV1 := hV.below b1)
      | (go_at_call 17
         (with_reducible refine ((CT _ A1 A k1 c hV1.f3 hV1.f1).out).mono ?_)
         rintro _ w2 ⟨rfl, b2⟩
         have hV2 := hV1.below b2)
      | (go_at_call 11
         (with_reducible refine ((CC _ hV2.f1).out).mono ?_)
         rintro _ w3 ⟨A3, k3, rfl, hF3, hk3, b3⟩
         have hV3 := hV2.below b3)
      | (go_at_call 18
         (with_reducible refine ((CG _ _ _ hF3).out).mono ?_)
         rintro _ w4 ⟨rfl, b4⟩
         have hV4 := hV3.below b4)
      | (go_at_call 19
         (with_reducible refine ((CH _ hV4.f1).out).mono ?_)
         rintro _ w5 ⟨rfl, b5⟩
         have hV5 := hV4.below b5)
      | (go_at_call 20
         (with_reducible refine ((CD _).out).mono ?_)
         rintro _ w6 ⟨rfl, b6⟩
         have hV6 := hV5.below b6))
  go_wp2_with fail
  go_ret
  exact ⟨rfl, hV6.2.2.2.2.2.2.2.2⟩
set_option maxRecDepth 100000 in
set_option maxHeartbeats 4000000 in
theorem DiskSteps_sync (x : Int) (hx : pk x 4 = 1) (L : List Fl) (n s : ByteArray) (A : Option Addr) (c : Nat) (z : Int) (w : World) (hP : Fls w w.heap.size A L) (hz : Sized L) (hl : L.length * 48 ≤ 140737488355328) (hc : L.length ≤ c) (hzf : z ≤ 9223372036854775807) (hzg : -9223372036854775808 ≤ z) :
    Calls Try.prog 3 #[.int .i64 x, .agg (dkArr L A c z), .string n, .string s] w fun e w' => e = .returned (.bool true) ∧ Below w.heap.size w w' := by
  have A0 : Arr (w.alloc (.cells (dkArr L A c z) 24)) w.heap.size 24 (dkArr L A c z) := Arr.new _ _ _
  have b0 : Below w.heap.size w (w.alloc (.cells (dkArr L A c z) 24)) := (Below.refl _ _).alloc (Nat.le_refl _) _
  have CP : Hid (Calls Try.prog 10 #[.int .i64 x, .int .i64 4] (w.alloc (.cells (dkArr L A c z) 24)) fun e w' => e = .returned (.int .i64 1) ∧ w.alloc (.cells (dkArr L A c z) 24) = w') := by
    have q := lawpick_any x 4 (by omega) (by omega) (w.alloc (.cells (dkArr L A c z) 24))
    have hx' : pk x ((4 : Nat) : Int) = 1 := hx
    rw [hx'] at q
    exact q
  have hl1 : L.length ≤ 140737488355328 := by omega
  have CC := fun V h => Lib.hid (CopyDisk_any L A c z V h hl)
  have CX : ∀ (V : World) (A' : Option Addr) (c' : Nat), Fls V V.heap.size A' L → L.length ≤ c' → Hid (Calls Try.prog 13 #[.agg #[.slice A' L.length c', .int .i64 z], .string n] V (StEnd V (stepP ⟨L, z⟩ (syP L n)))) := fun V A' c' h h2 => Sync_any L n A' c' z V h hz hl1 h2 hzf
  have CY : ∀ V, Fls V V.heap.size A L → Hid (Calls Try.prog 16 #[.int .i64 1, .agg #[.slice A L.length c, .int .i64 z], .string n, .string s] V (StEnd V (stepP ⟨L, z⟩ (syP L n)))) := fun V h => RefDo_sync L n s A c z hzg hzf V h hz hl hc
  have CD := fun V => Lib.hid (disks_law V)
  have CG := fun (V : World) (A' : Option Addr) (c' : Nat) h => Lib.hid (Good_any L A' c' z V h hz hl1)
  have CH : ∀ V, Fls V V.heap.size A L → Hid (Calls Try.prog 19 #[.agg #[.slice A L.length c, .int .i64 z]] V fun e w' => e = .returned (.bool (goodD L)) ∧ Below V.heap.size V w') := fun V h => GoodDisk_any L A c z V h hz hl1
  have hlQ : (stepP ⟨L, z⟩ (syP L n)).1.files.length ≤ 140737488355328 := steps_len hl sy_len
  generalize stepP ⟨L, z⟩ (syP L n) = Q at *
  obtain ⟨⟨M, y⟩, g⟩ := Q
  have hm1 : M.length ≤ 140737488355328 := hlQ
  clear hlQ
  generalize goodD L = G at *
  have CS : ∀ (V : World) (A' B' : Option Addr) (c' d' : Nat), Fls V V.heap.size A' M → Fls V V.heap.size B' M → Hid (Calls Try.prog 17 #[.agg #[.slice A' M.length c', .int .i64 y], .agg #[.slice B' M.length d', .int .i64 y]] V fun e w' => e = .returned (.bool true) ∧ Below V.heap.size V w') := fun V A' B' c' d' h1 h2 => by
    have := RefSameDisk_any M M A' B' c' d' y y V h1 h2 hm1 hm1
    rw [decide_eq_true rfl] at this
    exact this
  have CT : ∀ (V : World) (A' B' : Option Addr) (c' d' : Nat), Fls V V.heap.size A' L → Fls V V.heap.size B' L → Hid (Calls Try.prog 17 #[.agg #[.slice A' L.length c', .int .i64 z], .agg #[.slice B' L.length d', .int .i64 z]] V fun e w' => e = .returned (.bool true) ∧ Below V.heap.size V w') := fun V A' B' c' d' h1 h2 => by
    have := RefSameDisk_any L L A' B' c' d' z z V h1 h2 hl1 hl1
    rw [decide_eq_true rfl] at this
    exact this
  clear hx
  go_enter Try.func3, Try.ntmps3
  go_wp2_with fail
  (with_reducible refine CP.out.mono ?_)
  clear CP
  rintro _ _ ⟨rfl, rfl⟩
  have B0 : Arr ((w.alloc (.cells (dkArr L A c z) 24)).alloc (.cells dkZero 24)) (w.heap.size + 1) 24 dkZero := Arr.new_at _ _ _ (by simp)
  have b1 : Below w.heap.size w ((w.alloc (.cells (dkArr L A c z) 24)).alloc (.cells dkZero 24)) := b0.alloc (by simp <;> omega) _
  go_upto_region 4 with fail
  refine wp_forget (fun V => Arr V w.heap.size 24 (dkArr L A c z) ∧ Arr V (w.heap.size + 1) 24 dkZero ∧ Below w.heap.size w V) (by exact ⟨A0.alloc _, B0, b1⟩) ?_
  clear A0 B0 b0 b1
  rintro V ⟨A0, B0, b0⟩
  have c0 : V.cell? ⟨w.heap.size, 0, none⟩ = some (.slice A L.length c) := A0.cell 0
  have c1 : V.cell? ⟨w.heap.size, 1, none⟩ = some (.int .i64 z) := A0.cell 1
  have C1 := CC V (hP.up b0)
  go_wp2_with fail
  (with_reducible refine C1.out.mono ?_)
  clear C1 c0 c1
  rintro _ V1 ⟨A1, k1, rfl, hF1, hk1, b2⟩
  replace A0 := A0.below b2 A0.lt
  replace B0 := B0.below b2 B0.lt
  replace b0 := b0.trans (b2.mono b0.size)
  clear b2
  have bb : Below V1.heap.size V1 ((V1.alloc (.cells dkZero 24)).setRow V1.heap.size (dkArr L A1 k1 z)) := below_setRow ((Below.refl _ _).alloc (Nat.le_refl _) _) (Nat.le_refl _) _
  have AX : Arr ((V1.alloc (.cells dkZero 24)).setRow V1.heap.size (dkArr L A1 k1 z)) V1.heap.size 24 (dkArr L A1 k1 z) := (Arr.new _ _ _).row _
  go_upto_region 5 with (refine wpList_store_row rfl 24 _ _ rfl V1.heap.size (dkArr L A1 k1 z) rfl rfl 24 dkZero (Arr.new V1 _ _) (dkInfo _ _ _ _) rfl (dkArr_one _ _ _ _) ?_)
  refine wp_forget (fun W => Arr W V1.heap.size 24 (dkArr L A1 k1 z) ∧ Arr W w.heap.size 24 (dkArr L A c z) ∧ Arr W (w.heap.size + 1) 24 dkZero ∧ Fls W W.heap.size A1 L ∧ Below w.heap.size w W ∧ w.heap.size + 2 ≤ V1.heap.size) (by exact ⟨AX, A0.below bb A0.lt, B0.below bb B0.lt, hF1.up bb, b0.trans (bb.mono b0.size), B0.lt⟩) ?_
  clear AX bb A0 B0 b0 hF1
  generalize V1.heap.size = q at *
  rintro V ⟨AX, A0, B0, hF1, b0, hq⟩
  have c0 : V.cell? ⟨q, 0, none⟩ = some (.slice A1 L.length k1) := AX.cell 0
  have c1 : V.cell? ⟨q, 1, none⟩ = some (.int .i64 z) := AX.cell 1
  have C1 : Hid (Calls Try.prog 13 #[.agg #[.slice A1 L.length k1, .int .i64 z], .string n] V (StEnd V (⟨M, y⟩, g))) := CX V A1 k1 hF1 hk1
  clear CX
  go_wp2_with fail
  (with_reducible refine C1.out.mono ?_)
  clear C1 c0 c1
  rintro _ V5 ⟨Aa, ca, rfl, hFa, hca, b2⟩
  simp only at hFa hca ⊢
  replace A0 := A0.below b2 A0.lt
  replace B0 := B0.below b2 B0.lt
  replace AX := AX.below b2 AX.lt
  replace hF1 := hF1.up b2
  replace b0 := b0.trans (b2.mono b0.size)
  clear b2
  have bb := below_setRow b0 (show w.heap.size ≤ w.heap.size + 1 by omega) (dkArr M Aa ca y)
  go_upto_region 13 with (refine wpList_store_row rfl 24 _ _ rfl (w.heap.size + 1) (dkArr M Aa ca y) rfl rfl 24 dkZero B0 (dkInfo _ _ _ _) rfl (dkArr_one _ _ _ _) ?_)
  refine wp_forget (fun W => Arr W (w.heap.size + 1) 24 (dkArr M Aa ca y) ∧ Arr W w.heap.size 24 (dkArr L A c z) ∧ Arr W q 24 (dkArr L A1 k1 z) ∧ Fls W W.heap.size Aa M ∧ Fls W W.heap.size A1 L ∧ Below w.heap.size w W) (by exact ⟨B0.row _, A0.row_far (by omega) _, AX.row_far (by omega) _, hFa.row B0 _, hF1.row B0 _, bb⟩) ?_
  clear AX A0 B0 bb b0 hFa hF1
  rintro W ⟨B0, A0, AX, hFa, hF1, b0⟩
  have c0 : W.cell? ⟨w.heap.size, 0, none⟩ = some (.slice A L.length c) := A0.cell 0
  have c1 : W.cell? ⟨w.heap.size, 1, none⟩ = some (.int .i64 z) := A0.cell 1
  have C1 := CY W (hP.up b0)
  clear CY
  go_wp2_with fail
  (with_reducible refine C1.out.mono ?_)
  clear C1 c0 c1
  rintro _ W2 ⟨Ab, cb, rfl, hFb, hcb, b2⟩
  simp only at hFb hcb ⊢
  have HV : Dq w L M A Aa A1 Ab c ca k1 cb z y q W2.heap.size ((W2.alloc (.cells dkZero 24)).setRow W2.heap.size (dkArr M Ab cb y)) := by
    have bb : Below W2.heap.size W2 ((W2.alloc (.cells dkZero 24)).setRow W2.heap.size (dkArr M Ab cb y)) := below_setRow ((Below.refl _ _).alloc (Nat.le_refl _) _) (Nat.le_refl _) _
    have AY : Arr ((W2.alloc (.cells dkZero 24)).setRow W2.heap.size (dkArr M Ab cb y)) W2.heap.size 24 (dkArr M Ab cb y) := (Arr.new _ _ _).row _
    have b3 := b0.trans (b2.mono b0.size)
    have b4 := b3.trans (bb.mono b3.size)
    exact ⟨(A0.below b2 A0.lt).below bb (A0.below b2 A0.lt).lt, (B0.below b2 B0.lt).below bb (B0.below b2 B0.lt).lt, (AX.below b2 AX.lt).below bb (AX.below b2 AX.lt).lt, AY, hP.up b4, (hFa.up b2).up bb, (hF1.up b2).up bb, hFb.up bb, b4⟩
  go_upto_region 14 with (refine wpList_store_row rfl 24 _ _ rfl W2.heap.size (dkArr M Ab cb y) rfl rfl 24 dkZero (Arr.new W2 _ _) (dkInfo _ _ _ _) rfl (dkArr_one _ _ _ _) ?_)
  refine wp_forget (Dq w L M A Aa A1 Ab c ca k1 cb z y q W2.heap.size) (by exact HV) ?_
  clear HV b2 hFb b0 B0 A0 AX hFa hF1 hP
  generalize W2.heap.size = r at *
  intro W HV
  have hV := HV.drew
  go_wp2_with fail
  go_region_held3 (fun w' => w'.cell? ⟨w.heap.size, 0, none⟩ = some (.slice A L.length c) ∧ w'.cell? ⟨w.heap.size, 1, none⟩ = some (.int .i64 z) ∧ w'.cell? ⟨w.heap.size + 1, 0, none⟩ = some (.slice Aa M.length ca) ∧ w'.cell? ⟨w.heap.size + 1, 1, none⟩ = some (.int .i64 y) ∧
    w'.cell? ⟨q, 0, none⟩ = some (.slice A1 L.length k1) ∧ w'.cell? ⟨q, 1, none⟩ = some (.int .i64 z) ∧ w'.cell? ⟨r, 0, none⟩ = some (.slice Ab M.length cb) ∧ w'.cell? ⟨r, 1, none⟩ = some (.int .i64 y))
    (first | exact hV.hold | exact hV1.hold | exact hV2.hold | exact hV3.hold | exact hV4.hold | exact hV5.hold | exact hV6.hold)
    (first
      | (go_at_call 17
         (with_reducible refine ((CS _ Aa Ab ca cb hV.f2 hV.f4).out).mono ?_)
         rintro _ w1 ⟨rfl, b1⟩
         have hV1 := hV.below b1)
      | (go_at_call 17
         (with_reducible refine ((CT _ A1 A k1 c hV1.f3 hV1.f1).out).mono ?_)
         rintro _ w2 ⟨rfl, b2⟩
         have hV2 := hV1.below b2)
      | (go_at_call 11
         (with_reducible refine ((CC _ hV2.f1).out).mono ?_)
         rintro _ w3 ⟨A3, k3, rfl, hF3, hk3, b3⟩
         have hV3 := hV2.below b3)
      | (go_at_call 18
         (with_reducible refine ((CG _ _ _ hF3).out).mono ?_)
         rintro _ w4 ⟨rfl, b4⟩
         have hV4 := hV3.below b4)
      | (go_at_call 19
         (with_reducible refine ((CH _ hV4.f1).out).mono ?_)
         rintro _ w5 ⟨rfl, b5⟩
         have hV5 := hV4.below b5)
      | (go_at_call 20
         (with_reducible refine ((CD _).out).mono ?_)
         rintro _ w6 ⟨rfl, b6⟩
         have hV6 := hV5.below b6))
  go_wp2_with fail
  go_ret
  exact ⟨rfl, hV6.2.2.2.2.2.2.2.2⟩
set_option maxRecDepth 100000 in
set_option maxHeartbeats 4000000 in
theorem DiskSteps_rename (x : Int) (hx : pk x 4 = 2) (L : List Fl) (n s : ByteArray) (hs : s.size ≤ 140737488355328) (A : Option Addr) (c : Nat) (z : Int) (w : World) (hP : Fls w w.heap.size A L) (hz : Sized L) (hl : L.length * 48 ≤ 140737488355328) (hc : L.length ≤ c) (hzf : z ≤ 9223372036854775807) (hzg : -9223372036854775808 ≤ z) :
    Calls Try.prog 3 #[.int .i64 x, .agg (dkArr L A c z), .string n, .string s] w fun e w' => e = .returned (.bool true) ∧ Below w.heap.size w w' := by
  have A0 : Arr (w.alloc (.cells (dkArr L A c z) 24)) w.heap.size 24 (dkArr L A c z) := Arr.new _ _ _
  have b0 : Below w.heap.size w (w.alloc (.cells (dkArr L A c z) 24)) := (Below.refl _ _).alloc (Nat.le_refl _) _
  have CP : Hid (Calls Try.prog 10 #[.int .i64 x, .int .i64 4] (w.alloc (.cells (dkArr L A c z) 24)) fun e w' => e = .returned (.int .i64 2) ∧ w.alloc (.cells (dkArr L A c z) 24) = w') := by
    have q := lawpick_any x 4 (by omega) (by omega) (w.alloc (.cells (dkArr L A c z) 24))
    have hx' : pk x ((4 : Nat) : Int) = 2 := hx
    rw [hx'] at q
    exact q
  have hl1 : L.length ≤ 140737488355328 := by omega
  have CC := fun V h => Lib.hid (CopyDisk_any L A c z V h hl)
  have CX : ∀ (V : World) (A' : Option Addr) (c' : Nat), Fls V V.heap.size A' L → L.length ≤ c' → Hid (Calls Try.prog 14 #[.agg #[.slice A' L.length c', .int .i64 z], .string n, .string s] V (StEnd V (stepP ⟨L, z⟩ (rnP L n s)))) := fun V A' c' h h2 => Rename_any L n s A' c' z V h hz hl1 h2 hzf
  have CY : ∀ V, Fls V V.heap.size A L → Hid (Calls Try.prog 16 #[.int .i64 2, .agg #[.slice A L.length c, .int .i64 z], .string n, .string s] V (StEnd V (stepP ⟨L, z⟩ (rnP L n s)))) := fun V h => RefDo_rename L n s hs A c z hzg hzf V h hz hl hc
  have CD := fun V => Lib.hid (disks_law V)
  have CG := fun (V : World) (A' : Option Addr) (c' : Nat) h => Lib.hid (Good_any L A' c' z V h hz hl1)
  have CH : ∀ V, Fls V V.heap.size A L → Hid (Calls Try.prog 19 #[.agg #[.slice A L.length c, .int .i64 z]] V fun e w' => e = .returned (.bool (goodD L)) ∧ Below V.heap.size V w') := fun V h => GoodDisk_any L A c z V h hz hl1
  have hlQ : (stepP ⟨L, z⟩ (rnP L n s)).1.files.length ≤ 140737488355328 := steps_len hl rn_len
  generalize stepP ⟨L, z⟩ (rnP L n s) = Q at *
  obtain ⟨⟨M, y⟩, g⟩ := Q
  have hm1 : M.length ≤ 140737488355328 := hlQ
  clear hlQ
  generalize goodD L = G at *
  have CS : ∀ (V : World) (A' B' : Option Addr) (c' d' : Nat), Fls V V.heap.size A' M → Fls V V.heap.size B' M → Hid (Calls Try.prog 17 #[.agg #[.slice A' M.length c', .int .i64 y], .agg #[.slice B' M.length d', .int .i64 y]] V fun e w' => e = .returned (.bool true) ∧ Below V.heap.size V w') := fun V A' B' c' d' h1 h2 => by
    have := RefSameDisk_any M M A' B' c' d' y y V h1 h2 hm1 hm1
    rw [decide_eq_true rfl] at this
    exact this
  have CT : ∀ (V : World) (A' B' : Option Addr) (c' d' : Nat), Fls V V.heap.size A' L → Fls V V.heap.size B' L → Hid (Calls Try.prog 17 #[.agg #[.slice A' L.length c', .int .i64 z], .agg #[.slice B' L.length d', .int .i64 z]] V fun e w' => e = .returned (.bool true) ∧ Below V.heap.size V w') := fun V A' B' c' d' h1 h2 => by
    have := RefSameDisk_any L L A' B' c' d' z z V h1 h2 hl1 hl1
    rw [decide_eq_true rfl] at this
    exact this
  clear hx
  go_enter Try.func3, Try.ntmps3
  go_wp2_with fail
  (with_reducible refine CP.out.mono ?_)
  clear CP
  rintro _ _ ⟨rfl, rfl⟩
  have B0 : Arr ((w.alloc (.cells (dkArr L A c z) 24)).alloc (.cells dkZero 24)) (w.heap.size + 1) 24 dkZero := Arr.new_at _ _ _ (by simp)
  have b1 : Below w.heap.size w ((w.alloc (.cells (dkArr L A c z) 24)).alloc (.cells dkZero 24)) := b0.alloc (by simp <;> omega) _
  go_upto_region 4 with fail
  refine wp_forget (fun V => Arr V w.heap.size 24 (dkArr L A c z) ∧ Arr V (w.heap.size + 1) 24 dkZero ∧ Below w.heap.size w V) (by exact ⟨A0.alloc _, B0, b1⟩) ?_
  clear A0 B0 b0 b1
  rintro V ⟨A0, B0, b0⟩
  have c0 : V.cell? ⟨w.heap.size, 0, none⟩ = some (.slice A L.length c) := A0.cell 0
  have c1 : V.cell? ⟨w.heap.size, 1, none⟩ = some (.int .i64 z) := A0.cell 1
  have C1 := CC V (hP.up b0)
  go_wp2_with fail
  (with_reducible refine C1.out.mono ?_)
  clear C1 c0 c1
  rintro _ V1 ⟨A1, k1, rfl, hF1, hk1, b2⟩
  replace A0 := A0.below b2 A0.lt
  replace B0 := B0.below b2 B0.lt
  replace b0 := b0.trans (b2.mono b0.size)
  clear b2
  have bb : Below V1.heap.size V1 ((V1.alloc (.cells dkZero 24)).setRow V1.heap.size (dkArr L A1 k1 z)) := below_setRow ((Below.refl _ _).alloc (Nat.le_refl _) _) (Nat.le_refl _) _
  have AX : Arr ((V1.alloc (.cells dkZero 24)).setRow V1.heap.size (dkArr L A1 k1 z)) V1.heap.size 24 (dkArr L A1 k1 z) := (Arr.new _ _ _).row _
  go_upto_region 5 with (refine wpList_store_row rfl 24 _ _ rfl V1.heap.size (dkArr L A1 k1 z) rfl rfl 24 dkZero (Arr.new V1 _ _) (dkInfo _ _ _ _) rfl (dkArr_one _ _ _ _) ?_)
  refine wp_forget (fun W => Arr W V1.heap.size 24 (dkArr L A1 k1 z) ∧ Arr W w.heap.size 24 (dkArr L A c z) ∧ Arr W (w.heap.size + 1) 24 dkZero ∧ Fls W W.heap.size A1 L ∧ Below w.heap.size w W ∧ w.heap.size + 2 ≤ V1.heap.size) (by exact ⟨AX, A0.below bb A0.lt, B0.below bb B0.lt, hF1.up bb, b0.trans (bb.mono b0.size), B0.lt⟩) ?_
  clear AX bb A0 B0 b0 hF1
  generalize V1.heap.size = q at *
  rintro V ⟨AX, A0, B0, hF1, b0, hq⟩
  have c0 : V.cell? ⟨q, 0, none⟩ = some (.slice A1 L.length k1) := AX.cell 0
  have c1 : V.cell? ⟨q, 1, none⟩ = some (.int .i64 z) := AX.cell 1
  have C1 : Hid (Calls Try.prog 14 #[.agg #[.slice A1 L.length k1, .int .i64 z], .string n, .string s] V (StEnd V (⟨M, y⟩, g))) := CX V A1 k1 hF1 hk1
  clear CX
  go_wp2_with fail
  (with_reducible refine C1.out.mono ?_)
  clear C1 c0 c1
  rintro _ V5 ⟨Aa, ca, rfl, hFa, hca, b2⟩
  simp only at hFa hca ⊢
  replace A0 := A0.below b2 A0.lt
  replace B0 := B0.below b2 B0.lt
  replace AX := AX.below b2 AX.lt
  replace hF1 := hF1.up b2
  replace b0 := b0.trans (b2.mono b0.size)
  clear b2
  have bb := below_setRow b0 (show w.heap.size ≤ w.heap.size + 1 by omega) (dkArr M Aa ca y)
  go_upto_region 13 with (refine wpList_store_row rfl 24 _ _ rfl (w.heap.size + 1) (dkArr M Aa ca y) rfl rfl 24 dkZero B0 (dkInfo _ _ _ _) rfl (dkArr_one _ _ _ _) ?_)
  refine wp_forget (fun W => Arr W (w.heap.size + 1) 24 (dkArr M Aa ca y) ∧ Arr W w.heap.size 24 (dkArr L A c z) ∧ Arr W q 24 (dkArr L A1 k1 z) ∧ Fls W W.heap.size Aa M ∧ Fls W W.heap.size A1 L ∧ Below w.heap.size w W) (by exact ⟨B0.row _, A0.row_far (by omega) _, AX.row_far (by omega) _, hFa.row B0 _, hF1.row B0 _, bb⟩) ?_
  clear AX A0 B0 bb b0 hFa hF1
  rintro W ⟨B0, A0, AX, hFa, hF1, b0⟩
  have c0 : W.cell? ⟨w.heap.size, 0, none⟩ = some (.slice A L.length c) := A0.cell 0
  have c1 : W.cell? ⟨w.heap.size, 1, none⟩ = some (.int .i64 z) := A0.cell 1
  have C1 := CY W (hP.up b0)
  clear CY
  go_wp2_with fail
  (with_reducible refine C1.out.mono ?_)
  clear C1 c0 c1
  rintro _ W2 ⟨Ab, cb, rfl, hFb, hcb, b2⟩
  simp only at hFb hcb ⊢
  have HV : Dq w L M A Aa A1 Ab c ca k1 cb z y q W2.heap.size ((W2.alloc (.cells dkZero 24)).setRow W2.heap.size (dkArr M Ab cb y)) := by
    have bb : Below W2.heap.size W2 ((W2.alloc (.cells dkZero 24)).setRow W2.heap.size (dkArr M Ab cb y)) := below_setRow ((Below.refl _ _).alloc (Nat.le_refl _) _) (Nat.le_refl _) _
    have AY : Arr ((W2.alloc (.cells dkZero 24)).setRow W2.heap.size (dkArr M Ab cb y)) W2.heap.size 24 (dkArr M Ab cb y) := (Arr.new _ _ _).row _
    have b3 := b0.trans (b2.mono b0.size)
    have b4 := b3.trans (bb.mono b3.size)
    exact ⟨(A0.below b2 A0.lt).below bb (A0.below b2 A0.lt).lt, (B0.below b2 B0.lt).below bb (B0.below b2 B0.lt).lt, (AX.below b2 AX.lt).below bb (AX.below b2 AX.lt).lt, AY, hP.up b4, (hFa.up b2).up bb, (hF1.up b2).up bb, hFb.up bb, b4⟩
  go_upto_region 14 with (refine wpList_store_row rfl 24 _ _ rfl W2.heap.size (dkArr M Ab cb y) rfl rfl 24 dkZero (Arr.new W2 _ _) (dkInfo _ _ _ _) rfl (dkArr_one _ _ _ _) ?_)
  refine wp_forget (Dq w L M A Aa A1 Ab c ca k1 cb z y q W2.heap.size) (by exact HV) ?_
  clear HV b2 hFb b0 B0 A0 AX hFa hF1 hP
  generalize W2.heap.size = r at *
  intro W HV
  have hV := HV.drew
  go_wp2_with fail
  go_region_held3 (fun w' => w'.cell? ⟨w.heap.size, 0, none⟩ = some (.slice A L.length c) ∧ w'.cell? ⟨w.heap.size, 1, none⟩ = some (.int .i64 z) ∧ w'.cell? ⟨w.heap.size + 1, 0, none⟩ = some (.slice Aa M.length ca) ∧ w'.cell? ⟨w.heap.size + 1, 1, none⟩ = some (.int .i64 y) ∧
    w'.cell? ⟨q, 0, none⟩ = some (.slice A1 L.length k1) ∧ w'.cell? ⟨q, 1, none⟩ = some (.int .i64 z) ∧ w'.cell? ⟨r, 0, none⟩ = some (.slice Ab M.length cb) ∧ w'.cell? ⟨r, 1, none⟩ = some (.int .i64 y))
    (first | exact hV.hold | exact hV1.hold | exact hV2.hold | exact hV3.hold | exact hV4.hold | exact hV5.hold | exact hV6.hold)
    (first
      | (go_at_call 17
         (with_reducible refine ((CS _ Aa Ab ca cb hV.f2 hV.f4).out).mono ?_)
         rintro _ w1 ⟨rfl, b1⟩
         have hV1 := hV.below b1)
      | (go_at_call 17
         (with_reducible refine ((CT _ A1 A k1 c hV1.f3 hV1.f1).out).mono ?_)
         rintro _ w2 ⟨rfl, b2⟩
         have hV2 := hV1.below b2)
      | (go_at_call 11
         (with_reducible refine ((CC _ hV2.f1).out).mono ?_)
         rintro _ w3 ⟨A3, k3, rfl, hF3, hk3, b3⟩
         have hV3 := hV2.below b3)
      | (go_at_call 18
         (with_reducible refine ((CG _ _ _ hF3).out).mono ?_)
         rintro _ w4 ⟨rfl, b4⟩
         have hV4 := hV3.below b4)
      | (go_at_call 19
         (with_reducible refine ((CH _ hV4.f1).out).mono ?_)
         rintro _ w5 ⟨rfl, b5⟩
         have hV5 := hV4.below b5)
      | (go_at_call 20
         (with_reducible refine ((CD _).out).mono ?_)
         rintro _ w6 ⟨rfl, b6⟩
         have hV6 := hV5.below b6))
  go_wp2_with fail
  go_ret
  exact ⟨rfl, hV6.2.2.2.2.2.2.2.2⟩
set_option maxRecDepth 100000 in
set_option maxHeartbeats 4000000 in
theorem DiskSteps_remove (x : Int) (hx : pk x 4 = 3) (L : List Fl) (n s : ByteArray) (A : Option Addr) (c : Nat) (z : Int) (w : World) (hP : Fls w w.heap.size A L) (hz : Sized L) (hl : L.length * 48 ≤ 140737488355328) (hc : L.length ≤ c) (hzf : z ≤ 9223372036854775807) (hzg : -9223372036854775808 ≤ z) :
    Calls Try.prog 3 #[.int .i64 x, .agg (dkArr L A c z), .string n, .string s] w fun e w' => e = .returned (.bool true) ∧ Below w.heap.size w w' := by
  have A0 : Arr (w.alloc (.cells (dkArr L A c z) 24)) w.heap.size 24 (dkArr L A c z) := Arr.new _ _ _
  have b0 : Below w.heap.size w (w.alloc (.cells (dkArr L A c z) 24)) := (Below.refl _ _).alloc (Nat.le_refl _) _
  have CP : Hid (Calls Try.prog 10 #[.int .i64 x, .int .i64 4] (w.alloc (.cells (dkArr L A c z) 24)) fun e w' => e = .returned (.int .i64 3) ∧ w.alloc (.cells (dkArr L A c z) 24) = w') := by
    have q := lawpick_any x 4 (by omega) (by omega) (w.alloc (.cells (dkArr L A c z) 24))
    have hx' : pk x ((4 : Nat) : Int) = 3 := hx
    rw [hx'] at q
    exact q
  have hl1 : L.length ≤ 140737488355328 := by omega
  have CC := fun V h => Lib.hid (CopyDisk_any L A c z V h hl)
  have CX : ∀ (V : World) (A' : Option Addr) (c' : Nat), Fls V V.heap.size A' L → L.length ≤ c' → Hid (Calls Try.prog 15 #[.agg #[.slice A' L.length c', .int .i64 z], .string n] V (StEnd V (stepP ⟨L, z⟩ (rmP L n)))) := fun V A' c' h h2 => Remove_any L n A' c' z V h hz hl1 h2 hzf
  have CY : ∀ V, Fls V V.heap.size A L → Hid (Calls Try.prog 16 #[.int .i64 3, .agg #[.slice A L.length c, .int .i64 z], .string n, .string s] V (StEnd V (stepP ⟨L, z⟩ (rmP L n)))) := fun V h => RefDo_remove L n s A c z hzg hzf V h hz hl hc
  have CD := fun V => Lib.hid (disks_law V)
  have CG := fun (V : World) (A' : Option Addr) (c' : Nat) h => Lib.hid (Good_any L A' c' z V h hz hl1)
  have CH : ∀ V, Fls V V.heap.size A L → Hid (Calls Try.prog 19 #[.agg #[.slice A L.length c, .int .i64 z]] V fun e w' => e = .returned (.bool (goodD L)) ∧ Below V.heap.size V w') := fun V h => GoodDisk_any L A c z V h hz hl1
  have hlQ : (stepP ⟨L, z⟩ (rmP L n)).1.files.length ≤ 140737488355328 := steps_len hl rm_len
  generalize stepP ⟨L, z⟩ (rmP L n) = Q at *
  obtain ⟨⟨M, y⟩, g⟩ := Q
  have hm1 : M.length ≤ 140737488355328 := hlQ
  clear hlQ
  generalize goodD L = G at *
  have CS : ∀ (V : World) (A' B' : Option Addr) (c' d' : Nat), Fls V V.heap.size A' M → Fls V V.heap.size B' M → Hid (Calls Try.prog 17 #[.agg #[.slice A' M.length c', .int .i64 y], .agg #[.slice B' M.length d', .int .i64 y]] V fun e w' => e = .returned (.bool true) ∧ Below V.heap.size V w') := fun V A' B' c' d' h1 h2 => by
    have := RefSameDisk_any M M A' B' c' d' y y V h1 h2 hm1 hm1
    rw [decide_eq_true rfl] at this
    exact this
  have CT : ∀ (V : World) (A' B' : Option Addr) (c' d' : Nat), Fls V V.heap.size A' L → Fls V V.heap.size B' L → Hid (Calls Try.prog 17 #[.agg #[.slice A' L.length c', .int .i64 z], .agg #[.slice B' L.length d', .int .i64 z]] V fun e w' => e = .returned (.bool true) ∧ Below V.heap.size V w') := fun V A' B' c' d' h1 h2 => by
    have := RefSameDisk_any L L A' B' c' d' z z V h1 h2 hl1 hl1
    rw [decide_eq_true rfl] at this
    exact this
  clear hx
  go_enter Try.func3, Try.ntmps3
  go_wp2_with fail
  (with_reducible refine CP.out.mono ?_)
  clear CP
  rintro _ _ ⟨rfl, rfl⟩
  have B0 : Arr ((w.alloc (.cells (dkArr L A c z) 24)).alloc (.cells dkZero 24)) (w.heap.size + 1) 24 dkZero := Arr.new_at _ _ _ (by simp)
  have b1 : Below w.heap.size w ((w.alloc (.cells (dkArr L A c z) 24)).alloc (.cells dkZero 24)) := b0.alloc (by simp <;> omega) _
  go_upto_region 4 with fail
  refine wp_forget (fun V => Arr V w.heap.size 24 (dkArr L A c z) ∧ Arr V (w.heap.size + 1) 24 dkZero ∧ Below w.heap.size w V) (by exact ⟨A0.alloc _, B0, b1⟩) ?_
  clear A0 B0 b0 b1
  rintro V ⟨A0, B0, b0⟩
  have c0 : V.cell? ⟨w.heap.size, 0, none⟩ = some (.slice A L.length c) := A0.cell 0
  have c1 : V.cell? ⟨w.heap.size, 1, none⟩ = some (.int .i64 z) := A0.cell 1
  have C1 := CC V (hP.up b0)
  go_wp2_with fail
  (with_reducible refine C1.out.mono ?_)
  clear C1 c0 c1
  rintro _ V1 ⟨A1, k1, rfl, hF1, hk1, b2⟩
  replace A0 := A0.below b2 A0.lt
  replace B0 := B0.below b2 B0.lt
  replace b0 := b0.trans (b2.mono b0.size)
  clear b2
  have bb : Below V1.heap.size V1 ((V1.alloc (.cells dkZero 24)).setRow V1.heap.size (dkArr L A1 k1 z)) := below_setRow ((Below.refl _ _).alloc (Nat.le_refl _) _) (Nat.le_refl _) _
  have AX : Arr ((V1.alloc (.cells dkZero 24)).setRow V1.heap.size (dkArr L A1 k1 z)) V1.heap.size 24 (dkArr L A1 k1 z) := (Arr.new _ _ _).row _
  go_upto_region 5 with (refine wpList_store_row rfl 24 _ _ rfl V1.heap.size (dkArr L A1 k1 z) rfl rfl 24 dkZero (Arr.new V1 _ _) (dkInfo _ _ _ _) rfl (dkArr_one _ _ _ _) ?_)
  refine wp_forget (fun W => Arr W V1.heap.size 24 (dkArr L A1 k1 z) ∧ Arr W w.heap.size 24 (dkArr L A c z) ∧ Arr W (w.heap.size + 1) 24 dkZero ∧ Fls W W.heap.size A1 L ∧ Below w.heap.size w W ∧ w.heap.size + 2 ≤ V1.heap.size) (by exact ⟨AX, A0.below bb A0.lt, B0.below bb B0.lt, hF1.up bb, b0.trans (bb.mono b0.size), B0.lt⟩) ?_
  clear AX bb A0 B0 b0 hF1
  generalize V1.heap.size = q at *
  rintro V ⟨AX, A0, B0, hF1, b0, hq⟩
  have c0 : V.cell? ⟨q, 0, none⟩ = some (.slice A1 L.length k1) := AX.cell 0
  have c1 : V.cell? ⟨q, 1, none⟩ = some (.int .i64 z) := AX.cell 1
  have C1 : Hid (Calls Try.prog 15 #[.agg #[.slice A1 L.length k1, .int .i64 z], .string n] V (StEnd V (⟨M, y⟩, g))) := CX V A1 k1 hF1 hk1
  clear CX
  go_wp2_with fail
  (with_reducible refine C1.out.mono ?_)
  clear C1 c0 c1
  rintro _ V5 ⟨Aa, ca, rfl, hFa, hca, b2⟩
  simp only at hFa hca ⊢
  replace A0 := A0.below b2 A0.lt
  replace B0 := B0.below b2 B0.lt
  replace AX := AX.below b2 AX.lt
  replace hF1 := hF1.up b2
  replace b0 := b0.trans (b2.mono b0.size)
  clear b2
  have bb := below_setRow b0 (show w.heap.size ≤ w.heap.size + 1 by omega) (dkArr M Aa ca y)
  go_upto_region 13 with (refine wpList_store_row rfl 24 _ _ rfl (w.heap.size + 1) (dkArr M Aa ca y) rfl rfl 24 dkZero B0 (dkInfo _ _ _ _) rfl (dkArr_one _ _ _ _) ?_)
  refine wp_forget (fun W => Arr W (w.heap.size + 1) 24 (dkArr M Aa ca y) ∧ Arr W w.heap.size 24 (dkArr L A c z) ∧ Arr W q 24 (dkArr L A1 k1 z) ∧ Fls W W.heap.size Aa M ∧ Fls W W.heap.size A1 L ∧ Below w.heap.size w W) (by exact ⟨B0.row _, A0.row_far (by omega) _, AX.row_far (by omega) _, hFa.row B0 _, hF1.row B0 _, bb⟩) ?_
  clear AX A0 B0 bb b0 hFa hF1
  rintro W ⟨B0, A0, AX, hFa, hF1, b0⟩
  have c0 : W.cell? ⟨w.heap.size, 0, none⟩ = some (.slice A L.length c) := A0.cell 0
  have c1 : W.cell? ⟨w.heap.size, 1, none⟩ = some (.int .i64 z) := A0.cell 1
  have C1 := CY W (hP.up b0)
  clear CY
  go_wp2_with fail
  (with_reducible refine C1.out.mono ?_)
  clear C1 c0 c1
  rintro _ W2 ⟨Ab, cb, rfl, hFb, hcb, b2⟩
  simp only at hFb hcb ⊢
  have HV : Dq w L M A Aa A1 Ab c ca k1 cb z y q W2.heap.size ((W2.alloc (.cells dkZero 24)).setRow W2.heap.size (dkArr M Ab cb y)) := by
    have bb : Below W2.heap.size W2 ((W2.alloc (.cells dkZero 24)).setRow W2.heap.size (dkArr M Ab cb y)) := below_setRow ((Below.refl _ _).alloc (Nat.le_refl _) _) (Nat.le_refl _) _
    have AY : Arr ((W2.alloc (.cells dkZero 24)).setRow W2.heap.size (dkArr M Ab cb y)) W2.heap.size 24 (dkArr M Ab cb y) := (Arr.new _ _ _).row _
    have b3 := b0.trans (b2.mono b0.size)
    have b4 := b3.trans (bb.mono b3.size)
    exact ⟨(A0.below b2 A0.lt).below bb (A0.below b2 A0.lt).lt, (B0.below b2 B0.lt).below bb (B0.below b2 B0.lt).lt, (AX.below b2 AX.lt).below bb (AX.below b2 AX.lt).lt, AY, hP.up b4, (hFa.up b2).up bb, (hF1.up b2).up bb, hFb.up bb, b4⟩
  go_upto_region 14 with (refine wpList_store_row rfl 24 _ _ rfl W2.heap.size (dkArr M Ab cb y) rfl rfl 24 dkZero (Arr.new W2 _ _) (dkInfo _ _ _ _) rfl (dkArr_one _ _ _ _) ?_)
  refine wp_forget (Dq w L M A Aa A1 Ab c ca k1 cb z y q W2.heap.size) (by exact HV) ?_
  clear HV b2 hFb b0 B0 A0 AX hFa hF1 hP
  generalize W2.heap.size = r at *
  intro W HV
  have hV := HV.drew
  go_wp2_with fail
  go_region_held3 (fun w' => w'.cell? ⟨w.heap.size, 0, none⟩ = some (.slice A L.length c) ∧ w'.cell? ⟨w.heap.size, 1, none⟩ = some (.int .i64 z) ∧ w'.cell? ⟨w.heap.size + 1, 0, none⟩ = some (.slice Aa M.length ca) ∧ w'.cell? ⟨w.heap.size + 1, 1, none⟩ = some (.int .i64 y) ∧
    w'.cell? ⟨q, 0, none⟩ = some (.slice A1 L.length k1) ∧ w'.cell? ⟨q, 1, none⟩ = some (.int .i64 z) ∧ w'.cell? ⟨r, 0, none⟩ = some (.slice Ab M.length cb) ∧ w'.cell? ⟨r, 1, none⟩ = some (.int .i64 y))
    (first | exact hV.hold | exact hV1.hold | exact hV2.hold | exact hV3.hold | exact hV4.hold | exact hV5.hold | exact hV6.hold)
    (first
      | (go_at_call 17
         (with_reducible refine ((CS _ Aa Ab ca cb hV.f2 hV.f4).out).mono ?_)
         rintro _ w1 ⟨rfl, b1⟩
         have hV1 := hV.below b1)
      | (go_at_call 17
         (with_reducible refine ((CT _ A1 A k1 c hV1.f3 hV1.f1).out).mono ?_)
         rintro _ w2 ⟨rfl, b2⟩
         have hV2 := hV1.below b2)
      | (go_at_call 11
         (with_reducible refine ((CC _ hV2.f1).out).mono ?_)
         rintro _ w3 ⟨A3, k3, rfl, hF3, hk3, b3⟩
         have hV3 := hV2.below b3)
      | (go_at_call 18
         (with_reducible refine ((CG _ _ _ hF3).out).mono ?_)
         rintro _ w4 ⟨rfl, b4⟩
         have hV4 := hV3.below b4)
      | (go_at_call 19
         (with_reducible refine ((CH _ hV4.f1).out).mono ?_)
         rintro _ w5 ⟨rfl, b5⟩
         have hV5 := hV4.below b5)
      | (go_at_call 20
         (with_reducible refine ((CD _).out).mono ?_)
         rintro _ w6 ⟨rfl, b6⟩
         have hV6 := hV5.below b6))
  go_wp2_with fail
  go_ret
  exact ⟨rfl, hV6.2.2.2.2.2.2.2.2⟩
theorem DiskSteps_any (x : Int) (L : List Fl) (n s : ByteArray) (hn : n.size ≤ 140737488355328) (hs : s.size ≤ 140737488355328) (A : Option Addr) (c : Nat) (z : Int) (w : World) (hP : Fls w w.heap.size A L) (hz : Sized L) (hl : L.length * 48 ≤ 140737488355328) (hc : L.length ≤ c) (hzf : z ≤ 9223372036854775807) (hzg : -9223372036854775808 ≤ z) :
    Calls Try.prog 3 #[.int .i64 x, .agg (dkArr L A c z), .string n, .string s] w fun e w' => e = .returned (.bool true) ∧ Below w.heap.size w w' := by
  obtain ⟨h0, h1⟩ := pk_in x 4 (by omega)
  have h : pk x 4 = 0 ∨ pk x 4 = 1 ∨ pk x 4 = 2 ∨ pk x 4 = 3 := by
    have h0' : 0 ≤ pk x 4 := h0
    have h1' : pk x 4 < 4 := h1
    omega
  rcases h with h | h | h | h
  · exact DiskSteps_write x h L n s hn hs A c z w hP hz hl hc hzf hzg
  · exact DiskSteps_sync x h L n s A c z w hP hz hl hc hzf hzg
  · exact DiskSteps_rename x h L n s hs A c z w hP hz hl hc hzf hzg
  · exact DiskSteps_remove x h L n s A c z w hP hz hl hc hzf hzg
end Go.Proofs.Ytnijnphalhfabaa
