/- keep.StoreClosed: its walk. -/
import Derived.Test.YtkcnogmjnmnbdaaGreatDoorStWithin
import Derived.Test.YtkcnogmjnmnbdaaGreatDoorStClosedP
namespace Go.Proofs.YtkcnogmjnmnbdaaGreatDoor
open Go.RowKit

/-- the disk, what is reached, the ids -/
def S4 (w : World) (M : List Fl) (A : Option Addr) (c : Nat) (y : Int) (K : List ByteArray) (KA : Option Addr) (I : List ByteArray) (IA : Option Addr) (V : World) : Prop :=
  Arr V w.heap.size 37 (dkArr M A c y) ∧ Fls V V.heap.size A M ∧ Txs V V.heap.size KA K ∧ Txs V V.heap.size IA I ∧ Below w.heap.size w V
theorem S4.below {w : World} {M : List Fl} {A : Option Addr} {c : Nat} {y : Int} {K I : List ByteArray} {KA IA : Option Addr} {V V' : World} (h : S4 w M A c y K KA I IA V) (b : Below V.heap.size V V') : S4 w M A c y K KA I IA V' :=
  ⟨h.1.below b h.1.lt, h.2.1.up b, txs_up h.2.2.1 b, txs_up h.2.2.2.1 b, h.2.2.2.2.trans (b.mono h.2.2.2.2.size)⟩
theorem S4.hold {w : World} {M : List Fl} {A : Option Addr} {c : Nat} {y : Int} {K I : List ByteArray} {ka : Addr} {IA : Option Addr} {V : World} (h : S4 w M A c y K (some ka) I IA V) {k : Nat} {id : ByteArray} (hk : K[k]? = some id) : V.cell? ⟨w.heap.size, 0, none⟩ = some (.slice A M.length c) ∧ V.cell? ⟨w.heap.size, 1, none⟩ = some (.int .i64 y) ∧ V.cell? (ka.add k) = some (.string id) :=
  ⟨h.1.cell 0, h.1.cell 1, by obtain ⟨ad, e, _, hc⟩ := h.2.2.1 k id hk; cases e; exact hc⟩
def ClRel (w : World) (M : List Fl) (A : Option Addr) (c : Nat) (y : Int) (K : List ByteArray) (KA : Option Addr) (I : List ByteArray) (IA : Option Addr) (n : Nat) (i : Value) (wr : World) : Prop :=
  ∃ k : Nat, k ≤ n ∧ i = .int .i64 (k : Int) ∧ S4 w M A c y K KA I IA wr
/-- within a round: the links, too -/
def ClIn (w : World) (M : List Fl) (A : Option Addr) (c : Nat) (y : Int) (K : List ByteArray) (KA : Option Addr) (I : List ByteArray) (IA : Option Addr) (N : List ByteArray) (NA : Option Addr) (i : Value) (wr : World) : Prop :=
  ∃ k : Nat, k ≤ N.length ∧ i = .int .i64 (k : Int) ∧ S4 w M A c y K KA I IA wr ∧ Txs wr wr.heap.size NA N
set_option maxRecDepth 100000 in
set_option maxHeartbeats 8000000 in
theorem StoreClosed_any (T E : List ByteArray) (root : ByteArray) (TA EA : Option Addr) (tc ec : Nat) (w : World) (hT : Txs w w.heap.size TA T) (hz : ∀ s ∈ T, s.size ≤ 140737488355328) (hE : Txs w w.heap.size EA E) (hEl : E.length ≤ 1048576) (ht : Tab w) :
    Calls Tryz.prog 5 #[.slice TA T.length tc, .slice EA E.length ec, .string root] w fun e w' => e = .returned (.bool true) ∧ Below w.heap.size w w' := by
  have b0 : Below w.heap.size w ((w.alloc (.cells dkZero 37)).setRow w.heap.size (dkArr [] none 0 (-1))) := below_setRow ((Below.refl _ _).alloc (Nat.le_refl _) _) (Nat.le_refl _) _
  have A0 : Arr ((w.alloc (.cells dkZero 37)).setRow w.heap.size (dkArr [] none 0 (-1))) w.heap.size 37 (dkArr [] none 0 (-1)) := (Arr.new _ _ _).row _
  have CPut : Hid (∀ (L : List Fl) (s : ByteArray) (A : Option Addr) (c : Nat) (z : Int) (V : World), s.size ≤ 140737488355328 → goodD L = true → L.length ≤ c → z ≤ 100 → Fls V V.heap.size A L → Tab V → Calls Tryz.prog 22 #[.agg #[.slice A L.length c, .int .i64 z], .string s] V (PutEnd V (putO ⟨L, z⟩ s))) := fun L s A c z V h1 h2 h3 h4 h5 h6 =>
    Put_st L s h1 A c z V h5 (good_sized h2).1 (by have := (good_sized h2).2; omega) h3 (by omega) h6
  go_enter Tryz.func5, Tryz.ntmps5
  go_upto_region 2 with (refine wpList_store_row rfl 37 _ _ rfl w.heap.size (dkArr [] none 0 (-1)) rfl rfl 37 dkZero (Arr.new w _ _) (dkInfo _ _ _ _) rfl (dkArr_one _ _ _ _) ?_)
  refine wp_forget (fun V => Arr V w.heap.size 37 (dkArr [] none 0 (-1)) ∧ Below w.heap.size w V) (by exact ⟨A0, b0⟩) ?_
  clear A0 b0
  rintro V ⟨A0, b0⟩
  have h0 := Lib.hid (SsRel.start T w V A0 b0)
  clear A0 b0
  go_upto_block 0 with fail
  go_cut [8] from 26 (fun v wx => SsEnd w v wx)
  case first =>
    go_wp2_with fail
    go_loopw [8, 9] (fun v i wr => SsRel T w v i wr) (fun _ i _ => 40 - (intOf i).toNat)
    case atStart => exact h0.out
    case round =>
      clear h0
      obtain ⟨k, M, A, c, y, I, v, hk, hk40, rfl, rfl, hG, hNm, hc, hy, hI, hI32, hS⟩ := hrel
      have hlI : I.length ≤ 1000 := by omega
      by_cases hlt : k < T.length ∧ k < 40
      · have hj : (k : Int) < T.length := by omega
        have hj2 : (k : Int) < 40 := by omega
        have hx : T[k]? = some T[k] := List.getElem?_eq_getElem hlt.1
        obtain ⟨ad, rfl, hbl, h0⟩ := hT k T[k] hx
        have hs := hz T[k] (List.getElem_mem hlt.1)
        have HT := Lib.hid h0
        have HB := Lib.hid hbl
        have C0 := fun A c V h3 h5 h6 => CPut.out M (T[k]'hlt.1) A c y V hs hG h3 hy h5 h6
        have HP := Lib.hid (fun h => putO_yes (d := ⟨M, y⟩) (s := (T[k]'hlt.1)) h)
        have HNm := Lib.hid (nm_putO (d := ⟨M, y⟩) (s := (T[k]'hlt.1)) hNm)
        have HFu : Hid ((putO ⟨M, y⟩ T[k]).1.fuse ≤ 100) := Int.le_trans put_fuse hy
        have HSum := Lib.hid (sumB_size T[k])
        clear h0 hbl hx hs
        generalize T[k] = s at *
        have b0 := hS.2.2.2.2
        have e1 : wr.drew.cell? (ad.add k) = some (.string s) := (b0.drew.cell HB.out).trans HT.out
        have d0 : wr.drew.cell? ⟨w.heap.size, 0, none⟩ = some (.slice A M.length c) := hS.1.cell 0
        have d1 : wr.drew.cell? ⟨w.heap.size, 1, none⟩ = some (.int .i64 y) := hS.1.cell 1
        have Sd : Sq w M A c y I v wr.drew := hS.below (below_drewN (Below.refl _ _) 1)
        have be : Below wr.heap.size wr (wr.alloc (.cells dkZero 37)).drew := ((Below.refl _ wr).alloc (Nat.le_refl _) _).drew
        have Se : Sq w M A c y I v (wr.alloc (.cells dkZero 37)).drew := hS.below be
        have AE : Arr (wr.alloc (.cells dkZero 37)).drew wr.heap.size 37 dkZero := (Arr.new _ _ _).drew
        have hq1 : w.heap.size < wr.heap.size := hS.1.lt
        have CCd := Lib.hid (C0 A c _ hc Sd.2.1 (ht.below Sd.2.2.2.2 ht.1))
        have CCe := Lib.hid (C0 A c _ hc Se.2.1 (ht.below Se.2.2.2.2 ht.1))
        have e1e : (wr.alloc (.cells dkZero 37)).drew.cell? (ad.add k) = some (.string s) := (Se.2.2.2.2.cell HB.out).trans HT.out
        have d0e : (wr.alloc (.cells dkZero 37)).drew.cell? ⟨w.heap.size, 0, none⟩ = some (.slice A M.length c) := Se.1.cell 0
        have d1e : (wr.alloc (.cells dkZero 37)).drew.cell? ⟨w.heap.size, 1, none⟩ = some (.int .i64 y) := Se.1.cell 1
        unfold dkZero at CCe d0e d1e e1e
        clear be C0
        generalize putO ⟨M, y⟩ s = R at *
        obtain ⟨⟨M', y'⟩, id, e0⟩ := R
        go_upto_region 6 with fail
        go_cut [10, 11, 12] from 27 to 53 (fun n d e wx => SsMid w M A c y I v (⟨M', y'⟩, id, e0) n d e wx)
        case first =>
          go_region_law (first
            | (go_simp; go_at_call 22; (with_reducible refine CCd.out.mono ?_); rintro _ W3 ⟨Ab, cb, rfl, hFb, hcb, b3⟩
               simp only at hFb hcb
               have HF : Hid (∀ W', W' = W3.alloc (.cells #[.slice Ab M'.length cb, .int .i64 y'] 37) → Sn w M M' A Ab c cb y y' I v W3.heap.size W') := (Sd.below b3).late hFb
               simp only [dkArr])
            | (go_simp; go_at_call 22; (with_reducible refine CCe.out.mono ?_); rintro _ W3 ⟨Ab, cb, rfl, hFb, hcb, b3⟩
               simp only at hFb hcb
               have AF := AE.below b3 AE.lt
               have HF : Hid (∀ W', W' = (W3.setCell ⟨wr.heap.size, 0, none⟩ (.slice Ab M'.length cb)).setCell ⟨wr.heap.size, 1, none⟩ (.int .i64 y') → Sn w M M' A Ab c cb y y' I v wr.heap.size W') := (Se.below b3).early hFb AF hq1
               have x0 : W3.cell? ⟨wr.heap.size, 0, none⟩ = some (.slice none 0 0) := AF.cell 0
               have x1 := AF.free 0
               have AG := AF.put 0 (.slice Ab M'.length cb)
               have x2 : (W3.setCell ⟨wr.heap.size, 0, none⟩ (.slice Ab M'.length cb)).cell? ⟨wr.heap.size, 1, none⟩ = some (.int .i64 0) := AG.cell 1
               have x3 := AG.free 1
               simp only [dkArr]))
          all_goals
            go_wp2_with fail
            go_meet
            exact ⟨_, Ab, cb, rfl, rfl, rfl, hcb, HF.out _ rfl⟩
        case rest =>
          obtain ⟨q, Ab, cb, rfl, rfl, rfl, hcb, Z⟩ := hcut
          simp only at hcb Z ⊢
          obtain ⟨W, rfl⟩ : ∃ W, W = wc := ⟨_, rfl⟩
          clear CCd CCe Sd Se AE d0 d1 e1 e1e d0e d1e hq1 b0
          by_cases he : e0 = 0
          · subst he
            obtain ⟨_, hid, hG2, _⟩ := HP.out rfl
            have hid32 : id.size = 32 := by rw [show id = sumB s from hid]; exact HSum.out
            have hG' : Hid (goodD M' = true) := hG2
            have hNm' : NmL M' := HNm.out
            have hy' : y' ≤ 100 := HFu.out
            clear HP HNm HFu HSum hid hG2
            have be : Below W.heap.size W (W.alloc (.cells #[.string id] 9)).drew := ((Below.refl _ W).alloc (Nat.le_refl _) _).drew
            have Ze := Z.below be
            have xe : (W.alloc (.cells #[.string id] 9)).drew.cell? ⟨W.heap.size, 0, none⟩ = some (.string id) := (Arr.new _ _ _).drew.cell 0
            have Re := run_app_id (W.alloc (.cells #[.string id] 9)).drew (w.heap.size + 1) 22 v I Ze.1.2.2.1 Ze.1.2.2.2.1 (fun t ht => by rw [hI32 t ht]; exact Nat.le_refl _) ⟨W.heap.size, 0, none⟩ 1 id (by omega) xe hlI (Nat.le_trans Ze.1.1.lt (Nat.le_refl _))
            obtain ⟨g3, cap3, w3, hr, hown, hgr, hs3, _⟩ := Re
            have hne : ∀ g, v.ownBlock = some g → w.heap.size < g := fun g hg => own_row_ge Ze.1.2.2.1 g hg
            have G0 : Arr w3 w.heap.size 37 (dkArr M A c y) := Ze.1.1.kept hgr (fun e => by have := hne _ e.symm; omega)
            have G1 : Arr w3 q 37 (dkArr M' Ab cb y') := Ze.2.1.kept hgr (fun e => own_ne Ze.1.2.2.1 Ze.2.1 (by decide) e.symm)
            have HF : Hid (∀ W', W' = (w3.setCell ⟨w.heap.size, 0, none⟩ (.slice Ab M'.length cb)).setCell ⟨w.heap.size, 1, none⟩ (.int .i64 y') → Sq w M' Ab cb y' (I ++ [id]) (.slice (some ⟨g3, 0, none⟩) (I.length + 1) cap3) W') := Ze.next hNm' hown hgr hs3
            have q0 : W.drew.cell? ⟨q, 0, none⟩ = some (.slice Ab M'.length cb) := Z.2.1.cell 0
            have q1 : W.drew.cell? ⟨q, 1, none⟩ = some (.int .i64 y') := Z.2.1.cell 1
            have q0e : (W.alloc (.cells #[.string id] 9)).drew.cell? ⟨q, 0, none⟩ = some (.slice Ab M'.length cb) := Ze.2.1.cell 0
            have q1e : (W.alloc (.cells #[.string id] 9)).drew.cell? ⟨q, 1, none⟩ = some (.int .i64 y') := Ze.2.1.cell 1
            have q0w : w3.cell? ⟨q, 0, none⟩ = some (.slice Ab M'.length cb) := G1.cell 0
            have q1w : w3.cell? ⟨q, 1, none⟩ = some (.int .i64 y') := G1.cell 1
            have p0 : w3.cell? ⟨w.heap.size, 0, none⟩ = some (.slice A M.length c) := G0.cell 0
            have p1 := G0.free 0
            have GP := G0.put 0 (.slice Ab M'.length cb)
            have p2 : (w3.setCell ⟨w.heap.size, 0, none⟩ (.slice Ab M'.length cb)).cell? ⟨w.heap.size, 1, none⟩ = some (.int .i64 y) := GP.cell 1
            have p3 := GP.free 1
            clear be Ze xe hown hgr hs3 hne Z G0 G1 GP
            go_wp2_with fail
            go_region_law (first
              | (refine step_app_is rfl _ _ 22 22 rfl _ _ (by simp [Act.eval]) (by simp [Act.eval]) hr ?_))
            all_goals
              go_wp2_with fail
              go_roundw
              case rel => exact ⟨k + 1, M', Ab, cb, y', I ++ [id], _, by omega, by omega, by rw [Int.natCast_add]; rfl, rfl, hG'.out, hNm', hcb, hy', by rw [List.length_append, List.length_singleton]; omega, fun t ht => (List.mem_append.1 ht).elim (hI32 t) (fun h => by rw [List.mem_singleton.1 h]; exact hid32), HF.out _ rfl⟩
              case measure => simp [intOf]; omega
          · have heb : (e0 == 0) = false := by rw [beq_eq_false_iff_ne]; exact he
            have ZS := Lib.hid Z.1
            have HG := Lib.hid hG
            clear he HP HNm HFu HSum Z
            go_wp2_with fail
            go_roundw
            case rel => exact ⟨k + 1, M, A, c, y, I, v, by omega, by omega, by rw [Int.natCast_add]; rfl, rfl, HG.out, hNm, hc, hy, by omega, hI32, ZS.out⟩
            case measure => simp [intOf]; omega
      · have hE : Hid (SsEnd w v wr) := ⟨M, A, c, y, I, v, rfl, hG, hc, hy, by omega, hS⟩
        by_cases h1 : k < T.length
        · have hj : (k : Int) < T.length := by omega
          have hj2 : ¬ (k : Int) < 40 := by omega
          clear hG hS
          go_wp2_with fail
          go_meet
          exact hE.out
        · have hj : ¬ (k : Int) < T.length := by omega
          clear hG hS
          go_wp2_with fail
          go_meet
          exact hE.out
  case rest =>
    obtain ⟨M, A, c, y, I, v, rfl, hG, hc, hy, hI, hS⟩ := hcut
    clear h0
    obtain ⟨IA, ic, rfl, hic, hIT, _⟩ := own_texts hS.2.2.1
    have A0 := hS.1
    have F0 := hS.2.1
    have B0 := hS.2.2.2.2
    obtain ⟨W0, rfl⟩ : ∃ W0, W0 = wc := ⟨_, rfl⟩
    have HG := Lib.hid hG
    clear hS hG CPut
    obtain ⟨hSz, hl4⟩ := good_sized HG.out
    have hT0 := ht.below B0 ht.1
    have CSt := Lib.hid (stores_keep W0 hT0)
    go_wp2_with fail
    (with_reducible refine CSt.out.mono ?_)
    clear CSt
    rintro _ V ⟨rfl, b1⟩
    have A1 := A0.below b1 A0.lt
    have F1 := F0.up b1
    have I1 := txs_up hIT b1
    have B1 := B0.trans (b1.mono B0.size)
    clear A0 F0 hIT B0 b1 hT0 W0
    have hT1 := ht.below B1 ht.1
    obtain ⟨si, hsi, sz0, sz1, sz2⟩ := info_parts info_str
    have Hsi := Lib.hid hsi
    have Sz0 := Lib.hid sz0
    have Sz1 := Lib.hid sz1
    have Sz2 := Lib.hid sz2
    clear hsi sz0 sz1 sz2
    have HNo := Lib.hid (fun h => reachO_no (G := getO ⟨M, y⟩) (U := E ++ I) h)
    have HYes := Lib.hid (fun h => reach_law (G := getO ⟨M, y⟩) (U := E ++ I) h)
    have CCl : Hid (∀ (W : World) (UA : Option Addr) (uc : Nat), Fls W W.heap.size A M → Tab W → Txs W W.heap.size UA (E ++ I) → Calls Tryz.prog 18 #[.agg #[.slice A M.length c, .int .i64 y], .slice UA (E.length + I.length) uc] W (RhEnd W (reachO (getO ⟨M, y⟩) (E ++ I)))) := fun W UA uc h1 h2 h3 => by
      have := Closure_st M A c y (E ++ I) UA uc W h1 hSz (by omega) h2 h3 (by rw [List.length_append]; omega)
      rw [List.length_append] at this
      exact this
    have HRoot : Hid (∀ (W : World) (UA : Option Addr) (uc : Nat), Fls W W.heap.size A M → Tab W → Txs W W.heap.size UA [root] → Calls Tryz.prog 18 #[.agg #[.slice A M.length c, .int .i64 y], .slice UA 1 uc] W (RhEnd W (reachO (getO ⟨M, y⟩) [root]))) := fun W UA uc h1 h2 h3 => Closure_st M A c y [root] UA uc W h1 hSz (by omega) h2 h3 (by simp)
    generalize reachO (getO ⟨M, y⟩) (E ++ I) = R at *
    obtain ⟨K, e0⟩ := R
    simp only at HNo HYes
    have E1 := txs_up hE B1
    have Ed : Txs V.drew V.drew.heap.size EA E := txs_up E1 (below_drewN (Below.refl _ _) 1)
    have HNE := Lib.hid (Txs.news Ed)
    have HO : Hid (V.drew.ownsRow V.heap.size 9 1 (.slice none 0 0) 0 []) := own_nil _ _ _ _
    have c0 : V.drew.cell? ⟨w.heap.size, 0, none⟩ = some (.slice A M.length c) := A1.cell 0
    have c1 : V.drew.cell? ⟨w.heap.size, 1, none⟩ = some (.int .i64 y) := A1.cell 1
    go_upto_region 11 with fail
    go_cut [13, 14] from 56 (fun a e wx => ∃ KA kc, a = .slice KA K.length kc ∧ e = .int .i64 e0 ∧ S4 w M A c y K KA I IA wx)
    case first =>
      go_region_law (first
        | (refine step_app _ rfl _ _ 22 rfl V.heap.size 9 si _ 1 16 Tryz.underlying22 Hsi.out Sz0.out Sz1.out Sz2.out rfl (by decide) _ _ _ rfl HO.out EA E.length ec (E.map sv) rfl (by simp) HNE.out (sv_one _) (by unfold maxLen; omega) (by omega) (Nat.le_refl _) ?_
           intro v1 w1 g1 k1
           have b1 : Below V.heap.size V w1 := ((Below.refl V.heap.size V).drew).grown k1 (Nat.le_refl _) (fun q hq => by cases hq)
           have own1 : Hid (w1.ownsRow V.heap.size 9 1 v1 E.length (E.map sv)) := by
             have := g1
             simp only [Nat.zero_add, List.nil_append] at this
             exact this
           have HNI := Lib.hid (Txs.news (txs_up I1 b1))
           have hb1 := b1.size
           have x0 : w1.cell? ⟨w.heap.size, 0, none⟩ = some (.slice A M.length c) := (A1.below b1 A1.lt).cell 0
           have x1 : w1.cell? ⟨w.heap.size, 1, none⟩ = some (.int .i64 y) := (A1.below b1 A1.lt).cell 1)
        | (refine step_app _ rfl _ _ 22 rfl V.heap.size 9 si _ 1 16 Tryz.underlying22 Hsi.out Sz0.out Sz1.out Sz2.out rfl (by decide) _ _ _ rfl own1.out IA I.length ic (I.map sv) rfl (by simp) HNI.out (sv_one _) (by unfold maxLen; omega) (by omega) hb1 ?_
           intro v2 w2 g2 k2
           have b2 : Below V.heap.size V w2 := b1.grown k2 b1.size (fun q hq => own_row_ge own1.out q hq)
           obtain ⟨UA, uc, e, _, hU, _⟩ := own_texts (T := E ++ I) (by rw [List.length_append, List.map_append]; exact g2)
           rw [List.length_append] at e
           subst e
           have y0 : w2.cell? ⟨w.heap.size, 0, none⟩ = some (.slice A M.length c) := (A1.below b2 A1.lt).cell 0
           have y1 : w2.cell? ⟨w.heap.size, 1, none⟩ = some (.int .i64 y) := (A1.below b2 A1.lt).cell 1
           have Z2 : Hid (S4 w M A c y [] none I IA w2) := ⟨A1.below b2 A1.lt, F1.up b2, (fun k x h => by simp at h), txs_up I1 b2, B1.trans (b2.mono B1.size)⟩
           have CC := Lib.hid (CCl.out w2 UA uc (F1.up b2) (hT1.below b2 hT1.1) hU))
        | (go_simp
           go_at_call 18
           (with_reducible refine CC.out.mono ?_)
           rintro _ w3 ⟨KA, kc, rfl, hK, b3⟩
           simp only at hK))
      all_goals
        go_wp2_with fail
        go_meet
        have Z3 := Z2.out.below b3
        exact ⟨KA, kc, rfl, rfl, Z3.1, Z3.2.1, hK, Z3.2.2.2.1, Z3.2.2.2.2⟩
    case rest =>
      obtain ⟨KA, kc, rfl, rfl, Z⟩ := hcut
      clear HO HNE c0 c1 Ed E1 CCl A1 F1 I1 B1 hT1
      clear V
      obtain ⟨V, rfl⟩ : ∃ V, V = wc := ⟨_, rfl⟩
      by_cases he : ¬ e0 = 0
      · have hb : (e0 != 0) = true := by rw [bne_iff_ne]; exact he
        obtain rfl : K = [] := HNo.out he
        clear HNo HYes he
        simp only [List.length_nil]
        go_wp2_with fail
        go_ret
        exact ⟨rfl, Z.2.2.2.2⟩
      replace he : e0 = 0 := Decidable.byContradiction he
      subst he
      have hb : ((0 : Int) != 0) = false := rfl
      obtain ⟨p1, p2, p3, p4, p5⟩ := HYes.out (by first | rfl | trivial)
      have P1 := Lib.hid p1
      have P2 := Lib.hid p2
      have P3 := Lib.hid p3
      have P5 := Lib.hid p5
      have hKl : K.length ≤ 400 := p4
      clear HNo HYes p1 p2 p3 p4 p5
      have h0 : Hid (ClRel w M A c y K KA I IA K.length (.int .i64 0) V) := ⟨0, Nat.zero_le _, rfl, Z⟩
      clear Z
      go_wp2_with fail
      go_loopw [15] (fun i wr => ClRel w M A c y K KA I IA K.length i wr) (fun i _ => K.length - (intOf i).toNat)
      case atStart => exact h0.out
      case round =>
        clear h0
        obtain ⟨k, hk, rfl, Z⟩ := hrel
        by_cases hlt : k < K.length
        · have hj : (k : Int) < K.length := by omega
          have hx := List.getElem?_eq_getElem hlt
          obtain ⟨ka, rfl, _, _⟩ := Z.2.2.1 k _ hx
          have HX := Lib.hid hx
          obtain ⟨hq1, hq2, hq3⟩ := P1.out k _ hx
          clear hx
          generalize K[k] = id at *
          have CA := fun V h t => Lib.hid (Get_st M id A c y V h hSz (by omega) t)
          generalize getO ⟨M, y⟩ id = G at *
          obtain ⟨gs, ge⟩ := G
          obtain rfl : ge = 0 := hq1
          have hF := good_facts (dec_only hq2).2.1
          have hents := hF.ents
          have hpars := hF.pars
          clear hF
          have CD := Lib.hid (fun V => Decode_far gs V)
          have HQ3 := Lib.hid hq3
          clear hq3
          simp only at hq2 HQ3 hents hpars
          generalize decO gs.data.toList = D at *
          obtain ⟨o, oe⟩ := D
          obtain rfl : oe = 0 := hq2
          replace CA : ∀ V, Fls V V.heap.size A M → Tab V → Hid (Calls Tryz.prog 24 #[.agg #[.slice A M.length c, .int .i64 y], .string id] V fun e w' => e = .returned (.tuple #[.string gs, .int .i64 0]) ∧ Below V.heap.size V w') := CA
          replace CD : Hid (∀ V, Calls Tryz.prog 25 #[.string gs] V (DEndA V o 0)) := CD
          have Z1 : S4 w M A c y K (some ka) I IA wr.drew := Z.below (below_drewN (Below.refl _ _) 1)
          have hT1 := ht.below Z1.2.2.2.2 ht.1
          have zf := Z1.2.1
          go_wp2_with fail
          go_region_held3 (fun w' => w'.cell? ⟨w.heap.size, 0, none⟩ = some (.slice A M.length c) ∧ w'.cell? ⟨w.heap.size, 1, none⟩ = some (.int .i64 y) ∧ w'.cell? (ka.add k) = some (.string id))
            (first | exact Z1.hold HX.out | exact Z2.hold HX.out)
            (first
              | (go_at_call 24
                 (with_reducible refine (CA _ zf hT1).out.mono ?_)
                 rintro _ w1 ⟨rfl, b1⟩
                 have Z2 := Z1.below b1))
          clear zf hT1 CA Z1 b1 Z
          go_wp2_with fail
          (with_reducible refine (CD.out w1).mono ?_)
          clear CD
          rintro _ W2 ⟨p, rfl, hO, b2, _⟩
          have Z3 := Z2.below b2
          clear Z2 b2
          have bb : Below W2.heap.size W2 ((W2.alloc (.cells zeroO 50)).setRow W2.heap.size (obArr o p)) := below_setRow ((Below.refl _ _).alloc (Nat.le_refl _) _) (Nat.le_refl _) _
          have AX : Arr ((W2.alloc (.cells zeroO 50)).setRow W2.heap.size (obArr o p)) W2.heap.size 50 (obArr o p) := (Arr.new _ _ _).row _
          go_upto_region 19 with (refine wpList_store_row rfl 50 _ _ rfl W2.heap.size (obArr o p) rfl rfl 50 zeroO (Arr.new W2 _ _) (obInfo _ _) rfl (obArr_one _ _) ?_)
          refine wp_forget (fun V => S4 w M A c y K (some ka) I IA V ∧ Arr V W2.heap.size 50 (obArr o p) ∧ ObIn V V.heap.size o p) (by exact ⟨Z3.below bb, AX, (hO.below bb).mono bb.size⟩) ?_
          clear bb AX Z3 hO
          generalize W2.heap.size = q
          clear W2
          rintro W ⟨Z, AO, hO⟩
          go_cut [111] from 70 to 123 (fun b wx => b = .bool false ∧ S4 w M A c y K (some ka) I IA wx ∧ Arr wx q 50 (obArr o p) ∧ ObIn wx wx.heap.size o p)
          case first =>
            have HFin : Hid (∀ nq, S4 w M A c y K (some ka) I IA (W.drewN nq) ∧ Arr (W.drewN nq) q 50 (obArr o p) ∧ ObIn (W.drewN nq) (W.drewN nq).heap.size o p) := fun nq =>
              ⟨Z.below (below_drewN (Below.refl _ _) nq), AO.drewN nq, (hO.below (below_drewN (Below.refl W.heap.size W) nq)).mono (Nat.le_refl _)⟩
            rcases Nat.eq_zero_or_pos k with rfl | hk0
            · clear Z AO hO
              go_quiet (fail)
              go_wp2_with fail
              go_meet
              exact ⟨rfl, HFin.out _⟩
            · obtain ⟨m, rfl⟩ : ∃ m, k = m + 1 := ⟨k - 1, by omega⟩
              have hx0 := List.getElem?_eq_getElem (show m < K.length by omega)
              have hls := P2.out m _ _ hx0 HX.out
              have e0 := (Z.hold hx0).2.2
              have e1 := (Z.hold HX.out).2.2
              clear hx0
              generalize K[m] = a at *
              have hm1 : (m : Int) < K.length := by omega
              have hm2 : IntKind.i64.wrap (((m + 1 : Nat) : Int) - 1) = (m : Int) := by rw [IntWalk.i64_in _ (by omega)]; omega
              have hm3 : (0 : Int) < ((m + 1 : Nat) : Int) := by omega
              have hm4 : (0 : Int) < (m : Int) + 1 := by omega
              have hm5 : (m : Int) + 1 < K.length := by omega
              have hm6 : ((m : Int) + 1).toNat = m + 1 := by omega
              have hm7 : IntKind.i64.wrap (m : Int) = (m : Int) := IntWalk.i64_in _ (by omega)
              have hm8 : IntKind.i64.wrap ((m : Int) + 1 - 1) = (m : Int) := by rw [IntWalk.i64_in _ (by omega)]; omega
              have hm9 : (0 : Int) ≤ (m : Int) + 1 := by omega
              have e2 : W.cell? ⟨ka.block, ka.off + (m + 1), none⟩ = some (.string id) := by
                have h := e1
                unfold Addr.add at h
                rw [if_neg (by omega)] at h
                exact h
              have e3 : W.cell? ⟨ka.block, ka.off + m + 1, none⟩ = some (.string id) := e2
              have e4 : W.cell? ⟨(ka.add m).block, (ka.add m).off + 1, none⟩ = some (.string id) := by rw [← add_add ka m 1 (by decide)]; exact e1
              clear Z AO hO hk0
              go_quiet (fail)
              go_wp2_with fail
              go_meet
              exact ⟨rfl, HFin.out _⟩
          case rest =>
            obtain ⟨rfl, Y1, Y2, Y3⟩ := hcut
            clear Z AO hO
            have Z := Y1
            have AO := Y2
            have hO := Y3
            clear Y1 Y2 Y3
            clear W
            obtain ⟨W, rfl⟩ : ∃ W, W = wc := ⟨_, rfl⟩
            have CL := Lib.hid (Links_far o p W hO (by omega) (by omega))
            go_wp2_with (refine wpList_load_row rfl 50 _ rfl q rfl 50 _ (0, 0) _ AO Tryz.underlying50 rfl (obInfo _ _) ?_)
            (with_reducible refine CL.out.mono ?_)
            clear CL AO hO
            rintro _ W4 ⟨LA, lc, rfl, hL, b4, _⟩
            have Z4 := Z.below b4
            clear Z b4
            have HIn : Hid (∀ y ∈ linksL o, memB y K = true) := HQ3.out
            have h0 : Hid (ClIn w M A c y K (some ka) I IA (linksL o) LA (.int .i64 0) W4) := ⟨0, Nat.zero_le _, rfl, Z4, hL⟩
            have hll : (linksL o).length ≤ 64 := linksL_len hents hpars
            clear Z4 hL HQ3
            generalize linksL o = N at *
            go_wp2_with fail
            go_loopw [115] (fun i wr => ClIn w M A c y K (some ka) I IA N LA i wr) (fun i _ => N.length - (intOf i).toNat)
            case atStart => exact h0.out
            case round =>
              clear h0
              obtain ⟨j, hj9, rfl, Z, hN⟩ := hrel
              by_cases hlt2 : j < N.length
              · have hj2 : (j : Int) < N.length := by omega
                have hx2 := List.getElem?_eq_getElem hlt2
                obtain ⟨la, rfl, _, hc2⟩ := hN j _ hx2
                have CW := Lib.hid (within_any K N[j] (some ka) kc wr Z.2.2.1 (by omega))
                rw [HIn.out _ (List.getElem_mem hlt2)] at CW
                clear hx2
                generalize N[j] = t at *
                go_wp2_with fail
                (with_reducible refine CW.out.mono ?_)
                clear CW
                rintro _ _ ⟨rfl, rfl⟩
                go_wp2_with fail
                go_roundw
                case rel => exact ⟨j + 1, hlt2, by rw [Int.natCast_add]; rfl, Z, hN⟩
                case measure => simp [intOf]; omega
              · obtain rfl : j = N.length := by omega
                have hj2 : ¬ (N.length : Int) < N.length := by omega
                go_wp2_with fail
                go_roundw
                case rel => exact ⟨k + 1, hlt, by rw [Int.natCast_add]; rfl, Z⟩
                case measure => simp [intOf]; omega
        · obtain rfl : k = K.length := by omega
          have hj : ¬ (K.length : Int) < K.length := by omega
          have h0 : Hid (ClRel w M A c y K KA I IA I.length (.int .i64 0) wr) := ⟨0, Nat.zero_le _, rfl, Z⟩
          clear Z
          go_wp2_with fail
          go_loopw [22] (fun i wr => ClRel w M A c y K KA I IA I.length i wr) (fun i _ => I.length - (intOf i).toNat)
          case atStart => exact h0.out
          case round =>
            clear h0
            obtain ⟨k, hk, rfl, Z⟩ := hrel
            by_cases hlt : k < I.length
            · have hj : (k : Int) < I.length := by omega
              have hx := List.getElem?_eq_getElem hlt
              obtain ⟨ia, rfl, _, hc2⟩ := Z.2.2.2.1 k _ hx
              have CW := Lib.hid (within_any K I[k] KA kc wr Z.2.2.1 (by omega))
              rw [P3.out _ (List.mem_append_right _ (List.getElem_mem hlt))] at CW
              clear hx
              generalize I[k] = t at *
              go_wp2_with fail
              (with_reducible refine CW.out.mono ?_)
              clear CW
              rintro _ _ ⟨rfl, rfl⟩
              go_wp2_with fail
              go_roundw
              case rel => exact ⟨k + 1, hlt, by rw [Int.natCast_add]; rfl, Z⟩
              case measure => simp [intOf]; omega
            · obtain rfl : k = I.length := by omega
              have hj : ¬ (I.length : Int) < I.length := by omega
              have CW := Lib.hid (within_any K root KA kc wr Z.2.2.1 (by omega))
              cases hr : memB root K
              · rw [hr] at CW
                go_wp2_with fail
                (with_reducible refine CW.out.mono ?_)
                rintro _ _ ⟨rfl, rfl⟩
                go_wp2_with fail
                go_ret
                exact ⟨rfl, Z.2.2.2.2⟩
              rw [hr] at CW
              obtain ⟨r1, r2, r3, r4⟩ := P5.out root hr
              have R2 := Lib.hid r2
              have R3 := Lib.hid r3
              clear r2 r3 P5 P1 P2 P3
              generalize reachO (getO ⟨M, y⟩) [root] = R at *
              obtain ⟨J, je⟩ := R
              obtain rfl : je = 0 := r1
              have d0 : wr.cell? ⟨w.heap.size, 0, none⟩ = some (.slice A M.length c) := Z.1.cell 0
              have d1 : wr.cell? ⟨w.heap.size, 1, none⟩ = some (.int .i64 y) := Z.1.cell 1
              have ba : Below wr.heap.size wr (wr.alloc (.cells #[.string root] 9)) := (Below.refl _ _).alloc (Nat.le_refl _) _
              have Z2 := Z.below ba
              have hTa := ht.below Z2.2.2.2.2 ht.1
              have hUr : Txs (wr.alloc (.cells #[.string root] 9)) (wr.alloc (.cells #[.string root] 9)).heap.size (some ⟨wr.heap.size, 0, none⟩) [root] := fun k x hx => by
                match k, hx with
                | 0, hx => obtain rfl := Option.some.inj hx; exact ⟨_, rfl, (Arr.new wr 9 #[.string root]).lt, (Arr.new wr 9 #[.string root]).cell 0⟩
                | k + 1, hx => simp at hx
              have CC := Lib.hid (HRoot.out _ _ 1 Z2.2.1 hTa hUr)
              clear hTa hUr HRoot Z ba
              go_wp2_with fail
              (with_reducible refine CW.out.mono ?_)
              clear CW
              rintro _ _ ⟨rfl, rfl⟩
              go_wp2_with fail
              (with_reducible refine CC.out.mono ?_)
              clear CC d0 d1
              rintro _ W5 ⟨JA, jc, rfl, hJ, b5⟩
              simp only at hJ ⊢
              have Z5 := Z2.below b5
              clear Z2 b5
              have h0 : Hid (ClIn w M A c y K KA I IA J JA (.int .i64 0) W5) := ⟨0, Nat.zero_le _, rfl, Z5, hJ⟩
              clear Z5 hJ
              replace R2 : Hid (∀ x ∈ J, memB x K = true) := R2
              replace R3 : Hid (memB root J = true) := R3
              have hJl : J.length ≤ 281474976710656 := Nat.le_trans (show J.length ≤ 400 from r4) (by decide)
              go_wp2_with fail
              go_loopw [25] (fun i wr => ClIn w M A c y K KA I IA J JA i wr) (fun i _ => J.length - (intOf i).toNat)
              case atStart => exact h0.out
              case round =>
                clear h0
                obtain ⟨k, hk, rfl, Z, hJ⟩ := hrel
                by_cases hlt : k < J.length
                · have hj : (k : Int) < J.length := by omega
                  have hx := List.getElem?_eq_getElem hlt
                  obtain ⟨la, rfl, _, hc2⟩ := hJ k _ hx
                  have CW := Lib.hid (within_any K J[k] KA kc wr Z.2.2.1 (by omega))
                  rw [R2.out _ (List.getElem_mem hlt)] at CW
                  clear hx
                  generalize J[k] = t at *
                  go_wp2_with fail
                  (with_reducible refine CW.out.mono ?_)
                  clear CW
                  rintro _ _ ⟨rfl, rfl⟩
                  go_wp2_with fail
                  go_roundw
                  case rel => exact ⟨k + 1, hlt, by rw [Int.natCast_add]; rfl, Z, hJ⟩
                  case measure => simp [intOf]; omega
                · obtain rfl : k = J.length := by omega
                  have hj : ¬ (J.length : Int) < J.length := by omega
                  have CW := Lib.hid (within_any J root JA jc wr hJ hJl)
                  rw [R3.out] at CW
                  go_wp2_with fail
                  (with_reducible refine CW.out.mono ?_)
                  rintro _ _ ⟨rfl, rfl⟩
                  go_wp2_with fail
                  go_ret
                  exact ⟨rfl, Z.2.2.2.2⟩
end Go.Proofs.YtkcnogmjnmnbdaaGreatDoor
