/- Texts in one: StSw, StWithin. -/
import Derived.Test.YtkcnogmjnmnbdaaGreatDoorStSwB
import Derived.Test.YtkcnogmjnmnbdaaGreatDoorOPick
import Derived.Test.YtkcnogmjnmnbdaaGreatDoorUnhexW
import Derived.Test.YtkcnogmjnmnbdaaGreatDoorStNums
import Derived.Deep.CutBlock
import Derived.Deep.CutRange
import Derived.Test.YtkcnogmjnmnbdaaGreatDoorDkSpec
/- keep.StoreSwept: its walk. -/
namespace Go.Proofs.YtkcnogmjnmnbdaaGreatDoor
open Go.RowKit

/-- where the first loop stands: so many objects tried, the disk, the ids -/
def SsRel (T : List ByteArray) (w : World) (v i : Value) (wr : World) : Prop :=
  ∃ (k : Nat) (M : List Fl) (A : Option Addr) (c : Nat) (y : Int) (I : List ByteArray) (v0 : Value), k ≤ T.length ∧ k ≤ 40 ∧ i = .int .i64 (k : Int) ∧ v0 = v ∧ goodD M = true ∧ NmL M ∧ M.length ≤ c ∧ y ≤ 100 ∧ I.length ≤ k ∧ (∀ t ∈ I, t.size = 32) ∧ Sq w M A c y I v0 wr
theorem SsRel.start (T : List ByteArray) (w V : World) (h : Arr V w.heap.size 37 (dkArr [] none 0 (-1))) (b : Below w.heap.size w V) : SsRel T w (.slice none 0 0) (.int .i64 0) V :=
  ⟨0, [], none, 0, -1, [], _, Nat.zero_le _, Nat.zero_le _, rfl, rfl, by decide, (fun f hf => by cases hf), Nat.le_refl _, by decide, Nat.le_refl _, (fun t ht => by cases ht), h, Fls.nil _ _ _, own_nil _ _ _ _, Sml.nil _, b⟩
def SsEnd (w : World) (v : Value) (wr : World) : Prop :=
  ∃ (M : List Fl) (A : Option Addr) (c : Nat) (y : Int) (I : List ByteArray) (v0 : Value), v0 = v ∧ goodD M = true ∧ M.length ≤ c ∧ y ≤ 100 ∧ I.length ≤ 40 ∧ Sq w M A c y I v0 wr
def SrtRel (W0 : World) (v i : Value) (wr : World) : Prop :=
  ∃ (k : Nat) (U : List ByteArray) (v0 : Value), k ≤ 5 ∧ i = .int .i64 (k : Int) ∧ v0 = v ∧ U.length ≤ k ∧ wr.ownsRow W0.heap.size 9 1 v0 U.length (U.map sv) ∧ Below W0.heap.size W0 wr
def SrtEnd (W0 : World) (v : Value) (wr : World) : Prop :=
  ∃ (U : List ByteArray) (UA : Option Addr) (uc : Nat), v = .slice UA U.length uc ∧ U.length ≤ 5 ∧ Txs wr wr.heap.size UA U ∧ Below W0.heap.size W0 wr
theorem SrtRel.last {W0 wr : World} {v i : Value} (h : SrtRel W0 v i wr) : SrtEnd W0 v wr := by
  obtain ⟨k, U, v, hk, _, rfl, hU, own, bel⟩ := h
  obtain ⟨UA, uc, rfl, _, hT, _⟩ := own_texts own
  exact ⟨U, UA, uc, rfl, by omega, hT, bel⟩
theorem own_keep {w w' : World} {base : Nat} {e : TypeId} {size n : Nat} {v : Value} {xs : List Value} (h : w.ownsRow base e size v n xs) (hb : Below w.heap.size w w') : w'.ownsRow base e size v n xs := own_kp h (Kp.bel hb (X := fun _ => False)) (fun _ _ e => e)
theorem getO_fuse (M : List Fl) (x y : Int) : getO ⟨M, x⟩ = getO ⟨M, y⟩ := rfl
/-- the disk, what Sweep left, what is kept -/
def S3 (w : World) (M M' : List Fl) (A A' : Option Addr) (c c' : Nat) (x x' : Int) (K : List ByteArray) (KA : Option Addr) (g : Nat) (V : World) : Prop :=
  Arr V w.heap.size 37 (dkArr M A c x) ∧ Arr V g 37 (dkArr M' A' c' x') ∧ Fls V V.heap.size A M ∧ Fls V V.heap.size A' M' ∧ Txs V V.heap.size KA K ∧ Below w.heap.size w V
theorem txs_up {w w' : World} {A : Option Addr} {T : List ByteArray} (h : Txs w w.heap.size A T) (b : Below w.heap.size w w') : Txs w' w'.heap.size A T := fun k x hx => by
  obtain ⟨ad, e, hl, hc⟩ := h k x hx
  exact ⟨ad, e, Nat.lt_of_lt_of_le hl b.size, (b.cell hl).trans hc⟩
theorem S3.below {w : World} {M M' : List Fl} {A A' : Option Addr} {c c' : Nat} {x x' : Int} {K : List ByteArray} {KA : Option Addr} {g : Nat} {V V' : World} (h : S3 w M M' A A' c c' x x' K KA g V) (b : Below V.heap.size V V') : S3 w M M' A A' c c' x x' K KA g V' := by
  obtain ⟨h1, h2, f1, f2, hk, b0⟩ := h
  exact ⟨h1.below b h1.lt, h2.below b h2.lt, f1.up b, f2.up b, txs_up hk b, b0.trans (b.mono b0.size)⟩
theorem S3.holdA {w : World} {M M' : List Fl} {A A' : Option Addr} {c c' : Nat} {x x' : Int} {K : List ByteArray} {ka : Addr} {g : Nat} {V : World} (h : S3 w M M' A A' c c' x x' K (some ka) g V) {k : Nat} {id : ByteArray} (hk : K[k]? = some id) : V.cell? ⟨w.heap.size, 0, none⟩ = some (.slice A M.length c) ∧ V.cell? ⟨w.heap.size, 1, none⟩ = some (.int .i64 x) ∧ V.cell? (ka.add k) = some (.string id) :=
  ⟨h.1.cell 0, h.1.cell 1, by obtain ⟨ad, e, _, hc⟩ := h.2.2.2.2.1 k id hk; cases e; exact hc⟩
theorem S3.holdB {w : World} {M M' : List Fl} {A A' : Option Addr} {c c' : Nat} {x x' : Int} {K : List ByteArray} {ka : Addr} {g : Nat} {V : World} (h : S3 w M M' A A' c c' x x' K (some ka) g V) {k : Nat} {id : ByteArray} (hk : K[k]? = some id) : V.cell? ⟨g, 0, none⟩ = some (.slice A' M'.length c') ∧ V.cell? ⟨g, 1, none⟩ = some (.int .i64 x') ∧ V.cell? (ka.add k) = some (.string id) :=
  ⟨h.2.1.cell 0, h.2.1.cell 1, by obtain ⟨ad, e, _, hc⟩ := h.2.2.2.2.1 k id hk; cases e; exact hc⟩
theorem fls_set {V : World} {A : Option Addr} {L : List Fl} {q j : Nat} {cs : Array Value} {u : Value} (hF : Fls V V.heap.size A L) (hA : Arr V q 37 cs) (hn : ∀ (i : Nat) (t : ByteArray), cs[i]? ≠ some (.string t)) : Fls (V.setCell ⟨q, j, none⟩ u) (V.setCell ⟨q, j, none⟩ u).heap.size A L := fun k' x hx => by
  have k : V.grownBy (V.setCell ⟨q, j, none⟩ u) (some q) := gb_set _ _ _
  obtain ⟨ad, e, hbk, h0, h1, h2⟩ := hF k' x hx
  have hne : ¬ some (ad.add (k' * 3)).block = some q := fun e => by
    rw [Option.some.inj e, hA.cell] at h1
    exact hn _ _ h1
  exact ⟨ad, e, Nat.lt_of_lt_of_le hbk k.size, k.cell h0 hne, k.cell h1 hne, k.cell h2 hne⟩
theorem txs_set {V : World} {A : Option Addr} {T : List ByteArray} {q j : Nat} {cs : Array Value} {u : Value} (hF : Txs V V.heap.size A T) (hA : Arr V q 37 cs) (hn : ∀ (i : Nat) (t : ByteArray), cs[i]? ≠ some (.string t)) : Txs (V.setCell ⟨q, j, none⟩ u) (V.setCell ⟨q, j, none⟩ u).heap.size A T := fun k' x hx => by
  have k : V.grownBy (V.setCell ⟨q, j, none⟩ u) (some q) := gb_set _ _ _
  obtain ⟨ad, e, hbk, h0⟩ := hF k' x hx
  have hne : ¬ some (ad.add k').block = some q := fun e => by
    have h1 := h0
    have hg : V.heap[(ad.add k').block]? = some (.cells cs 37 (0, 0)) := by rw [Option.some.inj e]; exact hA
    simp only [World.cell?, hg] at h1
    split at h1
    · cases h1
    · exact hn _ _ h1
  exact ⟨ad, e, Nat.lt_of_lt_of_le hbk k.size, k.cell h0 hne⟩
def S3Rel (w : World) (M M' : List Fl) (A A' : Option Addr) (c c' : Nat) (x x' : Int) (K : List ByteArray) (KA : Option Addr) (g : Nat) (i : Value) (wr : World) : Prop :=
  ∃ k : Nat, k ≤ K.length ∧ i = .int .i64 (k : Int) ∧ S3 w M M' A A' c c' x x' K KA g wr
def SsMid (w : World) (M : List Fl) (A : Option Addr) (c : Nat) (y : Int) (I : List ByteArray) (v : Value) (R : Dk × ByteArray × Int) (n d e : Value) (wr : World) : Prop :=
  ∃ (g : Nat) (Ab : Option Addr) (cb : Nat), n = .pointer (some ⟨g, 0, none⟩) ∧ d = .string R.2.1 ∧ e = .int .i64 R.2.2 ∧ R.1.files.length ≤ cb ∧ Sn w M R.1.files A Ab c cb y R.1.fuse I v g wr
set_option maxRecDepth 100000 in
set_option maxHeartbeats 8000000 in
theorem StoreSwept_any (T : List ByteArray) (N : List Int) (fu : Int) (TA NA : Option Addr) (tc nc : Nat) (w : World) (hT : Txs w w.heap.size TA T) (hz : ∀ s ∈ T, s.size ≤ 140737488355328) (hN : NumsA w w.heap.size NA N) (ht : Tab w) :
    Calls Tryz.prog 6 #[.slice TA T.length tc, .slice NA N.length nc, .int .i64 fu] w fun e w' => e = .returned (.bool true) ∧ Below w.heap.size w w' := by
  have b0 : Below w.heap.size w ((w.alloc (.cells dkZero 37)).setRow w.heap.size (dkArr [] none 0 (-1))) := below_setRow ((Below.refl _ _).alloc (Nat.le_refl _) _) (Nat.le_refl _) _
  have A0 : Arr ((w.alloc (.cells dkZero 37)).setRow w.heap.size (dkArr [] none 0 (-1))) w.heap.size 37 (dkArr [] none 0 (-1)) := (Arr.new _ _ _).row _
  have CPut : Hid (∀ (L : List Fl) (s : ByteArray) (A : Option Addr) (c : Nat) (z : Int) (V : World), s.size ≤ 140737488355328 → goodD L = true → L.length ≤ c → z ≤ 100 → Fls V V.heap.size A L → Tab V → Calls Tryz.prog 22 #[.agg #[.slice A L.length c, .int .i64 z], .string s] V (PutEnd V (putO ⟨L, z⟩ s))) := fun L s A c z V h1 h2 h3 h4 h5 h6 =>
    Put_st L s h1 A c z V h5 (good_sized h2).1 (by have := (good_sized h2).2; omega) h3 (by omega) h6
  go_enter Tryz.func6, Tryz.ntmps6
  go_upto_region 2 with (refine wpList_store_row rfl 37 _ _ rfl w.heap.size (dkArr [] none 0 (-1)) rfl rfl 37 dkZero (Arr.new w _ _) (dkInfo _ _ _ _) rfl (dkArr_one _ _ _ _) ?_)
  refine wp_forget (fun V => Arr V w.heap.size 37 (dkArr [] none 0 (-1)) ∧ Below w.heap.size w V) (by exact ⟨A0, b0⟩) ?_
  clear A0 b0
  rintro V ⟨A0, b0⟩
  have h0 := Lib.hid (SsRel.start T w V A0 b0)
  clear A0 b0
  go_upto_block 0 with fail
  go_cut [8] from 27 (fun v wx => SsEnd w v wx)
  case first =>
    go_wp2_with fail
    go_loopw [8, 10] (fun v i wr => SsRel T w v i wr) (fun _ i _ => 40 - (intOf i).toNat)
    case atStart => exact h0.out
    case round =>
      clear h0
      obtain ⟨k, M, A, c, y, I, v, hk, hk40, rfl, rfl, hG, hNm, hc, hy, hI, hI32, hS⟩ := hrel
      have hlI : I.length ≤ 1000 := by omega
      by_cases hlt : k < T.length ∧ k < 40
      · have hj : (k : Int) < T.length := by omega
        have hj2 : (k : Int) < 40 := by omega
        have hx : T[k]? = some T[k] := List.getElem?_eq_getElem hlt.1
        obtain ⟨ad, rfl, hbl, h0⟩ := hT k T[k] hx
        have hs := hz T[k] (List.getElem_mem hlt.1)
        have HT := Lib.hid h0
        have HB := Lib.hid hbl
        have C0 := fun A c V h3 h5 h6 => CPut.out M (T[k]'hlt.1) A c y V hs hG h3 hy h5 h6
        have HP := Lib.hid (fun h => putO_yes (d := ⟨M, y⟩) (s := (T[k]'hlt.1)) h)
        have HNm := Lib.hid (nm_putO (d := ⟨M, y⟩) (s := (T[k]'hlt.1)) hNm)
        have HFu : Hid ((putO ⟨M, y⟩ T[k]).1.fuse ≤ 100) := Int.le_trans put_fuse hy
        have HSum := Lib.hid (sumB_size T[k])
        clear h0 hbl hx hs
        generalize T[k] = s at *
        have b0 := hS.2.2.2.2
        have e1 : wr.drew.cell? (ad.add k) = some (.string s) := (b0.drew.cell HB.out).trans HT.out
        have d0 : wr.drew.cell? ⟨w.heap.size, 0, none⟩ = some (.slice A M.length c) := hS.1.cell 0
        have d1 : wr.drew.cell? ⟨w.heap.size, 1, none⟩ = some (.int .i64 y) := hS.1.cell 1
        have Sd : Sq w M A c y I v wr.drew := hS.below (below_drewN (Below.refl _ _) 1)
        have be : Below wr.heap.size wr (wr.alloc (.cells dkZero 37)).drew := ((Below.refl _ wr).alloc (Nat.le_refl _) _).drew
        have Se : Sq w M A c y I v (wr.alloc (.cells dkZero 37)).drew := hS.below be
        have AE : Arr (wr.alloc (.cells dkZero 37)).drew wr.heap.size 37 dkZero := (Arr.new _ _ _).drew
        have hq1 : w.heap.size < wr.heap.size := hS.1.lt
        have CCd := Lib.hid (C0 A c _ hc Sd.2.1 (ht.below Sd.2.2.2.2 ht.1))
        have CCe := Lib.hid (C0 A c _ hc Se.2.1 (ht.below Se.2.2.2.2 ht.1))
        have e1e : (wr.alloc (.cells dkZero 37)).drew.cell? (ad.add k) = some (.string s) := (Se.2.2.2.2.cell HB.out).trans HT.out
        have d0e : (wr.alloc (.cells dkZero 37)).drew.cell? ⟨w.heap.size, 0, none⟩ = some (.slice A M.length c) := Se.1.cell 0
        have d1e : (wr.alloc (.cells dkZero 37)).drew.cell? ⟨w.heap.size, 1, none⟩ = some (.int .i64 y) := Se.1.cell 1
        unfold dkZero at CCe d0e d1e e1e
        clear be C0
        generalize putO ⟨M, y⟩ s = R at *
        obtain ⟨⟨M', y'⟩, id, e0⟩ := R
        go_upto_region 6 with fail
        go_cut [11, 12, 13] from 28 to 54 (fun n d e wx => SsMid w M A c y I v (⟨M', y'⟩, id, e0) n d e wx)
        case first =>
          go_region_law (first
            | (go_simp; go_at_call 22; (with_reducible refine CCd.out.mono ?_); rintro _ W3 ⟨Ab, cb, rfl, hFb, hcb, b3⟩
               simp only at hFb hcb
               have HF : Hid (∀ W', W' = W3.alloc (.cells #[.slice Ab M'.length cb, .int .i64 y'] 37) → Sn w M M' A Ab c cb y y' I v W3.heap.size W') := (Sd.below b3).late hFb
               simp only [dkArr])
            | (go_simp; go_at_call 22; (with_reducible refine CCe.out.mono ?_); rintro _ W3 ⟨Ab, cb, rfl, hFb, hcb, b3⟩
               simp only at hFb hcb
               have AF := AE.below b3 AE.lt
               have HF : Hid (∀ W', W' = (W3.setCell ⟨wr.heap.size, 0, none⟩ (.slice Ab M'.length cb)).setCell ⟨wr.heap.size, 1, none⟩ (.int .i64 y') → Sn w M M' A Ab c cb y y' I v wr.heap.size W') := (Se.below b3).early hFb AF hq1
               have x0 : W3.cell? ⟨wr.heap.size, 0, none⟩ = some (.slice none 0 0) := AF.cell 0
               have x1 := AF.free 0
               have AG := AF.put 0 (.slice Ab M'.length cb)
               have x2 : (W3.setCell ⟨wr.heap.size, 0, none⟩ (.slice Ab M'.length cb)).cell? ⟨wr.heap.size, 1, none⟩ = some (.int .i64 0) := AG.cell 1
               have x3 := AG.free 1
               simp only [dkArr]))
          all_goals
            go_wp2_with fail
            go_meet
            exact ⟨_, Ab, cb, rfl, rfl, rfl, hcb, HF.out _ rfl⟩
        case rest =>
          obtain ⟨q, Ab, cb, rfl, rfl, rfl, hcb, Z⟩ := hcut
          simp only at hcb Z ⊢
          obtain ⟨W, rfl⟩ : ∃ W, W = wc := ⟨_, rfl⟩
          clear CCd CCe Sd Se AE d0 d1 e1 e1e d0e d1e hq1 b0
          by_cases he : e0 = 0
          · subst he
            obtain ⟨_, hid, hG2, _⟩ := HP.out rfl
            have hid32 : id.size = 32 := by rw [show id = sumB s from hid]; exact HSum.out
            have hG' : Hid (goodD M' = true) := hG2
            have hNm' : NmL M' := HNm.out
            have hy' : y' ≤ 100 := HFu.out
            clear HP HNm HFu HSum hid hG2
            have be : Below W.heap.size W (W.alloc (.cells #[.string id] 9)).drew := ((Below.refl _ W).alloc (Nat.le_refl _) _).drew
            have Ze := Z.below be
            have xe : (W.alloc (.cells #[.string id] 9)).drew.cell? ⟨W.heap.size, 0, none⟩ = some (.string id) := (Arr.new _ _ _).drew.cell 0
            have Re := run_app_id (W.alloc (.cells #[.string id] 9)).drew (w.heap.size + 1) 22 v I Ze.1.2.2.1 Ze.1.2.2.2.1 (fun t ht => by rw [hI32 t ht]; exact Nat.le_refl _) ⟨W.heap.size, 0, none⟩ 1 id (by omega) xe hlI (Nat.le_trans Ze.1.1.lt (Nat.le_refl _))
            obtain ⟨g3, cap3, w3, hr, hown, hgr, hs3, _⟩ := Re
            have hne : ∀ g, v.ownBlock = some g → w.heap.size < g := fun g hg => own_row_ge Ze.1.2.2.1 g hg
            have G0 : Arr w3 w.heap.size 37 (dkArr M A c y) := Ze.1.1.kept hgr (fun e => by have := hne _ e.symm; omega)
            have G1 : Arr w3 q 37 (dkArr M' Ab cb y') := Ze.2.1.kept hgr (fun e => own_ne Ze.1.2.2.1 Ze.2.1 (by decide) e.symm)
            have HF : Hid (∀ W', W' = (w3.setCell ⟨w.heap.size, 0, none⟩ (.slice Ab M'.length cb)).setCell ⟨w.heap.size, 1, none⟩ (.int .i64 y') → Sq w M' Ab cb y' (I ++ [id]) (.slice (some ⟨g3, 0, none⟩) (I.length + 1) cap3) W') := Ze.next hNm' hown hgr hs3
            have q0 : W.drew.cell? ⟨q, 0, none⟩ = some (.slice Ab M'.length cb) := Z.2.1.cell 0
            have q1 : W.drew.cell? ⟨q, 1, none⟩ = some (.int .i64 y') := Z.2.1.cell 1
            have q0e : (W.alloc (.cells #[.string id] 9)).drew.cell? ⟨q, 0, none⟩ = some (.slice Ab M'.length cb) := Ze.2.1.cell 0
            have q1e : (W.alloc (.cells #[.string id] 9)).drew.cell? ⟨q, 1, none⟩ = some (.int .i64 y') := Ze.2.1.cell 1
            have q0w : w3.cell? ⟨q, 0, none⟩ = some (.slice Ab M'.length cb) := G1.cell 0
            have q1w : w3.cell? ⟨q, 1, none⟩ = some (.int .i64 y') := G1.cell 1
            have p0 : w3.cell? ⟨w.heap.size, 0, none⟩ = some (.slice A M.length c) := G0.cell 0
            have p1 := G0.free 0
            have GP := G0.put 0 (.slice Ab M'.length cb)
            have p2 : (w3.setCell ⟨w.heap.size, 0, none⟩ (.slice Ab M'.length cb)).cell? ⟨w.heap.size, 1, none⟩ = some (.int .i64 y) := GP.cell 1
            have p3 := GP.free 1
            clear be Ze xe hown hgr hs3 hne Z G0 G1 GP
            go_wp2_with fail
            go_region_law (first
              | (refine step_app_is rfl _ _ 22 22 rfl _ _ (by simp [Act.eval]) (by simp [Act.eval]) hr ?_))
            all_goals
              go_wp2_with fail
              go_roundw
              case rel => exact ⟨k + 1, M', Ab, cb, y', I ++ [id], _, by omega, by omega, by rw [Int.natCast_add]; rfl, rfl, hG'.out, hNm', hcb, hy', by rw [List.length_append, List.length_singleton]; omega, fun t ht => (List.mem_append.1 ht).elim (hI32 t) (fun h => by rw [List.mem_singleton.1 h]; exact hid32), HF.out _ rfl⟩
              case measure => simp [intOf]; omega
          · have heb : (e0 == 0) = false := by rw [beq_eq_false_iff_ne]; exact he
            have ZS := Lib.hid Z.1
            have HG := Lib.hid hG
            clear he HP HNm HFu HSum Z
            go_wp2_with fail
            go_roundw
            case rel => exact ⟨k + 1, M, A, c, y, I, v, by omega, by omega, by rw [Int.natCast_add]; rfl, rfl, HG.out, hNm, hc, hy, by omega, hI32, ZS.out⟩
            case measure => simp [intOf]; omega
      · have hE : Hid (SsEnd w v wr) := ⟨M, A, c, y, I, v, rfl, hG, hc, hy, by omega, hS⟩
        by_cases h1 : k < T.length
        · have hj : (k : Int) < T.length := by omega
          have hj2 : ¬ (k : Int) < 40 := by omega
          clear hG hS
          go_wp2_with fail
          go_meet
          exact hE.out
        · have hj : ¬ (k : Int) < T.length := by omega
          clear hG hS
          go_wp2_with fail
          go_meet
          exact hE.out
  case rest =>
    obtain ⟨M, A, c, y, I, v, rfl, hG, hc, hy, hI, hS⟩ := hcut
    obtain ⟨IA, ic, rfl, hic, hIT, _⟩ := own_texts hS.2.2.1
    have A0 := hS.1
    have F0 := hS.2.1
    have B0 := hS.2.2.2.2
    obtain ⟨W0, rfl⟩ : ∃ W0, W0 = wc := ⟨_, rfl⟩
    have HG := Lib.hid hG
    obtain ⟨si, hsi, sz0, sz1, sz2⟩ := info_parts info_str
    have Hsi := Lib.hid hsi
    have Sz0 := Lib.hid sz0
    have Sz1 := Lib.hid sz1
    have Sz2 := Lib.hid sz2
    have h0 : Hid (SrtRel W0 (.slice none 0 0) (.int .i64 0) W0) := ⟨0, [], _, Nat.zero_le _, rfl, rfl, Nat.le_refl _, own_nil _ _ _ _, Below.refl _ _⟩
    clear hS hG CPut hsi sz0 sz1 sz2
    go_upto_block 2 with fail
    go_cut [9] from 55 (fun v wx => SrtEnd W0 v wx)
    case first =>
      go_wp2_with fail
      go_loopw [9, 14] (fun v i wr => SrtRel W0 v i wr) (fun _ i _ => 5 - (intOf i).toNat)
      case atStart => exact h0.out
      case round =>
        clear h0
        obtain ⟨k, U, v, hk5, rfl, rfl, hU, own, bel⟩ := hrel
        by_cases hlt : k < N.length ∧ k < 5 ∧ 0 < I.length
        · have hj : (k : Int) < N.length := by omega
          have hj2 : (k : Int) < 5 := by omega
          have hj3 : (0 : Int) < I.length := by omega
          have hx : N[k]? = some (N[k]'hlt.1) := List.getElem?_eq_getElem hlt.1
          obtain ⟨ad, rfl, hbl, hc0⟩ := hN k _ hx
          obtain ⟨hp0, hp1⟩ := pk_in (N[k]'hlt.1) I.length hlt.2.2
          have g0 := (bel.cell (Nat.lt_of_lt_of_le hbl B0.size)).trans ((B0.cell hbl).trans hc0)
          have CP := Lib.hid (fun V => pick_any (N[k]'hlt.1) I.length hlt.2.2 (by omega) V)
          clear hx hc0 hbl
          generalize pk (N[k]'hlt.1) I.length = pz at *
          generalize N[k]'hlt.1 = nk at *
          obtain ⟨p, rfl⟩ := Int.eq_ofNat_of_zero_le hp0
          have hpl : p < I.length := by omega
          obtain ⟨ad2, rfl, hbl2, hc2⟩ := hIT p (I[p]'hpl) (List.getElem?_eq_getElem hpl)
          have g1 := (bel.cell hbl2).trans hc2
          clear hc2 hbl2
          generalize I[p]'hpl = x at *
          have bq : Below wr.heap.size wr (wr.alloc (.cells #[.string x] 9)) := (Below.refl _ _).alloc (Nat.le_refl _) _
          have HNw : Hid (News (wr.alloc (.cells #[.string x] 9)) (some ⟨wr.heap.size, 0, none⟩) 1 [.string x]) := ⟨fun e => (by cases e), fun ad e q t ht => by
            obtain rfl := Option.some.inj e
            rw [zero_add, (Arr.new wr 9 #[.string x]).cell q, ← Array.getElem?_toList]
            exact ht⟩
          have HOw := Lib.hid (own_keep own bq)
          have b2 := bel.trans (bq.mono bel.size)
          have HFin : Hid (∀ v' w', w'.ownsRow W0.heap.size 9 1 v' (U.length + 1) (U.map sv ++ [.string x]) → (wr.alloc (.cells #[.string x] 9)).grownBy w' v.ownBlock → w'.ownsRow W0.heap.size 9 1 v' (U ++ [x]).length ((U ++ [x]).map sv) ∧ Below W0.heap.size W0 w') := fun v' w' h1 h2 =>
            ⟨by rw [List.length_append, List.map_append]; exact h1, b2.grown h2 b2.size (fun q hq => own_row_ge own q hq)⟩
          have hb2 := b2.size
          have hU5 : U.length ≤ 5 := by omega
          clear own bel bq b2
          go_wp2_with (first
            | (go_at_call 28; (with_reducible refine (CP.out _).mono ?_); rintro _ _ ⟨rfl, rfl⟩)
            | (at_builtin; refine wpList_app _ rfl _ _ 22 rfl W0.heap.size 9 si _ 1 16 Tryz.underlying22 Hsi.out Sz0.out Sz1.out Sz2.out rfl (by decide) _ _ _ rfl HOw.out (some ⟨wr.heap.size, 0, none⟩) 1 1 [.string x] rfl rfl HNw.out (by simp [Value.oneCell']) (by unfold maxLen; omega) (by omega) hb2 ?_))
          intro v' w' h1 h2
          obtain ⟨h3, h4⟩ := HFin.out v' w' h1 h2
          have H3 := Lib.hid h3
          clear h1 h2 h3 HFin HNw HOw
          go_wp2_with fail
          go_roundw
          case rel => exact ⟨k + 1, U ++ [x], _, by omega, by rw [Int.natCast_add]; rfl, rfl, by rw [List.length_append, List.length_singleton]; omega, H3.out, h4⟩
          case measure => simp [intOf]; omega
        · have HE : Hid (SrtEnd W0 v wr) := SrtRel.last (i := .int .i64 k) ⟨k, U, v, hk5, rfl, rfl, hU, own, bel⟩
          clear own
          by_cases h1 : k < N.length
          · have hj : (k : Int) < N.length := by omega
            by_cases h2 : k < 5
            · have hj2 : (k : Int) < 5 := by omega
              have hj3 : ¬ (0 : Int) < I.length := by omega
              go_wp2_with fail
              go_meet
              exact HE.out
            · have hj2 : ¬ (k : Int) < 5 := by omega
              go_wp2_with fail
              go_meet
              exact HE.out
          · have hj : ¬ (k : Int) < N.length := by omega
            go_wp2_with fail
            go_meet
            exact HE.out
    case rest =>
      obtain ⟨U, UA, uc, rfl, hU, hUT, b1⟩ := hcut
      clear h0
      obtain ⟨V, rfl⟩ : ∃ V, V = wc := ⟨_, rfl⟩
      have A1 := A0.below b1 A0.lt
      have F1 := F0.up b1
      have B1 := B0.trans (b1.mono B0.size)
      clear A0 F0 B0 b1 hIT
      obtain ⟨hSz, hl4⟩ := good_sized HG.out
      have hT1 := ht.below B1 ht.1
      have CSt := fun V h => Lib.hid (stores_keep V h)
      have HRx : Hid (∀ x, reachO (getO ⟨M, x⟩) U = reachO (getO ⟨M, y⟩) U) := fun x => rfl
      have C1 := Lib.hid (Closure_st M A c y U UA uc V F1 hSz (by omega) hT1 hUT (by omega))
      have HKl : Hid ((reachO (getO ⟨M, y⟩) U).2 = 0 → (reachO (getO ⟨M, y⟩) U).1.length ≤ 400) := fun h => (reachO_rsn h).2
      have HSw0 : Hid ((reachO (getO ⟨M, y⟩) U).2 ≠ 0 → sweepD ⟨M, y⟩ U = (⟨M, y⟩, (reachO (getO ⟨M, y⟩) U).2)) := fun h => by show _ = _; unfold sweepD; rw [if_pos h]
      have HSw1 : Hid ((reachO (getO ⟨M, y⟩) U).2 = 0 → ∀ x, sweepD ⟨M, x⟩ U = sweepGo (reachO (getO ⟨M, y⟩) U).1 M ⟨M, x⟩) := fun h x => by
        show _ = _
        unfold sweepD
        rw [HRx.out x, if_neg (fun q => q h)]
      have HSpt : Hid ((reachO (getO ⟨M, y⟩) U).2 = 0 → ∀ x, _) := fun h x => swept (M := M) (x := x) (U := U) HG.out (by rw [HRx.out x]; exact h)
      simp only [HRx.out _] at HSpt
      generalize reachO (getO ⟨M, y⟩) U = R at *
      obtain ⟨K, e⟩ := R
      simp only at HKl HSw0 HSw1 HSpt
      have c0 : V.cell? ⟨w.heap.size, 0, none⟩ = some (.slice A M.length c) := A1.cell 0
      have c1 : V.cell? ⟨w.heap.size, 1, none⟩ = some (.int .i64 y) := A1.cell 1
      go_wp2_with fail
      (with_reducible refine C1.out.mono ?_)
      clear C1 c0 c1 HRx
      rintro _ V2 ⟨KA, kc, rfl, hKT, b2⟩
      simp only at hKT ⊢
      replace A1 := A1.below b2 A1.lt
      replace F1 := F1.up b2
      replace B1 := B1.trans (b2.mono B1.size)
      replace hUT := txs_up hUT b2
      clear b2 hT1
      have hT1 := ht.below B1 ht.1
      by_cases he : ¬ e = 0
      · have heb : (e != 0) = true := by rw [bne_iff_ne]; exact he
        have C1 : Hid (Calls Tryz.prog 15 #[.agg #[.slice A M.length c, .int .i64 y], .slice UA U.length uc] V2 (StEnd V2 (⟨M, y⟩, e))) := by
          have := Sweep_st M A c y U UA uc V2 F1 hSz (by omega) hc (by omega) hT1 hUT (by omega)
          rw [HSw0.out he] at this
          exact this
        have c0 : V2.cell? ⟨w.heap.size, 0, none⟩ = some (.slice A M.length c) := A1.cell 0
        have c1 : V2.cell? ⟨w.heap.size, 1, none⟩ = some (.int .i64 y) := A1.cell 1
        clear HSw0 HSw1 HSpt HKl he
        go_wp2_with fail
        (with_reducible refine C1.out.mono ?_)
        clear C1 c0 c1
        rintro _ V3 ⟨A', c', rfl, F3, _, b2⟩
        simp only at F3 ⊢
        replace A1 := A1.below b2 A1.lt
        replace F1 := F1.up b2
        replace B1 := B1.trans (b2.mono B1.size)
        clear b2 hT1
        have bb : Below V3.heap.size V3 ((V3.alloc (.cells dkZero 37)).setRow V3.heap.size (dkArr M A' c' y)) := below_setRow ((Below.refl _ _).alloc (Nat.le_refl _) _) (Nat.le_refl _) _
        have AY : Arr ((V3.alloc (.cells dkZero 37)).setRow V3.heap.size (dkArr M A' c' y)) V3.heap.size 37 (dkArr M A' c' y) := (Arr.new _ _ _).row _
        have HS3 : Hid (S3 w M M A A' c c' y y [] none V3.heap.size ((V3.alloc (.cells dkZero 37)).setRow V3.heap.size (dkArr M A' c' y))) := ⟨A1.below bb A1.lt, AY, F1.up bb, F3.up bb, (fun k x h => by simp at h), B1.trans (bb.mono B1.size)⟩
        go_upto_region 16 with (refine wpList_store_row rfl 37 _ _ rfl V3.heap.size (dkArr M A' c' y) rfl rfl 37 dkZero (Arr.new V3 _ _) (dkInfo _ _ _ _) rfl (dkArr_one _ _ _ _) ?_)
        refine wp_forget (S3 w M M A A' c c' y y [] none V3.heap.size) (by exact HS3.out) ?_
        clear HS3 AY bb A1 F1 F3 B1 hUT hKT
        generalize V3.heap.size = q
        intro W Z
        have g0 : W.cell? ⟨w.heap.size, 0, none⟩ = some (.slice A M.length c) := Z.1.cell 0
        have g1 : W.cell? ⟨w.heap.size, 1, none⟩ = some (.int .i64 y) := Z.1.cell 1
        have g2 : W.cell? ⟨q, 0, none⟩ = some (.slice A' M.length c') := Z.2.1.cell 0
        have g3 : W.cell? ⟨q, 1, none⟩ = some (.int .i64 y) := Z.2.1.cell 1
        have hee : (e == e) = true := by simp
        have C1 : Hid (Calls Tryz.prog 29 #[.agg #[.slice A' M.length c', .int .i64 y], .agg #[.slice A M.length c, .int .i64 y]] W fun x w' => x = .returned (.bool true) ∧ Below W.heap.size W w') := by
          have := sameDisk_any M M A' A c' c y y W Z.2.2.2.1 Z.2.2.1 (by omega) (by omega)
          rw [decide_eq_true rfl] at this
          exact this
        go_wp2_with fail
        (with_reducible refine C1.out.mono ?_)
        clear C1 g0 g1 g2 g3
        rintro _ W2 ⟨rfl, b2⟩
        replace Z := Z.below b2
        clear b2
        have hTW := ht.below Z.2.2.2.2.2 ht.1
        go_wp2_with fail
        (with_reducible refine (CSt W2 hTW).out.mono ?_)
        rintro _ W3 ⟨rfl, b2⟩
        go_wp2_with fail
        go_ret
        exact ⟨rfl, Z.2.2.2.2.2.trans (b2.mono Z.2.2.2.2.2.size)⟩
      replace he : e = 0 := Decidable.byContradiction he
      subst he
      have heb : ((0 : Int) != 0) = false := rfl
      clear HSw0
      have hKl := HKl.out rfl
      obtain ⟨kq0, kq1⟩ := pk_in fu 30 (by omega)
      have CQ : Hid (∀ V, Calls Tryz.prog 28 #[.int .i64 fu, .int .i64 30] V fun e w' => e = .returned (.int .i64 (pk fu 30)) ∧ V = w') := fun V => pick_any fu 30 (by omega) (by omega) V
      generalize pk fu 30 = pz at *
      have hpy : wrap64 (pz - 1) = pz - 1 := IntWalk.wrap64_in _ (by omega)
      have HPy := Lib.hid hpy
      clear hpy HKl
      go_wp2_with fail
      (with_reducible refine (CSt V2 hT1).out.mono ?_)
      rintro _ V3 ⟨rfl, b2⟩
      replace A1 := A1.below b2 A1.lt
      replace F1 := F1.up b2
      replace B1 := B1.trans (b2.mono B1.size)
      replace hUT := txs_up hUT b2
      replace hKT := txs_up hKT b2
      clear b2 hT1
      have d1 : V3.cell? ⟨w.heap.size, 1, none⟩ = some (.int .i64 y) := A1.cell 1
      have f1 := A1.free 1
      go_wp2_with fail
      (with_reducible refine (CQ.out V3).mono ?_)
      clear CQ
      rintro _ V4 ⟨rfl, rfl⟩
      have hpy := HPy.out
      clear HPy
      have A2 : Arr (V3.setCell ⟨w.heap.size, 1, none⟩ (.int .i64 (pz - 1))) w.heap.size 37 (dkArr M A c (pz - 1)) := A1.put 1 (.int .i64 (pz - 1))
      have F2 : Fls (V3.setCell ⟨w.heap.size, 1, none⟩ (.int .i64 (pz - 1))) (V3.setCell ⟨w.heap.size, 1, none⟩ (.int .i64 (pz - 1))).heap.size A M := fls_set F1 A1 (dkArr_no _ _ _ _)
      have U2 : Txs (V3.setCell ⟨w.heap.size, 1, none⟩ (.int .i64 (pz - 1))) (V3.setCell ⟨w.heap.size, 1, none⟩ (.int .i64 (pz - 1))).heap.size UA U := txs_set hUT A1 (dkArr_no _ _ _ _)
      have K2 : Txs (V3.setCell ⟨w.heap.size, 1, none⟩ (.int .i64 (pz - 1))) (V3.setCell ⟨w.heap.size, 1, none⟩ (.int .i64 (pz - 1))).heap.size KA K := txs_set hKT A1 (dkArr_no _ _ _ _)
      have B2 := below_gb B1 (show V3.grownBy (V3.setCell ⟨w.heap.size, 1, none⟩ (.int .i64 (pz - 1))) (some w.heap.size) from gb_set _ _ _) (Nat.le_refl _) B1.size
      go_upto_region 18 with fail
      refine wp_forget (fun V => Arr V w.heap.size 37 (dkArr M A c (pz - 1)) ∧ Fls V V.heap.size A M ∧ Txs V V.heap.size UA U ∧ Txs V V.heap.size KA K ∧ Below w.heap.size w V) (by exact ⟨A2, F2, U2, K2, B2⟩) ?_
      clear A1 F1 hUT hKT B1 A2 F2 U2 K2 B2 d1 f1 hpy
      have hx30 : pz - 1 ≤ 100 := by omega
      generalize pz - 1 = x at *
      clear kq0 kq1
      rintro V ⟨A1, F1, hUT, hKT, B1⟩
      have hT1 := ht.below B1 ht.1
      have C1 : Hid (Calls Tryz.prog 15 #[.agg #[.slice A M.length c, .int .i64 x], .slice UA U.length uc] V (StEnd V (sweepGo K M ⟨M, x⟩))) := by
        have := Sweep_st M A c x U UA uc V F1 hSz (by omega) hc (by omega) hT1 hUT (by omega)
        rw [HSw1.out (by first | rfl | trivial) x] at this
        exact this
      obtain ⟨q1, q2, q3, q4⟩ := HSpt.out (by first | rfl | trivial) x
      have HQ1 := Lib.hid q1
      have HQ2 := Lib.hid q2
      have HQ3 := Lib.hid q3
      have HQ4 := Lib.hid q4
      have HGS := Lib.hid (sweep_good (keep := K) M ⟨M, x⟩ HG.out)
      clear q1 q2 q3 q4 HSpt HSw1
      generalize sweepGo K M ⟨M, x⟩ = S at *
      obtain ⟨⟨M', x'⟩, f⟩ := S
      have c0 : V.cell? ⟨w.heap.size, 0, none⟩ = some (.slice A M.length c) := A1.cell 0
      have c1 : V.cell? ⟨w.heap.size, 1, none⟩ = some (.int .i64 x) := A1.cell 1
      go_wp2_with fail
      (with_reducible refine C1.out.mono ?_)
      clear C1 c0 c1
      rintro _ V3 ⟨A', c', rfl, F3, _, b2⟩
      simp only at F3 ⊢
      replace A1 := A1.below b2 A1.lt
      replace F1 := F1.up b2
      replace B1 := B1.trans (b2.mono B1.size)
      replace hKT := txs_up hKT b2
      clear b2 hT1 hUT
      have bb : Below V3.heap.size V3 ((V3.alloc (.cells dkZero 37)).setRow V3.heap.size (dkArr M' A' c' x')) := below_setRow ((Below.refl _ _).alloc (Nat.le_refl _) _) (Nat.le_refl _) _
      have AY : Arr ((V3.alloc (.cells dkZero 37)).setRow V3.heap.size (dkArr M' A' c' x')) V3.heap.size 37 (dkArr M' A' c' x') := (Arr.new _ _ _).row _
      have HS3 : Hid (S3 w M M' A A' c c' x x' K KA V3.heap.size ((V3.alloc (.cells dkZero 37)).setRow V3.heap.size (dkArr M' A' c' x'))) := ⟨A1.below bb A1.lt, AY, F1.up bb, F3.up bb, txs_up hKT bb, B1.trans (bb.mono B1.size)⟩
      go_upto_region 19 with (refine wpList_store_row rfl 37 _ _ rfl V3.heap.size (dkArr M' A' c' x') rfl rfl 37 dkZero (Arr.new V3 _ _) (dkInfo _ _ _ _) rfl (dkArr_one _ _ _ _) ?_)
      refine wp_forget (S3 w M M' A A' c c' x x' K KA V3.heap.size) (by exact HS3.out) ?_
      clear HS3 AY bb A1 F1 F3 B1 hKT
      generalize V3.heap.size = q
      intro W Z
      have h0 : Hid (S3Rel w M M' A A' c c' x x' K KA q (.int .i64 0) W) := ⟨0, Nat.zero_le _, rfl, Z⟩
      clear Z
      obtain ⟨hSz', hl4'⟩ := good_sized HGS.out
      replace hSz' : Sized M' := hSz'
      replace hl4' : M'.length ≤ 400 := hl4'
      go_wp2_with fail
      go_loopw [21] (fun i wr => S3Rel w M M' A A' c c' x x' K KA q i wr) (fun i _ => K.length - (intOf i).toNat)
      case atStart => exact h0.out
      case round =>
        clear h0
        obtain ⟨k, hk, rfl, Z⟩ := hrel
        by_cases hlt : k < K.length
        · have hj : (k : Int) < K.length := by omega
          have hx := List.getElem?_eq_getElem hlt
          obtain ⟨ka, rfl, _, _⟩ := Z.2.2.2.2.1 k _ hx
          have HX := Lib.hid hx
          have hq := HQ1.out _ (List.getElem_mem hlt)
          clear hx
          generalize K[k] = id at *
          have hq1 : (getO ⟨M, x⟩ id).2 = 0 := hq.1
          have hq2 : getO ⟨M', x'⟩ id = getO ⟨M, x⟩ id := hq.2
          have CA := fun V h t => Lib.hid (Get_st M id A c x V h hSz (by omega) t)
          have CB := fun V h t => Lib.hid (Get_st M' id A' c' x' V h hSz' (by omega) t)
          rw [hq2] at CB
          generalize getO ⟨M, x⟩ id = G at *
          obtain ⟨gs, ge⟩ := G
          obtain rfl : ge = 0 := hq1
          clear hq hq2
          replace CA : ∀ V, Fls V V.heap.size A M → Tab V → Hid (Calls Tryz.prog 24 #[.agg #[.slice A M.length c, .int .i64 x], .string id] V fun e w' => e = .returned (.tuple #[.string gs, .int .i64 0]) ∧ Below V.heap.size V w') := CA
          replace CB : ∀ V, Fls V V.heap.size A' M' → Tab V → Hid (Calls Tryz.prog 24 #[.agg #[.slice A' M'.length c', .int .i64 x'], .string id] V fun e w' => e = .returned (.tuple #[.string gs, .int .i64 0]) ∧ Below V.heap.size V w') := CB
          have Z1 : S3 w M M' A A' c c' x x' K (some ka) q wr.drew := Z.below (below_drewN (Below.refl _ _) 1)
          have hT1 := ht.below Z1.2.2.2.2.2 ht.1
          have hss : (gs.toList == gs.toList) = true := by simp
          have zf := Z1.2.2.1
          go_wp2_with fail
          go_region_held3 (fun w' => w'.cell? ⟨w.heap.size, 0, none⟩ = some (.slice A M.length c) ∧ w'.cell? ⟨w.heap.size, 1, none⟩ = some (.int .i64 x) ∧ w'.cell? (ka.add k) = some (.string id))
            (first | exact Z1.holdA HX.out | exact Z2.holdA HX.out)
            (first
              | (go_at_call 24
                 (with_reducible refine (CA _ zf hT1).out.mono ?_)
                 rintro _ w1 ⟨rfl, b1⟩
                 have Z2 := Z1.below b1))
          clear zf hT1 CA
          have Z3 : S3 w M M' A A' c c' x x' K (some ka) q w1.drew := Z2.below (below_drewN (Below.refl _ _) 1)
          have zf := Z3.2.2.2.1
          have hT1 := ht.below Z3.2.2.2.2.2 ht.1
          clear Z1 Z2 b1
          go_wp2_with fail
          go_region_held3 (fun w' => w'.cell? ⟨q, 0, none⟩ = some (.slice A' M'.length c') ∧ w'.cell? ⟨q, 1, none⟩ = some (.int .i64 x') ∧ w'.cell? (ka.add k) = some (.string id))
            (first | exact Z3.holdB HX.out | exact Z4.holdB HX.out)
            (first
              | (go_at_call 24
                 (with_reducible refine (CB _ zf hT1).out.mono ?_)
                 rintro _ w2 ⟨rfl, b2⟩
                 have Z4 := Z3.below b2))
          clear zf hT1 CB Z3 b2
          go_wp2_with fail
          go_roundw
          case rel => exact ⟨k + 1, hlt, by rw [Int.natCast_add]; rfl, Z4⟩
          case measure => simp [intOf]; omega
        · obtain rfl : k = K.length := by omega
          have hj : ¬ (K.length : Int) < K.length := by omega
          have hT1 := ht.below Z.2.2.2.2.2 ht.1
          have C1 : Hid (Calls Tryz.prog 30 #[.agg #[.slice A' M'.length c', .int .i64 x']] wr (LEndA wr (idsD ⟨M', x'⟩ M'))) := Ids_st M' A' c' x' wr Z.2.2.2.1 hSz' (by omega) hT1
          have g0 : wr.cell? ⟨q, 0, none⟩ = some (.slice A' M'.length c') := Z.2.1.cell 0
          have g1 : wr.cell? ⟨q, 1, none⟩ = some (.int .i64 x') := Z.2.1.cell 1
          have hIl : Hid ((idsD ⟨M', x'⟩ M').length ≤ 400) := by show _ ≤ _; have := idsD_len ⟨M', x'⟩ M'; omega
          replace HQ2 : Hid (f = 0 → idsD ⟨M', x'⟩ M' = K) := HQ2
          replace HQ3 : Hid (f ≠ 0 → f = 12) := HQ3
          replace HQ4 : Hid (K.length ≤ (idsD ⟨M', x'⟩ M').length) := HQ4
          generalize idsD ⟨M', x'⟩ M' = D at *
          go_wp2_with fail
          (with_reducible refine C1.out.mono ?_)
          clear C1 g0 g1
          rintro _ W3 ⟨DA, dc, rfl, hD, b3, _⟩
          replace Z := Z.below b3
          clear b3 hT1
          by_cases hf : f = 0
          · subst hf
            have e9 : D = K := HQ2.out rfl
            have C1 : Hid (Calls Tryz.prog 31 #[.slice DA D.length dc, .slice KA K.length kc] W3 fun e w' => e = .returned (.bool true) ∧ Below W3.heap.size W3 w') := by
              have := keepStrings_any D K (by have := hIl.out; omega) (by omega) DA KA dc kc W3 hD Z.2.2.2.2.1
              rw [decide_eq_true e9] at this
              exact this
            clear e9 HQ2
            generalize D.length = dl at *
            go_wp2_with fail
            (with_reducible refine C1.out.mono ?_)
            rintro _ W4 ⟨rfl, b3⟩
            go_wp2_with fail
            go_ret
            exact ⟨rfl, Z.2.2.2.2.2.trans (b3.mono Z.2.2.2.2.2.size)⟩
          · have h12 := HQ3.out hf
            subst h12
            have hle : (K.length : Int) ≤ D.length := by have := HQ4.out; omega
            clear HQ2 HQ3 HQ4
            go_wp2_with fail
            go_ret
            exact ⟨rfl, Z.2.2.2.2.2⟩
end Go.Proofs.YtkcnogmjnmnbdaaGreatDoor

/- keep.within: its contract. -/
namespace Go.Proofs.YtkcnogmjnmnbdaaGreatDoor
open Go.RowKit

theorem memB_take {x y : ByteArray} {T : List ByteArray} {k : Nat} (h : T[k]? = some y) : memB x (T.take (k + 1)) = (memB x (T.take k) || decide (y = x)) := by
  unfold memB
  rw [take_next2 h, List.any_append]
  simp
def WiRel (T : List ByteArray) (s : ByteArray) (w : World) (i : Value) (wr : World) : Prop := ∃ k : Nat, k ≤ T.length ∧ i = .int .i64 (k : Int) ∧ memB s (T.take k) = false ∧ wr = w
set_option maxRecDepth 100000 in
theorem within_any (T : List ByteArray) (s : ByteArray) (A : Option Addr) (c : Nat) (w : World) (hT : Txs w w.heap.size A T) (hl : T.length ≤ 281474976710656) :
    Calls Tryz.prog 27 #[.slice A T.length c, .string s] w fun e w' => e = .returned (.bool (memB s T)) ∧ w = w' := by
  go_enter Tryz.func27, Tryz.ntmps27
  go_wp2_with fail
  go_loopw [5] (fun i wr => WiRel T s w i wr) (fun i _ => T.length - (intOf i).toNat)
  case atStart => exact ⟨0, Nat.zero_le _, rfl, rfl, rfl⟩
  case round =>
    obtain ⟨k, hk, rfl, hm, rfl⟩ := hrel
    by_cases hlt : k < T.length
    · have hi : (k : Int) < T.length := by omega
      have hx : T[k]? = some T[k] := List.getElem?_eq_getElem hlt
      obtain ⟨ad, rfl, hbl, c0⟩ := hT k T[k] hx
      have hm2 := memB_take (x := s) hx
      rw [hm, Bool.false_or] at hm2
      generalize T[k] = y at *
      by_cases hy : y = s
      · have hb : (y.toList == s.toList) = true := by rw [hy]; exact beq_self_eq_true _
        have hF : Hid (memB s T = true) := by
          show _ = _
          rw [memB_iff, ← hy]
          exact List.mem_of_getElem? hx
        clear hm2 hm hx hy
        go_wp2_with fail
        go_ret
        exact ⟨by rw [hF.out]; rfl, rfl⟩
      · have hb : (y.toList == s.toList) = false := by
          rw [beq_eq_false_iff_ne]
          intro q
          rw [toList_data, toList_data] at q
          exact hy (bytes_eq q)
        rw [decide_eq_false hy] at hm2
        have HM := Lib.hid hm2
        clear hm2 hm hx hy
        go_wp2_with fail
        go_roundw
        case rel => exact ⟨k + 1, hlt, by rw [Int.natCast_add]; rfl, HM.out, rfl⟩
        case measure => simp [intOf]; omega
    · obtain rfl : k = T.length := by omega
      have hi : ¬ (T.length : Int) < T.length := by omega
      rw [List.take_length] at hm
      have HM := Lib.hid hm
      clear hm
      go_wp2_with fail
      go_ret
      exact ⟨by rw [HM.out]; rfl, rfl⟩
end Go.Proofs.YtkcnogmjnmnbdaaGreatDoor
