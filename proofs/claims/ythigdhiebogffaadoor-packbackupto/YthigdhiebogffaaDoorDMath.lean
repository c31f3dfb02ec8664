/- Texts in one: PObj, PNext, PLikest, DMath. -/
import Derived.Test.YthigdhiebogffaaDoorDPiece
import Derived.Test.YthigdhiebogffaaDoorDLaw
import Derived.Test.YthigdhiebogffaaDoorORefCur
import Derived.Test.YthigdhiebogffaaDoorOEncB
import Derived.Test.YthigdhiebogffaaDoorDSpec
/- (*unpacking).readObject: its contract. -/
namespace Go.Proofs.YthigdhiebogffaaDoor
open Go.RowKit

def REnd (W : World) (g : Nat) (r : Except Int (ByteArray × Nat × List UInt8)) (x : Ending) (w' : World) : Prop :=
  (match r with
  | .error e => (e != 0) = true ∧ ∃ (s : ByteArray) (n : Int), x = .returned (.tuple #[.string s, .int .i64 n, .int .i64 e])
  | .ok (s, n, l) => x = .returned (.tuple #[.string s, .int .i64 (n : Int), .int .i64 0]) ∧ RL w' g (some l)) ∧ W.grownBy w' (some g)
theorem lastId_mem {id x : ByteArray} : ∀ {O : List ByteArray}, lastId id O = some x → x ∈ O
  | [], h => by cases h
  | y :: O, h => by
    unfold lastId at h
    cases hl : lastId id O with
    | some z =>
      rw [hl] at h
      cases h
      exact List.mem_cons_of_mem _ (lastId_mem hl)
    | none =>
      rw [hl] at h
      simp only at h
      split at h
      · cases h; exact List.mem_cons_self
      · cases h
theorem baseP_ok {O T : List ByteArray} {D : List Nat} {p : Rp} {b : ByteArray} {n : Nat} (h : baseP O T D p = .ok (b, n)) : (b ∈ T ∨ b ∈ O) ∧ (n ∈ D ∨ n = 0) := by
  unfold baseP at h
  split at h
  · cases hx : T[p.index]? with
    | none => simp [hx] at h
    | some y =>
      simp only [hx, Except.ok.injEq, Prod.mk.injEq] at h
      obtain ⟨rfl, rfl⟩ := h
      refine ⟨.inl (List.mem_of_getElem? hx), ?_⟩
      rw [List.getD_eq_getElem?_getD]
      cases hd : D[p.index]? with
      | none => exact .inr rfl
      | some m => exact .inl (List.mem_of_getElem? hd)
  · cases hx : lastId p.id O with
    | none => simp [hx] at h
    | some y =>
      simp only [hx, Except.ok.injEq, Prod.mk.injEq] at h
      obtain ⟨rfl, rfl⟩ := h
      exact ⟨.inr (lastId_mem hx), .inr rfl⟩
theorem baseP_err {O T : List ByteArray} {D : List Nat} {p : Rp} {e : Int} (h : baseP O T D p = .error e) : (e != 0) = true := by
  unfold baseP at h
  split at h
  · cases hx : T[p.index]? with
    | none => simp only [hx, Except.error.injEq] at h; subst h; rfl
    | some y => simp [hx] at h
  · cases hx : lastId p.id O with
    | none => simp only [hx, Except.error.injEq] at h; subst h; rfl
    | some y => simp [hx] at h
theorem rdStart_way {l r : List UInt8} {p : Rp} (h : rdStart l = some (p, r)) : p.way = 0 ∨ p.way = 1 ∨ p.way = 2 := by
  have e := stStart_some h
  unfold stStart at e
  split at e
  · have := congrArg (fun q => q.1.way) e; exact .inl this.symm
  split at e
  · have := congrArg (fun q => q.1.way) e; exact .inr (.inl this.symm)
  split at e
  · have := congrArg (fun q => q.1.way) e; exact .inr (.inr this.symm)
  · have := congrArg (fun q => q.2) e; cases this
theorem rl_box {W : World} {g : Nat} {st : St} (h : RL W g st) {cs cs' : Array Value} {t : TypeId} : RL ((W.alloc (.cells cs t)).setRow W.heap.size cs') g st := by
  have a1 : W.grownBy (W.alloc (.cells cs t)) none := gb_alloc _
  have a2 : (W.alloc (.cells cs t)).grownBy ((W.alloc (.cells cs t)).setRow W.heap.size cs') (some W.heap.size) := gb_row _ _
  have := h.lt
  exact (h.kept a1 (by simp)).kept a2 (fun e => by have := Option.some.inj e; omega)
theorem gb_box {W : World} {r : Option Nat} {cs cs' : Array Value} {t : TypeId} : W.grownBy ((W.alloc (.cells cs t)).setRow W.heap.size cs') r :=
  gb_new (gb_alloc _) (gb_row W.heap.size cs') (Nat.le_refl _)

set_option maxRecDepth 100000 in
set_option maxHeartbeats 1000000 in
theorem readObject_any {b0 base g gu gm gi : Nat} {oA : Option Addr} {oc : Nat} {O T : List ByteArray} {D : List Nat} {v d : Value} {W : World} (h : Un b0 base g gu gm gi oA oc O T D v d W) (l : List UInt8) (hr : RL W g (some l))
    (hl : T.length ≤ 1000000) (hol : O.length ≤ 140737488355328) (hT : ∀ x ∈ T, x.size ≤ 140737488355328) (hO : ∀ x ∈ O, x.size ≤ 140737488355328) (hD : ∀ n ∈ D, n ≤ 8) :
    Calls Tryd.prog 48 #[.pointer (some ⟨gu, 0, none⟩), .pointer (some ⟨g, 0, none⟩)] W (REnd W g (objP O.reverse T D l)) := by
  obtain ⟨R, hR⟩ : ∃ R, R = objP O.reverse T D l := ⟨_, rfl⟩
  rw [← hR]
  unfold objP at hR
  have q := Lib.hid (readStart_any g (some l) W hr)
  cases h1 : rdStart l with
  | none =>
    have hn := stStart_none h1
    rw [h1] at hR
    generalize (stStart (some l)).1 = p at *
    rw [hn] at q
    have HR := Lib.hid hR
    clear hR h1 hn
    go_enter Tryd.func48, Tryd.ntmps48
    go_wp2_with fail
    (with_reducible refine q.out.mono ?_)
    clear q
    rintro _ W1 ⟨rfl, _, k1⟩
    have k2 := gb_trans k1 (gb_box (W := W1) (cs := zeroR) (cs' := rpArr p) (t := 111))
    go_upto_region 2 with (refine wpList_store_row rfl 111 _ _ rfl W1.heap.size (rpArr p) rfl rfl 111 zeroR (Arr.new W1 _ _) (rpInfo _) rfl (rpArr_one _) ?_)
    refine wp_forget (fun V => W.grownBy V (some g)) (by exact k2) ?_
    clear k1 k2
    intro V k
    have e2 : stE none = 2 := rfl
    rw [e2]
    go_wp2_with fail
    go_ret3
    rw [HR.out]
    exact ⟨⟨rfl, _, _, rfl⟩, k⟩
  | some y =>
    obtain ⟨p, l1⟩ := y
    have hs := stStart_some h1
    have hway := rdStart_way h1
    rw [hs] at q
    rw [h1] at hR
    simp only at hR q
    have HR := Lib.hid hR
    have Q := Lib.hid q
    clear q hR h1 hs
    go_enter Tryd.func48, Tryd.ntmps48
    go_wp2_with fail
    (with_reducible refine Q.out.out.mono ?_)
    clear Q
    rintro _ W1 ⟨rfl, hr1, k1⟩
    replace hr1 := hr1 l1 rfl
    have U1 := (h.gb k1).gb (gb_box (W := W1) (cs := zeroR) (cs' := rpArr p) (t := 111))
    have hr2 := rl_box hr1 (cs := zeroR) (cs' := rpArr p) (t := 111)
    have k2 := gb_trans k1 (gb_box (W := W1) (cs := zeroR) (cs' := rpArr p) (t := 111))
    have A1 : Arr ((W1.alloc (.cells zeroR 111)).setRow W1.heap.size (rpArr p)) W1.heap.size 111 (rpArr p) := (Arr.new _ _ _).row _
    go_upto_region 2 with (refine wpList_store_row rfl 111 _ _ rfl W1.heap.size (rpArr p) rfl rfl 111 zeroR (Arr.new W1 _ _) (rpInfo _) rfl (rpArr_one _) ?_)
    refine wp_forget (fun V => Arr V W1.heap.size 111 (rpArr p) ∧ Un b0 base g gu gm gi oA oc O T D v d V ∧ RL V g (some l1) ∧ W.grownBy V (some g)) (by exact ⟨A1, U1, hr2, k2⟩) ?_
    clear A1 U1 hr2 k2 k1 hr1 hr h
    generalize W1.heap.size = k
    clear W1
    rintro V ⟨A1, U, hr, kV⟩
    have e0 : stE (some l1) = 0 := rfl
    rw [e0]
    clear e0
    have c0 : V.cell? ⟨k, 0, none⟩ = some (.int .i64 p.way) := A1.cell 0
    have c3 : V.cell? ⟨k, 3, none⟩ = some (.string p.bytes) := A1.cell 3
    by_cases hw : p.way = 0
    · have hR := HR.out
      rw [if_pos hw] at hR
      clear HR
      have HR := Lib.hid hR
      rw [hw] at c0
      clear hR
      go_wp2_with fail
      go_ret3
      rw [HR.out]
      exact ⟨⟨rfl, hr⟩, kV⟩
    have hR := HR.out
    rw [if_neg hw] at hR
    clear HR
    have hw' : ((p.way : Int) == 0) = false := by rw [beq_eq_false_iff_ne]; omega
    have CB := Lib.hid (baseOf_any U p (by omega) hl hol)
    unfold rpArr at CB
    have HE := Lib.hid (fun e => baseP_err (O := O.reverse) (T := T) (D := D) (p := p) (e := e))
    have HO := Lib.hid (fun b n => baseP_ok (O := O.reverse) (T := T) (D := D) (p := p) (b := b) (n := n))
    have CA : V.cell? ⟨k, 1, none⟩ = some (.int .i64 p.index) ∧ V.cell? ⟨k, 2, none⟩ = some (.string p.id) := ⟨A1.cell 1, A1.cell 2⟩
    obtain ⟨c1, c2⟩ := CA
    generalize baseP O.reverse T D p = B at *
    clear A1 hway
    cases B with
    | error e =>
      simp only at hR
      have he := HE.out e rfl
      have HR := Lib.hid hR
      clear hR HE HO U
      go_wp2_with fail
      (with_reducible refine CB.out.mono ?_)
      clear CB
      rintro _ V2 ⟨rfl, b2⟩
      clear c0 c1 c2 c3 hw hw'
      go_wp2_with fail
      go_ret3
      rw [HR.out]
      exact ⟨⟨he, _, _, rfl⟩, gb_trans kV (gb_below b2)⟩
    | ok z =>
      obtain ⟨b, n⟩ := z
      simp only at hR
      obtain ⟨hb, hn⟩ := HO.out b n rfl
      rw [List.mem_reverse] at hb
      have hbz : b.size ≤ 140737488355328 := hb.elim (hT b) (hO b)
      have hn8 : n ≤ 8 := hn.elim (hD n) (fun e => by omega)
      have HR := Lib.hid hR
      clear hR HE HO hb hn
      go_wp2_with fail
      (with_reducible refine CB.out.mono ?_)
      clear CB
      rintro _ V2 ⟨rfl, b2⟩
      have hr2 := hr.kept (gb_below (r := none) b2) (by simp)
      have kV2 := gb_trans kV (gb_below b2)
      clear c0 c1 c2 c3 hw hw' U hr kV b2
      have q := Lib.hid (rl_txt g l1 V2 hr2)
      cases ht : rdText l1 with
      | none =>
        have hR := HR.out
        rw [ht] at hR
        simp only at hR
        clear HR
        have HR := Lib.hid hR
        rw [show stTxt (some l1) = (⟨#[]⟩, none) from by simp [stTxt, ht]] at q
        clear hR ht
        go_wp2_with fail
        (with_reducible refine q.out.mono ?_)
        clear q
        rintro _ V3 ⟨rfl, ⟨s3, e3, he3, r3⟩, k3⟩
        go_wp2_with fail
        (with_reducible refine (Bad_any g s3 e3 V3 r3).mono ?_)
        rintro _ _ ⟨rfl, rfl⟩
        go_wp2_with fail
        go_ret3
        rw [HR.out]
        exact ⟨⟨rfl, _, _, rfl⟩, gb_trans kV2 k3⟩
      | some u =>
        obtain ⟨dl, l2⟩ := u
        have hds := rdText_small ht
        have hR := HR.out
        rw [ht] at hR
        simp only at hR
        clear HR
        have HR := Lib.hid hR
        rw [show stTxt (some l1) = (dl, some l2) from by simp [stTxt, ht]] at q
        clear hR ht
        go_wp2_with fail
        (with_reducible refine q.out.mono ?_)
        clear q
        rintro _ V3 ⟨rfl, r3, k3⟩
        simp only at r3
        go_wp2_with fail
        (with_reducible refine (rl_bad g (some l2) V3 r3).mono ?_)
        rintro _ _ ⟨rfl, rfl⟩
        have e0 : stE (some l2) = 0 := rfl
        rw [e0]
        clear e0
        have kV3 := gb_trans kV2 k3
        clear kV2 k3 hr2
        by_cases h8 : 8 ≤ n
        · have hR := HR.out
          rw [if_pos h8] at hR
          clear HR
          have HR := Lib.hid hR
          have hi : (8 : Int) ≤ n := by omega
          clear hR
          go_wp2_with fail
          go_ret3
          rw [HR.out]
          exact ⟨⟨rfl, _, _, rfl⟩, kV3⟩
        have hR := HR.out
        rw [if_neg h8] at hR
        clear HR
        have hi : ¬ (8 : Int) ≤ n := by omega
        have CA := Lib.hid (Apply_any b dl (by omega) (by omega) V3)
        generalize (applyD b.data.toList dl.data.toList).1 = S at *
        generalize (applyD b.data.toList dl.data.toList).2 = E at *
        have HR := Lib.hid hR
        clear hR
        go_wp2_with fail
        (with_reducible refine CA.out.mono ?_)
        clear CA
        rintro _ V4 ⟨rfl, b4⟩
        go_wp2_with fail
        go_ret3
        have hR := HR.out
        have kV4 := gb_trans kV3 (gb_below b4)
        by_cases hE : E ≠ 0
        · rw [if_pos hE] at hR
          rw [hR]
          exact ⟨⟨by simpa using hE, _, _, rfl⟩, kV4⟩
        · rw [if_neg hE] at hR
          rw [hR]
          have : E = 0 := by omega
          subst this
          exact ⟨⟨by rw [Int.natCast_add]; rfl, r3.kept (gb_below (r := none) b4) (by simp)⟩, kV4⟩
end Go.Proofs.YthigdhiebogffaaDoor

/- (*unpacking).next: its contract. -/
namespace Go.Proofs.YthigdhiebogffaaDoor
open Go.RowKit

theorem info_int : (Tryd.prog.info? 3).map (fun i => (i.zero, i.size, i.bytes)) = some (some (.int .i64 0), 1, 8) := by kernel_rfl
/-- behind next -/
def XEnd (b0 base g gu gm gi : Nat) (oA : Option Addr) (oc : Nat) (O T : List ByteArray) (D : List Nat) (W : World) (r : Except Int (ByteArray × Nat × List UInt8)) (x : Ending) (w' : World) : Prop :=
  (match r with
  | .error e => (e != 0) = true ∧ x = .returned (.int .i64 e)
  | .ok (s, n, l) => x = .returned (.int .i64 (addP T s)) ∧ (addP T s = 0 → (∃ v d, Un b0 base g gu gm gi oA oc O (T ++ [s]) (D ++ [n]) v d w') ∧ RL w' g (some l))) ∧ Kp (fun i => b0 ≤ i) W w'
theorem RL.kp {X : Nat → Prop} {w w' : World} {g : Nat} {st : St} (h : RL w g st) (k : Kp X w w') (hx : ¬ X g) : RL w' g st := by
  cases st with
  | none => obtain ⟨s, h⟩ := h; exact ⟨s, Arr.kp h k hx⟩
  | some l => exact ⟨Arr.kp h.1 k hx, h.2⟩

set_option maxRecDepth 100000 in
set_option maxHeartbeats 1000000 in
theorem next_any {b0 base g gu gm gi : Nat} {oA : Option Addr} {oc : Nat} {O T : List ByteArray} {D : List Nat} {v d : Value} {W : World} (h : Un b0 base g gu gm gi oA oc O T D v d W) (l : List UInt8) (hr : RL W g (some l))
    (hl : T.length ≤ 100000) (hol : O.length ≤ 140737488355328) (hT : ∀ x ∈ T, x.size ≤ 140737488355328) (hO : ∀ x ∈ O, x.size ≤ 140737488355328) (hD : ∀ n ∈ D, n ≤ 8) :
    Calls Tryd.prog 25 #[.pointer (some ⟨gu, 0, none⟩), .pointer (some ⟨g, 0, none⟩)] W (XEnd b0 base g gu gm gi oA oc O T D W (objP O.reverse T D l)) := by
  obtain ⟨si, hsi, sz0, sz1, sz2⟩ := info_parts info_int
  have Hsi := Lib.hid hsi
  have Sz0 := Lib.hid sz0
  have Sz1 := Lib.hid sz1
  have Sz2 := Lib.hid sz2
  clear hsi sz0 sz1 sz2
  have q := Lib.hid (readObject_any h l hr (by omega) hol hT hO hD)
  generalize objP O.reverse T D l = R at *
  have hg0 := h.g0
  cases R with
  | error e =>
    go_enter Tryd.func25, Tryd.ntmps25
    go_wp2_with fail
    (with_reducible refine q.out.mono ?_)
    clear q
    rintro _ W1 ⟨⟨he, s, n, rfl⟩, k1⟩
    go_wp2_with fail
    go_ret
    exact ⟨⟨he, rfl⟩, (Kp.gb k1).mono (fun i _ e => by have := Option.some.inj e; omega)⟩
  | ok y =>
    obtain ⟨s, n, r⟩ := y
    go_enter Tryd.func25, Tryd.ntmps25
    go_wp2_with fail
    (with_reducible refine q.out.mono ?_)
    clear q
    rintro _ W1 ⟨⟨rfl, r1⟩, k1⟩
    have U := h.gb k1
    have kp1 : Kp (fun i => b0 ≤ i) W W1 := (Kp.gb k1).mono (fun i _ e => by have := Option.some.inj e; omega)
    clear h hr k1
    have u2 : W1.cell? ⟨gu, 2, none⟩ = some d := U.box.cell 2
    obtain ⟨A2, cc2, rfl, _⟩ := own_ints U.deps
    have hlen := U.len
    have hbs := U.hb
    go_wp2_with (at_builtin; refine wpList_append_lies _ rfl _ _ 49 rfl base 3 si _ 1 8 Tryd.underlying49 Hsi.out Sz0.out Sz1.out Sz2.out rfl (by decide) _ _ _ rfl (U.deps.alloc _) ⟨W1.heap.size, 0, none⟩ 1 1 [.int .i64 (n : Int)] rfl rfl (new_cells W1 [.int .i64 (n : Int)] 3) (by intro u hu; simp at hu; subst hu; rfl) (by decide) (by unfold maxLen; omega) (by omega) (by simp; omega) _ rfl ?_)
    intro g3 cap3 w3 hown hgrow hat hg3
    have hfar : ∀ q, (Value.slice A2 D.length cc2).ownBlock = some q → base ≤ q := fun q e => own_row_ge U.deps q e
    have kp3 : Kp (fun i => (Value.slice A2 D.length cc2).ownBlock = some i) W1 w3 := ((Kp.gb (gb_alloc (r := none) _)).mono (fun i _ e => by cases e)).trans (Kp.gb hgrow) (fun i _ e => e)
    have B3 : Arr w3 gu 51 (upArr v gm (.slice A2 D.length cc2) oA O.length oc gi) := U.box.kp kp3 (fun e => by have := hfar _ e; have := U.hu; omega)
    have O3 := own_kp U.objs kp3 (fun q hq e => own_row U.objs U.deps (by decide) q hq e)
    obtain ⟨M, hM, kM⟩ := U.mt
    obtain ⟨I, hI, kI⟩ := U.mi
    have M3 := hM.kp kp3 (fun e => by have := hfar _ e; have := U.hm; omega)
    have I3 := hI.kp kp3 (fun e => by have := hfar _ e; have := U.hi; omega)
    have T3 := U.outs.kp kp3 (by have := U.hg; omega) (fun i hi e => by have := hfar _ e; have := U.hg; omega)
    have r3 := r1.kp kp3 (fun e => by have := hfar _ e; have := U.hg; omega)
    have hg3b : base ≤ g3 := own_row_ge hown g3 rfl
    have c3 : w3.cell? ⟨gu, 2, none⟩ = some (.slice A2 D.length cc2) := B3.cell 2
    have f3 := B3.free 2
    have kp3' : Kp (fun i => b0 ≤ i) W w3 := kp1.trans kp3 (fun i _ e => by have := hfar _ e; have := U.hg; omega)
    obtain ⟨hm1, hm2, hm3, hm4, hm5, hm6, hm7, hm8, hm9, hm10⟩ : gu < base ∧ gm < base ∧ gi < base ∧ g < base ∧ b0 ≤ gu ∧ b0 ≤ gm ∧ gu ≠ g ∧ gm ≠ g ∧ gi ≠ g ∧ gm ≠ gi := ⟨U.hu, U.hm, U.hi, U.hg, U.u0, U.m0, U.ug, U.mg, U.ig, U.gmi⟩
    have hs3 : base ≤ w3.heap.size := Nat.le_trans hbs kp3.size
    clear u2 U hgrow hat hfar kp3 hM hI r1 kp1
    have k4 : w3.grownBy (w3.setCell ⟨gu, 2, none⟩ (.slice (some ⟨g3, 0, none⟩) (D.length + 1) cap3)) (some gu) := gb_set _ _ _
    have B4 : Arr (w3.setCell ⟨gu, 2, none⟩ (.slice (some ⟨g3, 0, none⟩) (D.length + 1) cap3)) gu 51 (upArr v gm (.slice (some ⟨g3, 0, none⟩) (D.length + 1) cap3) oA O.length oc gi) := B3.put 2 _
    have O4 := own_kp O3 (Kp.gb k4) (fun q hq e => by have := own_row_ge O3 q hq; have := Option.some.inj e; omega)
    have D4 := own_kp hown (Kp.gb k4) (fun q hq e => by have h1 : g3 = q := Option.some.inj hq; have := Option.some.inj e; omega)
    have M4 := M3.kp (Kp.gb k4) (fun e => map_arr M3 B3 (Option.some.inj e).symm)
    have I4 := I3.kp (Kp.gb k4) (fun e => map_arr I3 B3 (Option.some.inj e).symm)
    have T4 := T3.kp (Kp.gb k4) (by omega) (fun i hi e => by have := Option.some.inj e; omega)
    have r4 := r3.kp (Kp.gb k4) (fun e => by have := Option.some.inj e; omega)
    have kp4 : Kp (fun i => b0 ≤ i) W (w3.setCell ⟨gu, 2, none⟩ (.slice (some ⟨g3, 0, none⟩) (D.length + 1) cap3)) := kp3'.trans (Kp.gb k4) (fun i _ e => by have := Option.some.inj e; omega)
    go_upto_region 5 with fail
    refine wp_forget (fun V => Arr V gu 51 (upArr v gm (.slice (some ⟨g3, 0, none⟩) (D.length + 1) cap3) oA O.length oc gi) ∧ V.ownsRow base 9 1 v T.length (T.map sv) ∧ V.ownsRow base 3 1 (.slice (some ⟨g3, 0, none⟩) (D.length + 1) cap3) (D.length + 1) (D.map iv ++ [iv n]) ∧ MapI V gm M ∧ MapI V gi I ∧ Txs V b0 oA O ∧ RL V g (some r) ∧ Kp (fun i => b0 ≤ i) W V ∧ base ≤ V.heap.size)
      (by exact ⟨B4, O4, D4, M4, I4, T4, r4, kp4, Nat.le_trans hs3 k4.size⟩) ?_
    clear B4 O4 D4 M4 I4 T4 r4 kp4 k4 B3 O3 hown M3 I3 T3 r3 c3 f3 kp3' hs3
    clear hg3 hbs w3
    rintro V ⟨B4, O4, D4, M4, I4, T4, r4, kp4, hV⟩
    have CA := Lib.hid (add_any gu 51 _ v gm T M base s V B4 rfl rfl O4 M4 kM (by omega) hm1 hm2 hV)
    go_wp2_with fail
    (with_reducible refine CA.out.mono ?_)
    clear CA
    rintro _ V2 ⟨rfl, kp5, hE⟩
    go_wp2_with fail
    go_ret
    have hov : ∀ q, v.ownBlock = some q → base ≤ q := fun q e => own_row_ge O4 q e
    refine ⟨⟨rfl, fun h0 => ?_⟩, kp4.trans kp5 (fun i _ e => by
      rcases e with e | e | e
      · omega
      · omega
      · have := hov _ e; omega)⟩
    obtain ⟨v', M', B5, O5, M5, kM5⟩ := hE h0
    have hgi : ¬ (gi = gu ∨ gi = gm ∨ v.ownBlock = some gi) := fun e => by
      rcases e with e | e | e
      · exact map_arr I4 B4 e
      · exact hm10 e.symm
      · have := hov _ e; omega
    have hgg : ¬ (g = gu ∨ g = gm ∨ v.ownBlock = some g) := fun e => by
      rcases e with e | e | e
      · exact hm7 e.symm
      · exact hm8 e.symm
      · have := hov _ e; omega
    refine ⟨⟨v', _, B5, O5, ?_, ⟨M', M5, kM5⟩, ⟨I, I4.kp kp5 hgi, kI⟩, T4.kp kp5 (by omega) (fun i hi e => ?_), hm10, hm1, hm2, hm3, hm4, hg0, hm5, hm6, hm7, hm8, hm9, Nat.le_trans hV kp5.size, by simp [hlen]⟩, r4.kp kp5 hgg⟩
    · rw [List.length_append, List.map_append]
      exact own_kp D4 kp5 (fun q hq e => by
        have h1 : g3 = q := Option.some.inj hq
        rcases e with e | e | e
        · omega
        · omega
        · exact own_row O4 D4 (by decide) q e hq)
    · rcases e with e | e | e
      · omega
      · omega
      · have := hov _ e; omega
end Go.Proofs.YthigdhiebogffaaDoor

/- (*bases).likest: its contract. -/
namespace Go.Proofs.YthigdhiebogffaaDoor
open Go.RowKit

def nonePb : Pb := ⟨⟨#[]⟩, 0, 0⟩
def zeroPb : Array Value := #[.string ⟨#[]⟩, .int .i64 0, .int .i64 0]
theorem own_bases {w : World} {base : Nat} {v : Value} {L : List Pb} (h : w.ownsRow base 76 3 v L.length (bsCells L)) : ∃ A c, v = .slice A L.length c ∧ ∀ (k : Nat) (b : Pb), L[k]? = some b → ∃ g, A = some ⟨g, 0, none⟩ ∧ g < w.heap.size ∧
    w.cell? ⟨g, k * 3, none⟩ = some (.string b.obj) ∧ w.cell? ⟨g, k * 3 + 1, none⟩ = some (.int .i64 b.index) ∧ w.cell? ⟨g, k * 3 + 2, none⟩ = some (.int .i64 b.deep) := by
  rcases h.2 with ⟨rfl, hn⟩ | ⟨g, cap, cur, rfl, hb, hg, hnc, hcm, hcs, htake⟩
  · obtain rfl : L = [] := List.eq_nil_of_length_eq_zero hn
    exact ⟨none, 0, rfl, fun k b hk => by simp at hk⟩
  · refine ⟨some ⟨g, 0, none⟩, cap, rfl, fun k b hk => ⟨g, rfl, (Array.getElem?_eq_some_iff.1 hg).1, ?_⟩⟩
    have hlt : k < L.length := (List.getElem?_eq_some_iff.1 hk).1
    have hcell : ∀ j, j < 3 → w.cell? ⟨g, k * 3 + j, none⟩ = (bsArr b).toList[j]? := fun j hj => by
      rw [cell_of_row w g _ cur _ (0, 0) hg, ← bsCells_at L k j b hk hj, ← htake, List.getElem?_take_of_lt (by omega)]
      simp
    exact ⟨hcell 0 (by omega), hcell 1 (by omega), hcell 2 (by omega)⟩
theorem getR_lt {k : ByteArray} {n m : Nat} : ∀ {M : List KI}, (∀ x ∈ M, x.2 < m) → getR k M = some n → n < m
  | [], _, h => by cases h
  | x :: M, hv, h => by
    unfold getR at h
    split at h
    · cases h; exact hv x List.mem_cons_self
    · exact getR_lt (fun y hy => hv y (List.mem_cons_of_mem _ hy)) h
theorem Bz.drew {base gb gm : Nat} {L : List Pb} {v : Value} {W : World} (h : Bz base gb gm L v W) : Bz base gb gm L v W.drew := h.bel ⟨rfl, rfl, rfl, Nat.le_refl _, fun _ _ => rfl⟩
theorem Bz.drewN {base gb gm : Nat} {L : List Pb} {v : Value} {W : World} (h : Bz base gb gm L v W) (n : Nat) : Bz base gb gm L v (W.drewN n) := h.bel ⟨rfl, rfl, rfl, Nat.le_refl _, fun _ _ => rfl⟩
def LkEnd (L : List Pb) (W : World) (x : Ending) (w' : World) : Prop :=
  (x = .returned (.tuple #[.agg (bsArr nonePb), .bool false]) ∨ ∃ b, b ∈ L ∧ x = .returned (.tuple #[.agg (bsArr b), .bool true])) ∧ Below W.heap.size W w'
/-- where likest stands -/
def LkRel (base gb gm : Nat) (L : List Pb) (v : Value) (W : World) (s : ByteArray) (vb vm i : Value) (wr : World) : Prop :=
  ∃ (best most k : Nat) (C : List Nat), vb = .int .i64 (best : Int) ∧ vm = .int .i64 (most : Int) ∧ i = .int .i64 (k : Int) ∧ k ≤ s.size + 16 ∧ Bz base gb gm L v wr ∧ Arr wr W.heap.size 76 zeroPb ∧
    Arr wr (W.heap.size + 1) 3 (C.map iv).toArray ∧ C.length = L.length ∧ (∀ c ∈ C, c ≤ k) ∧ most ≤ k ∧ (most = 0 ∨ best < L.length) ∧ Below W.heap.size W wr

set_option maxRecDepth 100000 in
set_option maxHeartbeats 2000000 in
theorem likest_any {base gb gm : Nat} {L : List Pb} {v : Value} {W : World} (h : Bz base gb gm L v W) (s : ByteArray) (hs : s.size ≤ 100000) (hl : L.length ≤ 100000) :
    Calls Tryd.prog 60 #[.pointer (some ⟨gb, 0, none⟩), .string s] W (LkEnd L W) := by
  obtain ⟨si, hsi, sz0, sz1, sz2⟩ := info_parts info_int
  have Hsi := Lib.hid hsi
  have Sz0 := Lib.hid sz0
  have Sz1 := Lib.hid sz1
  have Sz2 := Lib.hid sz2
  clear hsi sz0 sz1 sz2
  obtain ⟨A, cc, rfl, hrow⟩ := own_bases h.row
  clear hrow
  have b0 : Below W.heap.size W (W.alloc (.cells zeroPb 76)) := (Below.refl _ _).alloc (Nat.le_refl _) _
  have h0 := Lib.hid (h.bel b0)
  have hbW := h.hs
  clear h
  go_enter Tryd.func60, Tryd.ntmps60
  go_upto_region 1 with fail
  refine wp_forget (fun V => Arr V W.heap.size 76 zeroPb ∧ Below W.heap.size W V ∧ Bz base gb gm L (.slice A L.length cc) V ∧ V.heap.size = W.heap.size + 1) (by exact ⟨Arr.new _ _ _, b0, h0.out, by simp⟩) ?_
  clear b0 h0
  rintro V ⟨A0, b0, B0, hV⟩
  have g0 : V.cell? ⟨gb, 0, none⟩ = some (.slice A L.length cc) := B0.box.cell 0
  have HV := Lib.hid hV
  clear hV
  go_wp2_with (at_make; refine wpList_make_full _ rfl _ _ 49 rfl V.heap.size 3 si _ 1 Tryd.underlying49 Hsi.out Sz0.out Sz1.out _ _ _ _ L.length rfl rfl rfl rfl (by rw [Sz2.out]; omega) (by unfold maxLen; omega) (Nat.le_refl _) ?_)
  intro w1 hown hgrow
  have hb1 : Below V.heap.size V w1 := (Below.refl _ _).grown hgrow (Nat.le_refl _) (by intro k hk; cases hk)
  have hA : Arr w1 (W.heap.size + 1) 3 ((List.replicate L.length 0).map iv).toArray := by
    rw [← HV.out]
    rcases hown.2 with ⟨h', _⟩ | ⟨g', cap', cur, h', hb, hg, hnc, hcm, hcs, htake⟩
    · simp at h'
    · simp only [Value.slice.injEq, Option.some.injEq, Addr.mk.injEq, and_true, true_and] at h'
      obtain ⟨rfl, rfl⟩ := h'
      have e : cur = ((List.replicate L.length 0).map iv).toArray := by
        apply Array.ext'
        rw [List.take_of_length_le (by simp [hcs])] at htake
        rw [htake, toList_madeCells_one, List.map_replicate]
        rfl
      rw [← e]
      exact hg
  have hR0 : Hid (LkRel base gb gm L (.slice A L.length cc) W s (.int .i64 0) (.int .i64 0) (.int .i64 0) w1) :=
    ⟨0, 0, 0, _, rfl, rfl, rfl, Nat.zero_le _, B0.bel hb1, A0.below hb1 A0.lt, hA, by simp, (fun c hc => by rw [List.eq_of_mem_replicate hc]; exact Nat.le_refl _), Nat.le_refl _, .inl rfl, b0.trans (hb1.mono b0.size)⟩
  clear hown hgrow hb1 hA A0 b0 B0 g0
  rw [HV.out]
  clear HV
  clear V
  go_wp2_with fail
  go_loopw [7, 8, 9] (fun vb vm i wr => LkRel base gb gm L (.slice A L.length cc) W s vb vm i wr) (fun _ _ i _ => s.size + 16 - (intOf i).toNat)
  case atStart => exact hR0.out
  case round =>
    clear hR0
    clear w1
    obtain ⟨best, most, k, C, rfl, rfl, rfl, hk, B1, A1, S1, hCl, hC, hmk, hbest, bel⟩ := hrel
    have hk' : (k : Int) ≤ 100016 := by omega
    by_cases hlt : k + 16 ≤ s.size
    · have hj : (k : Int) + 16 ≤ s.size := by omega
      have g1 : wr.cell? ⟨gb, 1, none⟩ = some (.map (some gm)) := B1.box.cell 1
      obtain ⟨M, hM, hv⟩ := B1.mp
      have lk := run_lookI (show MapI wr.drew gm M from hM) (s.extract k (k + 16))
      rw [lookI_getR] at lk
      cases hg : getR (s.extract k (k + 16)) M with
      | none =>
        rw [hg] at lk
        simp only at lk
        go_upto_region 6 with fail
        have s1 : (k : Int) ≤ (k : Int) + 16 := by omega
        have s2 : (k : Int) + 16 ≤ s.size := by omega
        have s3 : ((k : Int) + 16).toNat = k + 16 := by omega
        have s4 : IntKind.i64.wrap ((k : Int) + 16) = (k : Int) + 16 := IntWalk.i64_in _ (by omega)
        go_region_with (fail)
        all_goals
          go_wp2_with fail
          refine ⟨⟨best, most, k + 1, C, rfl, rfl, by rw [Int.natCast_add]; rfl, by omega, B1.drew, A1.drew, S1.drew, hCl, (fun c hc => by have := hC c hc; omega), by omega, hbest, bel.drew⟩, by simp [intOf]; omega⟩
      | some n =>
        rw [hg] at lk
        simp only at lk
        have hn : n < L.length := getR_lt hv hg
        have hnC : n < C.length := by omega
        have hc := hC C[n] (List.getElem_mem hnC)
        have q0 : wr.drew.cell? ⟨W.heap.size + 1, n, none⟩ = some (.int .i64 (C[n] : Int)) := by
          rw [S1.drew.cell n]
          simp [iv, hnC]
        have f0 := S1.drew.free n
        have S2 : Arr (wr.drew.setCell ⟨W.heap.size + 1, n, none⟩ (.int .i64 ((C[n] : Int) + 1))) (W.heap.size + 1) 3 ((C.set n (C[n] + 1)).map iv).toArray := by
          have := S1.drew.put n (.int .i64 ((C[n] : Int) + 1))
          rw [show ((C.map iv).toArray.setIfInBounds n (.int .i64 ((C[n] : Int) + 1))) = ((C.set n (C[n] + 1)).map iv).toArray from by
            rw [List.map_set]
            simp [iv]] at this
          exact this
        have HQ : Hid ((wr.drew.setCell ⟨W.heap.size + 1, n, none⟩ (.int .i64 ((C[n] : Int) + 1))).cell? ⟨W.heap.size + 1, n, none⟩ = some (.int .i64 ((C[n] + 1 : Nat) : Int))) := by
          show _ = _
          rw [S2.cell n]
          simp [iv, hnC]
        have hC2 : ∀ c ∈ C.set n (C[n] + 1), c ≤ k + 1 := fun c hc2 => by
          rcases List.mem_or_eq_of_mem_set hc2 with h | h
          · have := hC c h; omega
          · omega
        have hC2l : (C.set n (C[n] + 1)).length = L.length := by rw [List.length_set]; exact hCl
        have k4 : wr.drew.grownBy (wr.drew.setCell ⟨W.heap.size + 1, n, none⟩ (.int .i64 ((C[n] : Int) + 1))) (some (W.heap.size + 1)) := gb_set _ _ _
        have A2 := A1.drew.kept k4 (fun e => by have := Option.some.inj e; omega)
        have hbw := B1.hs
        have B2 := B1.drew.kp (Kp.gb k4) (fun e => by have := B1.hb; have := Option.some.inj e; omega) (fun e => by have := B1.hm; have := Option.some.inj e; omega) (own_not B1.row S1 (by decide))
        have bel2 := below_gb bel.drew k4 (by omega) (by have := bel.size; exact this)
        generalize C.set n (C[n] + 1) = C2 at *
        generalize C[n] = c at *
        clear S1 hC hCl B1 A1 hv hg hM
        have hi1 : (n : Int) < L.length := by omega
        go_upto_region 6 with fail
        have s1 : (k : Int) ≤ (k : Int) + 16 := by omega
        have s2 : (k : Int) + 16 ≤ s.size := by omega
        have s3 : ((k : Int) + 16).toNat = k + 16 := by omega
        have s4 : IntKind.i64.wrap ((k : Int) + 16) = (k : Int) + 16 := IntWalk.i64_in _ (by omega)
        go_region_with (fail)
        all_goals
          have q3' : (wr.drew.setCell ⟨W.heap.size + 1, n, none⟩ (.int .i64 ((c : Int) + 1))).cell? ⟨W.heap.size + 1, n, none⟩ = some (.int .i64 ((c + 1 : Nat) : Int)) := HQ.out
          go_upto_region 9 with fail
          refine wp_forget (fun V => Bz base gb gm L (.slice A L.length cc) V ∧ Arr V W.heap.size 76 zeroPb ∧ Arr V (W.heap.size + 1) 3 (C2.map iv).toArray ∧ Below W.heap.size W V ∧ V.cell? ⟨W.heap.size + 1, n, none⟩ = some (.int .i64 ((c + 1 : Nat) : Int))) (by exact ⟨B2, A2, S2, bel2, q3'⟩) ?_
          clear B2 A2 S2 bel2 q3' lk g1 q0 f0 k4 HQ
          rintro V ⟨B2, A2, S2, bel2, q3⟩
          by_cases hmore : most < c + 1
          · have hi2 : (most : Int) < ((c + 1 : Nat) : Int) := by omega
            have hc1 : c + 1 ≤ k + 1 := by omega
            generalize c + 1 = c1 at *
            go_wp2_with fail
            go_quiet (fail)
            go_wp2_with fail
            refine ⟨⟨n, c1, k + 1, C2, rfl, rfl, by rw [Int.natCast_add]; rfl, by omega, B2.drewN _, A2.drewN _, S2.drewN _, hC2l, hC2, by omega, .inr hn, below_drewN bel2 _⟩, by simp [intOf]; omega⟩
          · have hi2 : ¬ (most : Int) < ((c + 1 : Nat) : Int) := by omega
            generalize c + 1 = c1 at *
            go_wp2_with fail
            refine ⟨⟨best, most, k + 1, C2, rfl, rfl, by rw [Int.natCast_add]; rfl, by omega, B2, A2, S2, hC2l, hC2, by omega, hbest, bel2⟩, by simp [intOf]; omega⟩
    · have hj : ¬ (k : Int) + 16 ≤ s.size := by omega
      by_cases hm0 : most = 0
      · subst hm0
        go_wp2_with (refine wpList_store_row rfl 76 _ _ rfl W.heap.size (bsArr nonePb) rfl rfl 76 zeroPb A1 (bsInfo _) rfl (bsArr_one _) ?_)
        refine bodyPost_ret (v := .tuple #[.agg (bsArr nonePb), .bool false]) ?_ rfl ⟨.inl rfl, below_setRow bel (Nat.le_refl _) _⟩
        rw [results_cell_tmp Tryd.results60]
        have hld := run_loadVar_row (P := Tryd.prog) _ _ _ 76 _ _ _ (A1.row (bsArr nonePb)) Tryd.underlying76 rfl (bsInfo _)
        simp [asAddr, hld, Result.andThen]
      · have hi3 : ((most : Int) == 0) = false := by rw [beq_eq_false_iff_ne]; omega
        have hbl : best < L.length := by omega
        have hi4 : (best : Int) < L.length := by omega
        have hx : L[best]? = some L[best] := List.getElem?_eq_getElem hbl
        have hmem := List.getElem_mem hbl
        obtain ⟨A', c', hAe, hat⟩ := own_bases B1.row
        obtain ⟨gr, hA', hgr, q0, q1, q2⟩ := hat best L[best] hx
        subst hA'
        cases hAe
        generalize L[best] = bb at *
        have g0 : wr.cell? ⟨gb, 0, none⟩ = some (.slice (some ⟨gr, 0, none⟩) L.length cc) := B1.box.cell 0
        clear hat hx
        go_wp2_with (refine wpList_store_row rfl 76 _ _ rfl W.heap.size (bsArr bb) rfl rfl 76 zeroPb A1 (bsInfo _) rfl (bsArr_one _) ?_)
        refine bodyPost_ret (v := .tuple #[.agg (bsArr bb), .bool true]) ?_ rfl ⟨.inr ⟨bb, hmem, rfl⟩, below_setRow bel (Nat.le_refl _) _⟩
        rw [results_cell_tmp Tryd.results60]
        have hld := run_loadVar_row (P := Tryd.prog) _ _ _ 76 _ _ _ (A1.row (bsArr bb)) Tryd.underlying76 rfl (bsInfo _)
        simp [asAddr, hld, Result.andThen]
end Go.Proofs.YthigdhiebogffaaDoor

/- Operations of a delta, their bytes and what they make; what two texts have in common; what Make keeps from round to round: plain mathematics. -/
namespace Go.Proofs.YthigdhiebogffaaDoor

inductive DOp where
  | lit (x : List UInt8)
  | cpy (k n : Nat)
def DOp.enc : DOp → List UInt8
  | .lit x => num (2 * x.length) ++ x
  | .cpy k n => num (2 * n + 1) ++ num k
def DOp.out (base : List UInt8) : DOp → List UInt8
  | .lit x => x
  | .cpy k n => (base.drop k).take n
def DOp.ok (base : List UInt8) : DOp → Prop
  | .lit x => 0 < x.length ∧ x.length ≤ 8192
  | .cpy k n => 0 < n ∧ k + n ≤ base.length
def encs : List DOp → List UInt8
  | [] => []
  | o :: L => o.enc ++ encs L
def outs (base : List UInt8) : List DOp → List UInt8
  | [] => []
  | o :: L => o.out base ++ outs base L
theorem encs_app (L M : List DOp) : encs (L ++ M) = encs L ++ encs M := by
  induction L with
  | nil => rfl
  | cons o L ih => rw [List.cons_append, encs, encs, ih, List.append_assoc]
theorem outs_app (base : List UInt8) (L M : List DOp) : outs base (L ++ M) = outs base L ++ outs base M := by
  induction L with
  | nil => rfl
  | cons o L ih => rw [List.cons_append, outs, outs, ih, List.append_assoc]
theorem encs_one (o : DOp) : encs [o] = o.enc := List.append_nil _
theorem outs_one (base : List UInt8) (o : DOp) : outs base [o] = o.out base := List.append_nil _
theorem opD_enc (base : List UInt8) (hb : base.length ≤ 8192) (o : DOp) (ho : o.ok base) (r : List UInt8) : opD base (o.enc ++ r) = (0, o.out base, r) := by
  cases o with
  | lit x =>
    obtain ⟨h1, h2⟩ := ho
    unfold opD DOp.enc DOp.out
    rw [List.append_assoc, rdNum_num _ (by omega)]
    simp only
    rw [if_neg (by omega), show 2 * x.length / 2 = x.length from by omega, if_neg (by rw [List.length_append]; omega), List.take_left', List.drop_left']
    · rfl
    · rfl
  | cpy k n =>
    obtain ⟨h1, h2⟩ := ho
    unfold opD DOp.enc DOp.out
    rw [List.append_assoc, rdNum_num _ (by omega)]
    simp only
    rw [if_pos (by omega), rdNum_num _ (by omega)]
    simp only
    rw [show (2 * n + 1) / 2 = n from by omega, if_neg (by omega)]
theorem enc_pos (o : DOp) : 0 < o.enc.length := by
  cases o with
  | lit x =>
    have := num_pos (2 * x.length)
    rw [DOp.enc, List.length_append]; omega
  | cpy k n =>
    have := num_pos (2 * n + 1)
    rw [DOp.enc, List.length_append]; omega
theorem out_pos (base : List UInt8) (o : DOp) (ho : o.ok base) : 0 < (o.out base).length := by
  cases o with
  | lit x => exact ho.1
  | cpy k n =>
    obtain ⟨h1, h2⟩ := ho
    rw [DOp.out, List.length_take, List.length_drop]
    omega
theorem appD_encs (base : List UInt8) (hb : base.length ≤ 8192) (will : Nat) : ∀ (L : List DOp), (∀ o ∈ L, o.ok base) → ∀ (f : Nat) (t : List UInt8), (encs L).length ≤ f → t.length + (outs base L).length = will →
    appD base will f t (encs L) = (t ++ outs base L, 0)
  | [], _, f, t, _, ht => by
    rw [outs, List.length_nil, Nat.add_zero] at ht
    cases f <;> rw [encs, appD, if_neg (by omega), outs, List.append_nil]
  | o :: L, hL, f, t, hf, ht => by
    have ho := hL o (by simp)
    have h1 := enc_pos o
    have h2 := out_pos base o ho
    have hop := opD_enc base hb o ho (encs L)
    rw [encs, List.length_append] at hf
    rw [outs, List.length_append] at ht
    rw [encs]
    cases f with
    | zero => omega
    | succ f =>
      cases hl : o.enc ++ encs L with
      | nil =>
        have : (o.enc ++ encs L).length = 0 := by rw [hl]; rfl
        rw [List.length_append] at this
        omega
      | cons b l =>
        rw [appD, ← hl, hop]
        simp only
        rw [if_neg (by simp), if_neg (by rintro (h | h); rw [h] at h2; simp at h2; omega), appD_encs base hb will L (fun x hx => hL x (by simp [hx])) f _ (by omega) (by rw [List.length_append]; omega), outs, List.append_assoc]
/-- the bytes of a delta -/
def delta (b t : Nat) (L : List DOp) : List UInt8 := num b ++ (num t ++ encs L)
theorem apply_delta (base target : List UInt8) (hb : base.length ≤ 8192) (ht : target.length ≤ 8192) (L : List DOp) (hL : ∀ o ∈ L, o.ok base) (ho : outs base L = target) :
    applyD base (delta base.length target.length L) = (target, 0) := by
  unfold applyD delta
  rw [rdNum_num _ (by omega)]
  simp only
  rw [rdNum_num _ (by omega)]
  simp only
  rw [if_neg (by simp), if_neg (by omega), appD_encs base hb _ L hL _ [] (Nat.le_refl _) (by rw [ho, List.length_nil, Nat.zero_add]), List.nil_append, ho]
theorem apply_other (base : List UInt8) (b t : Nat) (hb : b ≤ 8192) (ht : t ≤ 8192) (h : b ≠ base.length) (L : List DOp) : applyD base (delta b t L) = ([], 11) := by
  unfold applyD delta
  rw [rdNum_num _ (by omega)]
  simp only
  rw [rdNum_num _ (by omega)]
  simp only
  rw [if_pos h]

/-- how many bytes two texts have in common at their beginnings -/
def lcp : List UInt8 → List UInt8 → Nat
  | a :: x, b :: y => if a = b then lcp x y + 1 else 0
  | [], _ => 0
  | _ :: _, [] => 0
theorem lcp_le : ∀ (a b : List UInt8), lcp a b ≤ a.length ∧ lcp a b ≤ b.length
  | [], _ => ⟨Nat.zero_le _, Nat.zero_le _⟩
  | _ :: _, [] => ⟨Nat.zero_le _, Nat.zero_le _⟩
  | a :: x, b :: y => by
    have h := lcp_le x y
    rw [lcp]
    split
    · exact ⟨Nat.succ_le_succ h.1, Nat.succ_le_succ h.2⟩
    · exact ⟨Nat.zero_le _, Nat.zero_le _⟩
theorem lcp_take : ∀ (a b : List UInt8), a.take (lcp a b) = b.take (lcp a b)
  | [], _ => by rw [lcp]; rfl
  | _ :: _, [] => by rw [lcp]; rfl
  | a :: x, b :: y => by
    rw [lcp]
    split
    · rename_i e
      rw [List.take_succ_cons, List.take_succ_cons, lcp_take x y, e]
    · rfl
theorem lcp_app : ∀ (a m : List UInt8), lcp a (a ++ m) = a.length
  | [], _ => by rw [lcp]; rfl
  | a :: x, m => by rw [List.cons_append, lcp, if_pos rfl, lcp_app x m]; rfl
theorem lcp_ge : ∀ (n : Nat) (a b : List UInt8), n ≤ a.length → n ≤ b.length → a.take n = b.take n → n ≤ lcp a b
  | 0, _, _, _, _, _ => Nat.zero_le _
  | n + 1, [], _, h, _, _ => by simp at h
  | n + 1, _ :: _, [], _, h, _ => by simp at h
  | n + 1, a :: x, b :: y, h1, h2, h3 => by
    rw [List.take_succ_cons, List.take_succ_cons, List.cons.injEq] at h3
    rw [lcp, if_pos h3.1]
    exact Nat.succ_le_succ (lcp_ge n x y (by simpa using h1) (by simpa using h2) h3.2)
theorem lcp_more (a b : List UInt8) (k : Nat) (ha : k < a.length) (hb : k < b.length) (h : a[k] = b[k]) : lcp (a.drop k) (b.drop k) = lcp (a.drop (k + 1)) (b.drop (k + 1)) + 1 := by
  rw [List.drop_eq_getElem_cons ha, List.drop_eq_getElem_cons hb, lcp, if_pos h]
theorem lcp_stop (a b : List UInt8) (k : Nat) (h : ∀ (ha : k < a.length) (hb : k < b.length), a[k] ≠ b[k]) : lcp (a.drop k) (b.drop k) = 0 := by
  by_cases ha : k < a.length
  · by_cases hb : k < b.length
    · rw [List.drop_eq_getElem_cons ha, List.drop_eq_getElem_cons hb, lcp, if_neg (h ha hb)]
    · rw [show b.drop k = [] from List.drop_eq_nil_of_le (by omega), List.drop_eq_getElem_cons ha, lcp]
  · rw [show a.drop k = [] from List.drop_eq_nil_of_le (by omega), lcp]

theorem num_1 (n : Nat) (h : n < 128) : (num n).length ≤ 1 := num_len 0 n (by omega)
theorem num_2 (n : Nat) (h : n < 16384) : (num n).length ≤ 2 := num_len 1 n (by omega)
theorem num_3 (n : Nat) (h : n < 2097152) : (num n).length ≤ 3 := num_len 2 n (by omega)
theorem lit_len (x : List UInt8) (h : x.length ≤ 8192) : (DOp.lit x).enc.length ≤ x.length + 3 := by
  have := num_3 (2 * x.length) (by omega)
  rw [DOp.enc, List.length_append]
  omega
theorem cpy_len (k n : Nat) (h8 : 8 ≤ n) (hn : n ≤ 8192) (hk : k ≤ 8192) : (DOp.cpy k n).enc.length + 3 ≤ n := by
  have h2 := num_2 k (by omega)
  rw [DOp.enc, List.length_append]
  by_cases hs : n < 64
  · have h1 := num_1 (2 * n + 1) (by omega)
    omega
  · have h1 := num_3 (2 * n + 1) (by omega)
    omega
theorem cpy_len0 (n : Nat) (hn : n ≤ 8192) : (DOp.cpy 0 n).enc.length ≤ 4 := by
  have h1 := num_3 (2 * n + 1) (by omega)
  have h2 := num_1 0 (by omega)
  rw [DOp.enc, List.length_append]
  omega

/-- does the target start with the base? -/
def Pre (B T : List UInt8) : Prop := 8 ≤ B.length ∧ B.length ≤ T.length ∧ T.take B.length = B
/-- what Make keeps from round to round -/
structure MI (B T : List UInt8) (L : List DOp) (done at_ : Nat) : Prop where
  ok : ∀ o ∈ L, o.ok B
  outs : outs B L = T.take done
  le : done ≤ at_
  at_le : at_ ≤ T.length
  len : (encs L).length ≤ done
  pre : Pre B T → (done = 0 ∧ at_ = 0) ∨ (B.length ≤ done ∧ (encs L).length + B.length ≤ done + 4)
/-- the operations behind a flush -/
def fl (T : List UInt8) (L : List DOp) (done at_ : Nat) : List DOp := if done < at_ then L ++ [.lit ((T.drop done).take (at_ - done))] else L
theorem mi_start (B T : List UInt8) : MI B T [] 0 0 := ⟨(fun _ h => by cases h), rfl, Nat.le_refl _, Nat.zero_le _, Nat.le_refl _, fun _ => .inl ⟨rfl, rfl⟩⟩
theorem mi_miss {B T : List UInt8} {L : List DOp} {done at_ : Nat} (h : MI B T L done at_) (ha : at_ + 1 ≤ T.length) (hm : Pre B T → at_ ≠ 0) : MI B T L done (at_ + 1) :=
  ⟨h.ok, h.outs, Nat.le_succ_of_le h.le, ha, h.len, fun hp => by
    rcases h.pre hp with ⟨_, h2⟩ | h2
    · exact absurd h2 (hm hp)
    · exact .inr h2⟩
theorem mid_len {T : List UInt8} {d a : Nat} (h : d ≤ a) (ha : a ≤ T.length) : ((T.drop d).take (a - d)).length = a - d := by
  rw [List.length_take, List.length_drop]
  omega
theorem take_mid (T : List UInt8) {d a : Nat} (h : d ≤ a) : T.take d ++ (T.drop d).take (a - d) = T.take a := by
  have e := List.take_append_drop d (T.take a)
  rw [List.take_take, Nat.min_eq_left h, List.drop_take] at e
  exact e
theorem fl_facts {B T : List UInt8} {L : List DOp} {done a : Nat} (hok : ∀ o ∈ L, o.ok B) (ho : outs B L = T.take done) (hle : done ≤ a) (ha : a ≤ T.length) (hT : T.length ≤ 8192) :
    (∀ o ∈ fl T L done a, o.ok B) ∧ outs B (fl T L done a) = T.take a ∧ (encs (fl T L done a)).length ≤ (encs L).length + (a - done) + 3 := by
  unfold fl
  by_cases hd : done < a
  · rw [if_pos hd]
    have hm := mid_len (T := T) hle ha
    refine ⟨?_, ?_, ?_⟩
    · intro o ho
      rcases List.mem_append.1 ho with h | h
      · exact hok o h
      · rw [List.mem_singleton.1 h]
        exact ⟨by rw [hm]; omega, by rw [hm]; omega⟩
    · rw [outs_app, outs_one, ho, DOp.out, take_mid T hle]
    · have := lit_len ((T.drop done).take (a - done)) (by rw [hm]; omega)
      rw [encs_app, encs_one, List.length_append]
      omega
  · rw [if_neg hd]
    obtain rfl : done = a := by omega
    exact ⟨hok, ho, by omega⟩
theorem mi_hit {B T : List UInt8} {L : List DOp} {done a k n : Nat} (h : MI B T L done a) (hB : B.length ≤ 8192) (hT : T.length ≤ 8192) (hn : n = lcp (B.drop k) (T.drop a)) (h8 : 8 ≤ n) (hk : Pre B T → a = 0 → k = 0) :
    MI B T (fl T L done a ++ [.cpy k n]) (a + n) (a + n) ∧ k + n ≤ B.length ∧ a + n ≤ T.length := by
  have hl := lcp_le (B.drop k) (T.drop a)
  rw [← hn, List.length_drop, List.length_drop] at hl
  have h1 : k + n ≤ B.length := by omega
  have h2 : a + n ≤ T.length := by omega
  obtain ⟨f1, f2, f3⟩ := fl_facts h.ok h.outs h.le h.at_le hT
  have hc := cpy_len k n h8 (by omega) (by omega)
  have hd := h.len
  have hle := h.le
  refine ⟨⟨?_, ?_, Nat.le_refl _, h2, ?_, ?_⟩, h1, h2⟩
  · intro o ho
    rcases List.mem_append.1 ho with h | h
    · exact f1 o h
    · rw [List.mem_singleton.1 h]
      exact ⟨by omega, h1⟩
  · have ht := lcp_take (B.drop k) (T.drop a)
    rw [← hn] at ht
    rw [outs_app, outs_one, f2, DOp.out, ht]
    have := take_mid T (d := a) (a := a + n) (by omega)
    rw [Nat.add_sub_cancel_left] at this
    exact this
  · rw [encs_app, encs_one, List.length_append]
    omega
  · intro hp
    refine .inr ?_
    rcases h.pre hp with ⟨e1, e2⟩ | ⟨e1, e2⟩
    · have e3 := hk hp e2
      subst e1 e2 e3
      have hBn : n = B.length := by
        obtain ⟨_, _, p3⟩ := hp
        have e := List.take_append_drop B.length T
        rw [p3] at e
        rw [hn, List.drop_zero, List.drop_zero, ← e, lcp_app]
      have h4 := cpy_len0 n (by omega)
      rw [encs_app, encs_one, List.length_append]
      have hf : fl T L 0 0 = L := by unfold fl; rw [if_neg (by omega)]
      rw [hf]
      omega
    · rw [encs_app, encs_one, List.length_append]
      omega
theorem mi_end {B T : List UInt8} {L : List DOp} {done a : Nat} (h : MI B T L done a) (hT : T.length ≤ 8192) (hm : Pre B T → a ≠ 0) :
    (∀ o ∈ fl T L done T.length, o.ok B) ∧ outs B (fl T L done T.length) = T ∧ (encs (fl T L done T.length)).length ≤ T.length + 3 ∧ (Pre B T → (encs (fl T L done T.length)).length + B.length ≤ T.length + 7) := by
  have hle := h.le
  have hal := h.at_le
  have hd := h.len
  obtain ⟨f1, f2, f3⟩ := fl_facts h.ok h.outs (Nat.le_trans h.le h.at_le) (Nat.le_refl _) hT
  rw [List.take_length] at f2
  refine ⟨f1, f2, by omega, fun hp => ?_⟩
  rcases h.pre hp with ⟨_, e2⟩ | ⟨e1, e2⟩
  · exact absurd e2 (hm hp)
  · omega
theorem delta_len (b t : Nat) (hb : b ≤ 8192) (ht : t ≤ 8192) (L : List DOp) : (delta b t L).length ≤ (encs L).length + 4 := by
  have h1 := num_2 b (by omega)
  have h2 := num_2 t (by omega)
  unfold delta
  rw [List.length_append, List.length_append]
  omega
end Go.Proofs.YthigdhiebogffaaDoor
