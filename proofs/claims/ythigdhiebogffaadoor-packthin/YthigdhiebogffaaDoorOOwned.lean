/- Texts in one: PRead, PWrite, OOwned. -/
import Derived.Test.YthigdhiebogffaaDoorDMath
import Derived.Test.YthigdhiebogffaaDoorOLinks
import Derived.Deep.RegionHeld3
import Derived.Test.YthigdhiebogffaaDoorPAdd
import Derived.Test.YthigdhiebogffaaDoorOApp
import Derived.Test.YthigdhiebogffaaDoorOStray
/- pack.Read: its contract. -/
namespace Go.Proofs.YthigdhiebogffaaDoor
open Go.RowKit

theorem addP_small {T : List ByteArray} {s : ByteArray} (h : addP T s = 0) : s.size ≤ 8192 := by
  unfold addP at h
  split at h
  · rename_i h1; exact absurd h h1
  · rename_i h1
    have h2 : (decO s.data.toList).2 = 0 := by omega
    unfold decO at h2
    split at h2
    · cases h2
    · rename_i h3
      have : s.data.toList.length = s.size := rfl
      omega
theorem objP_deep {O T : List ByteArray} {D : List Nat} {l r : List UInt8} {s : ByteArray} {n : Nat} (h : objP O T D l = .ok (s, n, r)) : n ≤ 8 := by
  unfold objP at h
  cases h1 : rdStart l with
  | none => simp [h1] at h
  | some y =>
    obtain ⟨p, l1⟩ := y
    simp only [h1] at h
    split at h
    · simp only [Except.ok.injEq, Prod.mk.injEq] at h
      omega
    · cases h2 : baseP O T D p with
      | error e => simp [h2] at h
      | ok z =>
        obtain ⟨b, m⟩ := z
        simp only [h2] at h
        cases h3 : rdText l1 with
        | none => simp [h3] at h
        | some q =>
          obtain ⟨d, l2⟩ := q
          simp only [h3] at h
          split at h
          · cases h
          · split at h
            · cases h
            · simp only [Except.ok.injEq, Prod.mk.injEq] at h
              omega
/-- behind Read: the objects, an error -/
def PkEnd (w : World) (r : List ByteArray × Int) (x : Ending) (w' : World) : Prop :=
  ∃ A c, x = .returned (.tuple #[.slice A r.1.length c, .int .i64 r.2]) ∧ r.1.length ≤ c ∧ Txs w' w'.heap.size A r.1 ∧ Below w.heap.size w w'
theorem pk_none {w w' : World} {r : List ByteArray × Int} {e : Int} (hr : r = ([], e)) (b : Below w.heap.size w w') : PkEnd w r (.returned (.tuple #[.slice none 0 0, .int .i64 e])) w' := by
  rw [hr]
  exact ⟨none, 0, rfl, Nat.le_refl _, Txs.nil _ _ _, b⟩
theorem rl_rd {w : World} {g : Nat} {l : List UInt8} (h : RL w g (some l)) : Rd w g (bs l) 0 := by
  unfold RL at h
  exact h.1
def PkRel (w : World) (b0 base g gu gm gi : Nat) (oA : Option Addr) (oc : Nat) (O : List ByteArray) (many : Nat) (l0 : List UInt8) (i : Value) (wr : World) : Prop :=
  ∃ (T : List ByteArray) (D : List Nat) (lc : List UInt8) (v d : Value), i = .int .i64 (T.length : Int) ∧ T.length ≤ many ∧ Un b0 base g gu gm gi oA oc O T D v d wr ∧ RL wr g (some lc) ∧ Kp (fun i => b0 ≤ i) w wr ∧
    (∀ x ∈ T, x.size ≤ 140737488355328) ∧ (∀ n ∈ D, n ≤ 8) ∧ unP O.reverse many [] [] l0 = unP O.reverse (many - T.length) T D lc
theorem kp_below {b0 : Nat} {w w' : World} (h : Kp (fun i => b0 ≤ i) w w') (hb : b0 = w.heap.size) : Below w.heap.size w w' := by
  subst hb
  exact h.below (Nat.le_refl _) (fun _ _ h => h)

set_option maxRecDepth 100000 in
set_option maxHeartbeats 4000000 in
theorem Read_pack (b : ByteArray) (O : List ByteArray) (oA : Option Addr) (oc : Nat) (w : World) (hb : b.size ≤ 140737488355328) (hO : Txs w w.heap.size oA O) (hz : ∀ x ∈ O, x.size ≤ 140737488355328) (hl : O.length * 16 ≤ 140737488355328) (ht : Tab w) :
    Calls Tryd.prog 9 #[.string b, .slice oA O.length oc] w (PkEnd w (readP b.data.toList O.reverse)) := by
  obtain ⟨R, hR⟩ : ∃ R, R = readP b.data.toList O.reverse := ⟨_, rfl⟩
  rw [← hR]
  unfold readP at hR
  have hlen : b.data.toList.length = b.size := rfl
  by_cases h33 : b.size < 33
  · rw [if_pos (.inl (by omega))] at hR
    have HR := Lib.hid hR
    have hi : (b.size : Int) < 33 := by omega
    clear hR
    go_enter Tryd.func9, Tryd.ntmps9
    go_wp2_with fail
    go_ret2
    exact pk_none HR.out (Below.refl _ _)
  have hi : ¬ (b.size : Int) < 33 := by omega
  have hi1 : (1 : Int) ≤ b.size := by omega
  have hx1 : (b.extract 0 1).toList = b.data.toList.take 1 := by rw [toList_data, extract_drop]; simp
  by_cases hP : b.data.toList.take 1 = [80]
  · have hp : ((b.extract 0 1).toList == [80]) = true := by rw [hx1, hP]; rfl
    rw [if_neg (by intro e; rcases e with e | e; · omega
                   · exact e hP)] at hR
    clear hx1 hP
    obtain ⟨n, hn⟩ : ∃ n, n = b.data.toList.length - 32 := ⟨_, rfl⟩
    rw [← hn] at hR
    rw [hlen] at hn
    have e1 : (b.extract 0 n).data.toList = b.data.toList.take n := by rw [extract_drop]; simp
    have e2 : (b.extract n b.size).data.toList = b.data.toList.drop n := by rw [extract_drop, ← hlen, ← List.length_drop, List.take_length]
    have e3 : b.extract 1 n = bs ((b.data.toList.take n).drop 1) := by
      apply bytes_eq
      rw [extract_drop, bs_list, List.drop_take]
    have hll : ((b.data.toList.take n).drop 1).length ≤ 140737488355328 := by rw [List.length_drop, List.length_take]; omega
    generalize (b.data.toList.take n).drop 1 = l at *
    rw [← e1, ← e2] at hR
    have CS := Lib.hid (Sum_any (b.extract 0 n) (by rw [ByteArray.size_extract]; omega) w.drew ht.drew)
    have H5 : Hid ((sha (b.extract 0 n).data.toList = (b.extract n b.size).data.toList) ↔ ((bs (sha (b.extract 0 n).data.toList)).toList == (b.extract n b.size).toList) = true) := by
      show _ ↔ _
      rw [beq_iff_eq, toList_data, toList_data, bs_list]
    generalize bs (sha (b.extract 0 n).data.toList) = S at *
    have hk1 : (0 : Int) ≤ n := by omega
    have hk2 : (n : Int) ≤ b.size := by omega
    have hk4 : (1 : Int) ≤ n := by omega
    have EN : Hid ((b.size : Int) - 32 = (n : Int)) := by show _ = _; omega
    clear hn
    cases h5 : S.toList == (b.extract n b.size).toList with
    | false =>
      rw [if_pos (fun e => by have := H5.out.1 e; rw [h5] at this; cases this)] at hR
      have HR := Lib.hid hR
      clear hR H5 e1 e2 e3 hll
      go_enter Tryd.func9, Tryd.ntmps9
      go_upto_region 4 with fail
      rw [EN.out]
      go_region_held3 (fun _ => True) (exact trivial) (first | (go_at_call 20; (with_reducible refine CS.out.mono ?_); rintro _ W1 ⟨rfl, b1⟩) | fail)
      go_wp2_with fail
      go_ret2
      exact pk_none HR.out ((Below.refl _ _).drew.trans b1)
    | true =>
      rw [if_neg (fun e => e (H5.out.2 h5))] at hR
      unfold bodyP at hR
      have HR0 := Lib.hid hR
      have E3 := Lib.hid e3
      clear hR H5 e1 e2 e3
      go_enter Tryd.func9, Tryd.ntmps9
      go_upto_region 4 with fail
      rw [EN.out]
      go_region_held3 (fun _ => True) (exact trivial) (first | (go_at_call 20; (with_reducible refine CS.out.mono ?_); rintro _ W1 ⟨rfl, b1⟩) | fail)
      go_upto_region 6 with fail
      refine wp_forget (fun V => Below w.heap.size w V ∧ Tab V) (by exact ⟨(Below.refl _ _).drew.trans b1, (ht.drew).below b1 ht.1⟩) ?_
      clear b1 CS
      rintro V ⟨bV, tV⟩
      clear W1
      have q := Lib.hid (Read_any (b.extract 1 n) V)
      go_wp2_with fail
      (with_reducible refine q.out.mono ?_)
      clear q
      rintro _ W1 ⟨rfl, hRd, b1⟩
      have hW1 := bV.trans (b1.mono bV.size)
      have tW1 := tV.below b1 tV.1
      have hgr : w.heap.size ≤ V.heap.size := bV.size
      have hRS : RL W1 V.heap.size (some l) := ⟨by rw [← E3.out]; exact hRd, by omega⟩
      generalize V.heap.size = g at *
      clear bV tV b1 hRd E3 V h5 hk1 hk2 hk4 hp EN
      have q := Lib.hid (rl_num g (some l) W1 hRS)
      have hn62 := stNum_lt (some l)
      cases hnum : rdNum l with
      | none =>
        rw [stNum_n hnum] at q
        have hR := HR0.out
        rw [hnum] at hR
        simp only at hR
        have HR := Lib.hid hR
        clear HR0 hR hnum hn62
        go_wp2_with fail
        (with_reducible refine q.out.mono ?_)
        clear q
        rintro _ W2 ⟨rfl, r2, k2⟩
        go_wp2_with fail
        (with_reducible refine (rl_bad g none W2 r2).mono ?_)
        rintro _ _ ⟨rfl, rfl⟩
        rw [show stE none = 2 from rfl]
        have b2 := below_gb hW1 k2 hgr hW1.size
        go_wp2_with fail
        go_ret2
        exact pk_none HR.out b2
      | some y =>
        obtain ⟨many, r⟩ := y
        rw [stNum_s hnum] at q hn62
        have hR := HR0.out
        rw [hnum] at hR
        simp only at hR q hn62
        have HR1 := Lib.hid hR
        have Q := Lib.hid q
        clear HR0 hR hnum q
        go_wp2_with fail
        (with_reducible refine Q.out.out.mono ?_)
        clear Q
        rintro _ W2 ⟨rfl, r2, k2⟩
        go_wp2_with fail
        (with_reducible refine (rl_bad g (some r) W2 r2).mono ?_)
        rintro _ _ ⟨rfl, rfl⟩
        rw [show stE (some r) = 0 from rfl]
        have b2 := below_gb hW1 k2 hgr hW1.size
        clear hW1 hRS
        by_cases h4 : 400 < many
        · have hR := HR1.out
          rw [if_pos h4] at hR
          have HR := Lib.hid hR
          have hi4 : (400 : Int) < many := by omega
          clear HR1 hR
          go_wp2_with fail
          go_ret2
          exact pk_none HR.out b2
        have hR := HR1.out
        rw [if_neg h4] at hR
        have hi4 : ¬ (400 : Int) < many := by omega
        have HR := Lib.hid hR
        clear HR1 hR
        have tW2 := ht.below b2 ht.1
        have CN := Lib.hid (newUnpacking_any O oA oc W2 ((hO.below b2).mono b2.size) hz hl tW2)
        go_wp2_with fail
        (with_reducible refine CN.out.mono ?_)
        clear CN
        rintro _ W3 ⟨gu, gm, gi, I, rfl, B3, M3, I3, kI, hne, hu, hm, hgi, b3, t3⟩
        have r3 := r2.kept (gb_below (r := none) b3) (by simp)
        have hglt := r2.lt
        have b4 := b2.trans (b3.mono b2.size)
        have hsz2 := b2.size
        have hU : Hid (PkRel w w.heap.size W3.heap.size g gu gm gi oA oc O many r (.int .i64 0) W3) := ⟨[], [], r, .slice none 0 0, .slice none 0 0, rfl, Nat.zero_le _,
          ⟨B3, own_nil _ _ _ _, own_nil _ _ _ _, ⟨[], M3, keys_nil⟩, ⟨I, I3, kI⟩, hO.below b4, hne, B3.lt, M3.lt, I3.lt, Nat.lt_of_lt_of_le hglt b3.size, hgr, by omega, by omega, by omega, by omega, by omega, Nat.le_refl _, rfl⟩,
          r3, Kp.bel b4, (fun x hx => by cases hx), (fun x hx => by cases hx), rfl⟩
        generalize W3.heap.size = base at *
        clear B3 M3 I3 kI hne b3 t3 r3 hglt b4 tW2 r2 k2 b2 tW1 hu hm hgi
        go_wp2_with fail
        go_loopw [46] (fun i wr => PkRel w w.heap.size base g gu gm gi oA oc O many r i wr) (fun i _ => many - (intOf i).toNat)
        case atStart => exact hU.out
        case round =>
          clear hU
          obtain ⟨T, D, lc, v, d, rfl, hle, U, rL, kp, hTz, hDz, he⟩ := hrel
          have HE := Lib.hid he
          clear he
          by_cases hlt : T.length < many
          · have hi : (T.length : Int) < many := by omega
            have CX := Lib.hid (next_any U lc rL (by omega) (by omega) hTz hz hDz)
            have HD := Lib.hid (fun s n q => objP_deep (O := O.reverse) (T := T) (D := D) (l := lc) (s := s) (n := n) (r := q))
            have HE2 : Hid (unP O.reverse many [] [] r = match objP O.reverse T D lc with | .error e => .error e | .ok (s, d, r) => if addP T s ≠ 0 then .error (addP T s) else unP O.reverse (many - (T.length + 1)) (T ++ [s]) (D ++ [d]) r) := by
              show _ = _
              rw [HE.out, show many - T.length = (many - (T.length + 1)) + 1 from by omega]
              rfl
            clear HE
            generalize objP O.reverse T D lc = X at *
            cases X with
            | error e =>
              go_wp2_with fail
              (with_reducible refine CX.out.mono ?_)
              clear CX
              rintro _ W4 ⟨⟨he, rfl⟩, kp4⟩
              go_wp2_with fail
              go_ret2
              have hR := HR.out
              rw [HE2.out] at hR
              exact pk_none hR (kp_below (kp.trans kp4 (fun _ _ h => h)) rfl)
            | ok y =>
              obtain ⟨s, n, q⟩ := y
              have hn8 := HD.out s n q rfl
              have HS := Lib.hid (fun h => addP_small (T := T) (s := s) h)
              simp only at HE2
              go_wp2_with fail
              (with_reducible refine CX.out.mono ?_)
              clear CX
              rintro _ W4 ⟨⟨rfl, hnx⟩, kp4⟩
              generalize addP T s = e at *
              have kp5 := kp.trans kp4 (fun _ _ h => h)
              clear U rL kp kp4
              by_cases he : e = 0
              · subst he
                obtain ⟨⟨v', d', U'⟩, rL'⟩ := hnx rfl
                have hs := HS.out rfl
                have he2 := HE2.out
                rw [if_neg (by simp)] at he2
                have HE3 := Lib.hid he2
                clear hnx HS HE2 he2
                go_wp2_with fail
                go_roundw
                case rel => exact ⟨T ++ [s], D ++ [n], q, v', d', by rw [List.length_append]; simp, by rw [List.length_append]; simp; omega, U', rL', kp5,
                  (fun x hx => by rcases List.mem_append.1 hx with h | h; · exact hTz x h
                                  · rw [List.mem_singleton.1 h]; omega),
                  (fun x hx => by rcases List.mem_append.1 hx with h | h; · exact hDz x h
                                  · rw [List.mem_singleton.1 h]; exact hn8), by rw [List.length_append]; exact HE3.out⟩
                case measure => simp [intOf]; omega
              · have he' : (e != 0) = true := by simpa using he
                have he2 := HE2.out
                rw [if_pos he] at he2
                have HE3 := Lib.hid he2
                clear hnx HS HE2 he2 he
                go_wp2_with fail
                go_ret2
                have hR := HR.out
                rw [HE3.out] at hR
                exact pk_none hR (kp_below kp5 rfl)
          · have hT : T.length = many := by omega
            have hi : ¬ (T.length : Int) < many := by omega
            have he2 : unP O.reverse many [] [] r = .ok (T, lc) := by
              rw [HE.out, hT, Nat.sub_self]
              rfl
            have HE3 := Lib.hid he2
            clear HE he2 hT
            have u0 : wr.cell? ⟨gu, 0, none⟩ = some v := U.box.cell 0
            obtain ⟨A, cc, rfl, hcc, hTx, _⟩ := own_texts U.objs
            go_wp2_with fail
            (with_reducible refine (Left_any g (bs lc) 0 wr (rl_rd rL)).mono ?_)
            rintro _ _ ⟨rfl, rfl⟩
            have hR := HR.out
            rw [HE3.out] at hR
            simp only at hR
            rw [bs_size]
            by_cases hc : lc = []
            · rw [if_pos hc] at hR
              have hi5 : ¬ (0 : Int) < lc.length := by rw [hc]; simp
              have HR2 := Lib.hid hR
              clear hR HR
              go_wp2_with fail
              go_ret2
              rw [HR2.out]
              exact ⟨A, cc, rfl, hcc, hTx, kp_below kp rfl⟩
            · rw [if_neg hc] at hR
              have hi5 : (0 : Int) < lc.length := by have := List.length_pos_iff.2 hc; omega
              have HR2 := Lib.hid hR
              clear hR HR
              go_wp2_with fail
              go_ret2
              exact pk_none HR2.out (kp_below kp rfl)
  · have hp : ((b.extract 0 1).toList == [80]) = false := by rw [hx1, beq_eq_false_iff_ne]; exact hP
    rw [if_pos (.inr hP)] at hR
    have HR := Lib.hid hR
    clear hR hP hx1
    go_enter Tryd.func9, Tryd.ntmps9
    go_wp2_with fail
    go_ret2
    exact pk_none HR.out (Below.refl _ _)
end Go.Proofs.YthigdhiebogffaaDoor

/- pack.Write: its contract. -/
namespace Go.Proofs.YthigdhiebogffaaDoor
open Go.RowKit

theorem Chain.kp {w w' : World} {X : Nat → Prop} (k : Kp X w w') (hr : ∀ g, X g → ∀ cs, ¬ Arr w g 116 cs) : ∀ (ps : List ByteArray) (v : Value), Chain w ps v → Chain w' ps v
  | [], _, h => h
  | _ :: r, _, ⟨g, v', e, hq, hg, hc⟩ => ⟨g, v', e, hq.kp k (fun x => hr g x _ hq), hg, Chain.kp k hr r v' hc⟩
theorem WL.kp {w w' : World} {X : Nat → Prop} {g : Nat} {l : List UInt8} (h : WL w g l) (k : Kp X w w') (hg : ¬ X g) (hr : ∀ g, X g → ∀ cs, ¬ Arr w g 116 cs) : WL w' g l := by
  obtain ⟨ps, ⟨v, ha, hc⟩, e⟩ := h
  exact ⟨ps, ⟨v, ha.kp k hg, Chain.kp k hr ps v hc⟩, e⟩
/-- behind newBases -/
def NbEnd (w : World) (x : Ending) (w' : World) : Prop := x = .returned (.pointer (some ⟨w.heap.size + 1, 0, none⟩)) ∧ Bz (w.heap.size + 1 + 1) (w.heap.size + 1) w.heap.size [] (.slice none 0 0) w' ∧ Below w.heap.size w w'
set_option maxRecDepth 100000 in
theorem newBases_any (w : World) : Calls Tryd.prog 36 #[] w (NbEnd w) := by
  have hmm : ∀ W : World, (Instr.makeMap 46 none).run Tryd.prog W = .ok (.map (some W.heap.size)) (W.alloc (.map #[] 0)) := fun _ => rfl
  have h1 : Hid (Bz (w.heap.size + 1 + 1) (w.heap.size + 1) w.heap.size [] (.slice none 0 0) ((w.alloc (.map #[] 0)).alloc (.cells (dsArr2 (.slice none 0 0) w.heap.size) 107)) ∧ Below w.heap.size w ((w.alloc (.map #[] 0)).alloc (.cells (dsArr2 (.slice none 0 0) w.heap.size) 107))) := by
    have b0 : Below w.heap.size w ((w.alloc (.map #[] 0)).alloc (.cells (dsArr2 (.slice none 0 0) w.heap.size) 107)) := ((Below.refl _ _).alloc (Nat.le_refl _) _).alloc (by simp) _
    have k1 : (w.alloc (.map #[] 0)).grownBy ((w.alloc (.map #[] 0)).alloc (.cells (dsArr2 (.slice none 0 0) w.heap.size) 107)) none := gb_alloc _
    exact ⟨⟨Arr.new_at _ _ _ (by simp), own_nil _ _ _ _, ⟨[], (MapI.new w).kept k1 (by simp), fun x hx => by cases hx⟩, by omega, by omega, by simp⟩, b0⟩
  go_enter Tryd.func36, Tryd.ntmps36
  go_wp2_with fail
  go_ret
  exact ⟨rfl, h1.out.1, h1.out.2⟩
/-- where Write stands inside its loop -/
structure Wk (w : World) (gw gm gd gn gb base : Nat) (T : List ByteArray) (L : List Pb) (v u : Value) (lw : List UInt8) (W : World) : Prop where
  wr : WL W gw lw
  box : Arr W gd 48 (dsArr v gm)
  row : W.ownsRow base 9 1 v T.length (T.map sv)
  mt : ∃ M, MapI W gm M ∧ KeyIs M T
  bz : Bz (gb + 1) gb gn L u W
  bel : Below w.heap.size w W
  o1 : w.heap.size ≤ gw
  o2 : gw < gm
  o3 : gm < gd
  o4 : gd < gn
  o5 : gn < gb
  o6 : gb < base
  o7 : base ≤ W.heap.size
section
variable {w W W' : World} {gw gm gd gn gb base : Nat} {T : List ByteArray} {L : List Pb} {v u : Value} {lw : List UInt8}
theorem Wk.more (h : Wk w gw gm gd gn gb base T L v u lw W) (k : Below W.heap.size W W') : Wk w gw gm gd gn gb base T L v u lw W' := by
  obtain ⟨M, hM, kM⟩ := h.mt
  exact ⟨h.wr.below k, h.box.below k h.box.lt, own_kp h.row (Kp.bel k (X := fun _ => False)) (fun _ _ e => e), ⟨M, hM.below k hM.lt, kM⟩, h.bz.bel k, h.bel.trans (k.mono h.bel.size), h.o1, h.o2, h.o3, h.o4, h.o5, h.o6, Nat.le_trans h.o7 k.size⟩
theorem Wk.wrote (h : Wk w gw gm gd gn gb base T L v u lw W) {lw' : List UInt8} (k : W.grownBy W' (some gw)) (hw : WL W' gw lw') : Wk w gw gm gd gn gb base T L v u lw' W' := by
  obtain ⟨M, hM, kM⟩ := h.mt
  have q1 := h.o1
  have q2 := h.o2
  have q3 := h.o3
  have q4 := h.o4
  have q5 := h.o5
  have q6 := h.o6
  have ne : ∀ g, gw ≠ g → ¬ some gw = some g := fun g hg e => hg (Option.some.inj e)
  exact ⟨hw, h.box.kp (Kp.gb k) (ne _ (by omega)), own_kp h.row (Kp.gb k) (fun q hq => ne _ (by have := own_row_ge h.row q hq; omega)), ⟨M, hM.kp (Kp.gb k) (ne _ (by omega)), kM⟩,
    h.bz.kp (Kp.gb k) (ne _ (by omega)) (ne _ (by omega)) (fun q hq => ne _ (by have := own_row_ge h.bz.row q hq; omega)), below_gb h.bel k (by omega) h.bel.size, q1, q2, q3, q4, q5, q6, Nat.le_trans h.o7 k.size⟩
theorem Wk.added (h : Wk w gw gm gd gn gb base T L v u lw W) {s : ByteArray} {v' : Value} {M' : List KI} (k : Kp (fun i => i = gd ∨ i = gm ∨ v.ownBlock = some i) W W')
    (hb : Arr W' gd 48 (dsArr v' gm)) (ho : W'.ownsRow base 9 1 v' (T ++ [s]).length ((T ++ [s]).map sv)) (hm : MapI W' gm M') (hk : KeyIs M' (T ++ [s])) : Wk w gw gm gd gn gb base (T ++ [s]) L v' u lw W' := by
  have q1 := h.o1
  have q2 := h.o2
  have q3 := h.o3
  have q4 := h.o4
  have q5 := h.o5
  have q6 := h.o6
  have q7 := h.o7
  obtain ⟨M, hM, _⟩ := h.mt
  have f : ∀ q, v.ownBlock = some q → base ≤ q := fun q e => own_row_ge h.row q e
  have ne : ∀ g, g ≠ gd → g ≠ gm → g < base → ¬ (g = gd ∨ g = gm ∨ v.ownBlock = some g) := fun g a b c e => by
    rcases e with e | e | e
    · exact a e
    · exact b e
    · have := f _ e; omega
  refine ⟨h.wr.kp k (ne _ (by omega) (by omega) (by omega)) (fun g e cs hp => ?_), hb, ho, ⟨M', hm, hk⟩, h.bz.kp k (ne _ (by omega) (by omega) (by omega)) (ne _ (by omega) (by omega) (by omega)) (fun q hq e => ?_),
    h.bel.trans (k.below (B := w.heap.size) h.bel.size (fun i _ e => ?_)), q1, q2, q3, q4, q5, q6, Nat.le_trans q7 k.size⟩
  · rcases e with rfl | rfl | e
    · exact Arr.ne h.box hp (by decide) rfl
    · exact map_arr hM hp rfl
    · exact own_ne h.row hp (by decide) e
  · rcases e with e | e | e
    · have := own_row_ge h.bz.row q hq; omega
    · have := own_row_ge h.bz.row q hq; omega
    · exact own_row h.row h.bz.row (by decide) q e hq
  · rcases e with e | e | e
    · omega
    · omega
    · have := f _ e; omega
theorem Wk.based (h : Wk w gw gm gd gn gb base T L v u lw W) {L' : List Pb} {u' : Value} (k : Kp (fun i => i = gb ∨ i = gn ∨ u.ownBlock = some i) W W') (hb : Bz (gb + 1) gb gn L' u' W') : Wk w gw gm gd gn gb base T L' v u' lw W' := by
  have q1 := h.o1
  have q2 := h.o2
  have q3 := h.o3
  have q4 := h.o4
  have q5 := h.o5
  have q6 := h.o6
  have q7 := h.o7
  obtain ⟨M, hM, kM⟩ := h.mt
  obtain ⟨M2, hM2, _⟩ := h.bz.mp
  have f : ∀ q, u.ownBlock = some q → gb + 1 ≤ q := fun q e => own_row_ge h.bz.row q e
  have ne : ∀ g, g ≠ gb → g ≠ gn → g < gb + 1 → ¬ (g = gb ∨ g = gn ∨ u.ownBlock = some g) := fun g a b c e => by
    rcases e with e | e | e
    · exact a e
    · exact b e
    · have := f _ e; omega
  refine ⟨h.wr.kp k (ne _ (by omega) (by omega) (by omega)) (fun g e cs hp => ?_), h.box.kp k (ne _ (by omega) (by omega) (by omega)), own_kp h.row k (fun q hq e => ?_), ⟨M, hM.kp k (ne _ (by omega) (by omega) (by omega)), kM⟩, hb,
    h.bel.trans (k.below (B := w.heap.size) h.bel.size (fun i _ e => ?_)), q1, q2, q3, q4, q5, q6, Nat.le_trans q7 k.size⟩
  · rcases e with rfl | rfl | e
    · exact Arr.ne h.bz.box hp (by decide) rfl
    · exact map_arr hM2 hp rfl
    · exact own_ne h.bz.row hp (by decide) e
  · rcases e with e | e | e
    · have := own_row_ge h.row q hq; omega
    · have := own_row_ge h.row q hq; omega
    · exact own_row h.row h.bz.row (by decide) q hq e
  · rcases e with e | e | e
    · omega
    · omega
    · have := f _ e; omega
end
def WrRel (l : List ByteArray) (w : World) (gw gm gd gn gb base : Nat) (i : Value) (wr : World) : Prop :=
  ∃ (k : Nat) (D : List Nat) (L : List Pb) (v u : Value) (b : List UInt8), k ≤ l.length ∧ i = .int .i64 (k : Int) ∧ Wk w gw gm gd gn gb base (l.take k) L v u (front l.length b) wr ∧ Packed (l.take k) D b ∧ LOk (l.take k) D L ∧
    L.length ≤ k ∧ (∀ x ∈ l.take k, x.size ≤ 8192) ∧ mayE [] l = mayE (l.take k) (l.drop k)

set_option maxRecDepth 100000 in
set_option maxHeartbeats 2000000 in
theorem Write_any (l O : List ByteArray) (lA oA : Option Addr) (lcp oc : Nat) (w : World) (hl : Txs w w.heap.size lA l) (_ : Txs w w.heap.size oA O) (_ : ∀ x ∈ O, x.size ≤ 140737488355328) (hll : l.length ≤ 140737488355328) (hol : O.length ≤ 140737488355328) (ht : Tab w) :
    Calls Tryd.prog 13 #[.slice lA l.length lcp, .slice oA O.length oc] w (WEnd l O w) := by
  obtain ⟨R, hR⟩ : ∃ R, R = mayP l O := ⟨_, rfl⟩
  unfold WEnd
  rw [← hR]
  unfold mayP at hR
  by_cases h1 : 400 < l.length
  · rw [if_pos (.inl h1)] at hR
    subst hR
    have hi : (400 : Int) < l.length := by omega
    go_enter Tryd.func13, Tryd.ntmps13
    go_wp2_with fail
    go_ret2
    exact wend_err (by decide) (Below.refl _ _)
  have hi : ¬ (400 : Int) < l.length := by omega
  by_cases h2 : 400 < O.length
  · rw [if_pos (.inr h2)] at hR
    subst hR
    have hi2 : (400 : Int) < O.length := by omega
    go_enter Tryd.func13, Tryd.ntmps13
    go_wp2_with fail
    go_ret2
    exact wend_err (by decide) (Below.refl _ _)
  have hi2 : ¬ (400 : Int) < O.length := by omega
  rw [if_neg (by omega)] at hR
  have HR := Lib.hid hR
  have HT := Lib.hid ht
  clear hR ht
  have w0 : WL (w.alloc (.cells #[.pointer none, .int .i64 0, .int .i64 0] 65)) w.heap.size [] := wl_zero _ (Arr.new _ _ _)
  have b0 : Below w.heap.size w (w.alloc (.cells #[.pointer none, .int .i64 0, .int .i64 0] 65)) := (Below.refl _ _).alloc (Nat.le_refl _) _
  go_enter Tryd.func13, Tryd.ntmps13
  go_upto_region 4 with fail
  refine wp_forget (fun V => WL V w.heap.size [] ∧ Below w.heap.size w V) (by exact ⟨w0, b0⟩) ?_
  clear w0 b0
  rintro V ⟨w0, b0⟩
  have q := Lib.hid (wl_put w.heap.size [] ⟨#[80]⟩ (by decide) (by decide) V w0)
  go_wp2_with fail
  (with_reducible refine q.out.mono ?_)
  clear q
  rintro _ V1 ⟨rfl, w1, k1⟩
  have b1 := below_gb b0 k1 (Nat.le_refl _) b0.size
  clear w0 b0 k1
  have q := Lib.hid (wl_number w.heap.size ([] ++ (⟨#[80]⟩ : ByteArray).data.toList) l.length (by omega) (by decide) V1 w1)
  go_wp2_with fail
  (with_reducible refine q.out.mono ?_)
  clear q
  rintro _ V2 ⟨rfl, w2, k2⟩
  have b2 := below_gb b1 k2 (Nat.le_refl _) b1.size
  clear w1 b1 k2
  clear V V1
  have q : Hid (Calls Tryd.prog 35 #[] V2 fun x w' => x = .returned (.agg #[.slice none 0 0, .map (some (V2.heap.size + 1))]) ∧ MapI w' (V2.heap.size + 1) [] ∧ Below V2.heap.size V2 w') := newDistinct_any V2
  go_wp2_with fail
  (with_reducible refine q.out.mono ?_)
  clear q
  rintro _ V3 ⟨rfl, m3, b3⟩
  have hg2 := w2.lt
  have hg3 := m3.lt
  have bb : Below V3.heap.size V3 (V3.alloc (.cells (dsArr (.slice none 0 0) (V2.heap.size + 1)) 48)) := (Below.refl _ _).alloc (Nat.le_refl _) _
  have A4 : Arr (V3.alloc (.cells (dsArr (.slice none 0 0) (V2.heap.size + 1)) 48)) V3.heap.size 48 (dsArr (.slice none 0 0) (V2.heap.size + 1)) := Arr.new _ _ _
  have hs4 : V3.heap.size < (V3.alloc (.cells (dsArr (.slice none 0 0) (V2.heap.size + 1)) 48)).heap.size := A4.lt
  go_upto_region 7 with fail
  refine wp_forget (fun V => WL V w.heap.size (front l.length []) ∧ Below w.heap.size w V ∧ MapI V (V2.heap.size + 1) [] ∧ Arr V V3.heap.size 48 (dsArr (.slice none 0 0) (V2.heap.size + 1)) ∧ V3.heap.size < V.heap.size)
    (by exact ⟨by have := (w2.below b3).below bb; simp only [front, List.append_nil]; exact this, (b2.trans (b3.mono b2.size)).trans (bb.mono (Nat.le_trans b2.size b3.size)), m3.below bb m3.lt, A4, hs4⟩) ?_
  clear bb A4 hs4 m3 b3 w2 b2
  have hgm : w.heap.size < V2.heap.size + 1 := by omega
  clear hg2
  generalize V2.heap.size + 1 = gm at *
  generalize V3.heap.size = gd at *
  clear V2 V3
  rintro V ⟨w4, b4, m4, A4, hs4⟩
  have q := Lib.hid (newBases_any V)
  go_wp2_with fail
  (with_reducible refine q.out.mono ?_)
  clear q
  rintro _ V5 ⟨rfl, B5, b5⟩
  have b45 := b4.trans (b5.mono b4.size)
  have hR0 : Hid (WrRel l w w.heap.size gm gd V.heap.size (V.heap.size + 1) V5.heap.size (.int .i64 0) V5) :=
    ⟨0, [], [], .slice none 0 0, .slice none 0 0, [], Nat.zero_le _, rfl, ⟨w4.below b5, A4.below b5 A4.lt, own_nil _ _ _ _, ⟨[], m4.below b5 m4.lt, keys_nil⟩, B5, b45, Nat.le_refl _, hgm, hg3, hs4, by omega, B5.box.lt, Nat.le_refl _⟩,
      .nil, lok_nil, Nat.zero_le _, (fun x hx => by simp at hx), rfl⟩
  clear w4 b4 m4 A4 hs4 B5 b5 b45 hg3 hgm
  generalize V5.heap.size = base at *
  generalize V.heap.size = gn at *
  clear V
  go_wp2_with fail
  go_loopw [32] (fun i wr => WrRel l w w.heap.size gm gd gn (gn + 1) base i wr) (fun i _ => l.length - (intOf i).toNat)
  case atStart => exact hR0.out
  case round =>
    clear hR0
    clear V5
    obtain ⟨k, D, L, v, u, b, hk, rfl, K, hPk, hLk, hLl, hTz, hm⟩ := hrel
    have hpd := packed_deep hPk
    have hpl := packed_len hPk hTz
    have hbl := bulk_le _ hTz
    have htl : (l.take k).length = k := by rw [List.length_take]; omega
    rw [htl] at hbl hpd
    have HPd := Lib.hid hpd
    have HTl := Lib.hid htl
    clear hpd
    by_cases hlt : k < l.length
    · have hj : (k : Int) < l.length := by omega
      have hx : l[k]? = some l[k] := List.getElem?_eq_getElem hlt
      obtain ⟨ad, rfl, hbl2, h0⟩ := hl k l[k] hx
      have g0 := (K.bel.cell hbl2).trans h0
      have HM := Lib.hid (may_next hx hm)
      have HTk := Lib.hid (take_next hx)
      have HPk := Lib.hid hPk
      have HLk := Lib.hid hLk
      have HTz := Lib.hid hTz
      obtain ⟨M, hM, kM⟩ := K.mt
      have CA := Lib.hid (add_any gd 48 _ v gm (l.take k) M base l[k] wr K.box rfl rfl K.row hM kM (by omega) (by have := K.o4; have := K.o5; have := K.o6; omega) (by have := K.o3; have := K.o4; have := K.o5; have := K.o6; omega) K.o7)
      have HS : Hid (addP (l.take k) l[k] = 0 → l[k].size ≤ 8192) := fun h => addP_small h
      clear h0 hx hm hPk hLk hTz
      generalize l[k] = s at *
      generalize hT : l.take k = T at *
      have htle : T.length ≤ 400 := by omega
      clear hT htl
      go_wp2_with fail
      (with_reducible refine CA.out.mono ?_)
      clear CA g0
      rintro _ W2 ⟨rfl, kp2, hE⟩
      generalize addP T s = e at *
      by_cases he : e = 0
      · subst he
        obtain ⟨v', M', a2, o2, m2, k2⟩ := hE rfl
        have hs := HS.out rfl
        have K2 := K.added kp2 a2 o2 m2 k2
        have hmm := HM.out
        rw [if_neg (by simp)] at hmm
        have HM2 := Lib.hid hmm
        clear hE HM hmm K kp2 a2 o2 m2 k2 hM kM HS
        have CE := Lib.hid (encodeObject_any K2.bz (fun b hb => (HLk.out b hb).1) s hs (by omega))
        go_wp2_with fail
        (with_reducible refine CE.out.mono ?_)
        clear CE
        rintro _ W3 ⟨en, n, hEn, rfl, b3⟩
        have K3 := K2.more b3
        have hst := enc_stp HLk.out hEn
        have hsl := stp_len hst hs
        have HSt := Lib.hid hst
        have hfl : (front l.length b).length ≤ 10000000 := by
          unfold front
          rw [List.length_append, List.length_append]
          have := num_len9 l.length (by omega)
          simp only [List.length_cons, List.length_nil]
          omega
        clear K2 b3 hst hEn
        have CW := Lib.hid (wl_put w.heap.size (front l.length b) (bs en) (by rw [bs_size]; omega) (by omega) W3 K3.wr)
        rw [bs_list] at CW
        go_wp2_with fail
        (with_reducible refine CW.out.mono ?_)
        clear CW
        rintro _ W4 ⟨rfl, w4, k4⟩
        have K4 := K3.wrote k4 w4
        clear K3 k4 w4
        have hn8 : n ≤ 8 := (packed_deep (.snoc HPk.out HSt.out)).2 n (by simp)
        have CB : Hid (Calls Tryd.prog 39 #[.pointer (some ⟨gn + 1, 0, none⟩), .agg #[.string s, .int .i64 (k : Int), .int .i64 (n : Int)]] W4 (AdEnd (gn + 1 + 1) (gn + 1) gn L ⟨s, k, n⟩ u W4)) :=
          addBase_any K4.bz ⟨s, k, n⟩ (by show s.size ≤ 100000; omega) (by omega)
        go_wp2_with fail
        (with_reducible refine CB.out.mono ?_)
        clear CB
        rintro _ W5 ⟨rfl, kp5, u5, B5⟩
        have K5 := K4.based kp5 B5
        clear K4 kp5 B5
        have hlk2 := lok_more (s := s) (n := n) HLk.out (by rw [HTl.out]; exact HPd.out.1) hs (by rw [HTl.out]; omega) hn8
        rw [HTl.out] at hlk2
        have HLk2 := Lib.hid hlk2
        clear hlk2
        go_wp2_with fail
        go_roundw
        case rel =>
          refine ⟨k + 1, D ++ [n], (if 8 ≤ n then L else L ++ [⟨s, k, n⟩]), v', u5, b ++ en, hlt, by rw [Int.natCast_add]; rfl, ?_, ?_, ?_, ?_, ?_, HM2.out⟩
          · rw [HTk.out]
            have : front l.length b ++ en = front l.length (b ++ en) := by unfold front; simp only [List.append_assoc]
            rw [← this]
            exact K5
          · rw [HTk.out]; exact .snoc HPk.out HSt.out
          · rw [HTk.out]; exact HLk2.out
          · split
            · omega
            · rw [List.length_append]; simp; omega
          · rw [HTk.out]
            intro x hx
            rcases List.mem_append.1 hx with h | h
            · exact HTz.out x h
            · rw [List.mem_singleton.1 h]; exact hs
        case measure => simp [intOf]; omega
      · have he' : (e != 0) = true := by simpa using he
        have hmm := HM.out
        rw [if_pos he] at hmm
        have hRR := HR.out
        rw [hmm] at hRR
        subst hRR
        have bel2 := K.bel.trans (kp2.below (B := w.heap.size) K.bel.size (fun i _ e => by
          have := K.o1; have := K.o2; have := K.o3; have := K.o4; have := K.o5; have := K.o6
          rcases e with e | e | e
          · omega
          · omega
          · have := own_row_ge K.row _ e; omega))
        clear hE HM hmm HS
        go_wp2_with fail
        go_ret2
        exact wend_err he bel2
    · obtain rfl : k = l.length := by omega
      have hj : ¬ (l.length : Int) < l.length := by omega
      rw [List.take_length] at K hPk hTz hpl hbl
      rw [List.take_length, List.drop_length] at hm
      have hRR := HR.out
      rw [hm] at hRR
      have hR0' : R = 0 := hRR
      subst hR0'
      have hfl : (front l.length b).length ≤ 10000000 := by
        unfold front
        rw [List.length_append, List.length_append]
        have := num_len9 l.length (by omega)
        simp only [List.length_cons, List.length_nil]
        omega
      have HPk := Lib.hid hPk
      have HTz := Lib.hid hTz
      clear hm hRR hPk hTz hLk htl HR
      have CW := Lib.hid (wl_done w.heap.size (front l.length b) (by omega) wr K.wr)
      have hfs : (bs (front l.length b)).size ≤ 10000000 := by rw [bs_size]; exact hfl
      have HFs := Lib.hid (bs_list (front l.length b))
      generalize hF : bs (front l.length b) = F at *
      have HF := Lib.hid hF
      clear hF
      go_wp2_with fail
      (with_reducible refine CW.out.mono ?_)
      clear CW
      rintro _ W2 ⟨rfl, b2⟩
      have bel2 := K.bel.trans (b2.mono K.bel.size)
      have CS := Lib.hid (Sum_any F (by omega) W2 (HT.out.below bel2 HT.out.1))
      have hss : (bs (sha F.data.toList)).size = 32 := by rw [bs_size, sha_32]
      generalize hG : bs (sha F.data.toList) = G at *
      have HG := Lib.hid hG
      clear hG
      clear K
      go_wp2_with fail
      (with_reducible refine CS.out.mono ?_)
      clear CS
      rintro _ W3 ⟨rfl, b3⟩
      go_wp2_with fail
      go_ret2
      have hend := wend_ok (D := D) HPk.out HTz.out (bel2.trans (b3.mono bel2.size))
      rw [show bs (front l.length b ++ sha (front l.length b)) = F ++ G from by
        apply bytes_eq
        rw [bs_list, append_list, ← HG.out, bs_list, HFs.out]] at hend
      exact hend
end Go.Proofs.YthigdhiebogffaaDoor

/- law.owned: its contract. -/
namespace Go.Proofs.YthigdhiebogffaaDoor
open Go.RowKit

/-- where owned stands: the object's block, the result's block -/
structure Ow (w : World) (o : Ob) (p : At) (W : World) : Prop where
  box : Arr W w.heap.size 60 (obArr o p)
  res : Arr W (w.heap.size + 1) 60 zeroO
  bel : Below w.heap.size w W
theorem ow_start (w : World) (o : Ob) (p : At) : Ow w o p ((w.alloc (.cells (obArr o p) 60)).alloc (.cells zeroO 60)) :=
  ⟨(Arr.new _ _ _).alloc _, Arr.new_at _ _ _ (by simp), ((Below.refl _ _).alloc (Nat.le_refl _) _).alloc (by simp) _⟩
theorem Ow.grow {w W W' : World} {o : Ob} {p : At} (h : Ow w o p W) (k : W.grownBy W' none) : Ow w o p W' :=
  ⟨h.box.kept k (by simp), h.res.kept k (by simp), h.bel.grown k h.bel.size (fun _ e => by cases e)⟩
theorem Ow.drew {w W : World} {o : Ob} {p : At} (h : Ow w o p W) : Ow w o p W.drew := ⟨h.box, h.res, h.bel.drew⟩
/-- behind the two stores -/
structure Ow2 (w : World) (o : Ob) (p : At) (W : World) : Prop where
  ow : Ow w o p W
  ins : ObIn W W.heap.size o p
  far : Above (w.heap.size + 1) p
theorem Ow.put {w W : World} {o o' : Ob} {p p' : At} (h : Ow w o p W) (i : Nat) (v : Value) (e : (obArr o p).setIfInBounds i v = obArr o' p') : Ow w o' p' (W.setCell ⟨w.heap.size, i, none⟩ v) := by
  have k : W.grownBy (W.setCell ⟨w.heap.size, i, none⟩ v) (some w.heap.size) := gb_set w.heap.size i v
  exact ⟨by rw [← e]; exact h.box.put i v, h.res.kept k (fun e => by simp at e), h.bel.grown k h.bel.size (fun _ e => by cases e; exact Nat.le_refl _)⟩
/-- behind owned: the same object, in slices of its own -/
def OwEnd (w : World) (o : Ob) (x : Ending) (w' : World) : Prop := ∃ p', x = .returned (.agg (obArr o p')) ∧ ObIn w' w'.heap.size o p' ∧ Below w.heap.size w w'
theorem Ens.grow {w w' : World} {A : Option Addr} {L : List Ent} (h : Ens w w.heap.size A L) (k : w.grownBy w' none) : Ens w' w'.heap.size A L := fun j x hx => by
  obtain ⟨ad, e, hb, h0, h1, h2⟩ := h j x hx
  exact ⟨ad, e, Nat.lt_of_lt_of_le hb k.size, (gb_cell k hb (by simp)).trans h0, (gb_cell (p := ⟨(ad.add (j * 3)).block, (ad.add (j * 3)).off + 1, none⟩) k hb (by simp)).trans h1, (gb_cell (p := ⟨(ad.add (j * 3)).block, (ad.add (j * 3)).off + 2, none⟩) k hb (by simp)).trans h2⟩
theorem Txs.grow {w w' : World} {A : Option Addr} {T : List ByteArray} (h : Txs w w.heap.size A T) (k : w.grownBy w' none) : Txs w' w'.heap.size A T := fun j x hx => by
  obtain ⟨ad, e, hb, h0⟩ := h j x hx
  exact ⟨ad, e, Nat.lt_of_lt_of_le hb k.size, (gb_cell k hb (by simp)).trans h0⟩

end Go.Proofs.YthigdhiebogffaaDoor
