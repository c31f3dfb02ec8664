/- ref.ReadPack: its contract. -/
import Derived.Test.YthigdhiebogffaaDoorOLinks
import Derived.Test.YthigdhiebogffaaDoorOMapB
import Derived.Test.YthigdhiebogffaaDoorORefSame
import Derived.Test.YthigdhiebogffaaDoorRefSum
import Derived.Deep.RegionHeld3
namespace Go.Proofs.YthigdhiebogffaaDoor
open Go.RowKit

/-- the ids of the first j texts, as cells -/
def idRow (O : List ByteArray) (j : Nat) : List Value := ((O.take j).map idOf).map sv
theorem idRow_next {O : List ByteArray} {j : Nat} {x : ByteArray} (h : O[j]? = some x) : idRow O (j + 1) = idRow O j ++ [.string (idOf x)] := by
  unfold idRow
  rw [take_next h, List.map_append, List.map_append]
  rfl
theorem idRow_all (O : List ByteArray) : idRow O O.length = (O.map idOf).map sv := by unfold idRow; rw [List.take_length]
theorem idRow_at {O : List ByteArray} {j : Nat} {x : ByteArray} (h : O[j]? = some x) : (idRow O O.length)[j]? = some (.string (idOf x)) := by
  rw [idRow_all, List.getElem?_map, List.getElem?_map, h]
  rfl
theorem start_of {l r : List UInt8} {p : Rp} (h : stStart (some l) = (p, some r)) : rdStart l = some (p, r) := by
  cases hr : rdStart l with
  | none => have := stStart_none hr; rw [h] at this; cases this
  | some y =>
    obtain ⟨q, r2⟩ := y
    have := stStart_some hr
    rw [h] at this
    simp only [Prod.mk.injEq, Option.some.injEq] at this
    rw [this.1, this.2]
theorem start_no {l : List UInt8} {p : Rp} (h : stStart (some l) = (p, none)) : rdStart l = none := by
  cases hr : rdStart l with
  | none => rfl
  | some y =>
    obtain ⟨q, r2⟩ := y
    have := stStart_some hr
    rw [h] at this
    simp at this
theorem start_0 {l l1 : List UInt8} (h : rdNum l = some (0, l1)) : stStart (some l) = (⟨0, 0, ⟨#[]⟩, (stTake (stNum (some l1)).1 (stNum (some l1)).2).1⟩, (stTake (stNum (some l1)).1 (stNum (some l1)).2).2) := by
  unfold stStart
  rw [stNum_s h]
  rfl
theorem start_1 {l l1 : List UInt8} (h : rdNum l = some (1, l1)) : stStart (some l) = (⟨1, (stNum (some l1)).1, ⟨#[]⟩, ⟨#[]⟩⟩, (stNum (some l1)).2) := by
  unfold stStart
  rw [stNum_s h]
  rfl
theorem start_2 {l l1 : List UInt8} (h : rdNum l = some (2, l1)) : stStart (some l) = (⟨2, 0, (stTake 32 (some l1)).1, ⟨#[]⟩⟩, (stTake 32 (some l1)).2) := by
  unfold stStart
  rw [stNum_s h]
  rfl
/-- what the look for an id among the first j texts has found -/
def found (O : List ByteArray) (id : ByteArray) (j : Nat) : ByteArray × Bool := match lastId id (O.take j) with
  | none => (⟨#[]⟩, false)
  | some x => (x, true)
theorem found_next {O : List ByteArray} {id x : ByteArray} {j : Nat} (h : O[j]? = some x) : found O id (j + 1) = if idOf x = id then (x, true) else found O id j := by
  unfold found
  rw [take_next h, lastId_push]
  by_cases e : idOf x = id
  · simp only [if_pos e]
  · simp only [if_neg e]
/-- where ReadPack stands inside its loop: the cursor, the ids, the objects, the lengths of their chains -/
structure Rk (w : World) (b1 base g : Nat) (iA : Option Addr) (ic : Nat) (oA : Option Addr) (O T : List ByteArray) (D : List Nat) (v d : Value) (lc : List UInt8) (W : World) : Prop where
  cur : CL W g (some lc)
  ids : W.ownsRow b1 9 1 (.slice iA O.length ic) O.length (idRow O O.length)
  idb : ∀ ad, iA = some ad → ad.block < base
  objs : W.ownsRow base 9 1 v T.length (T.map sv)
  deps : W.ownsRow base 3 1 d D.length (D.map iv)
  outs : Txs W w.heap.size oA O
  bel : Below w.heap.size w W
  hw : w.heap.size ≤ g
  hg : g < b1
  h1 : b1 ≤ base
  hb : base ≤ W.heap.size
  len : T.length = D.length
section
variable {w W W' : World} {b1 base g : Nat} {iA : Option Addr} {ic : Nat} {oA : Option Addr} {O T : List ByteArray} {D : List Nat} {v d : Value} {lc l2 : List UInt8}
theorem Rk.keep (h : Rk w b1 base g iA ic oA O T D v d lc W) {X : Nat → Prop} (k : Kp X W W') (hx : ∀ i, X i → i = g) (c : CL W' g (some l2)) : Rk w b1 base g iA ic oA O T D v d l2 W' := by
  have q1 := h.hw
  have q2 := h.hg
  have q3 := h.h1
  have q4 := h.hb
  refine ⟨c, own_kp h.ids k (fun q hq x => by have := own_row_ge h.ids q hq; have := hx _ x; omega), h.idb, own_kp h.objs k (fun q hq x => by have := own_row_ge h.objs q hq; have := hx _ x; omega), own_kp h.deps k (fun q hq x => by have := own_row_ge h.deps q hq; have := hx _ x; omega),
    h.outs.kp k (by omega) (fun i hi x => by have := hx _ x; omega), ?_, h.hw, h.hg, h.h1, Nat.le_trans h.hb k.size, h.len⟩
  have := h.bel.trans ((k.below (B := w.heap.size) (by omega) (fun i _ x => by have := hx _ x; omega)))
  exact this
theorem Rk.gb (h : Rk w b1 base g iA ic oA O T D v d lc W) (k : W.grownBy W' (some g)) (c : CL W' g (some l2)) : Rk w b1 base g iA ic oA O T D v d l2 W' := h.keep (Kp.gb k) (fun _ e => (Option.some.inj e).symm) c
theorem Rk.more (h : Rk w b1 base g iA ic oA O T D v d lc W) (k : Below W.heap.size W W') : Rk w b1 base g iA ic oA O T D v d lc W' := h.keep (X := fun _ => False) (Kp.bel k) (fun _ e => e.elim) (h.cur.bel k)
theorem Rk.app2 (h : Rk w b1 base g iA ic oA O T D v d lc W) {W1 : World} {v' d' : Value} {s : ByteArray} {n : Nat} (k1 : Kp (fun i => v.ownBlock = some i) W W1) (o1 : W1.ownsRow base 9 1 v' (T.length + 1) (T.map sv ++ [.string s]))
    (k2 : Kp (fun i => d.ownBlock = some i) W1 W') (o2 : W'.ownsRow base 3 1 d' (D.length + 1) (D.map iv ++ [.int .i64 (n : Int)])) : Rk w b1 base g iA ic oA O (T ++ [s]) (D ++ [n]) v' d' lc W' := by
  have q1 := h.hw
  have q2 := h.hg
  have q3 := h.h1
  have q4 := h.hb
  have f1 : ∀ q, v.ownBlock = some q → base ≤ q := fun q e => own_row_ge h.objs q e
  have f2 : ∀ q, d.ownBlock = some q → base ≤ q := fun q e => own_row_ge h.deps q e
  have d1 := own_kp h.deps k1 (fun q hq e => own_row h.deps h.objs (by decide) q hq e)
  have hs1 : base ≤ W1.heap.size := Nat.le_trans q4 k1.size
  have hid : ∀ q, (Value.slice iA O.length ic).ownBlock = some q → q < base := fun q e => by
    cases iA with
    | none => cases e
    | some ad => cases e; exact h.idb ad rfl
  refine ⟨(h.cur.kp k1 (fun e => by have := f1 _ e; omega)).kp k2 (fun e => by have := f2 _ e; omega),
    own_kp (own_kp h.ids k1 (fun q hq e => by have := f1 _ e; have := hid _ hq; omega)) k2 (fun q hq e => by have := f2 _ e; have := hid _ hq; omega), h.idb,
    ?_, ?_, (h.outs.kp k1 (by omega) (fun i hi e => by have := f1 _ e; omega)).kp k2 (by omega) (fun i hi e => by have := f2 _ e; omega), ?_, q1, q2, q3, Nat.le_trans hs1 k2.size, by simp [h.len]⟩
  · rw [List.length_append, List.map_append]
    exact own_kp o1 k2 (fun q hq e => own_row o1 d1 (by decide) q hq e)
  · rw [List.length_append, List.map_append]
    exact o2
  · exact (h.bel.trans (k1.below (B := w.heap.size) (by omega) (fun i _ e => by have := f1 _ e; omega))).trans (k2.below (B := w.heap.size) (by omega) (fun i _ e => by have := f2 _ e; omega))
theorem Rk.drewN (h : Rk w b1 base g iA ic oA O T D v d lc W) (n : Nat) : Rk w b1 base g iA ic oA O T D v d lc (W.drewN n) :=
  h.more ⟨rfl, rfl, rfl, Nat.le_refl _, fun _ _ => rfl⟩
/-- behind a call that spoilt the cursor -/
theorem Rk.end (h : Rk w b1 base g iA ic oA O T D v d lc W) (k : W.grownBy W' (some g)) : Below w.heap.size w W' := below_gb h.bel k h.hw h.bel.size
end
def IRel (w : World) (b1 g : Nat) (O : List ByteArray) (l : List UInt8) (v i : Value) (wr : World) : Prop :=
  ∃ j : Nat, j ≤ O.length ∧ i = .int .i64 (j : Int) ∧ wr.ownsRow b1 9 1 v j (idRow O j) ∧ CL wr g (some l) ∧ Below w.heap.size w wr ∧ b1 ≤ wr.heap.size
def RkRel (w : World) (b1 base g : Nat) (iA : Option Addr) (ic : Nat) (oA : Option Addr) (O : List ByteArray) (many : Nat) (l0 : List UInt8) (v d i : Value) (wr : World) : Prop :=
  ∃ (T : List ByteArray) (D : List Nat) (lc : List UInt8), i = .int .i64 (T.length : Int) ∧ T.length ≤ many ∧ Rk w b1 base g iA ic oA O T D v d lc wr ∧
    (∀ x ∈ T, x.size ≤ 140737488355328) ∧ (∀ n ∈ D, n ≤ 8) ∧ unP O many [] [] l0 = unP O (many - T.length) T D lc

set_option maxRecDepth 100000 in
set_option maxHeartbeats 4000000 in
theorem ReadPack_any (b : ByteArray) (O : List ByteArray) (oA : Option Addr) (oc : Nat) (w : World) (hb : b.size ≤ 140737488355328) (hO : Txs w w.heap.size oA O) (hz : ∀ x ∈ O, x.size ≤ 140737488355328) (hl : O.length ≤ 1000000) :
    Calls Tryd.prog 11 #[.string b, .slice oA O.length oc] w (PkEnd w (readP b.data.toList O)) := by
  obtain ⟨si, hsi, sz0, sz1, sz2⟩ := info_parts info_str
  have Hsi := Lib.hid hsi
  have Sz0 := Lib.hid sz0
  have Sz1 := Lib.hid sz1
  have Sz2 := Lib.hid sz2
  clear hsi sz0 sz1 sz2
  obtain ⟨ii, hsi, sz0, sz1, sz2⟩ := info_parts info_int
  have Hii := Lib.hid hsi
  have Iz0 := Lib.hid sz0
  have Iz1 := Lib.hid sz1
  have Iz2 := Lib.hid sz2
  clear hsi sz0 sz1 sz2
  obtain ⟨R, hR⟩ : ∃ R, R = readP b.data.toList O := ⟨_, rfl⟩
  rw [← hR]
  unfold readP at hR
  have hlen : b.data.toList.length = b.size := rfl
  by_cases h33 : b.size < 33
  · rw [if_pos (.inl (by omega))] at hR
    have HR := Lib.hid hR
    have hi : (b.size : Int) < 33 := by omega
    clear hR
    go_enter Tryd.func11, Tryd.ntmps11
    go_wp2_with fail
    go_ret2
    exact pk_none HR.out (Below.refl _ _)
  have hi : ¬ (b.size : Int) < 33 := by omega
  have hi1 : (1 : Int) ≤ b.size := by omega
  have hx1 : (b.extract 0 1).toList = b.data.toList.take 1 := by rw [toList_data, extract_drop]; simp
  by_cases hP : b.data.toList.take 1 = [80]
  case neg =>
    have hp : ((b.extract 0 1).toList == [80]) = false := by rw [hx1, beq_eq_false_iff_ne]; exact hP
    rw [if_pos (.inr hP)] at hR
    have HR := Lib.hid hR
    clear hR hP hx1
    go_enter Tryd.func11, Tryd.ntmps11
    go_wp2_with fail
    go_ret2
    exact pk_none HR.out (Below.refl _ _)
  have hp : ((b.extract 0 1).toList == [80]) = true := by rw [hx1, hP]; rfl
  rw [if_neg (by intro e; rcases e with e | e; · omega
                 · exact e hP)] at hR
  clear hx1 hP
  obtain ⟨n, hn⟩ : ∃ n, n = b.data.toList.length - 32 := ⟨_, rfl⟩
  rw [← hn] at hR
  rw [hlen] at hn
  have e1 : (b.extract 0 n).data.toList = b.data.toList.take n := by rw [extract_drop]; simp
  have e2 : (b.extract n b.size).data.toList = b.data.toList.drop n := by rw [extract_drop, ← hlen, ← List.length_drop, List.take_length]
  have e3 : b.extract 1 n = bs ((b.data.toList.take n).drop 1) := by
    apply bytes_eq
    rw [extract_drop, bs_list, List.drop_take]
  have hll : ((b.data.toList.take n).drop 1).length ≤ 140737488355328 := by rw [List.length_drop, List.length_take]; omega
  generalize (b.data.toList.take n).drop 1 = l at *
  rw [← e1, ← e2] at hR
  have CS := Lib.hid (RefSum_any (b.extract 0 n) (by rw [ByteArray.size_extract]; omega) w.drew)
  have H5 : Hid ((sha (b.extract 0 n).data.toList = (b.extract n b.size).data.toList) ↔ ((bs (sha (b.extract 0 n).data.toList)).toList == (b.extract n b.size).toList) = true) := by
    show _ ↔ _
    rw [beq_iff_eq, toList_data, toList_data, bs_list]
  generalize bs (sha (b.extract 0 n).data.toList) = S at *
  have hk1 : (0 : Int) ≤ n := by omega
  have hk2 : (n : Int) ≤ b.size := by omega
  have hk4 : (1 : Int) ≤ n := by omega
  have EN : Hid ((b.size : Int) - 32 = (n : Int)) := by show _ = _; omega
  clear hn
  cases h5 : S.toList == (b.extract n b.size).toList with
  | false =>
    rw [if_pos (fun e => by have := H5.out.1 e; rw [h5] at this; cases this)] at hR
    have HR := Lib.hid hR
    clear hR H5 e1 e2 e3 hll
    go_enter Tryd.func11, Tryd.ntmps11
    go_upto_region 4 with fail
    rw [EN.out]
    go_region_held3 (fun _ => True) (exact trivial) (first | (go_at_call 27; (with_reducible refine CS.out.mono ?_); rintro _ W1 ⟨rfl, b1⟩) | fail)
    go_wp2_with fail
    go_ret2
    exact pk_none HR.out ((Below.refl _ _).drew.trans b1)
  | true =>
    rw [if_neg (fun e => e (H5.out.2 h5))] at hR
    unfold bodyP at hR
    have HR0 := Lib.hid hR
    have E3 := Lib.hid e3
    clear hR H5 e1 e2 e3
    go_enter Tryd.func11, Tryd.ntmps11
    go_upto_region 4 with fail
    rw [EN.out]
    go_region_held3 (fun _ => True) (exact trivial) (first | (go_at_call 27; (with_reducible refine CS.out.mono ?_); rintro _ W1 ⟨rfl, b1⟩) | fail)
    go_upto_region 6 with fail
    refine wp_forget (fun V => Below w.heap.size w V) (by exact (Below.refl _ _).drew.trans b1) ?_
    clear b1 CS
    intro V bV
    clear W1
    go_upto_region 7 with fail
    refine wp_forget (fun V' => Below w.heap.size w V' ∧ CL V' V.heap.size (some l) ∧ V.heap.size < V'.heap.size)
      (by exact ⟨bV.trans (((Below.refl _ _).alloc (Nat.le_refl _) _).mono bV.size), ⟨by rw [← E3.out]; exact Arr.new _ _ _, by omega⟩, by simp⟩) ?_
    have hwg : w.heap.size ≤ V.heap.size := bV.size
    generalize V.heap.size = g at *
    clear bV V E3
    rintro V ⟨bV, cV, hgV⟩
    clear h5 hk1 hk2 hk4 hp EN
    have q := Lib.hid (cl_num g (some l) V cV)
    have hn62 := stNum_lt (some l)
    cases hnum : rdNum l with
    | none =>
      rw [stNum_n hnum] at q
      have hR := HR0.out
      rw [hnum] at hR
      simp only at hR
      have HR := Lib.hid hR
      clear HR0 hR hnum hn62
      go_wp2_with fail
      (with_reducible refine q.out.mono ?_)
      clear q
      rintro _ W2 ⟨rfl, r2, k2⟩
      have b2 := below_gb bV k2 hwg bV.size
      obtain ⟨e, he, c1⟩ := r2.bad
      go_wp2_with fail
      go_ret2
      exact pk_none HR.out b2
    | some y =>
      obtain ⟨many, r⟩ := y
      rw [stNum_s hnum] at q hn62
      have hR := HR0.out
      rw [hnum] at hR
      simp only at hR q hn62
      have HR1 := Lib.hid hR
      have Q := Lib.hid q
      clear HR0 hR hnum q
      go_wp2_with fail
      (with_reducible refine Q.out.out.mono ?_)
      clear Q
      rintro _ W2 ⟨rfl, r2, k2⟩
      have b2 := below_gb bV k2 hwg bV.size
      have hg2 : g < W2.heap.size := r2.lt
      obtain ⟨c0, c1⟩ := r2.ok
      clear bV cV k2
      by_cases h4 : 400 < many
      · have hR := HR1.out
        rw [if_pos h4] at hR
        have HR := Lib.hid hR
        have hi4 : (400 : Int) < many := by omega
        clear HR1 hR
        go_wp2_with fail
        go_ret2
        exact pk_none HR.out b2
      have hR := HR1.out
      rw [if_neg h4] at hR
      have hi4 : ¬ (400 : Int) < many := by omega
      have HR := Lib.hid hR
      clear HR1 hR
      have hI : Hid (IRel w W2.heap.size g O r (.slice none 0 0) (.int .i64 0) W2) := ⟨0, Nat.zero_le _, rfl, own_nil _ _ _ _, r2, b2, Nat.le_refl _⟩
      go_wp2_with fail
      generalize W2.heap.size = b1 at *
      go_loopw [9, 64] (fun v i wr => IRel w b1 g O r v i wr) (fun _ i _ => O.length - (intOf i).toNat)
      case atStart => exact hI.out
      case round =>
        clear hI r2 b2 c0 c1
        clear W2
        obtain ⟨j, hj, rfl, hown, cL, bL, hbL⟩ := hrel
        by_cases hlt : j < O.length
        · have hi5 : (j : Int) < O.length := by omega
          have hx : O[j]? = some O[j] := List.getElem?_eq_getElem hlt
          have hs := hz O[j] (List.getElem_mem hlt)
          obtain ⟨ad, rfl, hbl, h0⟩ := hO j O[j] hx
          have g0 := (bL.cell hbl).trans h0
          have C := Lib.hid (RefSum_any O[j] (by omega) wr)
          have HX := Lib.hid (idRow_next hx)
          change Hid (Calls _ _ _ _ fun e w' => e = .returned (.string (idOf O[j])) ∧ _) at C
          have HId : Hid (∃ D, D = idOf O[j]) := ⟨_, rfl⟩
          generalize idOf O[j] = Dg at *
          generalize O[j] = x at *
          clear h0 hx hs HId
          go_wp2_with fail
          (with_reducible refine C.out.mono ?_)
          clear C g0
          rintro _ w1 ⟨rfl, k1⟩
          have O1 := own_kp hown (Kp.bel k1 (X := fun _ => False)) (fun _ _ h => h)
          have c1 := cL.bel k1
          have B1 := bL.trans (k1.mono bL.size)
          have hb1 := Nat.le_trans hbL k1.size
          clear hown cL bL hbL k1
          go_wp2_with (at_builtin; refine wpList_append_lies _ rfl _ _ 22 rfl b1 9 si _ 1 16 Tryd.underlying22 Hsi.out Sz0.out Sz1.out Sz2.out rfl (by decide) _ _ _ rfl (O1.alloc _) ⟨w1.heap.size, 0, none⟩ 1 1 [.string Dg] rfl rfl (new_cells w1 [.string Dg] 9) (by intro u hu; simp at hu; subst hu; rfl) (by decide) (by unfold maxLen; omega) (by omega) (by simp; omega) _ rfl ?_)
          intro g3 cap3 w3 hown hgrow hat hg3
          go_wp2_with fail
          have hge : ∀ q, u9.ownBlock = some q → b1 ≤ q := fun q e => own_row_ge O1 q e
          have k3 : Kp (fun i => u9.ownBlock = some i) w1 w3 := ((Kp.gb (gb_alloc (r := none) _)).mono (fun i _ e => by cases e)).trans (Kp.gb hgrow) (fun i _ e => e)
          refine ⟨⟨j + 1, hlt, by rw [Int.natCast_add]; rfl, ?_, c1.kp k3 (fun e => by have := hge _ e; omega), ?_, Nat.le_trans hb1 k3.size⟩, by simp [intOf]; omega⟩
          · rw [HX.out]
            exact hown
          · exact B1.trans (k3.below (B := w.heap.size) B1.size (fun i _ e => by have := hge _ e; omega))
        · obtain rfl : j = O.length := by omega
          have hi5 : ¬ (O.length : Int) < O.length := by omega
          obtain ⟨iA, ic, rfl, hids⟩ : ∃ A c, u9 = .slice A O.length c ∧ ∀ ad, A = some ad → ad.block < wr.heap.size := by
            rcases hown.2 with ⟨e, h0⟩ | ⟨q, cap, cur, e, _, hq, _⟩
            · exact ⟨none, 0, by rw [e, h0], fun ad e => by cases e⟩
            · exact ⟨some ⟨q, 0, none⟩, cap, e, fun ad e => by cases e; exact (Array.getElem?_eq_some_iff.1 hq).1⟩
          have hK : Hid (RkRel w b1 wr.heap.size g iA ic oA O many r (.slice none 0 0) (.slice none 0 0) (.int .i64 0) wr) :=
            ⟨[], [], r, rfl, Nat.zero_le _, ⟨cL, hown, hids, own_nil _ _ _ _, own_nil _ _ _ _, hO.below bL, bL, hwg, hg2, hbL, Nat.le_refl _, rfl⟩, (fun x hx => by cases hx), (fun x hx => by cases hx), rfl⟩
          clear hown cL bL
          generalize hbase : wr.heap.size = base at *
          have HBase := Lib.hid hbase
          clear hbase
          go_wp2_with fail
          go_loopw [12, 13, 14] (fun v d i wr => RkRel w b1 base g iA ic oA O many r v d i wr) (fun _ _ i _ => many - (intOf i).toNat)
          case atStart => exact hK.out
          case round =>
            clear hK HBase
            obtain ⟨T, D, lc, rfl, hle, K, hTz, hDz, he⟩ := hrel
            have HE := Lib.hid he
            clear he
            by_cases hlt2 : T.length < many
            case neg =>
              have hT : T.length = many := by omega
              have hi6 : ¬ (T.length : Int) < many := by omega
              have he2 : unP O many [] [] r = .ok (T, lc) := by
                rw [HE.out, hT, Nat.sub_self]
                rfl
              have HE3 := Lib.hid he2
              clear HE he2 hT
              obtain ⟨c0, c1⟩ := K.cur.ok
              obtain ⟨A, cc, rfl, hcc, hTx, _⟩ := own_texts K.objs
              have hR := HR.out
              rw [HE3.out] at hR
              simp only at hR
              by_cases hc : lc = []
              · rw [if_pos hc] at hR
                have hi5 : (bs lc).toList.isEmpty = true := by rw [toList_data, bs_list, hc]; rfl
                have hi7 : (bs lc).toList = [] := by rw [toList_data, bs_list, hc]
                have HR2 := Lib.hid hR
                clear hR HR hc
                go_wp2_with fail
                go_ret2
                rw [HR2.out]
                exact ⟨A, cc, rfl, hcc, hTx, K.bel⟩
              · rw [if_neg hc] at hR
                have hi5 : (bs lc).toList.isEmpty = false := by rw [toList_data, bs_list]; simpa using hc
                have hi7 : ¬ (bs lc).toList = [] := by rw [toList_data, bs_list]; exact hc
                have HR2 := Lib.hid hR
                clear hR HR hc
                go_wp2_with fail
                go_ret2
                exact pk_none HR2.out K.bel
            have hi6 : (T.length : Int) < many := by omega
            have HE2 : Hid (unP O many [] [] r = match objP O T D lc with | .error e => .error e | .ok (s, d, r) => if addP T s ≠ 0 then .error (addP T s) else unP O (many - (T.length + 1)) (T ++ [s]) (D ++ [d]) r) := by
              show _ = _
              rw [HE.out, show many - T.length = (many - (T.length + 1)) + 1 from by omega]
              rfl
            have HErr : Hid (∀ e, objP O T D lc = .error e → R = ([], e)) := fun e h => by
              have hR := HR.out
              rw [HE2.out, h] at hR
              exact hR
            clear HE
            have q := Lib.hid (cl_num g (some lc) wr K.cur)
            have hn62 := stNum_lt (some lc)
            cases hnum : rdNum lc with
            | none =>
              rw [stNum_n hnum] at q
              have HR2 := Lib.hid (HErr.out 2 (objP_none (rdStart_bad hnum)))
              clear HErr HE2 hnum hn62
              go_wp2_with fail
              (with_reducible refine q.out.mono ?_)
              clear q
              rintro _ W3 ⟨rfl, r3, k3⟩
              have b3 := K.end k3
              obtain ⟨e, he, c1⟩ := r3.bad
              go_wp2_with fail
              go_ret2
              exact pk_none HR2.out b3
            | some y =>
              obtain ⟨how, l1⟩ := y
              rw [stNum_s hnum] at q hn62
              simp only at q hn62
              have Q := Lib.hid q
              have HN := Lib.hid hnum
              clear hnum q
              go_wp2_with fail
              (with_reducible refine Q.out.out.mono ?_)
              clear Q
              rintro _ W3 ⟨rfl, r3, k3⟩
              have K3 := K.gb k3 r3
              clear K k3 r3
              obtain ⟨c0, c1⟩ := K3.cur.ok
              by_cases hbig : 2 < how
              · have hi7 : (2 : Int) < how := by omega
                have HR2 := Lib.hid (HErr.out 2 (objP_none (rdStart_big HN.out hbig)))
                clear HErr HE2 HN
                go_wp2_with fail
                go_ret2
                exact pk_none HR2.out K3.bel
              have hi7 : ¬ (2 : Int) < how := by omega
              by_cases hw0 : how = 0
              · subst hw0
                have hst := start_0 HN.out
                have q := Lib.hid (cl_num g (some l1) W3 K3.cur)
                generalize (stNum (some l1)).1 = m at *
                generalize (stNum (some l1)).2 = s2 at *
                have HST := Lib.hid hst
                clear hst HN hn62
                go_wp2_with fail
                (with_reducible refine q.out.mono ?_)
                clear q
                rintro _ W4 ⟨rfl, r4, k4⟩
                have q := Lib.hid (cl_take g m s2 W4 r4)
                have hst := HST.out
                clear HST
                generalize (stTake m s2).1 = s at *
                generalize (stTake m s2).2 = s3 at *
                have HST := Lib.hid hst
                clear hst
                clear c0 c1
                go_wp2_with fail
                (with_reducible refine q.out.mono ?_)
                clear q
                rintro _ W5 ⟨rfl, r5, k5⟩
                have k35 := gb_trans k4 k5
                clear k4 k5 r4
                cases s3 with
                | none =>
                  have HR2 := Lib.hid (HErr.out 2 (objP_none (start_no HST.out)))
                  have b5 := K3.end k35
                  obtain ⟨e, he, c1⟩ := r5.bad
                  clear HErr HE2 HST
                  go_wp2_with fail
                  go_ret2
                  exact pk_none HR2.out b5
                | some lq =>
                  have K5 := K3.gb k35 r5
                  obtain ⟨c0, c1⟩ := r5.ok
                  have HX : Hid (objP O T D lc = .ok (s, 0, lq)) := objP_whole (start_of HST.out) rfl
                  clear HST k35 r5
                  go_upto_region 61 with fail
                  refine wp_forget (Rk w b1 base g iA ic oA O T D u12 u13 lq) (by exact K5) ?_
                  clear K5
                  intro V K
                  have hE2 := HE2.out
                  rw [HX.out] at hE2
                  simp only at hE2
                  have HS := Lib.hid (fun h => addP_small (T := T) (s := s) h)
                  have HA : Hid (addP T s = if (decO s.data.toList).2 ≠ 0 then (decO s.data.toList).2 else if amid T s then 8 else 0) := rfl
                  have CD := Lib.hid (RefDecode_any s V)
                  generalize (decO s.data.toList).1 = o at *
                  generalize (decO s.data.toList).2 = e at *
                  have HEa := Lib.hid hE2
                  clear HE2 hE2 HErr
                  go_wp2_with fail
                  (with_reducible refine CD.out.mono ?_)
                  clear CD
                  rintro _ W6 ⟨p6, rfl, i6, b6⟩
                  have bb : Below V.heap.size V ((W6.alloc (.cells zeroO 60)).setRow W6.heap.size (obArr o p6)) := b6.trans ((below_setRow ((Below.refl _ _).alloc (Nat.le_refl _) _) (Nat.le_refl _) _).mono b6.size)
                  go_upto_region 62 with (refine wpList_store_row rfl 60 _ _ rfl W6.heap.size (obArr o p6) rfl rfl 60 zeroO (Arr.new W6 _ _) (obInfo _ _) rfl (obArr_one _ _) ?_)
                  refine wp_forget (Rk w b1 base g iA ic oA O T D u12 u13 lq) (by exact K.more bb) ?_
                  clear K bb b6 i6
                  generalize W6.heap.size = gx
                  clear W6 V
                  intro V K
                  by_cases he : e ≠ 0
                  · have hR := HR.out
                    have hA := HA.out
                    rw [if_pos he] at hA
                    rw [HEa.out, if_pos (by rw [hA]; exact he), hA] at hR
                    have HR2 := Lib.hid hR
                    have he' : (e != 0) = true := by simpa using he
                    clear hR hA he HEa HA HS
                    go_wp2_with fail
                    go_ret2
                    exact pk_none HR2.out K.bel
                  have he0 : e = 0 := by omega
                  subst he0
                  have hA := HA.out
                  rw [if_neg he] at hA
                  clear HA he
                  have HA := Lib.hid hA
                  clear hA
                  obtain ⟨A, cc, rfl, hcc, hTx, _⟩ := own_texts K.objs
                  go_wp2_with fail
                  go_loopw [176] (fun i wr => ∃ j : Nat, j ≤ T.length ∧ i = .int .i64 (j : Int) ∧ wr = V ∧ ∀ x ∈ T.take j, x ≠ s) (fun i _ => T.length - (intOf i).toNat)
                  case atStart => exact ⟨0, Nat.zero_le _, rfl, rfl, fun x hx => by simp at hx⟩
                  case round =>
                    obtain ⟨j, hj, rfl, rfl, hall⟩ := hrel
                    have HAll := Lib.hid hall
                    clear hall
                    by_cases hjt : j < T.length
                    · have hi9 : (j : Int) < T.length := by omega
                      have hx : T[j]? = some T[j] := List.getElem?_eq_getElem hjt
                      obtain ⟨ad, rfl, _, h0⟩ := hTx j T[j] hx
                      have HNx := Lib.hid (take_next hx)
                      have HMem := Lib.hid (List.getElem_mem hjt)
                      generalize T[j] = x at *
                      cases hq : x.toList == s.toList
                      · have hne : x ≠ s := fun e => by rw [e] at hq; simp at hq
                        have HA2 : Hid (∀ y ∈ T.take (j + 1), y ≠ s) := fun y hy => by
                          rw [HNx.out] at hy
                          rcases List.mem_append.1 hy with h | h
                          · exact HAll.out y h
                          · rw [List.mem_singleton.1 h]; exact hne
                        clear HAll HNx hx hTx HMem hne
                        go_wp2_with fail
                        go_roundw
                        case rel => exact ⟨j + 1, hjt, by rw [Int.natCast_add]; rfl, (by first | rfl | trivial), HA2.out⟩
                        case measure => simp [intOf]; omega
                      · have hex : x = s := (eqB_iff x s).1 hq
                        have hA := HA.out
                        rw [if_pos (amid_iff.2 (by rw [← hex]; exact HMem.out))] at hA
                        have hR := HR.out
                        rw [HEa.out, if_pos (by rw [hA]; decide), hA] at hR
                        have HR2 := Lib.hid hR
                        clear hR hA HEa HA HS HAll HNx hx hTx HMem hex
                        go_wp2_with fail
                        go_ret2
                        exact pk_none HR2.out K.bel
                    · obtain rfl : j = T.length := by omega
                      have hi9 : ¬ (T.length : Int) < T.length := by omega
                      have hno : amid T s = false := by
                        cases hm : amid T s with
                        | false => rfl
                        | true => exact absurd rfl (HAll.out s (by rw [List.take_length]; exact amid_iff.1 hm))
                      have hA := HA.out
                      rw [hno, if_neg (by decide)] at hA
                      have hs8 := HS.out hA
                      have hE3 := HEa.out
                      rw [if_neg (by rw [hA]; simp)] at hE3
                      have HE3 := Lib.hid hE3
                      have hlen2 : D.length ≤ 1000000 := by have := K.len; omega
                      have hbase2 := K.hb
                      clear HEa hE3 HA hA HS HAll hno hTx
                      go_wp2_with (at_builtin; refine wpList_append_lies _ rfl _ _ 22 rfl base 9 si _ 1 16 Tryd.underlying22 Hsi.out Sz0.out Sz1.out Sz2.out rfl (by decide) _ _ _ rfl (K.objs.alloc _) ⟨wr.heap.size, 0, none⟩ 1 1 [.string s] rfl rfl (new_cells wr [.string s] 9) (by intro u hu; simp at hu; subst hu; rfl) (by decide) (by unfold maxLen; omega) (by omega) (by simp; omega) _ rfl ?_)
                      intro g3 cap3 w3 hown3 hgrow3 hat3 hg3
                      have k3 : Kp (fun i => (Value.slice A T.length cc).ownBlock = some i) wr w3 := ((Kp.gb (gb_alloc (r := none) _)).mono (fun i _ e => by cases e)).trans (Kp.gb hgrow3) (fun i _ e => e)
                      have D3 := own_kp K.deps k3 (fun q hq e => own_row K.deps K.objs (by decide) q hq e)
                      have hs3 : base ≤ w3.heap.size := Nat.le_trans hbase2 k3.size
                      clear hgrow3 hat3
                      go_wp2_with (at_builtin; refine wpList_append_lies _ rfl _ _ 49 rfl base 3 ii _ 1 8 Tryd.underlying49 Hii.out Iz0.out Iz1.out Iz2.out rfl (by decide) _ _ _ rfl (D3.alloc _) ⟨w3.heap.size, 0, none⟩ 1 1 [.int .i64 ((0 : Nat) : Int)] rfl rfl (new_cells w3 [.int .i64 ((0 : Nat) : Int)] 3) (by intro u hu; simp at hu; subst hu; rfl) (by decide) (by unfold maxLen; omega) (by omega) (by simp; omega) _ rfl ?_)
                      intro g4 cap4 w4 hown4 hgrow4 hat4 hg4
                      have k4 : Kp (fun i => u13.ownBlock = some i) w3 w4 := ((Kp.gb (gb_alloc (r := none) _)).mono (fun i _ e => by cases e)).trans (Kp.gb hgrow4) (fun i _ e => e)
                      have K4 := K.app2 (n := 0) k3 hown3 k4 hown4
                      clear hgrow4 hat4 k3 k4 D3 hown3 hown4 K
                      go_wp2_with fail
                      refine ⟨⟨T ++ [s], D ++ [0], lq, by rw [List.length_append]; simp, by rw [List.length_append]; simp; omega, K4,
                        (fun x hx => by rcases List.mem_append.1 hx with h | h; · exact hTz x h
                                        · rw [List.mem_singleton.1 h]; omega),
                        (fun x hx => by rcases List.mem_append.1 hx with h | h; · exact hDz x h
                                        · rw [List.mem_singleton.1 h]; omega), by rw [List.length_append]; exact HE3.out⟩, by simp [intOf]; omega⟩
              have hb0 : ((how : Int) == 0) = false := by rw [beq_eq_false_iff_ne]; omega
              by_cases hw1 : how = 1
              · subst hw1
                clear hw0 hb0 hbig
                have hst := start_1 HN.out
                have q := Lib.hid (cl_num g (some l1) W3 K3.cur)
                have hk62 := stNum_lt (some l1)
                generalize (stNum (some l1)).1 = kx at *
                generalize (stNum (some l1)).2 = s2 at *
                have HST := Lib.hid hst
                clear hst HN hn62
                go_wp2_with fail
                (with_reducible refine q.out.mono ?_)
                clear q
                rintro _ W4 ⟨rfl, r4, k4⟩
                clear c0 c1
                cases s2 with
                | none =>
                  have HR2 := Lib.hid (HErr.out 2 (objP_none (start_no HST.out)))
                  have b5 := K3.end k4
                  obtain ⟨e, he, c1⟩ := r4.bad
                  clear HErr HE2 HST
                  go_wp2_with fail
                  go_ret2
                  exact pk_none HR2.out b5
                | some l2 =>
                  have K5 := K3.gb k4 r4
                  obtain ⟨c0, c1⟩ := r4.ok
                  have HP := Lib.hid (start_of HST.out)
                  have hpw : (⟨1, kx, ⟨#[]⟩, ⟨#[]⟩⟩ : Rp).way ≠ 0 := by show (1 : Nat) ≠ 0; decide
                  clear HST k4 r4 K3
                  by_cases hk : T.length ≤ kx
                  · have hi8 : (T.length : Int) ≤ kx := by omega
                    have hbs : baseP O T D ⟨1, kx, ⟨#[]⟩, ⟨#[]⟩⟩ = .error 3 := by
                      unfold baseP
                      rw [if_pos rfl]
                      simp only
                      rw [List.getElem?_eq_none_iff.2 hk]
                    have HR2 := Lib.hid (HErr.out 3 (objP_base HP.out hpw hbs))
                    clear HErr HE2 HP hbs hpw
                    go_wp2_with fail
                    go_ret2
                    exact pk_none HR2.out K5.bel
                  have hi8 : ¬ (T.length : Int) ≤ kx := by omega
                  have hi9 : (kx : Int) < T.length := by omega
                  have hlenD := K5.len
                  have hi10 : (kx : Int) < D.length := by omega
                  have hkd : kx < D.length := by omega
                  clear hlenD
                  have hx : T[kx]? = some T[kx] := List.getElem?_eq_getElem (by omega)
                  have hdx : D[kx]? = some (D.getD kx 0) := by
                    rw [List.getD_eq_getElem?_getD, List.getElem?_eq_getElem hkd]
                    rfl
                  have hbs : baseP O T D ⟨1, kx, ⟨#[]⟩, ⟨#[]⟩⟩ = .ok (T[kx], D.getD kx 0) := by
                    unfold baseP
                    rw [if_pos rfl]
                    simp only
                    rw [hx]
                  have hbz : T[kx].size ≤ 140737488355328 := hTz _ (List.getElem_mem _)
                  have hm8 : D.getD kx 0 ≤ 8 := hDz _ (List.mem_of_getElem? hdx)
                  obtain ⟨A, cc, hA, _, hTx, _⟩ := own_texts K5.objs
                  obtain ⟨A2, cc2, hA2, hDx⟩ := own_ints K5.deps
                  subst hA hA2
                  obtain ⟨ad, rfl, _, q0⟩ := hTx _ _ hx
                  obtain ⟨ad2, rfl, q1⟩ := hDx _ _ hdx
                  generalize D.getD kx 0 = m at *
                  generalize T[kx] = bb0 at *
                  have HBs := Lib.hid hbs
                  clear hbs hx hdx hTx hDx hk
                  go_upto_region 38 with fail
                  go_quiet (fail)
                  go_upto_region 51 with fail
                  refine wp_forget (Rk w b1 base g iA ic oA O T D (.slice (some ad) T.length cc) (.slice (some ad2) D.length cc2) l2) (by exact K5.drewN _) ?_
                  clear K5
                  intro V K
                  have q := Lib.hid (cl_txt g l2 V K.cur)
                  cases ht : rdText l2 with
                  | none =>
                    rw [show stTxt (some l2) = (⟨#[]⟩, none) from by simp [stTxt, ht]] at q
                    have HR2 := Lib.hid (HErr.out 2 (objP_text HP.out hpw HBs.out ht))
                    clear HErr HE2 HP HBs ht
                    go_wp2_with fail
                    (with_reducible refine q.out.mono ?_)
                    clear q
                    rintro _ W6 ⟨rfl, r6, k6⟩
                    have b6 := K.end k6
                    obtain ⟨e, he, c1⟩ := r6.bad
                    go_wp2_with fail
                    go_ret2
                    exact pk_none HR2.out b6
                  | some u =>
                    obtain ⟨dl, lq⟩ := u
                    have hds := rdText_small ht
                    rw [show stTxt (some l2) = (dl, some lq) from by simp [stTxt, ht]] at q
                    have HM := Lib.hid (objP_more HP.out hpw HBs.out ht)
                    clear HP HBs ht
                    go_wp2_with fail
                    (with_reducible refine q.out.mono ?_)
                    clear q
                    rintro _ W6 ⟨rfl, r6, k6⟩
                    have K6 := K.gb k6 r6
                    obtain ⟨c0, c1⟩ := r6.ok
                    clear K k6 r6 V
                    by_cases h8 : 8 ≤ m
                    · have hm := HM.out
                      rw [if_pos h8] at hm
                      have HR2 := Lib.hid (HErr.out 10 hm)
                      obtain rfl : m = 8 := by omega
                      clear HErr HE2 HM hm
                      go_wp2_with fail
                      go_ret2
                      exact pk_none HR2.out K6.bel
                    have hm := HM.out
                    rw [if_neg h8] at hm
                    have hi10 : ((m : Int) == 8) = false := by rw [beq_eq_false_iff_ne]; omega
                    have CA := Lib.hid (RefApply_any bb0 dl (by omega) (by omega) W6)
                    generalize (applyD bb0.data.toList dl.data.toList).1 = s0 at *
                    generalize (applyD bb0.data.toList dl.data.toList).2 = E at *
                    generalize bs s0 = s at *
                    have HM2 := Lib.hid hm
                    have hm7 : m < 8 := by omega
                    clear HM hm h8
                    go_wp2_with fail
                    (with_reducible refine CA.out.mono ?_)
                    clear CA c0 c1
                    rintro _ W7 ⟨rfl, b7⟩
                    have K5 := K6.more b7
                    clear K6 b7
                    by_cases hE : E ≠ 0
                    · have hm := HM2.out
                      rw [if_pos hE] at hm
                      have HR2 := Lib.hid (HErr.out E hm)
                      have he' : (E != 0) = true := by simpa using hE
                      clear HErr HE2 HM2 hm hE
                      go_wp2_with fail
                      go_ret2
                      exact pk_none HR2.out K5.bel
                    have hm := HM2.out
                    rw [if_neg hE] at hm
                    have HX := Lib.hid hm
                    have hE0 : E = 0 := by omega
                    subst hE0
                    clear hm HM2 hE HErr
                    go_upto_region 61 with fail
                    refine wp_forget (Rk w b1 base g iA ic oA O T D (.slice (some ad) T.length cc) (.slice (some ad2) D.length cc2) lq) (by exact K5) ?_
                    clear K5
                    intro V K
                    have hE2 := HE2.out
                    rw [HX.out] at hE2
                    simp only at hE2
                    have HS := Lib.hid (fun h => addP_small (T := T) (s := s) h)
                    have HA : Hid (addP T s = if (decO s.data.toList).2 ≠ 0 then (decO s.data.toList).2 else if amid T s then 8 else 0) := rfl
                    have CD := Lib.hid (RefDecode_any s V)
                    generalize (decO s.data.toList).1 = o at *
                    generalize (decO s.data.toList).2 = e at *
                    have HEa := Lib.hid hE2
                    clear HE2 hE2
                    go_wp2_with fail
                    (with_reducible refine CD.out.mono ?_)
                    clear CD
                    rintro _ W6 ⟨p6, rfl, i6, b6⟩
                    have bb : Below V.heap.size V ((W6.alloc (.cells zeroO 60)).setRow W6.heap.size (obArr o p6)) := b6.trans ((below_setRow ((Below.refl _ _).alloc (Nat.le_refl _) _) (Nat.le_refl _) _).mono b6.size)
                    go_upto_region 62 with (refine wpList_store_row rfl 60 _ _ rfl W6.heap.size (obArr o p6) rfl rfl 60 zeroO (Arr.new W6 _ _) (obInfo _ _) rfl (obArr_one _ _) ?_)
                    refine wp_forget (Rk w b1 base g iA ic oA O T D (.slice (some ad) T.length cc) (.slice (some ad2) D.length cc2) lq) (by exact K.more bb) ?_
                    clear K bb b6 i6
                    generalize W6.heap.size = gx
                    clear W6 V
                    intro V K
                    by_cases he : e ≠ 0
                    · have hR := HR.out
                      have hA := HA.out
                      rw [if_pos he] at hA
                      rw [HEa.out, if_pos (by rw [hA]; exact he), hA] at hR
                      have HR2 := Lib.hid hR
                      have he' : (e != 0) = true := by simpa using he
                      clear hR hA he HEa HA HS
                      go_wp2_with fail
                      go_ret2
                      exact pk_none HR2.out K.bel
                    have he0 : e = 0 := by omega
                    subst he0
                    have hA := HA.out
                    rw [if_neg he] at hA
                    clear HA he
                    have HA := Lib.hid hA
                    clear hA
                    obtain ⟨A', cc', hAe, hcc, hTx, _⟩ := own_texts K.objs
                    cases hAe
                    go_wp2_with fail
                    go_loopw [176] (fun i wr => ∃ j : Nat, j ≤ T.length ∧ i = .int .i64 (j : Int) ∧ wr = V ∧ ∀ x ∈ T.take j, x ≠ s) (fun i _ => T.length - (intOf i).toNat)
                    case atStart => exact ⟨0, Nat.zero_le _, rfl, rfl, fun x hx => by simp at hx⟩
                    case round =>
                      obtain ⟨j, hj, rfl, rfl, hall⟩ := hrel
                      have HAll := Lib.hid hall
                      clear hall
                      by_cases hjt : j < T.length
                      · have hi9 : (j : Int) < T.length := by omega
                        have hx : T[j]? = some T[j] := List.getElem?_eq_getElem hjt
                        obtain ⟨ad', hade, _, h0⟩ := hTx j T[j] hx
                        cases hade
                        have HNx := Lib.hid (take_next hx)
                        have HMem := Lib.hid (List.getElem_mem hjt)
                        generalize T[j] = x at *
                        cases hq : x.toList == s.toList
                        · have hne : x ≠ s := fun e => by rw [e] at hq; simp at hq
                          have HA2 : Hid (∀ y ∈ T.take (j + 1), y ≠ s) := fun y hy => by
                            rw [HNx.out] at hy
                            rcases List.mem_append.1 hy with h | h
                            · exact HAll.out y h
                            · rw [List.mem_singleton.1 h]; exact hne
                          clear HAll HNx hx hTx HMem hne
                          go_wp2_with fail
                          go_roundw
                          case rel => exact ⟨j + 1, hjt, by rw [Int.natCast_add]; rfl, (by first | rfl | trivial), HA2.out⟩
                          case measure => simp [intOf]; omega
                        · have hex : x = s := (eqB_iff x s).1 hq
                          have hA := HA.out
                          rw [if_pos (amid_iff.2 (by rw [← hex]; exact HMem.out))] at hA
                          have hR := HR.out
                          rw [HEa.out, if_pos (by rw [hA]; decide), hA] at hR
                          have HR2 := Lib.hid hR
                          clear hR hA HEa HA HS HAll HNx hx hTx HMem hex
                          go_wp2_with fail
                          go_ret2
                          exact pk_none HR2.out K.bel
                      · obtain rfl : j = T.length := by omega
                        have hi9 : ¬ (T.length : Int) < T.length := by omega
                        have hno : amid T s = false := by
                          cases hm : amid T s with
                          | false => rfl
                          | true => exact absurd rfl (HAll.out s (by rw [List.take_length]; exact amid_iff.1 hm))
                        have hA := HA.out
                        rw [hno, if_neg (by decide)] at hA
                        have hs8 := HS.out hA
                        have hE3 := HEa.out
                        rw [if_neg (by rw [hA]; simp)] at hE3
                        have HE3 := Lib.hid hE3
                        have hlen2 : D.length ≤ 1000000 := by have := K.len; omega
                        have hbase2 := K.hb
                        clear HEa hE3 HA hA HS HAll hno hTx
                        go_wp2_with (at_builtin; refine wpList_append_lies _ rfl _ _ 22 rfl base 9 si _ 1 16 Tryd.underlying22 Hsi.out Sz0.out Sz1.out Sz2.out rfl (by decide) _ _ _ rfl (K.objs.alloc _) ⟨wr.heap.size, 0, none⟩ 1 1 [.string s] rfl rfl (new_cells wr [.string s] 9) (by intro u hu; simp at hu; subst hu; rfl) (by decide) (by unfold maxLen; omega) (by omega) (by simp; omega) _ rfl ?_)
                        intro g3 cap3 w3 hown3 hgrow3 hat3 hg3
                        have k3 : Kp (fun i => (Value.slice (some ad) T.length cc).ownBlock = some i) wr w3 := ((Kp.gb (gb_alloc (r := none) _)).mono (fun i _ e => by cases e)).trans (Kp.gb hgrow3) (fun i _ e => e)
                        have D3 := own_kp K.deps k3 (fun q hq e => own_row K.deps K.objs (by decide) q hq e)
                        have hs3 : base ≤ w3.heap.size := Nat.le_trans hbase2 k3.size
                        clear hgrow3 hat3
                        go_wp2_with (at_builtin; refine wpList_append_lies _ rfl _ _ 49 rfl base 3 ii _ 1 8 Tryd.underlying49 Hii.out Iz0.out Iz1.out Iz2.out rfl (by decide) _ _ _ rfl (D3.alloc _) ⟨w3.heap.size, 0, none⟩ 1 1 [.int .i64 ((m + 1 : Nat) : Int)] rfl rfl (new_cells w3 [.int .i64 ((m + 1 : Nat) : Int)] 3) (by intro u hu; simp at hu; subst hu; rfl) (by decide) (by unfold maxLen; omega) (by omega) (by simp; omega) _ rfl ?_)
                        intro g4 cap4 w4 hown4 hgrow4 hat4 hg4
                        have k4 : Kp (fun i => (Value.slice (some ad2) D.length cc2).ownBlock = some i) w3 w4 := ((Kp.gb (gb_alloc (r := none) _)).mono (fun i _ e => by cases e)).trans (Kp.gb hgrow4) (fun i _ e => e)
                        have K4 := K.app2 (n := m + 1) k3 hown3 k4 hown4
                        clear hgrow4 hat4 k3 k4 D3 hown3 hown4 K
                        go_wp2_with fail
                        refine ⟨⟨T ++ [s], D ++ [m + 1], lq, by rw [List.length_append]; simp, by rw [List.length_append]; simp; omega, K4,
                          (fun x hx => by rcases List.mem_append.1 hx with h | h; · exact hTz x h
                                          · rw [List.mem_singleton.1 h]; omega),
                          (fun x hx => by rcases List.mem_append.1 hx with h | h; · exact hDz x h
                                          · rw [List.mem_singleton.1 h]; omega), by rw [List.length_append]; exact HE3.out⟩, by simp [intOf]; omega⟩
              have hb1 : ((how : Int) == 1) = false := by rw [beq_eq_false_iff_ne]; omega
              have hw2 : how = 2 := by omega
              subst hw2
              clear hw0 hb0 hw1 hb1 hbig hi7
              have hst := start_2 HN.out
              have q : Hid (Calls Tryd.prog 29 #[.pointer (some ⟨g, 0, none⟩), .int .i64 32] W3 (Cle W3 g (.string (stTake 32 (some l1)).1) (stTake 32 (some l1)).2)) := cl_take g 32 (some l1) W3 K3.cur
              generalize (stTake 32 (some l1)).1 = idx at *
              generalize (stTake 32 (some l1)).2 = s2 at *
              have HST := Lib.hid hst
              clear hst HN hn62
              go_wp2_with fail
              (with_reducible refine q.out.mono ?_)
              clear q
              rintro _ W4 ⟨rfl, r4, k4⟩
              clear c0 c1
              cases s2 with
              | none =>
                have HR2 := Lib.hid (HErr.out 2 (objP_none (start_no HST.out)))
                have b5 := K3.end k4
                obtain ⟨e, he, c1⟩ := r4.bad
                clear HErr HE2 HST
                go_wp2_with fail
                go_ret2
                exact pk_none HR2.out b5
              | some l2 =>
                have K5 := K3.gb k4 r4
                obtain ⟨c0, c1⟩ := r4.ok
                have HP := Lib.hid (start_of HST.out)
                have hpw : (⟨2, 0, idx, ⟨#[]⟩⟩ : Rp).way ≠ 0 := by show (2 : Nat) ≠ 0; decide
                clear HST k4 r4 K3
                have hid0 : Hid (found O idx 0 = (⟨#[]⟩, false)) := rfl
                go_wp2_with fail
                go_loopw [18, 21, 130] (fun vb vt i wr => ∃ j : Nat, j ≤ O.length ∧ i = .int .i64 (j : Int) ∧ wr = W4 ∧ vb = .string (found O idx j).1 ∧ vt = .bool (found O idx j).2) (fun _ _ i _ => O.length - (intOf i).toNat)
                case atStart => exact ⟨0, Nat.zero_le _, rfl, rfl, rfl, rfl⟩
                case round =>
                  clear hid0
                  obtain ⟨j, hj, rfl, rfl, rfl, rfl⟩ := hrel
                  by_cases hjt : j < O.length
                  · have hi9 : (j : Int) < O.length := by omega
                    have hx : O[j]? = some O[j] := List.getElem?_eq_getElem hjt
                    have hidx := idRow_at hx
                    have hids2 := K5.ids
                    obtain ⟨ad, rfl, _, h0⟩ := K5.outs j O[j] hx
                    obtain ⟨ai, hai, h1⟩ : ∃ ai, iA = some ai ∧ wr.cell? (ai.add j) = some (.string (idOf O[j])) := by
                      rcases hids2.2 with ⟨e, h0⟩ | ⟨q, cap, cur, e, _, hq, _, _, _, htk⟩
                      · omega
                      · cases e
                        refine ⟨_, rfl, ?_⟩
                        rw [zero_add, cell_of_row wr q j cur _ _ hq, ← Array.getElem?_toList, ← hidx, ← htk, List.getElem?_take_of_lt (by omega)]
                    subst hai
                    have HF := Lib.hid (found_next (id := idx) hx)
                    generalize found O idx j = fj at *
                    generalize idOf O[j] = Di at *
                    generalize O[j] = x at *
                    clear hidx hids2 hx
                    cases hq : Di.toList == idx.toList
                    · have hne : Di ≠ idx := fun e => by rw [e] at hq; simp at hq
                      have hf := HF.out
                      rw [if_neg hne] at hf
                      have HF2 := Lib.hid hf
                      clear HF hf hne
                      go_wp2_with fail
                      go_roundw
                      case rel => exact ⟨j + 1, hjt, by rw [Int.natCast_add]; rfl, (by first | rfl | trivial), by rw [HF2.out], by rw [HF2.out]⟩
                      case measure => simp [intOf]; omega
                    · have hf := HF.out
                      rw [if_pos ((eqB_iff Di idx).1 hq)] at hf
                      have HF2 := Lib.hid hf
                      clear HF hf
                      go_wp2_with fail
                      go_roundw
                      case rel => exact ⟨j + 1, hjt, by rw [Int.natCast_add]; rfl, (by first | rfl | trivial), by rw [HF2.out], by rw [HF2.out]⟩
                      case measure => simp [intOf]; omega
                  · obtain rfl : j = O.length := by omega
                    have hi9 : ¬ (O.length : Int) < O.length := by omega
                    have hfd : found O idx O.length = match lastId idx O with | none => (⟨#[]⟩, false) | some x => (x, true) := by unfold found; rw [List.take_length]
                    cases hla : lastId idx O with
                    | none =>
                      rw [hla] at hfd
                      simp only at hfd
                      have hbs : baseP O T D ⟨2, 0, idx, ⟨#[]⟩⟩ = .error 11 := by
                        unfold baseP
                        rw [if_neg (by show ¬ (2 : Nat) = 1; decide)]
                        simp only
                        rw [hla]
                      have HR2 := Lib.hid (HErr.out 11 (objP_base HP.out hpw hbs))
                      rw [hfd]
                      clear HErr HE2 HP hbs hpw hfd hla
                      go_wp2_with fail
                      go_ret2
                      exact pk_none HR2.out K5.bel
                    | some bb0 =>
                      rw [hla] at hfd
                      simp only at hfd
                      have hbs : baseP O T D ⟨2, 0, idx, ⟨#[]⟩⟩ = .ok (bb0, 0) := by
                        unfold baseP
                        rw [if_neg (by show ¬ (2 : Nat) = 1; decide)]
                        simp only
                        rw [hla]
                      have hbz : bb0.size ≤ 140737488355328 := hz _ (lastId_mem hla)
                      have HBs := Lib.hid hbs
                      rw [hfd]
                      clear hbs hfd hla
                      go_upto_region 51 with fail
                      refine wp_forget (Rk w b1 base g iA ic oA O T D u12 u13 l2) (by exact K5) ?_
                      clear K5
                      intro V K
                      have q := Lib.hid (cl_txt g l2 V K.cur)
                      cases ht : rdText l2 with
                      | none =>
                        rw [show stTxt (some l2) = (⟨#[]⟩, none) from by simp [stTxt, ht]] at q
                        have HR2 := Lib.hid (HErr.out 2 (objP_text HP.out hpw HBs.out ht))
                        clear HErr HE2 HP HBs ht
                        go_wp2_with fail
                        (with_reducible refine q.out.mono ?_)
                        clear q
                        rintro _ W6 ⟨rfl, r6, k6⟩
                        have b6 := K.end k6
                        obtain ⟨e, he, c1⟩ := r6.bad
                        go_wp2_with fail
                        go_ret2
                        exact pk_none HR2.out b6
                      | some u =>
                        obtain ⟨dl, lq⟩ := u
                        have hds := rdText_small ht
                        rw [show stTxt (some l2) = (dl, some lq) from by simp [stTxt, ht]] at q
                        have HM := Lib.hid (objP_more HP.out hpw HBs.out ht)
                        clear HP HBs ht
                        go_wp2_with fail
                        (with_reducible refine q.out.mono ?_)
                        clear q
                        rintro _ W6 ⟨rfl, r6, k6⟩
                        have K6 := K.gb k6 r6
                        obtain ⟨c0, c1⟩ := r6.ok
                        clear K k6 r6 V
                        have hm := HM.out
                        rw [if_neg (by decide)] at hm
                        have CA := Lib.hid (RefApply_any bb0 dl (by omega) (by omega) W6)
                        generalize (applyD bb0.data.toList dl.data.toList).1 = s0 at *
                        generalize (applyD bb0.data.toList dl.data.toList).2 = E at *
                        generalize bs s0 = s at *
                        have HM2 := Lib.hid hm
                        clear HM hm
                        go_wp2_with fail
                        (with_reducible refine CA.out.mono ?_)
                        clear CA c0 c1
                        rintro _ W7 ⟨rfl, b7⟩
                        have K5 := K6.more b7
                        clear K6 b7
                        by_cases hE : E ≠ 0
                        · have hm := HM2.out
                          rw [if_pos hE] at hm
                          have HR2 := Lib.hid (HErr.out E hm)
                          have he' : (E != 0) = true := by simpa using hE
                          clear HErr HE2 HM2 hm hE
                          go_wp2_with fail
                          go_ret2
                          exact pk_none HR2.out K5.bel
                        have hm := HM2.out
                        rw [if_neg hE] at hm
                        have HX := Lib.hid hm
                        have hE0 : E = 0 := by omega
                        subst hE0
                        clear hm HM2 hE HErr
                        go_upto_region 61 with fail
                        refine wp_forget (Rk w b1 base g iA ic oA O T D u12 u13 lq) (by exact K5) ?_
                        clear K5
                        intro V K
                        have hE2 := HE2.out
                        rw [HX.out] at hE2
                        simp only at hE2
                        have HS := Lib.hid (fun h => addP_small (T := T) (s := s) h)
                        have HA : Hid (addP T s = if (decO s.data.toList).2 ≠ 0 then (decO s.data.toList).2 else if amid T s then 8 else 0) := rfl
                        have CD := Lib.hid (RefDecode_any s V)
                        generalize (decO s.data.toList).1 = o at *
                        generalize (decO s.data.toList).2 = e at *
                        have HEa := Lib.hid hE2
                        clear HE2 hE2
                        go_wp2_with fail
                        (with_reducible refine CD.out.mono ?_)
                        clear CD
                        rintro _ W6 ⟨p6, rfl, i6, b6⟩
                        have bb : Below V.heap.size V ((W6.alloc (.cells zeroO 60)).setRow W6.heap.size (obArr o p6)) := b6.trans ((below_setRow ((Below.refl _ _).alloc (Nat.le_refl _) _) (Nat.le_refl _) _).mono b6.size)
                        go_upto_region 62 with (refine wpList_store_row rfl 60 _ _ rfl W6.heap.size (obArr o p6) rfl rfl 60 zeroO (Arr.new W6 _ _) (obInfo _ _) rfl (obArr_one _ _) ?_)
                        refine wp_forget (Rk w b1 base g iA ic oA O T D u12 u13 lq) (by exact K.more bb) ?_
                        clear K bb b6 i6
                        generalize W6.heap.size = gx
                        clear W6 V
                        intro V K
                        by_cases he : e ≠ 0
                        · have hR := HR.out
                          have hA := HA.out
                          rw [if_pos he] at hA
                          rw [HEa.out, if_pos (by rw [hA]; exact he), hA] at hR
                          have HR2 := Lib.hid hR
                          have he' : (e != 0) = true := by simpa using he
                          clear hR hA he HEa HA HS
                          go_wp2_with fail
                          go_ret2
                          exact pk_none HR2.out K.bel
                        have he0 : e = 0 := by omega
                        subst he0
                        have hA := HA.out
                        rw [if_neg he] at hA
                        clear HA he
                        have HA := Lib.hid hA
                        clear hA
                        obtain ⟨A, cc, rfl, hcc, hTx, _⟩ := own_texts K.objs
                        go_wp2_with fail
                        go_loopw [176] (fun i wr => ∃ j : Nat, j ≤ T.length ∧ i = .int .i64 (j : Int) ∧ wr = V ∧ ∀ x ∈ T.take j, x ≠ s) (fun i _ => T.length - (intOf i).toNat)
                        case atStart => exact ⟨0, Nat.zero_le _, rfl, rfl, fun x hx => by simp at hx⟩
                        case round =>
                          obtain ⟨j, hj, rfl, rfl, hall⟩ := hrel
                          have HAll := Lib.hid hall
                          clear hall
                          by_cases hjt : j < T.length
                          · have hi9 : (j : Int) < T.length := by omega
                            have hx : T[j]? = some T[j] := List.getElem?_eq_getElem hjt
                            obtain ⟨ad, rfl, _, h0⟩ := hTx j T[j] hx
                            have HNx := Lib.hid (take_next hx)
                            have HMem := Lib.hid (List.getElem_mem hjt)
                            generalize T[j] = x at *
                            cases hq : x.toList == s.toList
                            · have hne : x ≠ s := fun e => by rw [e] at hq; simp at hq
                              have HA2 : Hid (∀ y ∈ T.take (j + 1), y ≠ s) := fun y hy => by
                                rw [HNx.out] at hy
                                rcases List.mem_append.1 hy with h | h
                                · exact HAll.out y h
                                · rw [List.mem_singleton.1 h]; exact hne
                              clear HAll HNx hx hTx HMem hne
                              go_wp2_with fail
                              go_roundw
                              case rel => exact ⟨j + 1, hjt, by rw [Int.natCast_add]; rfl, (by first | rfl | trivial), HA2.out⟩
                              case measure => simp [intOf]; omega
                            · have hex : x = s := (eqB_iff x s).1 hq
                              have hA := HA.out
                              rw [if_pos (amid_iff.2 (by rw [← hex]; exact HMem.out))] at hA
                              have hR := HR.out
                              rw [HEa.out, if_pos (by rw [hA]; decide), hA] at hR
                              have HR2 := Lib.hid hR
                              clear hR hA HEa HA HS HAll HNx hx hTx HMem hex
                              go_wp2_with fail
                              go_ret2
                              exact pk_none HR2.out K.bel
                          · obtain rfl : j = T.length := by omega
                            have hi9 : ¬ (T.length : Int) < T.length := by omega
                            have hno : amid T s = false := by
                              cases hm : amid T s with
                              | false => rfl
                              | true => exact absurd rfl (HAll.out s (by rw [List.take_length]; exact amid_iff.1 hm))
                            have hA := HA.out
                            rw [hno, if_neg (by decide)] at hA
                            have hs8 := HS.out hA
                            have hE3 := HEa.out
                            rw [if_neg (by rw [hA]; simp)] at hE3
                            have HE3 := Lib.hid hE3
                            have hlen2 : D.length ≤ 1000000 := by have := K.len; omega
                            have hbase2 := K.hb
                            clear HEa hE3 HA hA HS HAll hno hTx
                            go_wp2_with (at_builtin; refine wpList_append_lies _ rfl _ _ 22 rfl base 9 si _ 1 16 Tryd.underlying22 Hsi.out Sz0.out Sz1.out Sz2.out rfl (by decide) _ _ _ rfl (K.objs.alloc _) ⟨wr.heap.size, 0, none⟩ 1 1 [.string s] rfl rfl (new_cells wr [.string s] 9) (by intro u hu; simp at hu; subst hu; rfl) (by decide) (by unfold maxLen; omega) (by omega) (by simp; omega) _ rfl ?_)
                            intro g3 cap3 w3 hown3 hgrow3 hat3 hg3
                            have k3 : Kp (fun i => (Value.slice A T.length cc).ownBlock = some i) wr w3 := ((Kp.gb (gb_alloc (r := none) _)).mono (fun i _ e => by cases e)).trans (Kp.gb hgrow3) (fun i _ e => e)
                            have D3 := own_kp K.deps k3 (fun q hq e => own_row K.deps K.objs (by decide) q hq e)
                            have hs3 : base ≤ w3.heap.size := Nat.le_trans hbase2 k3.size
                            clear hgrow3 hat3
                            go_wp2_with (at_builtin; refine wpList_append_lies _ rfl _ _ 49 rfl base 3 ii _ 1 8 Tryd.underlying49 Hii.out Iz0.out Iz1.out Iz2.out rfl (by decide) _ _ _ rfl (D3.alloc _) ⟨w3.heap.size, 0, none⟩ 1 1 [.int .i64 ((0 + 1 : Nat) : Int)] rfl rfl (new_cells w3 [.int .i64 ((0 + 1 : Nat) : Int)] 3) (by intro u hu; simp at hu; subst hu; rfl) (by decide) (by unfold maxLen; omega) (by omega) (by simp; omega) _ rfl ?_)
                            intro g4 cap4 w4 hown4 hgrow4 hat4 hg4
                            have k4 : Kp (fun i => u13.ownBlock = some i) w3 w4 := ((Kp.gb (gb_alloc (r := none) _)).mono (fun i _ e => by cases e)).trans (Kp.gb hgrow4) (fun i _ e => e)
                            have K4 := K.app2 (n := 0 + 1) k3 hown3 k4 hown4
                            clear hgrow4 hat4 k3 k4 D3 hown3 hown4 K
                            go_wp2_with fail
                            refine ⟨⟨T ++ [s], D ++ [0 + 1], lq, by rw [List.length_append]; simp, by rw [List.length_append]; simp; omega, K4,
                              (fun x hx => by rcases List.mem_append.1 hx with h | h; · exact hTz x h
                                              · rw [List.mem_singleton.1 h]; omega),
                              (fun x hx => by rcases List.mem_append.1 hx with h | h; · exact hDz x h
                                              · rw [List.mem_singleton.1 h]; omega), by rw [List.length_append]; exact HE3.out⟩, by simp [intOf]; omega⟩
end Go.Proofs.YthigdhiebogffaaDoor
