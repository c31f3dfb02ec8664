/- Texts in one: ODecF, PSpec, PRd, OMap, IMap. -/
import Derived.Test.YthigdhiebogffaaDoorOStray
import Derived.Test.YthigdhiebogffaaDoorOGoodC
import Derived.Test.YthigdhiebogffaaDoorDSpec
import Derived.Test.YthigdhiebogffaaDoorSha
import Derived.Test.YthigdhiebogffaaDoorODecC
import Derived.Test.YthigdhiebogffaaDoorWRead
import Derived.Test.YthigdhiebogffaaDoorWWrite
import Derived.Maps.RangeRun
import Derived.MapKept
/- object.Decode: its contract. -/
namespace Go.Proofs.YthigdhiebogffaaDoor
open Go.RowKit

/-- what Decode answers -/
def decO (l : List UInt8) : Ob × Int :=
  if 8192 < l.length then (Ob.none, 1) else match rdNum l with
    | none => (Ob.none, 2)
    | some (n, r) => if kindB (n : Int) = false then (Ob.none, 4) else match rdFields (n : Int) r with
      | none => (Ob.none, 2)
      | some (o, rest) => if 0 < rest.length then (Ob.none, 2) else if good o ≠ 0 then (Ob.none, good o) else (o, 0)
def DEnd (w : World) (o : Ob) (e : Int) (x : Ending) (w' : World) : Prop := ∃ p, x = .returned (.tuple #[.agg (obArr o p), .int .i64 e]) ∧ ObIn w' w'.heap.size o p ∧ Below w.heap.size w w'
/-- the result's block, still empty -/
def Dx (w W : World) : Prop := Arr W w.heap.size 60 zeroO ∧ Below w.heap.size w W
theorem Dx.below {w W W' : World} (h : Dx w W) (b : Below W.heap.size W W') : Dx w W' := ⟨h.1.below b h.1.lt, h.2.trans (b.mono h.2.size)⟩
theorem Dx.kept {w W W' : World} {g : Nat} (h : Dx w W) (k : W.grownBy W' (some g)) (hg : w.heap.size < g) : Dx w W' :=
  ⟨h.1.kept k (fun e => by cases e; omega), below_gb h.2 k (Nat.le_of_lt hg) h.2.size⟩
theorem noneIn (W : World) (B : Nat) : ObIn W B Ob.none atNil := ⟨Ens.nil _ _ _, Txs.nil _ _ _, Nat.le_refl _⟩
theorem Dx.none {w W : World} (h : Dx w W) (e : Int) : DEnd w Ob.none e (.returned (.tuple #[.agg (obArr Ob.none atNil), .int .i64 e])) (W.setRow w.heap.size (obArr Ob.none atNil)) :=
  ⟨atNil, rfl, noneIn _ _, below_setRow h.2 (Nat.le_refl _) _⟩
theorem DEnd_eq {w : World} {a : Ob × Int} {o : Ob} {e : Int} (h : a = (o, e)) {x : Ending} {w' : World} (k : DEnd w o e x w') : DEnd w a.1 a.2 x w' := by rw [h]; exact k

set_option maxRecDepth 100000 in
set_option maxHeartbeats 4000000 in
theorem Decode_any (s : ByteArray) (w : World) : Calls Tryd.prog 58 #[.string s] w (DEnd w (decO s.data.toList).1 (decO s.data.toList).2) := by
  obtain ⟨R, hR⟩ : ∃ R, R = decO s.data.toList := ⟨_, rfl⟩
  rw [← hR]
  unfold decO at hR
  have hl : s.data.toList.length = s.size := rfl
  rw [hl] at hR
  go_enter Tryd.func58, Tryd.ntmps58
  go_upto_region 1 with fail
  refine wp_forget (Dx w) ⟨Arr.new _ _ _, (Below.refl _ _).alloc (Nat.le_refl _) _⟩ ?_
  intro W hW
  by_cases hlong : 8192 < s.size
  · rw [if_pos hlong] at hR
    have hi : (8192 : Int) < s.size := by omega
    have HR := Lib.hid hR
    clear hR hlong
    go_wp2_with (refine wpList_store_row rfl 60 _ _ rfl w.heap.size (obArr Ob.none atNil) rfl rfl 60 zeroO hW.1 (obInfo _ _) rfl (obArr_one _ _) ?_)
    refine bodyPost_ret (v := .tuple #[.agg (obArr Ob.none atNil), .int .i64 1]) ?_ rfl (DEnd_eq HR.out (hW.none 1))
    rw [results_cell_tmp Tryd.results58]
    have hld := run_loadVar_row (P := Tryd.prog) _ _ _ 60 _ _ _ (hW.1.row (obArr Ob.none atNil)) Tryd.underlying60 rfl (obInfo Ob.none atNil)
    simp [asAddr, hld, Result.andThen]
  rw [if_neg hlong] at hR
  have hi : ¬ (8192 : Int) < s.size := by omega
  have HR0 := Lib.hid hR
  clear hR
  go_wp2_with fail
  (with_reducible refine (Read_any s W).mono ?_)
  rintro _ W1 ⟨rfl, hRd, b1⟩
  have hW1 := hW.below b1
  have hgr : w.heap.size < W.heap.size := hW.1.lt
  have hRS : RS W1 W.heap.size (some s.data.toList) := ⟨by rw [bs_of]; exact hRd, by omega⟩
  generalize W.heap.size = g at *
  clear hW b1 hRd W
  generalize s.data.toList = l at *
  clear hl
  have q := rs_num g (some l) W1 hRS
  have hn62 := stNum_lt (some l)
  cases hnum : rdNum l with
  | none =>
    have e1 : stNum (some l) = (0, none) := by simp [stNum, hnum]
    rw [e1] at q
    have hR := HR0.out
    rw [hnum] at hR
    have HR := Lib.hid hR
    clear hR HR0 e1 hnum hn62 hlong
    go_wp2_with fail
    (with_reducible refine q.mono ?_)
    clear q
    rintro _ W2 ⟨rfl, h2, k2⟩
    have hW2 := hW1.kept k2 hgr
    clear hW1 hRS k2
    go_wp2_with fail
    (with_reducible refine (rs_bad g none W2 h2).mono ?_)
    rintro _ _ ⟨⟨e, rfl, he⟩, rfl⟩
    rw [Option.isNone_none] at he
    go_wp2_with (refine wpList_store_row rfl 60 _ _ rfl w.heap.size (obArr Ob.none atNil) rfl rfl 60 zeroO hW2.1 (obInfo _ _) rfl (obArr_one _ _) ?_)
    refine bodyPost_ret (v := .tuple #[.agg (obArr Ob.none atNil), .int .i64 2]) ?_ rfl (DEnd_eq HR.out (hW2.none 2))
    rw [results_cell_tmp Tryd.results58]
    have hld := run_loadVar_row (P := Tryd.prog) _ _ _ 60 _ _ _ (hW2.1.row (obArr Ob.none atNil)) Tryd.underlying60 rfl (obInfo Ob.none atNil)
    simp [asAddr, hld, Result.andThen]
  | some y =>
    obtain ⟨n, r⟩ := y
    have e1 : stNum (some l) = (n, some r) := by simp [stNum, hnum]
    rw [e1] at q hn62
    have hR := HR0.out
    rw [hnum] at hR
    simp only at hR hn62
    clear HR0
    have CK := Lib.hid (isKind_any (n : Int))
    have HKc := Lib.hid (kindB_cases (k := (n : Int)))
    generalize hkb : kindB (n : Int) = kb at *
    have HR1 := Lib.hid hR
    clear e1 hnum hlong hkb hR
    go_wp2_with fail
    (with_reducible refine q.mono ?_)
    clear q
    rintro _ W2 ⟨rfl, h2, k2⟩
    have hW2 := hW1.kept k2 hgr
    clear hW1 hRS k2
    go_wp2_with fail
    (with_reducible refine (rs_bad g (some r) W2 h2).mono ?_)
    rintro _ _ ⟨⟨e, rfl, he⟩, rfl⟩
    rw [Option.isNone_some] at he
    go_wp2_with fail
    (with_reducible refine (CK.out W2).mono ?_)
    rintro _ _ ⟨rfl, rfl⟩
    clear CK
    cases kb with
    | false =>
      have hR := HR1.out
      rw [if_pos rfl] at hR
      clear HR1
      have HR := Lib.hid hR
      clear hR
      go_wp2_with (refine wpList_store_row rfl 60 _ _ rfl w.heap.size (obArr Ob.none atNil) rfl rfl 60 zeroO hW2.1 (obInfo _ _) rfl (obArr_one _ _) ?_)
      refine bodyPost_ret (v := .tuple #[.agg (obArr Ob.none atNil), .int .i64 4]) ?_ rfl (DEnd_eq HR.out (hW2.none 4))
      rw [results_cell_tmp Tryd.results58]
      have hld := run_loadVar_row (P := Tryd.prog) _ _ _ 60 _ _ _ (hW2.1.row (obArr Ob.none atNil)) Tryd.underlying60 rfl (obInfo Ob.none atNil)
      simp [asAddr, hld, Result.andThen]
    | true =>
      have hR := HR1.out
      rw [if_neg (by decide)] at hR
      clear HR1
      have CF := Lib.hid (readFields_any g r (n : Int) (HKc.out rfl) W2 h2)
      generalize rdFields (n : Int) r = res at *
      have HR := Lib.hid hR
      clear hR h2 HKc
      go_wp2_with fail
      (with_reducible refine CF.out.mono ?_)
      clear CF
      rintro _ W3 ⟨o, p, ok, rfl, k3, hres⟩
      have hW3 := hW2.kept k3 hgr
      obtain ⟨st, hst, HC⟩ : ∃ st, RS W3 g st ∧ Hid ((∃ r, res = some (o, r) ∧ ok = true ∧ st = some r ∧ ObIn W3 W3.heap.size o p ∧ Above w.heap.size p) ∨ (res = none ∧ (ok = false ∨ st = none))) := by
        rcases hres with ⟨r, e1, e2, h2, h3, h4⟩ | ⟨e1, st2, h2, e2⟩
        · exact ⟨some r, h2, .inl ⟨r, e1, e2, rfl, h3, h4.mono (by have := hW2.1.lt; omega)⟩⟩
        · exact ⟨st2, h2, .inr ⟨e1, e2⟩⟩
      clear hres hW2 k3
      have hlt3 := hW3.1.lt
      have hglt := hst.lt
      go_upto_region 10 with (refine wpList_store_row rfl 60 _ _ rfl W3.heap.size (obArr o p) rfl rfl 60 zeroO (Arr.new W3 _ _) (obInfo _ _) rfl (obArr_one _ _) ?_)
      have bel : Below W3.heap.size W3 ((W3.alloc (.cells zeroO 60)).setRow W3.heap.size (obArr o p)) := below_setRow ((Below.refl _ _).alloc (Nat.le_refl _) _) (Nat.le_refl _) _
      refine wp_forget (fun W => Dx w W ∧ Arr W W3.heap.size 60 (obArr o p) ∧ RS W g st ∧ Hid ((∃ r, res = some (o, r) ∧ ok = true ∧ st = some r ∧ ObIn W W.heap.size o p ∧ Above w.heap.size p) ∨ (res = none ∧ (ok = false ∨ st = none)))) ⟨hW3.below bel, (Arr.new W3 _ _).row _, hst.below bel, ?_⟩ ?_
      · rcases HC.out with ⟨r, e1, e2, e3, h4, h5⟩ | h4
        · exact .inl ⟨r, e1, e2, e3, (h4.below bel).mono bel.size, h5⟩
        · exact .inr h4
      clear bel HC hst hW3
      generalize W3.heap.size = b at *
      clear W3
      rintro W ⟨hW, hX, hst, HC⟩
      have HZ : ∀ st, RS W g st → Hid (∀ w, w = W → Calls Tryd.prog 23 #[.pointer (some ⟨g, 0, none⟩)] w fun x w' => (∃ e : Int, x = .returned (.int .i64 e) ∧ (e != 0) = st.isNone) ∧ w = w') := fun st h w e => by subst e; exact rs_bad g st w h
      rcases HC.out with ⟨rest, rfl, rfl, rfl, hO, hfar⟩ | ⟨rfl, hf⟩
      · clear HC HZ
        have HFar := Lib.hid hfar
        clear hfar
        go_wp2_with fail
        (with_reducible refine (rs_bad g (some rest) W hst).mono ?_)
        rintro _ _ ⟨⟨e, rfl, he⟩, rfl⟩
        rw [Option.isNone_some] at he
        have hRd : Rd W g (bs rest) 0 := by
          unfold RS at hst
          exact hst.1
        have hsz : (bs rest).size = rest.length := bs_size rest
        go_wp2_with fail
        (with_reducible refine (Left_any g (bs rest) 0 W hRd).mono ?_)
        rintro _ _ ⟨rfl, rfl⟩
        rw [hsz]
        clear hsz
        have hro : R = if 0 < rest.length then (Ob.none, 2) else if good o ≠ 0 then (Ob.none, good o) else (o, 0) := HR.out
        by_cases hrest : 0 < rest.length
        · rw [if_pos hrest] at hro
          have hri : (0 : Int) < rest.length := by omega
          have HR2 := Lib.hid hro
          clear hro HR
          go_wp2_with (refine wpList_store_row rfl 60 _ _ rfl w.heap.size (obArr Ob.none atNil) rfl rfl 60 zeroO hW.1 (obInfo _ _) rfl (obArr_one _ _) ?_)
          refine bodyPost_ret (v := .tuple #[.agg (obArr Ob.none atNil), .int .i64 2]) ?_ rfl (DEnd_eq HR2.out (hW.none 2))
          rw [results_cell_tmp Tryd.results58]
          have hld := run_loadVar_row (P := Tryd.prog) _ _ _ 60 _ _ _ (hW.1.row (obArr Ob.none atNil)) Tryd.underlying60 rfl (obInfo Ob.none atNil)
          simp [asAddr, hld, Result.andThen]
        · rw [if_neg hrest] at hro
          have hr0 : rest.length = 0 := by omega
          have CG := Lib.hid (Good_any o p W hO)
          have HR2 := Lib.hid hro
          clear hro HR
          rw [hr0]
          clear hrest
          go_wp2_with (refine wpList_load_row rfl 60 _ rfl b rfl 60 _ (0, 0) _ hX Tryd.underlying60 rfl (obInfo o p) ?_)
          (with_reducible refine CG.out.mono ?_)
          clear CG
          rintro _ W5 ⟨rfl, b5⟩
          have hW5 := hW.below b5
          have hX5 := hX.below b5 hX.lt
          have hO5 := (hO.below b5).mono b5.size
          clear hW hX hO hst b5
          generalize good o = G at *
          cases hG : G != 0
          case true =>
            have hG2 : G ≠ 0 := by simpa using hG
            have hro := HR2.out
            rw [if_pos hG2] at hro
            have HR3 := Lib.hid hro
            clear hro HR2 hG2
            go_wp2_with (refine wpList_store_row rfl 60 _ _ rfl w.heap.size (obArr Ob.none atNil) rfl rfl 60 zeroO hW5.1 (obInfo _ _) rfl (obArr_one _ _) ?_)
            refine bodyPost_ret (v := .tuple #[.agg (obArr Ob.none atNil), .int .i64 G]) ?_ rfl (DEnd_eq HR3.out (hW5.none G))
            rw [results_cell_tmp Tryd.results58]
            have hld := run_loadVar_row (P := Tryd.prog) _ _ _ 60 _ _ _ (hW5.1.row (obArr Ob.none atNil)) Tryd.underlying60 rfl (obInfo Ob.none atNil)
            simp [asAddr, hld, Result.andThen]
          have hG2 : G = 0 := by simpa using hG
          subst hG2
          have hro := HR2.out
          rw [if_neg (by simp)] at hro
          have HR3 := Lib.hid hro
          clear hro HR2 hG
          go_wp2_with (first | (refine wpList_load_row rfl 60 _ rfl b rfl 60 _ (0, 0) _ hX5 Tryd.underlying60 rfl (obInfo o p) ?_) | (refine wpList_store_row rfl 60 _ _ rfl w.heap.size (obArr o p) rfl rfl 60 zeroO hW5.1 (obInfo _ _) rfl (obArr_one _ _) ?_))
          refine bodyPost_ret (v := .tuple #[.agg (obArr o p), .int .i64 0]) ?_ rfl (DEnd_eq HR3.out ⟨p, rfl, ?_, below_setRow hW5.2 (Nat.le_refl _) _⟩)
          · rw [results_cell_tmp Tryd.results58]
            have hld := run_loadVar_row (P := Tryd.prog) _ _ _ 60 _ _ _ (hW5.1.row (obArr o p)) Tryd.underlying60 rfl (obInfo o p)
            simp [asAddr, hld, Result.andThen]
          · have hlt5 := hW5.1.lt
            exact ObIn.far hO5 (gb_row w.heap.size _) (HFar.out)
      · clear HC
        have HR2 : Hid (R = (Ob.none, 2)) := HR.out
        clear HR
        cases ok with
        | false =>
          clear hf HZ
          go_wp2_with (refine wpList_store_row rfl 60 _ _ rfl w.heap.size (obArr Ob.none atNil) rfl rfl 60 zeroO hW.1 (obInfo _ _) rfl (obArr_one _ _) ?_)
          refine bodyPost_ret (v := .tuple #[.agg (obArr Ob.none atNil), .int .i64 2]) ?_ rfl (DEnd_eq HR2.out (hW.none 2))
          rw [results_cell_tmp Tryd.results58]
          have hld := run_loadVar_row (P := Tryd.prog) _ _ _ 60 _ _ _ (hW.1.row (obArr Ob.none atNil)) Tryd.underlying60 rfl (obInfo Ob.none atNil)
          simp [asAddr, hld, Result.andThen]
        | true =>
          have hst2 : st = none := by rcases hf with h | h; cases h; exact h
          subst hst2
          clear hf HZ
          go_wp2_with fail
          (with_reducible refine (rs_bad g none W hst).mono ?_)
          rintro _ _ ⟨⟨e, rfl, he⟩, rfl⟩
          rw [Option.isNone_none] at he
          go_wp2_with (refine wpList_store_row rfl 60 _ _ rfl w.heap.size (obArr Ob.none atNil) rfl rfl 60 zeroO hW.1 (obInfo _ _) rfl (obArr_one _ _) ?_)
          refine bodyPost_ret (v := .tuple #[.agg (obArr Ob.none atNil), .int .i64 2]) ?_ rfl (DEnd_eq HR2.out (hW.none 2))
          rw [results_cell_tmp Tryd.results58]
          have hld := run_loadVar_row (P := Tryd.prog) _ _ _ 60 _ _ _ (hW.1.row (obArr Ob.none atNil)) Tryd.underlying60 rfl (obInfo Ob.none atNil)
          simp [asAddr, hld, Result.andThen]
end Go.Proofs.YthigdhiebogffaaDoor

/- What Read answers: plain definitions. -/
namespace Go.Proofs.YthigdhiebogffaaDoor

/-- how a pack stores an object -/
structure Rp where
  way : Nat
  index : Nat
  id : ByteArray
  bytes : ByteArray
def Rp.none : Rp := ⟨0, 0, ⟨#[]⟩, ⟨#[]⟩⟩
/-- a representation, up to the delta -/
def rdStart (l : List UInt8) : Option (Rp × List UInt8) :=
  match rdNum l with
  | none => none
  | some (h, l1) =>
    if h = 0 then match rdNum l1 with
      | none => none
      | some (n, l2) => if l2.length < n then none else some (⟨0, 0, ⟨#[]⟩, bs (l2.take n)⟩, l2.drop n)
    else if h = 1 then match rdNum l1 with
      | none => none
      | some (k, l2) => some (⟨1, k, ⟨#[]⟩, ⟨#[]⟩⟩, l2)
    else if h = 2 then match rdId l1 with
      | none => none
      | some (id, l2) => some (⟨2, 0, id, ⟨#[]⟩⟩, l2)
    else none
/-- the last of some texts whose id this is -/
def lastId (id : ByteArray) : List ByteArray → Option ByteArray
  | [] => none
  | x :: O => match lastId id O with
    | some y => some y
    | none => if bs (sha x.data.toList) = id then some x else none
/-- what a delta stands upon, and the length of its chain; or an error -/
def baseP (O T : List ByteArray) (D : List Nat) (p : Rp) : Except Int (ByteArray × Nat) :=
  if p.way = 1 then match T[p.index]? with
    | none => .error 3
    | some b => .ok (b, D.getD p.index 0)
  else match lastId p.id O with
    | none => .error 11
    | some b => .ok (b, 0)
/-- the next object, the length of its chain, what is left -/
def objP (O T : List ByteArray) (D : List Nat) (l : List UInt8) : Except Int (ByteArray × Nat × List UInt8) :=
  match rdStart l with
  | none => .error 2
  | some (p, l1) => if p.way = 0 then .ok (p.bytes, 0, l1) else match baseP O T D p with
    | .error e => .error e
    | .ok (b, n) => match rdText l1 with
      | none => .error 2
      | some (d, l2) => if 8 ≤ n then .error 10
        else if (applyD b.data.toList d.data.toList).2 ≠ 0 then .error (applyD b.data.toList d.data.toList).2
        else .ok (bs (applyD b.data.toList d.data.toList).1, n + 1, l2)
/-- is this text one of these? -/
def amid (T : List ByteArray) (s : ByteArray) : Bool := T.any fun x => decide (x = s)
theorem amid_iff {T : List ByteArray} {s : ByteArray} : amid T s = true ↔ s ∈ T := by
  unfold amid
  rw [List.any_eq_true]
  exact ⟨fun ⟨x, h, e⟩ => by rw [← of_decide_eq_true e]; exact h, fun h => ⟨s, h, decide_eq_true rfl⟩⟩
/-- may this object be added to these? -/
def addP (T : List ByteArray) (s : ByteArray) : Int :=
  if (decO s.data.toList).2 ≠ 0 then (decO s.data.toList).2 else if amid T s then 8 else 0
/-- the objects, one by one -/
def unP (O : List ByteArray) : Nat → List ByteArray → List Nat → List UInt8 → Except Int (List ByteArray × List UInt8)
  | 0, T, _, l => .ok (T, l)
  | n + 1, T, D, l => match objP O T D l with
    | .error e => .error e
    | .ok (s, d, r) => if addP T s ≠ 0 then .error (addP T s) else unP O n (T ++ [s]) (D ++ [d]) r
/-- behind the sum -/
def bodyP (O : List ByteArray) (l : List UInt8) : List ByteArray × Int :=
  match rdNum l with
  | none => ([], 2)
  | some (n, r) => if 400 < n then ([], 6) else match unP O n [] [] r with
    | .error e => ([], e)
    | .ok (T, q) => if q = [] then (T, 0) else ([], 2)
/-- Read -/
def readP (b : List UInt8) (O : List ByteArray) : List ByteArray × Int :=
  if b.length < 33 ∨ b.take 1 ≠ [80] then ([], 2)
  else if sha (b.take (b.length - 32)) ≠ b.drop (b.length - 32) then ([], 5)
  else bodyP O ((b.take (b.length - 32)).drop 1)

theorem rdId_less {l r : List UInt8} {t : ByteArray} (h : rdId l = some (t, r)) : r.length < l.length := by
  unfold rdId at h
  split at h
  · simp only [Option.some.injEq, Prod.mk.injEq] at h
    rw [← h.2, List.length_drop]
    omega
  · cases h
theorem rdStart_less {l r : List UInt8} {p : Rp} (h : rdStart l = some (p, r)) : r.length < l.length := by
  unfold rdStart at h
  cases h1 : rdNum l with
  | none => simp [h1] at h
  | some y =>
    obtain ⟨k, l1⟩ := y
    have a1 := rdNum_less h1
    simp only [h1] at h
    by_cases k0 : k = 0
    · rw [if_pos k0] at h
      cases h2 : rdNum l1 with
      | none => simp [h2] at h
      | some z =>
        obtain ⟨n, l2⟩ := z
        have a2 := rdNum_less h2
        simp only [h2] at h
        split at h
        · cases h
        · simp only [Option.some.injEq, Prod.mk.injEq] at h
          rw [← h.2, List.length_drop]
          omega
    · rw [if_neg k0] at h
      by_cases k1 : k = 1
      · rw [if_pos k1] at h
        cases h2 : rdNum l1 with
        | none => simp [h2] at h
        | some z =>
          obtain ⟨n, l2⟩ := z
          have a2 := rdNum_less h2
          simp only [h2, Option.some.injEq, Prod.mk.injEq] at h
          rw [← h.2]
          omega
      · rw [if_neg k1] at h
        by_cases k2 : k = 2
        · rw [if_pos k2] at h
          cases h2 : rdId l1 with
          | none => simp [h2] at h
          | some z =>
            obtain ⟨n, l2⟩ := z
            have a2 := rdId_less h2
            simp only [h2, Option.some.injEq, Prod.mk.injEq] at h
            rw [← h.2]
            omega
        · rw [if_neg k2] at h; cases h
theorem rdText_less {l r : List UInt8} {t : ByteArray} (h : rdText l = some (t, r)) : r.length < l.length := by
  unfold rdText at h
  cases h1 : rdNum l with
  | none => simp [h1] at h
  | some y =>
    obtain ⟨n, l1⟩ := y
    have a1 := rdNum_less h1
    simp only [h1] at h
    split at h
    · simp only [Option.some.injEq, Prod.mk.injEq] at h
      rw [← h.2, List.length_drop]
      omega
    · cases h
theorem objP_less {O T : List ByteArray} {D : List Nat} {l r : List UInt8} {s : ByteArray} {n : Nat} (h : objP O T D l = .ok (s, n, r)) : r.length < l.length := by
  unfold objP at h
  cases h1 : rdStart l with
  | none => simp [h1] at h
  | some y =>
    obtain ⟨p, l1⟩ := y
    have a1 := rdStart_less h1
    simp only [h1] at h
    split at h
    · simp only [Except.ok.injEq, Prod.mk.injEq] at h
      rw [← h.2.2]
      exact a1
    · cases h2 : baseP O T D p with
      | error e => simp [h2] at h
      | ok z =>
        obtain ⟨b, m⟩ := z
        simp only [h2] at h
        cases h3 : rdText l1 with
        | none => simp [h3] at h
        | some q =>
          obtain ⟨d, l2⟩ := q
          have a2 := rdText_less h3
          simp only [h3] at h
          split at h
          · cases h
          · split at h
            · cases h
            · simp only [Except.ok.injEq, Prod.mk.injEq] at h
              rw [← h.2.2]
              omega
end Go.Proofs.YthigdhiebogffaaDoor

/- A reader of a pack by its states: what is left, or none: then the error is ErrForm. -/
namespace Go.Proofs.YthigdhiebogffaaDoor
open Go.RowKit

def RL (w : World) (g : Nat) : St → Prop
  | some l => Rd w g (bs l) 0 ∧ l.length ≤ 281474976710656
  | none => ∃ s, Rd w g s 2
def stE (st : St) : Int := if st.isNone then 2 else 0
theorem RL.lt {w : World} {g : Nat} {st : St} (h : RL w g st) : g < w.heap.size := by
  cases st with
  | none => obtain ⟨s, h⟩ := h; exact Arr.lt h
  | some l => exact Arr.lt h.1
theorem RL.kept {w w' : World} {g : Nat} {st : St} {r : Option Nat} (h : RL w g st) (k : w.grownBy w' r) (hr : some g ≠ r) : RL w' g st := by
  cases st with
  | none => obtain ⟨s, h⟩ := h; exact ⟨s, Arr.kept h k hr⟩
  | some l => exact ⟨Arr.kept h.1 k hr, h.2⟩
theorem RL.ne {w : World} {g k : Nat} {st : St} {t : TypeId} {cs : Array Value} (h : RL w g st) (h' : Arr w k t cs) (ht : 87 ≠ t) : g ≠ k := by
  cases st with
  | none => obtain ⟨s, h⟩ := h; exact Arr.ne h h' ht
  | some l => exact Arr.ne h.1 h' ht
def stTake (n : Nat) : St → ByteArray × St
  | none => (⟨#[]⟩, none)
  | some l => if n ≤ l.length then (bs (l.take n), some (l.drop n)) else (⟨#[]⟩, none)
theorem stTake_id (st : St) : stTake 32 st = stId st := by
  cases st with
  | none => rfl
  | some l =>
    unfold stTake stId rdId
    by_cases h : 32 ≤ l.length
    · simp only [if_pos h]
    · simp only [if_neg h]
def Rle (w : World) (g : Nat) (v : Value) (st : St) (x : Ending) (w' : World) : Prop := x = .returned v ∧ RL w' g st ∧ w.grownBy w' (some g)
theorem rl_num (g : Nat) (st : St) (w : World) (h : RL w g st) : Calls Tryd.prog 22 #[.pointer (some ⟨g, 0, none⟩)] w (Rle w g (.int .i64 ((stNum st).1 : Int)) (stNum st).2) := by
  cases st with
  | none =>
    obtain ⟨s, h⟩ := h
    exact (Number_bad g s 2 (by decide) w h).mono fun x w' ⟨h1, h2, h3⟩ => ⟨h1, ⟨s, h2⟩, h3⟩
  | some l =>
    obtain ⟨h, hl⟩ := h
    have hs : (bs l).size ≤ 281474976710656 := by rw [bs_size]; omega
    cases hg : got l with
    | none =>
      rw [show stNum (some l) = (0, none) from by simp [stNum, rdNum, hg]]
      exact (Number_go g (bs l) 0 0 2 (getIs_none _ hs (by rw [bs_list]; exact hg)) (by omega) w h).mono fun x w' ⟨h1, h2, h3⟩ => ⟨h1, ⟨_, h2⟩, h3⟩
    | some y =>
      obtain ⟨n, k⟩ := y
      have hk := got_some _ _ _ hg
      rw [show stNum (some l) = (n, some (l.drop k)) from by simp [stNum, rdNum, hg]]
      refine (Number_go g (bs l) n k 0 (getIs_some _ hs n k (by rw [bs_list]; exact hg)) (by rw [bs_size]; exact hk.2.2.2.2) w h).mono fun x w' ⟨h1, h2, h3⟩ => ⟨h1, ⟨?_, by rw [List.length_drop]; omega⟩, h3⟩
      rw [bs_drop] at h2
      exact h2
theorem rl_take (g : Nat) (n : Nat) (st : St) (w : World) (h : RL w g st) : Calls Tryd.prog 81 #[.pointer (some ⟨g, 0, none⟩), .int .i64 (n : Int)] w (Rle w g (.string (stTake n st).1) (stTake n st).2) := by
  cases st with
  | none =>
    obtain ⟨s, h⟩ := h
    exact (Bytes_bad g s n 2 (by decide) w h).mono fun x w' ⟨h1, h2, h3⟩ => ⟨h1, ⟨s, h2⟩, h3⟩
  | some l =>
    obtain ⟨h, hl⟩ := h
    by_cases h5 : n ≤ l.length
    · rw [show stTake n (some l) = (bs (l.take n), some (l.drop n)) from by simp only [stTake]; rw [if_pos h5]]
      refine (Bytes_go g (bs l) n (by rw [bs_size]; exact h5) w h).mono fun x w' ⟨h1, h2, h3⟩ => ⟨?_, ⟨?_, ?_⟩, h3⟩
      · rw [h1, bs_head]
      · rw [bs_drop] at h2; exact h2
      · rw [List.length_drop]; omega
    · rw [show stTake n (some l) = (⟨#[]⟩, none) from by simp only [stTake]; rw [if_neg h5]]
      exact (Bytes_no g (bs l) n (.inr (by rw [bs_size]; omega)) w h).mono fun x w' ⟨h1, h2, h3⟩ => ⟨h1, ⟨_, h2⟩, h3⟩
theorem rl_bad (g : Nat) (st : St) (w : World) (h : RL w g st) : Calls Tryd.prog 23 #[.pointer (some ⟨g, 0, none⟩)] w fun x w' => x = .returned (.int .i64 (stE st)) ∧ w = w' := by
  cases st with
  | none =>
    obtain ⟨s, h⟩ := h
    exact Bad_any g s 2 w h
  | some l => exact Bad_any g (bs l) 0 w h.1
/-- a text: what went wrong is not asked -/
def Rte (w : World) (g : Nat) (v : Value) (st : St) (x : Ending) (w' : World) : Prop :=
  x = .returned v ∧ (match st with | some l => RL w' g (some l) | none => ∃ s e, (e != 0) = true ∧ Rd w' g s e) ∧ w.grownBy w' (some g)
theorem rl_txt (g : Nat) (l : List UInt8) (w : World) (h : RL w g (some l)) : Calls Tryd.prog 67 #[.pointer (some ⟨g, 0, none⟩)] w (Rte w g (.string (stTxt (some l)).1) (stTxt (some l)).2) := by
  obtain ⟨h, hl⟩ := h
  have hs : (bs l).size ≤ 281474976710656 := by rw [bs_size]; omega
  cases hg : got l with
  | none =>
    rw [show stTxt (some l) = (⟨#[]⟩, none) from by simp [stTxt, rdText, rdNum, hg]]
    exact (Text_go g (bs l) ⟨#[]⟩ 0 2 (text_none _ hs (by rw [bs_list]; exact hg)) (by omega) w h).mono fun x w' ⟨h1, h2, h3⟩ => ⟨h1, ⟨_, 2, by decide, h2⟩, h3⟩
  | some y =>
    obtain ⟨n, k⟩ := y
    have hk := (got_some _ _ _ hg).2.2.2.2
    by_cases h4 : n ≤ 4096
    · by_cases h5 : n ≤ (l.drop k).length
      · rw [show stTxt (some l) = (bs ((l.drop k).take n), some ((l.drop k).drop n)) from by simp only [stTxt, rdText, rdNum, hg]; rw [if_pos ⟨h4, h5⟩]]
        rw [List.length_drop] at h5
        refine (Text_go g (bs l) _ (k + n) 0 (text_yes _ hs n k (by rw [bs_list]; exact hg) h4 (by rw [bs_size]; omega)) (by rw [bs_size]; omega) w h).mono fun x w' ⟨h1, h2, h3⟩ => ⟨?_, ⟨?_, ?_⟩, h3⟩
        · rw [h1, bs_mid]
        · rw [bs_drop] at h2
          rw [List.drop_drop]
          exact h2
        · simp only [List.length_drop]; omega
      · rw [show stTxt (some l) = (⟨#[]⟩, none) from by simp only [stTxt, rdText, rdNum, hg]; rw [if_neg (fun q => h5 q.2)]]
        rw [List.length_drop] at h5
        exact (Text_go g (bs l) ⟨#[]⟩ 0 2 (text_short _ hs n k (by rw [bs_list]; exact hg) h4 (by rw [bs_size]; omega)) (by omega) w h).mono fun x w' ⟨h1, h2, h3⟩ => ⟨h1, ⟨_, 2, by decide, h2⟩, h3⟩
    · rw [show stTxt (some l) = (⟨#[]⟩, none) from by simp only [stTxt, rdText, rdNum, hg]; rw [if_neg (fun q => h4 q.1)]]
      exact (Text_go g (bs l) ⟨#[]⟩ 0 1 (text_long _ hs n k (by rw [bs_list]; exact hg) (by omega)) (by omega) w h).mono fun x w' ⟨h1, h2, h3⟩ => ⟨h1, ⟨_, 1, by decide, h2⟩, h3⟩

/-- a representation's cells -/
def rpArr (p : Rp) : Array Value := #[.int .i64 p.way, .int .i64 p.index, .string p.id, .string p.bytes]
def zeroR : Array Value := #[.int .i64 0, .int .i64 0, .string ⟨#[]⟩, .string ⟨#[]⟩]
theorem rpInfo (p : Rp) : (Tryd.prog.info? 111).map (·.size) = some (rpArr p).size := by
  rw [show (rpArr p).size = 4 from rfl]
  kernel_rfl
theorem rpArr_one (p : Rp) : (rpArr p).all (·.oneCell') = true := by
  unfold rpArr
  rw [Array.all_eq_true_iff_forall_mem]
  intro v hv
  simp at hv
  rcases hv with rfl | rfl | rfl | rfl <;> rfl
/-- a representation up to the delta, by a reader's states -/
def stStart (st : St) : Rp × St :=
  if (stNum st).1 = 0 then (⟨0, 0, ⟨#[]⟩, (stTake (stNum (stNum st).2).1 (stNum (stNum st).2).2).1⟩, (stTake (stNum (stNum st).2).1 (stNum (stNum st).2).2).2)
  else if (stNum st).1 = 1 then (⟨1, (stNum (stNum st).2).1, ⟨#[]⟩, ⟨#[]⟩⟩, (stNum (stNum st).2).2)
  else if (stNum st).1 = 2 then (⟨2, 0, (stTake 32 (stNum st).2).1, ⟨#[]⟩⟩, (stTake 32 (stNum st).2).2)
  else (Rp.none, none)
theorem stNum_n {l : List UInt8} (h : rdNum l = none) : stNum (some l) = (0, none) := by simp [stNum, h]
theorem stNum_s {l r : List UInt8} {n : Nat} (h : rdNum l = some (n, r)) : stNum (some l) = (n, some r) := by simp [stNum, h]
theorem stNum_o : stNum none = (0, none) := rfl
theorem stId_n {l : List UInt8} (h : rdId l = none) : stId (some l) = (⟨#[]⟩, none) := by simp [stId, h]
theorem stId_s {l r : List UInt8} {t : ByteArray} (h : rdId l = some (t, r)) : stId (some l) = (t, some r) := by simp [stId, h]
theorem stTake_o (n : Nat) : stTake n none = (⟨#[]⟩, none) := rfl
theorem stStart_none {l : List UInt8} (h : rdStart l = none) : (stStart (some l)).2 = none := by
  unfold rdStart at h
  unfold stStart
  cases h1 : rdNum l with
  | none => rw [stNum_n h1]; simp only [stNum_o, stTake_o, if_true]
  | some y =>
    obtain ⟨k, l1⟩ := y
    rw [stNum_s h1]
    simp only [h1] at h ⊢
    by_cases k0 : k = 0
    · rw [if_pos k0] at h ⊢
      cases h2 : rdNum l1 with
      | none => rw [stNum_n h2]; simp only [stTake_o]
      | some z =>
        obtain ⟨n, l2⟩ := z
        rw [stNum_s h2]
        simp only [h2] at h ⊢
        by_cases h3 : l2.length < n
        · unfold stTake
          simp only
          rw [if_neg (by omega)]
        · rw [if_neg h3] at h
          cases h
    · rw [if_neg k0] at h ⊢
      by_cases k1 : k = 1
      · rw [if_pos k1] at h ⊢
        cases h2 : rdNum l1 with
        | none => rw [stNum_n h2]
        | some z => simp [h2] at h
      · rw [if_neg k1] at h ⊢
        by_cases k2 : k = 2
        · rw [if_pos k2] at h ⊢
          rw [stTake_id]
          cases h2 : rdId l1 with
          | none => rw [stId_n h2]
          | some z => simp [h2] at h
        · rw [if_neg k2]
theorem stStart_some {l r : List UInt8} {p : Rp} (h : rdStart l = some (p, r)) : stStart (some l) = (p, some r) := by
  unfold rdStart at h
  unfold stStart
  cases h1 : rdNum l with
  | none => simp [h1] at h
  | some y =>
    obtain ⟨k, l1⟩ := y
    rw [stNum_s h1]
    simp only [h1] at h ⊢
    by_cases k0 : k = 0
    · rw [if_pos k0] at h ⊢
      cases h2 : rdNum l1 with
      | none => simp [h2] at h
      | some z =>
        obtain ⟨n, l2⟩ := z
        rw [stNum_s h2]
        simp only [h2] at h ⊢
        by_cases h3 : l2.length < n
        · rw [if_pos h3] at h
          cases h
        · rw [if_neg h3] at h
          unfold stTake
          simp only
          rw [if_pos (by omega)]
          simp only [Option.some.injEq, Prod.mk.injEq] at h
          rw [← h.1, ← h.2]
    · rw [if_neg k0] at h ⊢
      by_cases k1 : k = 1
      · rw [if_pos k1] at h ⊢
        cases h2 : rdNum l1 with
        | none => simp [h2] at h
        | some z =>
          obtain ⟨n, l2⟩ := z
          rw [stNum_s h2]
          simp only [h2, Option.some.injEq, Prod.mk.injEq] at h ⊢
          exact h
      · rw [if_neg k1] at h ⊢
        by_cases k2 : k = 2
        · rw [if_pos k2] at h ⊢
          rw [stTake_id]
          cases h2 : rdId l1 with
          | none => simp [h2] at h
          | some z =>
            obtain ⟨n, l2⟩ := z
            rw [stId_s h2]
            simp only [h2, Option.some.injEq, Prod.mk.injEq] at h ⊢
            exact h
        · rw [if_neg k2] at h
          cases h
end Go.Proofs.YthigdhiebogffaaDoor

/- A map from texts to Bools that the call has made: its entries, one by one. -/
namespace Go.Proofs.YthigdhiebogffaaDoor
open Go.RowKit

abbrev KV := ByteArray × Bool
def mkEs : Nat → List KV → List MapEntry
  | _, [] => []
  | i, x :: l => { key := .string x.1, val := .bool x.2, born := i } :: mkEs (i + 1) l
theorem mkEs_at : ∀ (l : List KV) (i q : Nat), (mkEs i l)[q]? = (l[q]?).map fun x => { key := .string x.1, val := .bool x.2, born := i + q }
  | [], i, q => by simp [mkEs]
  | x :: l, i, 0 => by simp [mkEs]
  | x :: l, i, q + 1 => by
    rw [mkEs, List.getElem?_cons_succ, List.getElem?_cons_succ, mkEs_at l (i + 1) q, show i + 1 + q = i + (q + 1) from by omega]
theorem mkEs_len : ∀ (l : List KV) (i : Nat), (mkEs i l).length = l.length
  | [], _ => rfl
  | x :: l, i => by rw [mkEs, List.length_cons, List.length_cons, mkEs_len l]
/-- block b is a map of these entries -/
def MapAt (w : World) (b : Nat) (l : List KV) : Prop := w.heap[b]? = some (.map (mkEs 0 l).toArray l.length)
theorem MapAt.lt {w : World} {b : Nat} {l : List KV} (h : MapAt w b l) : b < w.heap.size := (Array.getElem?_eq_some_iff.1 h).1
theorem MapAt.kept {w w' : World} {b : Nat} {l : List KV} {r : Option Nat} (h : MapAt w b l) (k : w.grownBy w' r) (hr : some b ≠ r) : MapAt w' b l := (k.block b h.lt hr).trans h
theorem MapAt.below {w w' : World} {b B : Nat} {l : List KV} (h : MapAt w b l) (k : Below B w w') (hb : b < B) : MapAt w' b l := (k.block b hb).trans h
theorem MapAt.new (w : World) : MapAt (w.alloc (.map #[] 0)) w.heap.size [] := heap_alloc_new w _
/-- where a key stands first -/
def pos (k : ByteArray) : List KV → Option Nat
  | [] => none
  | x :: l => if k = x.1 then some 0 else (pos k l).map (· + 1)
def upL (k : ByteArray) (v : Bool) (l : List KV) : List KV := match pos k l with
  | none => l ++ [(k, v)]
  | some p => l.set p (k, v)
def getL (k : ByteArray) (l : List KV) : Bool := match pos k l with
  | none => false
  | some p => (l.getD p (k, false)).2
theorem pos_at : ∀ (k : ByteArray) (l : List KV) (p : Nat), pos k l = some p → ∃ v, l[p]? = some (k, v)
  | k, [], p, h => by cases h
  | k, x :: l, p, h => by
    rw [pos] at h
    split at h
    · rename_i e
      cases h
      exact ⟨x.2, by rw [e]; rfl⟩
    · obtain ⟨q, hq, rfl⟩ := Option.map_eq_some_iff.1 h
      obtain ⟨v, hv⟩ := pos_at k l q hq
      exact ⟨v, by rw [List.getElem?_cons_succ]; exact hv⟩
theorem beq_bytes (a b : ByteArray) : (a == b) = decide (a = b) := by
  rw [Bool.eq_iff_iff, MapKept.bytes_beq, decide_eq_true_eq]
theorem find_mk (k : ByteArray) : ∀ (l : List KV) (i j : Nat), Instr.findNow .string (.string k) (mkEs i l) j = some ((pos k l).map fun p => (j + p, .bool (l.getD p (k, false)).2))
  | [], i, j => rfl
  | x :: l, i, j => by
    rw [mkEs, Instr.findNow, Instr.sameNow, beq_bytes, pos]
    by_cases e : k = x.1
    · rw [decide_eq_true e, if_pos e]
      simp
    · rw [decide_eq_false e, if_neg e]
      simp only
      rw [find_mk k l (i + 1) (j + 1)]
      congr 1
      cases pos k l with
      | none => rfl
      | some p =>
        simp only [Option.map_some, List.getD_cons_succ]
        rw [show j + 1 + p = j + (p + 1) from by omega]
theorem mk_push (l : List KV) (k : ByteArray) (v : Bool) : mkEs 0 l ++ [{ key := .string k, val := .bool v, born := l.length }] = mkEs 0 (l ++ [(k, v)]) := by
  apply List.ext_getElem?
  intro q
  rw [mkEs_at]
  rcases Nat.lt_trichotomy q l.length with h | h | h
  · rw [List.getElem?_append_left (by rw [mkEs_len]; exact h), List.getElem?_append_left h, mkEs_at]
  · subst h
    rw [List.getElem?_append_right (by rw [mkEs_len]; exact Nat.le_refl _), List.getElem?_append_right (Nat.le_refl _), mkEs_len]
    simp
  · rw [List.getElem?_eq_none (by rw [List.length_append, mkEs_len]; simp; omega), List.getElem?_eq_none (by rw [List.length_append]; simp; omega)]
    rfl
theorem mk_set (l : List KV) (p : Nat) (k : ByteArray) (v u : Bool) (hp : l[p]? = some (k, u)) :
    (mkEs 0 l).modify p (fun e => { key := .string k, val := .bool v, born := e.born }) = mkEs 0 (l.set p (k, v)) := by
  apply List.ext_getElem?
  intro q
  rw [List.getElem?_modify, mkEs_at, mkEs_at, List.getElem?_set]
  by_cases e : p = q
  · subst e
    rw [if_pos rfl, if_pos (List.getElem?_eq_some_iff.1 hp).1, hp]
    simp
  · rw [if_neg e]
    simp [e]
theorem gb_map {w : World} {b : Nat} {o : Obj} : w.grownBy { w with heap := w.heap.setIfInBounds b o } (some b) :=
  ⟨rfl, rfl, rfl, by simp, fun k _ hr => by simp only [Array.getElem?_setIfInBounds]; rw [if_neg (fun e => hr (by rw [e]))]⟩
theorem run_up {w : World} {b : Nat} {l : List KV} (h : MapAt w b l) (k : ByteArray) (v : Bool) :
    ∃ w', (Instr.mapUpdate 123 (.map (some b)) (.string k) (.bool v)).run Tryd.prog w = .ok () w' ∧ MapAt w' b (upL k v l) ∧ w.grownBy w' (some b) := by
  have hk : MapKept.IsKey .string (.string k) := trivial
  have hf := find_mk k l 0 0
  unfold upL
  cases hp : pos k l with
  | none =>
    rw [hp] at hf
    refine ⟨_, ?_, ?_, gb_map (o := .map (mkEs 0 (l ++ [(k, v)])).toArray (l.length + 1))⟩
    · simp [Instr.mapUpdate, run_underlying Tryd.underlying123, MapKept.run_getObj_map h, MapKept.run_checkKey Tryd.underlying9 hk, MapKept.run_findKey Tryd.underlying9 hf, MapKept.run_setObj_map _ h, Result.andThen, mk_push]
    · unfold MapAt
      rw [(MapKept.heap_set h).1, List.length_append]
      rfl
  | some p =>
    rw [hp] at hf
    obtain ⟨u, hu⟩ := pos_at k l p hp
    have hj : (mkEs 0 l)[p]? = some { key := .string k, val := .bool u, born := 0 + p } := by rw [mkEs_at, hu]; rfl
    refine ⟨_, ?_, ?_, gb_map (o := .map (mkEs 0 (l.set p (k, v))).toArray l.length)⟩
    · rw [Option.map_some, Nat.zero_add] at hf
      simp [Instr.mapUpdate, run_underlying Tryd.underlying123, MapKept.run_getObj_map h, MapKept.run_checkKey Tryd.underlying9 hk, MapKept.run_findKey Tryd.underlying9 hf, hj, MapKept.run_keyThatStays hk, MapKept.run_setObj_map _ h, Result.andThen, mk_set l p k v u hu]
    · unfold MapAt
      rw [(MapKept.heap_set h).1, List.length_set]
theorem run_look {w : World} {b : Nat} {l : List KV} (h : MapAt w b l) (k : ByteArray) :
    (Instr.lookup 123 (.map (some b)) (.string k) false).run Tryd.prog w = .ok (.bool (getL k l)) w := by
  have hk : MapKept.IsKey .string (.string k) := trivial
  have hf := find_mk k l 0 0
  have hz : (zeroValue 4).run Tryd.prog w = .ok (.bool false) w := by kernel_rfl
  unfold getL
  cases hp : pos k l with
  | none =>
    rw [hp] at hf
    simp [Instr.lookup, run_underlying Tryd.underlying123, MapKept.run_getObj_map h, MapKept.run_checkKey Tryd.underlying9 hk, MapKept.run_findKey Tryd.underlying9 hf, Result.andThen, hz]
  | some p =>
    rw [hp] at hf
    simp [Instr.lookup, run_underlying Tryd.underlying123, MapKept.run_getObj_map h, MapKept.run_checkKey Tryd.underlying9 hk, MapKept.run_findKey Tryd.underlying9 hf, Result.andThen]
section
variable {w : World} {ops : Array Oper} {rest : List Oper} {o : Oper} {a : Act} {Q : Exit → Act → World → Prop}
/-- a store, at the operation -/
theorem wpList_up (hg : o.guard = none) (m x v : Operand) (hop : o.op = Op.mapUpdate 123 m x v ∨ o.op = Op.insert 123 m x v) (b : Nat) (l : List KV) (hb : MapAt w b l)
    (hm : a.eval m = .map (some b)) (k : ByteArray) (u : Bool) (hx : a.eval x = .string k) (hv : a.eval v = .bool u)
    (hK : ∀ w', MapAt w' b (upL k u l) → w.grownBy w' (some b) → wpList Tryd.prog ops Q rest (a.put o.dst undef) w') : wpList Tryd.prog ops Q (o :: rest) a w := by
  refine wpList_plain hg fun K' hK' => ?_
  obtain ⟨w', hrun, r1, r2⟩ := run_up hb k u
  unfold Oper.wp
  rcases hop with hop | hop
  · simp [execOp, hop, hm, hx, hv, hrun, Result.andThen]
    exact hK' _ _ (hK w' r1 r2)
  · simp [execOp, hop, hm, hx, hv, hrun, Result.andThen]
    exact hK' _ _ (hK w' r1 r2)
end
end Go.Proofs.YthigdhiebogffaaDoor

/- A map from texts to ints that the call has made: its entries, one by one. -/
namespace Go.Proofs.YthigdhiebogffaaDoor
open Go.RowKit

abbrev KI := ByteArray × Nat
def mkIs : Nat → List KI → List MapEntry
  | _, [] => []
  | i, x :: l => { key := .string x.1, val := .int .i64 (x.2 : Int), born := i } :: mkIs (i + 1) l
theorem mkIs_at : ∀ (l : List KI) (i q : Nat), (mkIs i l)[q]? = (l[q]?).map fun x => { key := .string x.1, val := .int .i64 (x.2 : Int), born := i + q }
  | [], i, q => by simp [mkIs]
  | x :: l, i, 0 => by simp [mkIs]
  | x :: l, i, q + 1 => by
    rw [mkIs, List.getElem?_cons_succ, List.getElem?_cons_succ, mkIs_at l (i + 1) q, show i + 1 + q = i + (q + 1) from by omega]
theorem mkIs_len : ∀ (l : List KI) (i : Nat), (mkIs i l).length = l.length
  | [], _ => rfl
  | x :: l, i => by rw [mkIs, List.length_cons, List.length_cons, mkIs_len l]
/-- block b is a map of these entries -/
def MapI (w : World) (b : Nat) (l : List KI) : Prop := w.heap[b]? = some (.map (mkIs 0 l).toArray l.length)
theorem MapI.lt {w : World} {b : Nat} {l : List KI} (h : MapI w b l) : b < w.heap.size := (Array.getElem?_eq_some_iff.1 h).1
theorem MapI.kept {w w' : World} {b : Nat} {l : List KI} {r : Option Nat} (h : MapI w b l) (k : w.grownBy w' r) (hr : some b ≠ r) : MapI w' b l := (k.block b h.lt hr).trans h
theorem MapI.below {w w' : World} {b B : Nat} {l : List KI} (h : MapI w b l) (k : Below B w w') (hb : b < B) : MapI w' b l := (k.block b hb).trans h
theorem MapI.new (w : World) : MapI (w.alloc (.map #[] 0)) w.heap.size [] := heap_alloc_new w _
/-- where a key stands first -/
def posI (k : ByteArray) : List KI → Option Nat
  | [] => none
  | x :: l => if k = x.1 then some 0 else (posI k l).map (· + 1)
def upI (k : ByteArray) (v : Nat) (l : List KI) : List KI := match posI k l with
  | none => l ++ [(k, v)]
  | some p => l.set p (k, v)
theorem posI_at : ∀ (k : ByteArray) (l : List KI) (p : Nat), posI k l = some p → ∃ v, l[p]? = some (k, v)
  | k, [], p, h => by cases h
  | k, x :: l, p, h => by
    rw [posI] at h
    split at h
    · rename_i e
      cases h
      exact ⟨x.2, by rw [e]; rfl⟩
    · obtain ⟨q, hq, rfl⟩ := Option.map_eq_some_iff.1 h
      obtain ⟨v, hv⟩ := posI_at k l q hq
      exact ⟨v, by rw [List.getElem?_cons_succ]; exact hv⟩
theorem findI_mk (k : ByteArray) : ∀ (l : List KI) (i j : Nat), Instr.findNow .string (.string k) (mkIs i l) j = some ((posI k l).map fun p => (j + p, .int .i64 ((l.getD p (k, 0)).2 : Int)))
  | [], i, j => rfl
  | x :: l, i, j => by
    rw [mkIs, Instr.findNow, Instr.sameNow, beq_bytes, posI]
    by_cases e : k = x.1
    · rw [decide_eq_true e, if_pos e]
      simp
    · rw [decide_eq_false e, if_neg e]
      simp only
      rw [findI_mk k l (i + 1) (j + 1)]
      congr 1
      cases posI k l with
      | none => rfl
      | some p =>
        simp only [Option.map_some, List.getD_cons_succ]
        rw [show j + 1 + p = j + (p + 1) from by omega]
theorem mkI_push (l : List KI) (k : ByteArray) (v : Nat) : mkIs 0 l ++ [{ key := .string k, val := .int .i64 (v : Int), born := l.length }] = mkIs 0 (l ++ [(k, v)]) := by
  apply List.ext_getElem?
  intro q
  rw [mkIs_at]
  rcases Nat.lt_trichotomy q l.length with h | h | h
  · rw [List.getElem?_append_left (by rw [mkIs_len]; exact h), List.getElem?_append_left h, mkIs_at]
  · subst h
    rw [List.getElem?_append_right (by rw [mkIs_len]; exact Nat.le_refl _), List.getElem?_append_right (Nat.le_refl _), mkIs_len]
    simp
  · rw [List.getElem?_eq_none (by rw [List.length_append, mkIs_len]; simp; omega), List.getElem?_eq_none (by rw [List.length_append]; simp; omega)]
    rfl
theorem mkI_set (l : List KI) (p : Nat) (k : ByteArray) (v u : Nat) (hp : l[p]? = some (k, u)) :
    (mkIs 0 l).modify p (fun e => { key := .string k, val := .int .i64 (v : Int), born := e.born }) = mkIs 0 (l.set p (k, v)) := by
  apply List.ext_getElem?
  intro q
  rw [List.getElem?_modify, mkIs_at, mkIs_at, List.getElem?_set]
  by_cases e : p = q
  · subst e
    rw [if_pos rfl, if_pos (List.getElem?_eq_some_iff.1 hp).1, hp]
    simp
  · rw [if_neg e]
    simp [e]
theorem run_upI {w : World} {b : Nat} {l : List KI} (h : MapI w b l) (k : ByteArray) (v : Nat) :
    ∃ w', (Instr.mapUpdate 46 (.map (some b)) (.string k) (.int .i64 (v : Int))).run Tryd.prog w = .ok () w' ∧ MapI w' b (upI k v l) ∧ w.grownBy w' (some b) := by
  have hk : MapKept.IsKey .string (.string k) := trivial
  have hf := findI_mk k l 0 0
  unfold upI
  cases hp : posI k l with
  | none =>
    rw [hp] at hf
    refine ⟨_, ?_, ?_, gb_map (o := .map (mkIs 0 (l ++ [(k, v)])).toArray (l.length + 1))⟩
    · simp [Instr.mapUpdate, run_underlying Tryd.underlying46, MapKept.run_getObj_map h, MapKept.run_checkKey Tryd.underlying9 hk, MapKept.run_findKey Tryd.underlying9 hf, MapKept.run_setObj_map _ h, Result.andThen, mkI_push]
    · unfold MapI
      rw [(MapKept.heap_set h).1, List.length_append]
      rfl
  | some p =>
    rw [hp] at hf
    obtain ⟨u, hu⟩ := posI_at k l p hp
    have hj : (mkIs 0 l)[p]? = some { key := .string k, val := .int .i64 (u : Int), born := 0 + p } := by rw [mkIs_at, hu]; rfl
    refine ⟨_, ?_, ?_, gb_map (o := .map (mkIs 0 (l.set p (k, v))).toArray l.length)⟩
    · rw [Option.map_some, Nat.zero_add] at hf
      simp [Instr.mapUpdate, run_underlying Tryd.underlying46, MapKept.run_getObj_map h, MapKept.run_checkKey Tryd.underlying9 hk, MapKept.run_findKey Tryd.underlying9 hf, hj, MapKept.run_keyThatStays hk, MapKept.run_setObj_map _ h, Result.andThen, mkI_set l p k v u hu]
    · unfold MapI
      rw [(MapKept.heap_set h).1, List.length_set]
/-- what a look-up answers -/
def lookI (k : ByteArray) (l : List KI) : Value := match posI k l with
  | none => .tuple #[.int .i64 0, .bool false]
  | some p => .tuple #[.int .i64 ((l.getD p (k, 0)).2 : Int), .bool true]
theorem run_lookI {w : World} {b : Nat} {l : List KI} (h : MapI w b l) (k : ByteArray) :
    (Instr.lookup 46 (.map (some b)) (.string k) true).run Tryd.prog w = .ok (lookI k l) w := by
  have hk : MapKept.IsKey .string (.string k) := trivial
  have hf := findI_mk k l 0 0
  have hz : (zeroValue 3).run Tryd.prog w = .ok (.int .i64 0) w := by kernel_rfl
  unfold lookI
  cases hp : posI k l with
  | none =>
    rw [hp] at hf
    simp [Instr.lookup, run_underlying Tryd.underlying46, MapKept.run_getObj_map h, MapKept.run_checkKey Tryd.underlying9 hk, MapKept.run_findKey Tryd.underlying9 hf, Result.andThen, hz]
  | some p =>
    rw [hp] at hf
    simp [Instr.lookup, run_underlying Tryd.underlying46, MapKept.run_getObj_map h, MapKept.run_checkKey Tryd.underlying9 hk, MapKept.run_findKey Tryd.underlying9 hf, Result.andThen]
section
variable {w : World} {ops : Array Oper} {rest : List Oper} {o : Oper} {a : Act} {Q : Exit → Act → World → Prop}
/-- a store, at the operation -/
theorem wpList_upI (hg : o.guard = none) (m x v : Operand) (hop : o.op = Op.mapUpdate 46 m x v ∨ o.op = Op.insert 46 m x v) (b : Nat) (l : List KI) (hb : MapI w b l)
    (hm : a.eval m = .map (some b)) (k : ByteArray) (u : Nat) (hx : a.eval x = .string k) (hv : a.eval v = .int .i64 (u : Int))
    (hK : ∀ w', MapI w' b (upI k u l) → w.grownBy w' (some b) → wpList Tryd.prog ops Q rest (a.put o.dst undef) w') : wpList Tryd.prog ops Q (o :: rest) a w := by
  refine wpList_plain hg fun K' hK' => ?_
  obtain ⟨w', hrun, r1, r2⟩ := run_upI hb k u
  unfold Oper.wp
  rcases hop with hop | hop
  · simp [execOp, hop, hm, hx, hv, hrun, Result.andThen]
    exact hK' _ _ (hK w' r1 r2)
  · simp [execOp, hop, hm, hx, hv, hrun, Result.andThen]
    exact hK' _ _ (hK w' r1 r2)
end
end Go.Proofs.YthigdhiebogffaaDoor
