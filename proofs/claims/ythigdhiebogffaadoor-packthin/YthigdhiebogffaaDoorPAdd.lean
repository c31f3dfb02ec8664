/- Texts in one: PNew, PAdd. -/
import Derived.Test.YthigdhiebogffaaDoorPKp
import Derived.Test.YthigdhiebogffaaDoorIMap
import Derived.Test.YthigdhiebogffaaDoorPStart
import Derived.StillTailTactics
/- pack.newDistinct, pack.newUnpacking: their contracts. -/
namespace Go.Proofs.YthigdhiebogffaaDoor
open Go.RowKit

def getR (k : ByteArray) : List KI → Option Nat
  | [] => none
  | x :: l => if k = x.1 then some x.2 else getR k l
theorem lookI_getR (k : ByteArray) : ∀ l : List KI, lookI k l = match getR k l with | none => .tuple #[.int .i64 0, .bool false] | some n => .tuple #[.int .i64 (n : Int), .bool true]
  | [] => rfl
  | x :: l => by
    have ih := lookI_getR k l
    unfold lookI at ih ⊢
    unfold posI getR
    by_cases h : k = x.1
    · simp [h]
    · simp only [if_neg h]
      rw [← ih]
      cases posI k l with
      | none => rfl
      | some p => simp
theorem upI_cons (k : ByteArray) (v : Nat) (x : KI) (l : List KI) : upI k v (x :: l) = if k = x.1 then (k, v) :: l else x :: upI k v l := by
  have e : posI k (x :: l) = if k = x.1 then some 0 else (posI k l).map (· + 1) := rfl
  unfold upI
  rw [e]
  by_cases h : k = x.1
  · simp [h]
  · simp only [if_neg h]
    cases posI k l <;> simp
theorem getR_up (k k' : ByteArray) (v : Nat) : ∀ l : List KI, getR k (upI k' v l) = if k = k' then some v else getR k l
  | [] => by simp [upI, posI, getR]
  | x :: l => by
    have ih := getR_up k k' v l
    rw [upI_cons]
    by_cases h : k' = x.1
    · rw [if_pos h]
      unfold getR
      subst h
      by_cases h2 : k = x.1
      · simp [h2]
      · simp [h2]
    · rw [if_neg h]
      unfold getR
      by_cases h2 : k = x.1
      · have h3 : ¬ k = k' := fun e => h (by rw [← e, h2])
        simp [h2]
        intro e
        exact absurd e.symm h
      · simp only [if_neg h2]
        exact ih
/-- the id of a text -/
def idOf (x : ByteArray) : ByteArray := bs (sha x.data.toList)
theorem lastId_push (id x : ByteArray) : ∀ O : List ByteArray, lastId id (O ++ [x]) = if idOf x = id then some x else lastId id O
  | [] => by
    by_cases h : idOf x = id
    · rw [if_pos h]; exact if_pos h
    · rw [if_neg h]; exact if_neg h
  | y :: O => by
    have ih := lastId_push id x O
    rw [List.cons_append]
    unfold lastId
    rw [ih]
    by_cases h : idOf x = id
    · simp [h]
    · simp only [if_neg h]
/-- a map from ids to where they stand first -/
def Idx (I : List KI) (O : List ByteArray) : Prop := ∀ id, match getR id I with
  | none => lastId id O.reverse = none
  | some k => ∃ x, O[k]? = some x ∧ lastId id O.reverse = some x
def FI (I : List KI) (ids : List ByteArray) : Prop := ∀ id, getR id I = ids.findIdx? (fun y => decide (y = id))
theorem fi_nil : FI [] [] := fun _ => rfl
theorem fi_old {I : List KI} {ids : List ByteArray} (h : FI I ids) {x : ByteArray} (k : getR x I ≠ none) : FI I (ids ++ [x]) := fun id => by
  rw [List.findIdx?_append, ← h id]
  cases hg : getR id I with
  | some n => rfl
  | none =>
    have hne : ¬ x = id := fun e => k (by rw [e]; exact hg)
    simp [hne]
theorem fi_new {I : List KI} {ids : List ByteArray} (h : FI I ids) {x : ByteArray} (k : getR x I = none) : FI (upI x ids.length I) (ids ++ [x]) := fun id => by
  rw [List.findIdx?_append, ← h id, getR_up]
  by_cases e : id = x
  · subst e
    rw [if_pos rfl, k]
    simp
  · rw [if_neg e]
    cases hg : getR id I with
    | some n => rfl
    | none =>
      have hne : ¬ x = id := fun q => e q.symm
      simp [hne]
theorem fi_idx {I : List KI} {O : List ByteArray} (h : FI I (O.map idOf)) : Idx I O := fun id => by
  rw [h id]
  clear h
  induction O with
  | nil => rfl
  | cons x O ih =>
    rw [List.reverse_cons, lastId_push, List.map_cons, List.findIdx?_cons]
    by_cases e : idOf x = id
    · rw [if_pos e, if_pos (by simp [e])]
      exact ⟨x, rfl, rfl⟩
    · rw [if_neg e, if_neg (by simp [e])]
      cases hf : (O.map idOf).findIdx? (fun y => decide (y = id)) with
      | none =>
        rw [hf] at ih
        exact ih
      | some k =>
        rw [hf] at ih
        obtain ⟨y, h1, h2⟩ := ih
        exact ⟨y, by rw [List.getElem?_cons_succ]; exact h1, h2⟩

def dsArr (v : Value) (gm : Nat) : Array Value := #[v, .map (some gm)]
def zeroD : Array Value := #[.slice none 0 0, .map none]
theorem dsInfo (v : Value) (gm : Nat) : (Tryd.prog.info? 48).map (·.size) = some (dsArr v gm).size := by
  rw [show (dsArr v gm).size = 2 from rfl]
  kernel_rfl
set_option maxRecDepth 100000 in
theorem newDistinct_any (w : World) : Calls Tryd.prog 35 #[] w fun x w' => x = .returned (.agg (dsArr (.slice none 0 0) (w.heap.size + 1))) ∧ MapI w' (w.heap.size + 1) [] ∧ Below w.heap.size w w' := by
  have hmm : ∀ W : World, (Instr.makeMap 46 none).run Tryd.prog W = .ok (.map (some W.heap.size)) (W.alloc (.map #[] 0)) := fun _ => rfl
  obtain ⟨W', hW⟩ : ∃ W', W' = ((w.alloc (.cells (dsArr (.slice none 0 0) (w.heap.size + 1)) 48)).alloc (.map #[] 0)) := ⟨_, rfl⟩
  have A0 : Arr W' w.heap.size 48 (dsArr (.slice none 0 0) (w.heap.size + 1)) := by rw [hW]; exact (Arr.new _ _ _).alloc _
  have M0 : MapI W' (w.heap.size + 1) [] := by
    have := MapI.new (w.alloc (.cells (dsArr (.slice none 0 0) (w.heap.size + 1)) 48))
    rw [show (w.alloc (.cells (dsArr (.slice none 0 0) (w.heap.size + 1)) 48)).heap.size = w.heap.size + 1 from by simp, ← hW] at this
    exact this
  have B0 : Below w.heap.size w W' := by rw [hW]; exact ((Below.refl _ _).alloc (Nat.le_refl _) _).alloc (by simp) _
  have HW := Lib.hid hW
  clear hW
  go_enter Tryd.func35, Tryd.ntmps35
  go_wp2_with fail
  refine at_world (fun W => W = W') (by rw [HW.out]; rfl) ?_
  rintro _ rfl
  refine bodyPost_ret (v := .agg (dsArr (.slice none 0 0) (w.heap.size + 1))) ?_ rfl ⟨rfl, M0, B0⟩
  exact results_cell_row Tryd.results35 _ _ w.heap.size 48 _ (0, 0) _ rfl A0 Tryd.underlying48 rfl (dsInfo _ _)

/-- an unpacking's cells -/
def upArr (v : Value) (gm : Nat) (d : Value) (oA : Option Addr) (on oc : Nat) (gi : Nat) : Array Value := #[v, .map (some gm), d, .slice oA on oc, .map (some gi)]
theorem take_next {α : Type} {l : List α} {k : Nat} {x : α} (h : l[k]? = some x) : l.take (k + 1) = l.take k ++ [x] := by
  obtain ⟨hk, rfl⟩ := List.getElem?_eq_some_iff.1 h
  exact List.take_succ_eq_append_getElem hk
/-- where firstIndexes stands -/
def FiRel (ids : List ByteArray) (w : World) (i : Value) (wr : World) : Prop :=
  ∃ (k : Nat) (I : List KI), k ≤ ids.length ∧ i = .int .i64 (k : Int) ∧ MapI wr w.heap.size I ∧ FI I (ids.take k) ∧ Below w.heap.size w wr
/-- behind firstIndexes -/
def FiEnd (ids : List ByteArray) (w : World) (x : Ending) (w' : World) : Prop := x = .returned (.map (some w.heap.size)) ∧ Below w.heap.size w w' ∧ ∃ I, MapI w' w.heap.size I ∧ FI I ids
set_option maxRecDepth 100000 in
set_option maxHeartbeats 1000000 in
theorem firstIndexes_any (ids : List ByteArray) (A : Option Addr) (c : Nat) (w : World) (hT : Txs w w.heap.size A ids) (hl : ids.length ≤ 140737488355328) :
    Calls Tryd.prog 47 #[.slice A ids.length c] w (FiEnd ids w) := by
  have hmm : ∀ W : World, (Instr.makeMap 46 none).run Tryd.prog W = .ok (.map (some W.heap.size)) (W.alloc (.map #[] 0)) := fun _ => rfl
  have h1 : Hid (FiRel ids w (.int .i64 0) (w.alloc (.map #[] 0))) := ⟨0, [], Nat.zero_le _, rfl, MapI.new w, fi_nil, (Below.refl _ _).alloc (Nat.le_refl _) _⟩
  go_enter Tryd.func47, Tryd.ntmps47
  go_wp2_with fail
  go_loopw [11] (fun i wr => FiRel ids w i wr) (fun i _ => ids.length - (intOf i).toNat)
  case atStart => exact h1.out
  case round =>
    clear h1 hmm
    obtain ⟨k, I, hk, rfl, hM, hI, hB⟩ := hrel
    by_cases hlt : k < ids.length
    · have hi : (k : Int) < ids.length := by omega
      have hx : ids[k]? = some ids[k] := List.getElem?_eq_getElem hlt
      obtain ⟨ad, rfl, hbl, h0⟩ := hT k ids[k] hx
      have g0 := (hB.cell hbl).trans h0
      have HT := Lib.hid (take_next hx)
      have HI := Lib.hid hI
      have htl : (ids.take k).length = k := by rw [List.length_take]; omega
      have lk := run_lookI hM ids[k]
      rw [lookI_getR] at lk
      generalize ids[k] = x at *
      clear h0 hx hI
      cases hg : getR x I with
      | some n =>
        rw [hg] at lk
        simp only at lk
        have HF := Lib.hid (fi_old HI.out (x := x) (by rw [hg]; simp))
        clear hg HI
        go_wp2_with fail
        go_roundw
        case rel => exact ⟨k + 1, I, hlt, by rw [Int.natCast_add]; rfl, hM, by rw [HT.out]; exact HF.out, hB⟩
        case measure => simp [intOf]; omega
      | none =>
        rw [hg] at lk
        simp only at lk
        have hf := fi_new HI.out hg
        rw [htl] at hf
        have HF := Lib.hid hf
        clear hg HI hf htl
        go_wp2_with (refine wpList_upI rfl _ _ _ (.inl rfl) w.heap.size I hM rfl x k rfl rfl ?_)
        intro w2 hM2 g2
        have hB2 := below_gb hB g2 (Nat.le_refl _) hB.size
        go_wp2_with fail
        go_roundw
        case rel => exact ⟨k + 1, _, hlt, by rw [Int.natCast_add]; rfl, hM2, by rw [HT.out]; exact HF.out, hB2⟩
        case measure => simp [intOf]; omega
    · obtain rfl : k = ids.length := by omega
      have hi : ¬ (ids.length : Int) < ids.length := by omega
      rw [List.take_length] at hI
      have HI := Lib.hid hI
      clear hI
      go_wp2_with fail
      go_ret
      exact ⟨rfl, hB, I, hM, HI.out⟩
/-- the ids of the first k of these -/
def idsUpto (O : List ByteArray) (k : Nat) : List ByteArray := (O.take k).map idOf ++ List.replicate (O.length - k) ⟨#[]⟩
theorem idsUpto_len (O : List ByteArray) (k : Nat) (h : k ≤ O.length) : (idsUpto O k).length = O.length := by
  unfold idsUpto
  rw [List.length_append, List.length_map, List.length_take, List.length_replicate]
  omega
theorem idsUpto_set {O : List ByteArray} {k : Nat} {x : ByteArray} (h : O[k]? = some x) : (idsUpto O k).set k (idOf x) = idsUpto O (k + 1) := by
  have hlt := (List.getElem?_eq_some_iff.1 h).1
  unfold idsUpto
  have hl : ((O.take k).map idOf).length = k := by rw [List.length_map, List.length_take]; omega
  rw [List.set_append_right _ _ (by omega), hl, Nat.sub_self, take_next h, List.map_append, List.append_assoc, show O.length - k = (O.length - (k + 1)) + 1 from by omega, List.replicate_succ, List.set_cons_zero]
  rfl
def NRel (O : List ByteArray) (w : World) (i : Value) (wr : World) : Prop :=
  ∃ k : Nat, k ≤ O.length ∧ i = .int .i64 (k : Int) ∧ Arr wr w.heap.size 9 ((idsUpto O k).map sv).toArray ∧ Below w.heap.size w wr
/-- behind newUnpacking -/
def NEnd (w : World) (oA : Option Addr) (oc : Nat) (O : List ByteArray) (x : Ending) (w' : World) : Prop :=
  ∃ gu gm gi I, x = .returned (.pointer (some ⟨gu, 0, none⟩)) ∧ Arr w' gu 51 (upArr (.slice none 0 0) gm (.slice none 0 0) oA O.length oc gi) ∧ MapI w' gm [] ∧ MapI w' gi I ∧ Idx I O ∧ gm ≠ gi ∧
    w.heap.size ≤ gu ∧ w.heap.size ≤ gm ∧ w.heap.size ≤ gi ∧ Below w.heap.size w w' ∧ Tab w'
set_option maxRecDepth 100000 in
set_option maxHeartbeats 1000000 in
theorem newUnpacking_any (O : List ByteArray) (oA : Option Addr) (oc : Nat) (w : World) (hO : Txs w w.heap.size oA O) (hz : ∀ x ∈ O, x.size ≤ 140737488355328) (hl : O.length * 16 ≤ 140737488355328) (ht : Tab w) :
    Calls Tryd.prog 24 #[.slice oA O.length oc] w (NEnd w oA oc O) := by
  obtain ⟨si, hsi, sz0, sz1, sz2⟩ := info_parts info_str
  have Hsi := Lib.hid hsi
  have Sz0 := Lib.hid sz0
  have Sz1 := Lib.hid sz1
  have Sz2 := Lib.hid sz2
  clear hsi sz0 sz1 sz2
  have HT := Lib.hid ht
  clear ht
  go_enter Tryd.func24, Tryd.ntmps24
  go_wp2_with (at_make; refine wpList_make_full _ rfl _ _ 22 rfl w.heap.size 9 si _ 1 Tryd.underlying22 Hsi.out Sz0.out Sz1.out _ _ _ _ O.length rfl rfl rfl rfl (by rw [Sz2.out]; omega) (by unfold maxLen; omega) (Nat.le_refl _) ?_)
  intro w1 hown hgrow
  have hb1 : Below w.heap.size w w1 := (Below.refl _ _).grown hgrow (Nat.le_refl _) (by intro k hk; cases hk)
  have hA : Arr w1 w.heap.size 9 ((idsUpto O 0).map sv).toArray := by
    rcases hown.2 with ⟨h', _⟩ | ⟨g', cap', cur, h', hb, hg, hnc, hcm, hcs, htake⟩
    · simp at h'
    · simp only [Value.slice.injEq, Option.some.injEq, Addr.mk.injEq, and_true, true_and] at h'
      obtain ⟨rfl, rfl⟩ := h'
      have e : cur = ((idsUpto O 0).map sv).toArray := by
        apply Array.ext'
        rw [List.take_of_length_le (by simp [hcs])] at htake
        rw [htake, toList_madeCells_one]
        simp [idsUpto, sv]
      rw [← e]
      exact hg
  have h1 : Hid (NRel O w (.int .i64 0) w1) := ⟨0, Nat.zero_le _, rfl, hA, hb1⟩
  clear hown hgrow hb1 hA
  go_wp2_with fail
  go_loopw [11] (fun i wr => NRel O w i wr) (fun i _ => O.length - (intOf i).toNat)
  case atStart => exact h1.out
  case round =>
    clear h1
    clear w1
    obtain ⟨k, hk, rfl, hA, hB⟩ := hrel
    by_cases hlt : k < O.length
    · have hi : (k : Int) < O.length := by omega
      have hx : O[k]? = some O[k] := List.getElem?_eq_getElem hlt
      have hs := hz O[k] (List.getElem_mem hlt)
      obtain ⟨ad, rfl, hbl, h0⟩ := hO k O[k] hx
      have g0 := (hB.cell hbl).trans h0
      have HX := Lib.hid (idsUpto_set hx)
      have C := Lib.hid (Id_any O[k] (by omega) wr (HT.out.below hB HT.out.1))
      change Hid (Calls _ _ _ _ fun e w' => e = .returned (.string (idOf O[k])) ∧ _) at C
      generalize idOf O[k] = D at *
      generalize O[k] = x at *
      clear h0 hx hs
      go_wp2_with fail
      (with_reducible refine C.out.mono ?_)
      clear C
      rintro _ w2 ⟨rfl, b1⟩
      have hA1 := hA.below b1 hA.lt
      have hB1 := hB.trans (b1.mono hB.size)
      have f0 := hA1.free k
      have hA2 := hA1.put k (.string D)
      rw [show (((idsUpto O k).map sv).toArray.setIfInBounds k (.string D)) = ((idsUpto O (k + 1)).map sv).toArray from by rw [← HX.out, List.map_set]; simp [sv]] at hA2
      have hB2 := below_gb hB1 (show w2.grownBy (w2.setCell ⟨w.heap.size, k, none⟩ (.string D)) (some w.heap.size) from gb_set _ _ _) (Nat.le_refl _) hB1.size
      have c0 : ∃ v, w2.cell? ⟨w.heap.size, k, none⟩ = some v := ⟨_, by rw [hA1.cell k]; simp [idsUpto_len O k hk, hlt]; rfl⟩
      obtain ⟨v0, c0⟩ := c0
      clear hA hB b1 g0 hA1 hB1
      go_wp2_with fail
      go_roundw
      case rel => exact ⟨k + 1, hlt, by rw [Int.natCast_add]; rfl, hA2, hB2⟩
      case measure => simp [intOf]; omega
    · obtain rfl : k = O.length := by omega
      have hi : ¬ (O.length : Int) < O.length := by omega
      have hids : idsUpto O O.length = O.map idOf := by unfold idsUpto; rw [List.take_length, Nat.sub_self]; simp
      rw [hids] at hA
      have hTx : Txs wr wr.heap.size (some ⟨w.heap.size, 0, none⟩) (O.map idOf) := fun k x hk => ⟨_, rfl, by rw [zero_add]; exact hA.lt, by rw [zero_add, hA.cell k, List.getElem?_toArray, List.getElem?_map, hk]; rfl⟩
      have CF := fun (V : World) h => Lib.hid (firstIndexes_any (O.map idOf) (some ⟨w.heap.size, 0, none⟩) O.length V h (by rw [List.length_map]; omega))
      rw [List.length_map] at CF
      have CD : Hid (Calls Tryd.prog 35 #[] wr fun x w' => x = .returned (.agg #[.slice none 0 0, .map (some (wr.heap.size + 1))]) ∧ MapI w' (wr.heap.size + 1) [] ∧ Below wr.heap.size wr w') := newDistinct_any wr
      have hgl := hA.lt
      clear hA hids
      go_wp2_with fail
      (with_reducible refine CD.out.mono ?_)
      clear CD
      rintro _ w2 ⟨rfl, m2, b2⟩
      go_wp2_with fail
      (with_reducible refine (CF w2 ((hTx.below b2).mono b2.size)).out.mono ?_)
      clear CF hTx
      rintro _ w3 ⟨rfl, b3, I, hM, hF⟩
      have HI := Lib.hid (fi_idx hF)
      clear hF
      have hs2 := m2.lt
      go_wp2_with fail
      go_ret
      have bb := hB.trans ((b2.trans (b3.mono b2.size)).mono hB.size)
      have b4 : Below w.heap.size w (w3.alloc (.cells (upArr (.slice none 0 0) (wr.heap.size + 1) (.slice none 0 0) oA O.length oc w2.heap.size) 51)) := bb.alloc bb.size _
      have k4 : w3.grownBy (w3.alloc (.cells (upArr (.slice none 0 0) (wr.heap.size + 1) (.slice none 0 0) oA O.length oc w2.heap.size) 51)) none := gb_alloc _
      have hw := hB.size
      have hw2 := b2.size
      have hw3 := b3.size
      exact ⟨w3.heap.size, wr.heap.size + 1, w2.heap.size, I, rfl, Arr.new _ _ _, (m2.below b3 m2.lt).kept k4 (by simp), hM.kept k4 (by simp), HI.out, by omega, by omega, by omega, by omega, b4, HT.out.below b4 HT.out.1⟩
end Go.Proofs.YthigdhiebogffaaDoor

/- pack.newDistinct, (*distinct).add: their contracts. -/
namespace Go.Proofs.YthigdhiebogffaaDoor
open Go.RowKit

def AEnd (w : World) (gd : Nat) (t : TypeId) (cs : Array Value) (v : Value) (gm : Nat) (T : List ByteArray) (base : Nat) (s : ByteArray) (x : Ending) (w' : World) : Prop :=
  x = .returned (.int .i64 (addP T s)) ∧ Kp (fun i => i = gd ∨ i = gm ∨ v.ownBlock = some i) w w' ∧
  (addP T s = 0 → ∃ v' M', Arr w' gd t (cs.setIfInBounds 0 v') ∧ w'.ownsRow base 9 1 v' (T ++ [s]).length ((T ++ [s]).map sv) ∧ MapI w' gm M' ∧ KeyIs M' (T ++ [s]))
theorem lookI_none {k : ByteArray} {M : List KI} {T : List ByteArray} (h : KeyIs M T) (hk : amid T k = false) : lookI k M = .tuple #[.int .i64 0, .bool false] ∧ posI k M = none := by
  have e : posI k M = none := by
    cases hp : posI k M with
    | none => rfl
    | some p =>
      have := amid_iff.2 ((h k).1 (by rw [hp]; rfl))
      rw [hk] at this
      cases this
  exact ⟨by unfold lookI; rw [e], e⟩
theorem lookI_some {k : ByteArray} {M : List KI} {T : List ByteArray} (h : KeyIs M T) (hk : amid T k = true) : ∃ n : Nat, lookI k M = .tuple #[.int .i64 (n : Int), .bool true] := by
  have := (h k).2 (amid_iff.1 hk)
  obtain ⟨p, hp⟩ := Option.isSome_iff_exists.1 this
  exact ⟨_, by unfold lookI; rw [hp]⟩

set_option maxRecDepth 100000 in
set_option maxHeartbeats 1000000 in
theorem add_any (gd : Nat) (t : TypeId) (cs : Array Value) (v : Value) (gm : Nat) (T : List ByteArray) (M : List KI) (base : Nat) (s : ByteArray) (w : World)
    (hA : Arr w gd t cs) (h0 : cs[0]? = some v) (h1 : cs[1]? = some (.map (some gm))) (hO : w.ownsRow base 9 1 v T.length (T.map sv)) (hM : MapI w gm M) (hK : KeyIs M T)
    (hl : T.length ≤ 1000000) (hgd : gd < base) (hgm : gm < base) (hb : base ≤ w.heap.size) :
    Calls Tryd.prog 37 #[.pointer (some ⟨gd, 0, none⟩), .string s] w (AEnd w gd t cs v gm T base s) := by
  obtain ⟨si, hsi, sz0, sz1, sz2⟩ := info_parts info_str
  have Hsi := Lib.hid hsi
  have Sz0 := Lib.hid sz0
  have Sz1 := Lib.hid sz1
  have Sz2 := Lib.hid sz2
  clear hsi sz0 sz1 sz2
  obtain ⟨R, hR⟩ : ∃ R, R = addP T s := ⟨_, rfl⟩
  unfold AEnd
  rw [← hR]
  unfold addP at hR
  have C := Lib.hid (Decode_any s w)
  generalize (decO s.data.toList).1 = o at *
  generalize (decO s.data.toList).2 = e at *
  have HR := Lib.hid hR
  clear hR
  go_enter Tryd.func37, Tryd.ntmps37
  go_wp2_with fail
  (with_reducible refine C.out.mono ?_)
  clear C
  rintro _ W1 ⟨p1, rfl, i1, b1⟩
  have bb : Below w.heap.size w ((W1.alloc (.cells zeroO 60)).setRow W1.heap.size (obArr o p1)) := b1.trans ((below_setRow ((Below.refl _ _).alloc (Nat.le_refl _) _) (Nat.le_refl _) _).mono b1.size)
  go_upto_region 2 with (refine wpList_store_row rfl 60 _ _ rfl W1.heap.size (obArr o p1) rfl rfl 60 zeroO (Arr.new W1 _ _) (obInfo _ _) rfl (obArr_one _ _) ?_)
  refine wp_forget (Below w.heap.size w) (by exact bb) ?_
  clear bb b1 i1
  intro W b
  generalize W1.heap.size = gx
  clear W1
  by_cases he : e ≠ 0
  · have hR := HR.out
    rw [if_pos he] at hR
    clear HR
    have he' : (e != 0) = true := by simpa using he
    have HR := Lib.hid hR
    clear hR he
    go_wp2_with fail
    go_ret
    rw [HR.out]
    exact ⟨rfl, Kp.bel b, fun e0 => by rw [e0] at he'; cases he'⟩
  have he0 : e = 0 := by omega
  subst he0
  have hR := HR.out
  rw [if_neg he] at hR
  clear HR he
  have A1 := hA.below b hA.lt
  have c0 : W.cell? ⟨gd, 0, none⟩ = some v := (A1.cell 0).trans h0
  have c1 : W.cell? ⟨gd, 1, none⟩ = some (.map (some gm)) := (A1.cell 1).trans h1
  have M1 := hM.below b hM.lt
  have lk := run_lookI M1 s
  cases ha : amid T s with
  | true =>
    rw [ha, if_pos rfl] at hR
    have HR := Lib.hid hR
    obtain ⟨n, hn⟩ := lookI_some hK ha
    rw [hn] at lk
    clear hR ha hn
    go_wp2_with fail
    go_ret
    rw [HR.out]
    exact ⟨rfl, Kp.bel b, fun e0 => by cases e0⟩
  | false =>
    rw [ha, if_neg (by decide)] at hR
    have HR := Lib.hid hR
    obtain ⟨hn, hp⟩ := lookI_none hK ha
    rw [hn] at lk
    clear hR ha hn
    have hW := b.size
    obtain ⟨A, cc, rfl, hcc, hT, hA2⟩ := own_texts hO
    go_wp2_with fail
    go_still_tail 10, (by kernel_rfl)
    refine wpList_upI rfl _ _ _ (.inl rfl) gm M (show MapI W.drew gm M from M1) rfl s T.length rfl rfl ?_
    intro w2 hM2 g2
    rw [show upI s T.length M = M ++ [(s, T.length)] from by unfold upI; rw [hp]] at hM2
    have kp0 : Kp (fun i => i = gd ∨ i = gm ∨ (Value.slice A T.length cc).ownBlock = some i) w w2 := (Kp.trans (Kp.bel b).drew (Kp.gb g2) (fun i _ e => .inr (.inl (Option.some.inj e).symm)))
    have hgm' : gd ≠ gm := fun e => map_arr hM hA e.symm
    have A2 : Arr w2 gd t cs := A1.drew.kept g2 (fun e => hgm' (Option.some.inj e))
    have c0' : w2.cell? ⟨gd, 0, none⟩ = some (.slice A T.length cc) := (A2.cell 0).trans h0
    have f0 := A2.free 0
    have O1 : W.drew.ownsRow base 9 1 (.slice A T.length cc) T.length (T.map sv) := own_kp hO (Kp.bel b (X := fun _ => False)).drew (fun _ _ h => h)
    have O2 := own_kp O1 (Kp.gb g2) (fun g hg e => own_map O1 (show MapI W.drew gm M from M1) (by rw [hg, Option.some.inj e]))
    have hsz : base ≤ w2.heap.size := Nat.le_trans hb (Nat.le_trans hW g2.size)
    have HKm := Lib.hid hK
    clear lk M1 c0 c1 A1 O1 hM hK hO
    go_wp2_with (at_builtin; refine wpList_append_lies _ rfl _ _ 22 rfl base 9 si _ 1 16 Tryd.underlying22 Hsi.out Sz0.out Sz1.out Sz2.out rfl (by decide) _ _ _ rfl (O2.alloc _) ⟨w2.heap.size, 0, none⟩ 1 1 [.string s] rfl rfl (new_cells w2 [.string s] 9) (by intro u hu; simp at hu; subst hu; rfl) (by decide) (by unfold maxLen; omega) (by omega) (by simp; omega) _ rfl ?_)
    intro g3 cap3 w3 hown hgrow hat hg3
    have hfar : ∀ q, (Value.slice A T.length cc).ownBlock = some q → base ≤ q := fun q e => own_row_ge O2 q e
    have A3 : Arr w3 gd t cs := (A2.alloc _).kept hgrow (fun e => by have := hfar gd e.symm; omega)
    have M3 : MapI w3 gm (M ++ [(s, T.length)]) := ((show MapI (w2.alloc _) gm (M ++ [(s, T.length)]) from (Below.heap_alloc w2 _ gm hM2.lt).trans hM2)).kept hgrow (fun e => by have := hfar gm e.symm; omega)
    have c3 : w3.cell? ⟨gd, 0, none⟩ = some (.slice A T.length cc) := (A3.cell 0).trans h0
    have f3 := A3.free 0
    have kp3 := (kp0.trans (Kp.gb (gb_alloc (r := none) _)) (fun i _ e => by cases e)).trans (Kp.gb hgrow) (fun i _ e => .inr (.inr e))
    have hg3b : base ≤ g3 := own_row_ge hown g3 rfl
    clear c0' f0 A2 O2 hM2 g2 kp0 hgrow hat
    go_wp2_with fail
    go_ret
    have k4 : w3.grownBy (w3.setCell ⟨gd, 0, none⟩ (.slice (some ⟨g3, 0, none⟩) (T.length + 1) cap3)) (some gd) := gb_set _ _ _
    refine ⟨by rw [HR.out]; rfl, kp3.trans (Kp.gb k4) (fun i _ e => .inl (Option.some.inj e).symm), fun _ => ⟨_, _, A3.put 0 _, ?_, M3.kept k4 (fun e => hgm' (Option.some.inj e).symm), keys_push HKm.out s _⟩⟩
    rw [List.length_append, List.map_append]
    exact own_kp hown (Kp.gb k4) (fun g hg e => by have h1 : g3 = g := Option.some.inj hg; have := Option.some.inj e; omega)
end Go.Proofs.YthigdhiebogffaaDoor
