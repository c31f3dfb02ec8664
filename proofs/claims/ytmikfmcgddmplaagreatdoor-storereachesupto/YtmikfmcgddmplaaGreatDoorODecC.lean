/- Texts in one: PKp, ODecC. -/
import Derived.Test.YtmikfmcgddmplaaGreatDoorIMap
/- What a call has turned: all but the blocks that X names is as it was. -/
namespace Go.Proofs.YtmikfmcgddmplaaGreatDoor
open Go.RowKit

structure Kp (X : Nat → Prop) (w w' : World) : Prop where
  os : w'.os = w.os
  tape : w'.tape = w.tape
  output : w'.output = w.output
  size : w.heap.size ≤ w'.heap.size
  block : ∀ k, k < w.heap.size → ¬ X k → w'.heap[k]? = w.heap[k]?
section
variable {X Y : Nat → Prop} {w w1 w2 : World} {r : Option Nat}
theorem Kp.refl (X : Nat → Prop) (w : World) : Kp X w w := ⟨rfl, rfl, rfl, Nat.le_refl _, fun _ _ _ => rfl⟩
theorem Kp.gb (h : w.grownBy w1 r) : Kp (fun i => r = some i) w w1 := ⟨h.os, h.tape, h.output, h.size, fun k hk hx => h.block k hk (fun e => hx e.symm)⟩
theorem Kp.bel (h : Below w.heap.size w w1) : Kp X w w1 := ⟨h.os, h.tape, h.output, h.size, fun k hk _ => h.block k hk⟩
theorem Kp.mono (h : Kp X w w1) (hx : ∀ i, i < w.heap.size → X i → Y i) : Kp Y w w1 := ⟨h.os, h.tape, h.output, h.size, fun k hk hy => h.block k hk (fun x => hy (hx k hk x))⟩
theorem Kp.trans (h : Kp X w w1) (k : Kp Y w1 w2) (hx : ∀ i, i < w.heap.size → Y i → X i) : Kp X w w2 :=
  ⟨k.os.trans h.os, k.tape.trans h.tape, k.output.trans h.output, Nat.le_trans h.size k.size, fun i hi hn => (k.block i (Nat.lt_of_lt_of_le hi h.size) (fun y => hn (hx i hi y))).trans (h.block i hi hn)⟩
theorem Kp.drew (h : Kp X w w1) : Kp X w w1.drew := ⟨h.os, h.tape, h.output, h.size, h.block⟩
theorem Kp.below (h : Kp X w w1) {B : Nat} (hB : B ≤ w.heap.size) (hx : ∀ i, i < w.heap.size → X i → B ≤ i) : Below B w w1 :=
  ⟨h.os, h.tape, h.output, h.size, fun k hk => h.block k (by omega) (fun x => by have := hx k (by omega) x; omega)⟩
theorem Kp.grown (h : Kp (fun i => r = some i) w w1) : w.grownBy w1 r := ⟨h.os, h.tape, h.output, h.size, fun k hk hx => h.block k hk (fun e => hx e.symm)⟩
theorem Arr.kp {g : Nat} {t : TypeId} {cs : Array Value} (h : Arr w g t cs) (k : Kp X w w1) (hx : ¬ X g) : Arr w1 g t cs := (k.block g h.lt hx).trans h
theorem MapI.kp {g : Nat} {l : List KI} (h : MapI w g l) (k : Kp X w w1) (hx : ¬ X g) : MapI w1 g l := (k.block g h.lt hx).trans h
theorem own_kp {base : Nat} {e : TypeId} {size : Nat} {v : Value} {n : Nat} {xs : List Value} (h : w.ownsRow base e size v n xs) (k : Kp X w w1) (hx : ∀ g, v.ownBlock = some g → ¬ X g) : w1.ownsRow base e size v n xs := by
  refine ⟨h.1, ?_⟩
  rcases h.2 with h2 | ⟨g, cap, cur, rfl, hb, hg, rest⟩
  · exact .inl h2
  · exact .inr ⟨g, cap, cur, rfl, hb, (k.block g (Array.getElem?_eq_some_iff.1 hg).1 (hx g rfl)).trans hg, rest⟩
theorem own_drew {base : Nat} {e : TypeId} {size : Nat} {v : Value} {n : Nat} {xs : List Value} (h : w.ownsRow base e size v n xs) : w.drew.ownsRow base e size v n xs := h
theorem Txs.kp {B : Nat} {A : Option Addr} {T : List ByteArray} (h : Txs w B A T) (k : Kp X w w1) (hB : B ≤ w.heap.size) (hx : ∀ i, i < B → ¬ X i) : Txs w1 B A T := fun j x hj => by
  obtain ⟨ad, e, hb, hc⟩ := h j x hj
  exact ⟨ad, e, hb, (World.cell?_of_block (k.block _ (by omega) (hx _ hb))).trans hc⟩
/-- a row of another type than a block's -/
theorem own_ne {base : Nat} {e t : TypeId} {size g : Nat} {v : Value} {n : Nat} {xs : List Value} {cs : Array Value} (h : w.ownsRow base e size v n xs) (h' : Arr w g t cs) (ht : e ≠ t) : v.ownBlock ≠ some g := fun q => by
  rcases h.2 with ⟨rfl, _⟩ | ⟨k, cap, cur, rfl, _, hg, _⟩
  · cases q
  · cases q
    have := hg.symm.trans h'
    simp only [Option.some.injEq, Obj.cells.injEq] at this
    exact ht this.2.1
theorem own_map {base : Nat} {e : TypeId} {size g : Nat} {v : Value} {n : Nat} {xs : List Value} {l : List KI} (h : w.ownsRow base e size v n xs) (h' : MapI w g l) : v.ownBlock ≠ some g := fun q => by
  rcases h.2 with ⟨rfl, _⟩ | ⟨k, cap, cur, rfl, _, hg, _⟩
  · cases q
  · cases q
    have := hg.symm.trans h'
    cases this
theorem own_row {base base' : Nat} {e e' : TypeId} {size size' : Nat} {v v' : Value} {n n' : Nat} {xs xs' : List Value} (h : w.ownsRow base e size v n xs) (h' : w.ownsRow base' e' size' v' n' xs') (he : e ≠ e') (g : Nat) (hg : v.ownBlock = some g) : v'.ownBlock ≠ some g := fun q => by
  rcases h.2 with ⟨rfl, _⟩ | ⟨k, cap, cur, rfl, _, hk, _⟩
  · cases hg
  · cases hg
    rcases h'.2 with ⟨rfl, _⟩ | ⟨k', cap', cur', rfl, _, hk', _⟩
    · cases q
    · cases q
      have := hk.symm.trans hk'
      simp only [Option.some.injEq, Obj.cells.injEq] at this
      exact he this.2.1
theorem map_arr {g g' : Nat} {t : TypeId} {cs : Array Value} {l : List KI} (h : MapI w g l) (h' : Arr w g' t cs) : g ≠ g' := fun e => by
  subst e
  have := h.symm.trans h'
  cases this
end
/-- the keys of a map are these texts -/
def KeyIs (M : List KI) (T : List ByteArray) : Prop := ∀ k, (posI k M).isSome = true ↔ k ∈ T
theorem posI_push (k x : ByteArray) (v : Nat) : ∀ M : List KI, (posI k (M ++ [(x, v)])).isSome = ((posI k M).isSome || decide (k = x))
  | [] => by
    simp only [posI, List.nil_append, Option.isSome_none, Bool.false_or]
    by_cases h : k = x
    · simp [h]
    · simp [h]
  | y :: M => by
    have := posI_push k x v M
    simp only [posI, List.cons_append]
    by_cases h : k = y.1
    · simp [h]
    · simp only [if_neg h, Option.isSome_map]
      exact this
theorem keys_push {M : List KI} {T : List ByteArray} (h : KeyIs M T) (s : ByteArray) (v : Nat) : KeyIs (M ++ [(s, v)]) (T ++ [s]) := fun k => by
  rw [posI_push, Bool.or_eq_true, h k, List.mem_append, List.mem_singleton, decide_eq_true_iff]
theorem keys_nil : KeyIs [] [] := fun k => by simp [posI]
end Go.Proofs.YtmikfmcgddmplaaGreatDoor

/- Reading entries. -/
namespace Go.Proofs.YtmikfmcgddmplaaGreatDoor
open Go.RowKit

theorem rdNum_len {l r : List UInt8} {n : Nat} (h : rdNum l = some (n, r)) : r.length ≤ l.length := by
  unfold rdNum at h
  cases hg : got l with
  | none => simp [hg] at h
  | some y =>
    simp [hg] at h
    rw [← h.2, List.length_drop]; omega
theorem rdText_len {l r : List UInt8} {t : ByteArray} (h : rdText l = some (t, r)) : r.length ≤ l.length := by
  unfold rdText at h
  cases hg : rdNum l with
  | none => simp [hg] at h
  | some y =>
    obtain ⟨n, r1⟩ := y
    simp only [hg] at h
    have := rdNum_len hg
    split at h
    · simp only [Option.some.injEq, Prod.mk.injEq] at h
      rw [← h.2, List.length_drop]; omega
    · cases h
theorem rdEnt_len {l r : List UInt8} {e : Ent} (h : rdEnt l = some (e, r)) : r.length + 32 ≤ l.length := by
  unfold rdEnt at h
  cases h1 : rdText l with
  | none => simp [h1] at h
  | some y1 =>
    obtain ⟨nm, l1⟩ := y1
    simp only [h1] at h
    cases h2 : rdNum l1 with
    | none => simp [h2] at h
    | some y2 =>
      obtain ⟨d, l2⟩ := y2
      simp only [h2] at h
      cases h3 : rdId l2 with
      | none => simp [h3] at h
      | some y3 =>
        obtain ⟨id, l3⟩ := y3
        simp only [h3] at h
        have a1 := rdText_len h1
        have a2 := rdNum_len h2
        have a3 := rdId_len h3
        split at h
        · cases h
        · simp only [Option.some.injEq, Prod.mk.injEq] at h
          rw [← h.2]; omega
/-- an entry by the reader's states -/
theorem ent_chain (lc : List UInt8) : rdEnt lc = match (stId (stNum (stTxt (some lc)).2).2).2 with
    | none => none
    | some r => if 1 < (stNum (stTxt (some lc)).2).1 then none else some (⟨(stTxt (some lc)).1, (stNum (stTxt (some lc)).2).1 == 1, (stId (stNum (stTxt (some lc)).2).2).1⟩, r) := by
  unfold rdEnt
  cases h1 : rdText lc with
  | none => simp [h1, stTxt, stNum, stId]
  | some y1 =>
    obtain ⟨nm, l1⟩ := y1
    cases h2 : rdNum l1 with
    | none => simp [h1, h2, stTxt, stNum, stId]
    | some y2 =>
      obtain ⟨d, l2⟩ := y2
      cases h3 : rdId l2 with
      | none => simp [h1, h2, h3, stTxt, stNum, stId]
      | some y3 =>
        obtain ⟨id, l3⟩ := y3
        simp [h1, h2, h3, stTxt, stNum, stId]
def rdEntsS (st : St) : Option (List Ent × List UInt8) :=
  match (stNum st).2 with
  | none => none
  | some l => rdEnts (stNum st).1 l
theorem ents_done {n : Nat} {l0 lc : List UInt8} {T : List Ent} (h : rdEnts n l0 = match rdEnts (n - T.length) lc with | none => none | some (T2, r) => some (T ++ T2, r)) (hn : ¬ T.length < n) : rdEnts n l0 = some (T, lc) := by
  rw [h, show n - T.length = 0 from by omega, rdEnts]
  simp
theorem ents_bad {n : Nat} {l0 lc : List UInt8} {T : List Ent} (h : rdEnts n l0 = match rdEnts (n - T.length) lc with | none => none | some (T2, r) => some (T ++ T2, r)) (hn : T.length < n) (hr : rdEnt lc = none) : rdEnts n l0 = none := by
  rw [h, show n - T.length = (n - T.length - 1) + 1 from by omega, rdEnts]
  simp [hr]
theorem ents_more {n : Nat} {l0 lc r : List UInt8} {p : Ent} {T : List Ent} (h : rdEnts n l0 = match rdEnts (n - T.length) lc with | none => none | some (T2, r) => some (T ++ T2, r)) (hn : T.length < n) (hr : rdEnt lc = some (p, r)) :
    rdEnts n l0 = match rdEnts (n - (T ++ [p]).length) r with | none => none | some (T2, r) => some ((T ++ [p]) ++ T2, r) := by
  rw [h, show n - T.length = (n - (T ++ [p]).length) + 1 from by rw [List.length_append]; simp; omega, rdEnts]
  simp only [hr]
  cases rdEnts (n - (T ++ [p]).length) r <;> simp
def RERel (n : Nat) (l0 : List UInt8) (g : Nat) (w : World) (v i : Value) (wr : World) : Prop :=
  ∃ (T : List Ent) (lc : List UInt8), T.length ≤ n ∧ i = .int .i64 (T.length : Int) ∧ RS wr g (some lc) ∧ wr.ownsRow w.heap.size 79 3 v T.length (entCells T) ∧ w.grownBy wr (some g) ∧
    T.length + lc.length ≤ 8192 ∧ rdEnts n l0 = match rdEnts (n - T.length) lc with
      | none => none
      | some (T2, r) => some (T ++ T2, r)
/-- behind readEntries: the entries, or an error -/
def EEnd (g : Nat) (w : World) (res : Option (List Ent × List UInt8)) (x : Ending) (w' : World) : Prop :=
  ∃ A c L ok, x = .returned (.tuple #[.slice A (List.length L) c, .bool ok]) ∧ (Ens w' w'.heap.size A L ∧ ∀ ad, A = some ad → w.heap.size ≤ ad.block) ∧ w.grownBy w' (some g) ∧
    ((∃ r, res = some (L, r) ∧ ok = true ∧ RS w' g (some r)) ∨ (res = none ∧ ∃ st', RS w' g st' ∧ (ok = false ∨ st' = none)))

set_option maxRecDepth 100000 in
set_option maxHeartbeats 2000000 in
theorem readEntries_any (g : Nat) (st : St) (w : World) (h : RS w g st) : Calls Tryz.prog 111 #[.pointer (some ⟨g, 0, none⟩)] w (EEnd g w (rdEntsS st)) := by
  obtain ⟨si, hsi, sz0, sz1, sz2⟩ := info_parts info_ent
  have Hsi := Lib.hid hsi
  have Sz0 := Lib.hid sz0
  have Sz1 := Lib.hid sz1
  have Sz2 := Lib.hid sz2
  clear hsi sz0 sz1 sz2
  have hlt := h.lt
  have q0 := rs_num g st w h
  have hn := stNum_lt st
  have hnn := fun e => stNum_none (st := st) e
  obtain ⟨res, hres⟩ : ∃ res, res = rdEntsS st := ⟨_, rfl⟩
  rw [← hres]
  unfold rdEntsS at hres
  generalize (stNum st).1 = n at *
  generalize hl : (stNum st).2 = s1 at *
  have HR := Lib.hid hres
  have HNN := Lib.hid hnn
  clear hres hl h hnn
  go_enter Tryz.func111, Tryz.ntmps111
  go_wp2_with fail
  (with_reducible refine q0.mono ?_)
  clear q0
  rintro _ w1 ⟨rfl, h1, k1⟩
  go_wp2_with fail
  cases s1 with
  | none =>
    obtain rfl := HNN.out rfl
    go_loopw [4, 10] (fun v i wr => v = .slice none 0 0 ∧ i = .int .i64 0 ∧ wr = w1) (fun _ _ _ => 0)
    case atStart => exact ⟨rfl, rfl, rfl⟩
    case round =>
      obtain ⟨rfl, rfl, rfl⟩ := hrel
      go_wp2_with fail
      go_ret2
      exact ⟨none, 0, [], true, rfl, ⟨Ens.nil _ _ _, fun ad e => by cases e⟩, k1, .inr ⟨HR.out, none, h1, .inr rfl⟩⟩
  | some l0 =>
    have hl0 : l0.length ≤ 8192 := h1.2
    go_loopw [4, 10] (fun v i wr => RERel n l0 g w v i wr) (fun _ i _ => n - (intOf i).toNat)
    case atStart => exact ⟨[], l0, Nat.zero_le _, rfl, h1, ⟨rfl, .inl ⟨rfl, rfl⟩⟩, k1, by simpa using hl0, by rw [List.length_nil, Nat.sub_zero]; cases rdEnts n l0 <;> rfl⟩
    case round =>
      clear h1 k1 w1
      obtain ⟨T, lc, hk, rfl, hR, hO, hK, hm, he⟩ := hrel
      have HE := Lib.hid he
      clear he
      by_cases hlt2 : T.length < n
      · have hi : (T.length : Int) < n := by omega
        have q1 := rs_txt g _ wr hR
        have HC := Lib.hid (ent_chain lc)
        have hd := stNum_lt (stTxt (some lc)).2
        have q2 := rs_num g (stTxt (some lc)).2
        have q3 := rs_id g (stNum (stTxt (some lc)).2).2
        generalize (stId (stNum (stTxt (some lc)).2).2).1 = id at *
        generalize (stId (stNum (stTxt (some lc)).2).2).2 = s3 at *
        generalize (stNum (stTxt (some lc)).2).1 = d at *
        generalize (stNum (stTxt (some lc)).2).2 = s2 at *
        generalize (stTxt (some lc)).1 = nm at *
        generalize (stTxt (some lc)).2 = s1 at *
        have Q2 := Lib.hid q2
        have Q3 := Lib.hid q3
        clear q2 q3 hR
        go_wp2_with fail
        (with_reducible refine q1.mono ?_)
        clear q1
        rintro _ w2 ⟨rfl, h2, k2⟩
        have hK2 := gb_trans hK k2
        have hO2 := hO.kept k2 (own_far hO hlt)
        clear hO hK k2
        go_wp2_with fail
        (with_reducible refine (Q2.out w2 h2).mono ?_)
        clear h2 Q2
        rintro _ w3 ⟨rfl, h3, k3⟩
        have hK3 := gb_trans hK2 k3
        have hO3 := hO2.kept k3 (own_far hO2 hlt)
        clear hO2 hK2 k3
        go_wp2_with fail
        (with_reducible refine (Q3.out w3 h3).mono ?_)
        clear h3 Q3
        rintro _ w4 ⟨rfl, h4, k4⟩
        have hK4 := gb_trans hK3 k4
        have hO4 := hO3.kept k4 (own_far hO3 hlt)
        clear hO3 hK3 k4
        go_wp2_with fail
        (with_reducible refine (rs_bad g s3 w4 h4).mono ?_)
        rintro _ _ ⟨⟨e, rfl, he⟩, rfl⟩
        cases s3 with
        | none =>
          rw [Option.isNone_none] at he
          have HB := Lib.hid (ents_bad HE.out hlt2 HC.out)
          clear HE HC hO4
          go_wp2_with fail
          go_ret2
          exact ⟨none, 0, [], false, rfl, ⟨Ens.nil _ _ _, fun ad e => by cases e⟩, hK4, .inr ⟨by rw [HR.out, ← HB.out], none, h4, .inl rfl⟩⟩
        | some r =>
          rw [Option.isNone_some] at he
          have hc := HC.out
          simp only at hc
          clear HC
          by_cases h1d : 1 < d
          · rw [if_pos h1d] at hc
            have HB := Lib.hid (ents_bad HE.out hlt2 hc)
            have hdi : (1 : Int) < d := by omega
            clear HE hc hO4
            go_wp2_with fail
            go_ret2
            exact ⟨none, 0, [], false, rfl, ⟨Ens.nil _ _ _, fun ad e => by cases e⟩, hK4, .inr ⟨by rw [HR.out, ← HB.out], some r, h4, .inl rfl⟩⟩
          · rw [if_neg h1d] at hc
            have HB := Lib.hid (ents_more HE.out hlt2 hc)
            have hrl := rdEnt_len hc
            have hdi : ¬ (1 : Int) < d := by omega
            have hD : Hid ((d == 1) = ((d : Int) == 1)) := (cast_eq d 1).symm
            clear HE hc
            have hsz := hK4.size
            rw [hD.out] at HB
            clear hD
            go_wp2_with (at_builtin; refine wpList_append_lies _ rfl _ _ 51 rfl w.heap.size 79 si _ 3 40 Tryz.underlying51 Hsi.out Sz0.out Sz1.out Sz2.out rfl (by decide) _ _ _ rfl (hO4.alloc _) ⟨w4.heap.size, 0, none⟩ 1 1 [.string nm, .bool ((d : Int) == 1), .string id] rfl rfl (new_cells w4 [.string nm, .bool ((d : Int) == 1), .string id] 79) (by intro u hu; simp at hu; rcases hu with rfl | rfl | rfl <;> rfl) (by decide) (by unfold maxLen; omega) (by omega) (by simp; omega) _ rfl ?_)
            intro g3 cap3 w5 hown hgrow hat hg3
            go_wp2_with fail
            have hge : ∀ q, u4.ownBlock = some q → w.heap.size ≤ q := fun q e1 => own_row_ge hO4 q e1
            refine ⟨⟨T ++ [⟨nm, (d : Int) == 1, id⟩], r, by rw [List.length_append]; simp; omega, by rw [List.length_append]; simp, ?_, ?_, ?_, ?_, HB.out⟩, by simp [intOf]; omega⟩
            · exact RS.kept (RS.below h4 ((Below.refl _ _).alloc (Nat.le_refl _) _)) hgrow (fun e1 => by have := hge g e1.symm; omega)
            · rw [List.length_append, entCells_app]; exact hown
            · exact gb_own (gb_trans hK4 (gb_alloc _)) hgrow hge
            · rw [List.length_append]; simp; omega
      · have hi : ¬ (T.length : Int) < n := by omega
        have HB := Lib.hid (ents_done HE.out hlt2)
        obtain ⟨A, c, rfl, hx⟩ := own_ents hO
        clear HE hO
        go_wp2_with fail
        go_ret2
        exact ⟨A, c, T, true, rfl, hx, hK, .inl ⟨lc, by rw [HR.out, ← HB.out], rfl, hR⟩⟩
end Go.Proofs.YtmikfmcgddmplaaGreatDoor
