/- Texts in one: ORefDecA, ORefDecB, ORefDec0, ORefDec1, ORefDec2, ORefDec3, ORefDec4, ORefDec. -/
import Derived.Test.YtmikfmcgddmplaaGreatDoorOEncB
import Derived.Test.YtmikfmcgddmplaaGreatDoorORef
import Derived.Test.YtmikfmcgddmplaaGreatDoorORefGood
import Derived.Test.YtmikfmcgddmplaaGreatDoorOApp
/- ref.Decode: where it stands; plain facts. -/
namespace Go.Proofs.YtmikfmcgddmplaaGreatDoor
open Go.RowKit

/-- what Decode answers, once the fields are read -/
def fin (o : Ob) : St → Ob × Int
  | none => (Ob.none, 2)
  | some rest => if 0 < rest.length then (Ob.none, 2) else if good o ≠ 0 then (Ob.none, good o) else (o, 0)
theorem dec_fin {l r : List UInt8} {n : Nat} {o : Ob} {st : St} (hl : ¬ 8192 < l.length) (hn : rdNum l = some (n, r)) (hk : kindB (n : Int) = true)
    (hf : rdFields (n : Int) r = match st with | none => none | some rest => some (o, rest)) : decO l = fin o st := by
  unfold decO
  rw [if_neg hl, hn]
  simp only
  rw [if_neg (by rw [hk]; decide), hf]
  cases st with
  | none => rfl
  | some rest => rfl
theorem fin_rest {o : Ob} {rest : List UInt8} (h : 0 < rest.length) : fin o (some rest) = (Ob.none, 2) := by
  show (if 0 < rest.length then _ else _) = _
  rw [if_pos h]
theorem kindB_no {k : Int} (h : ¬ (k = 1 ∨ k = 2 ∨ k = 3 ∨ k = 4)) : kindB k = false := by
  cases hk : kindB k with
  | false => rfl
  | true => exact absurd (kindB_cases hk) h
/-- the result's block, the empty object's, the cursor's, the object's -/
structure Gd (w : World) (b : Nat) (o : Ob) (p : At) (st : St) (W : World) : Prop where
  res : Arr W w.heap.size 53 zeroO
  non : Arr W (w.heap.size + 1) 53 (obArr Ob.none atNil)
  cur : CS W (w.heap.size + 2) st
  box : Arr W b 53 (obArr o p)
  bel : Below w.heap.size w W
  hb : w.heap.size + 2 < b
  oe : W.ownsRow (b + 1) 79 3 (.slice p.ea o.ents.length p.ec) o.ents.length (entCells o.ents)
  op : W.ownsRow (b + 1) 9 1 (.slice p.pa o.pars.length p.pc) o.pars.length (o.pars.map sv)
theorem Gd.read {w W W' : World} {b : Nat} {o : Ob} {p : At} {st st' : St} (h : Gd w b o p st W) (h' : CS W' (w.heap.size + 2) st') (k : W.grownBy W' (some (w.heap.size + 2))) : Gd w b o p st' W' := by
  have h1 := h.hb
  exact ⟨h.res.kept k (fun e => by simp at e), h.non.kept k (fun e => by simp at e), h', h.box.kept k (fun e => by simp at e; omega), h.bel.grown k h.bel.size (fun q e => by cases e; omega), h.hb,
    h.oe.kept k (own_far h.oe (by omega)), h.op.kept k (own_far h.op (by omega))⟩
theorem Gd.grow {w W W' : World} {b : Nat} {o : Ob} {p : At} {st : St} {r : Option Nat} (h : Gd w b o p st W) (k : W.grownBy W' r) (hr : ∀ q, r = some q → b < q)
    (he : W'.ownsRow (b + 1) 79 3 (.slice p.ea o.ents.length p.ec) o.ents.length (entCells o.ents)) (hp : W'.ownsRow (b + 1) 9 1 (.slice p.pa o.pars.length p.pc) o.pars.length (o.pars.map sv)) : Gd w b o p st W' := by
  have h1 := h.hb
  have hl : ∀ g, g ≤ b → some g ≠ r := fun g hg e => by have := hr g e.symm; omega
  exact ⟨h.res.kept k (hl _ (by omega)), h.non.kept k (hl _ (by omega)), h.cur.kept k (hl _ (by omega)), h.box.kept k (hl _ (by omega)), h.bel.grown k h.bel.size (fun q e => by have := hr q e; omega), h.hb, he, hp⟩
theorem Gd.alloc {w W : World} {b : Nat} {o : Ob} {p : At} {st : St} (h : Gd w b o p st W) (x : Obj) : Gd w b o p st (W.alloc x) := h.grow (r := none) (gb_alloc x) (fun q e => by cases e) (h.oe.alloc x) (h.op.alloc x)
theorem Gd.drew {w W : World} {b : Nat} {o : Ob} {p : At} {st : St} (h : Gd w b o p st W) : Gd w b o p st W.drew :=
  ⟨h.res, h.non, h.cur.kept (gb_below (r := none) (Below.refl _ _).drew) (by simp), h.box, h.bel.drew, h.hb, h.oe.drew, h.op.drew⟩
/-- something beyond the object's block has turned, and a field is stored -/
theorem Gd.app {w W W' : World} {b : Nat} {o o' : Ob} {p p' : At} {st : St} {r : Option Nat} (h : Gd w b o p st W) (k : W.grownBy W' r) (hr : ∀ q, r = some q → b < q) (i : Nat) (v : Value) (e : (obArr o p).setIfInBounds i v = obArr o' p')
    (he : W'.ownsRow (b + 1) 79 3 (.slice p'.ea o'.ents.length p'.ec) o'.ents.length (entCells o'.ents)) (hp : W'.ownsRow (b + 1) 9 1 (.slice p'.pa o'.pars.length p'.pc) o'.pars.length (o'.pars.map sv)) :
    Gd w b o' p' st (W'.setCell ⟨b, i, none⟩ v) := by
  have h1 := h.hb
  have hl : ∀ g, g ≤ b → some g ≠ r := fun g hg e => by have := hr g e.symm; omega
  have hB := h.bel.grown k h.bel.size (fun q e => by have := hr q e; omega)
  have k2 : W'.grownBy (W'.setCell ⟨b, i, none⟩ v) (some b) := gb_set b i v
  exact ⟨(h.res.kept k (hl _ (by omega))).kept k2 (fun e => by simp at e; omega), (h.non.kept k (hl _ (by omega))).kept k2 (fun e => by simp at e; omega), (h.cur.kept k (hl _ (by omega))).kept k2 (fun e => by simp at e; omega),
    by rw [← e]; exact (h.box.kept k (hl _ (Nat.le_refl _))).put i v, hB.grown k2 hB.size (fun q e => by cases e; omega), h.hb, he.kept k2 (own_far he (by omega)), hp.kept k2 (own_far hp (by omega))⟩
theorem Gd.put {w W : World} {b : Nat} {o o' : Ob} {p : At} {st : St} (h : Gd w b o p st W) (i : Nat) (v : Value) (e : (obArr o p).setIfInBounds i v = obArr o' p) (he : o'.ents = o.ents) (hp : o'.pars = o.pars) : Gd w b o' p st (W.setCell ⟨b, i, none⟩ v) :=
  h.app (r := none) (World.grownBy.refl _ _) (fun q e => by cases e) i v e (by rw [he]; exact h.oe) (by rw [hp]; exact h.op)
theorem Gd.ins {w W : World} {b : Nat} {o : Ob} {p : At} {st : St} (h : Gd w b o p st W) : ObIn W W.heap.size o p ∧ Above b p := by
  obtain ⟨A, c, e, h1, h2⟩ := own_ents h.oe
  obtain ⟨A', c', e', h3, h4, h5⟩ := own_texts h.op
  simp only [Value.slice.injEq, true_and] at e e'
  obtain ⟨rfl, rfl⟩ := e
  obtain ⟨rfl, rfl⟩ := e'
  exact ⟨⟨h1, h4, h3⟩, fun ad e => by have := h2 ad e; omega, fun ad e => by have := h5 ad e; omega⟩
/-- the answer is stored -/
theorem Gd.fail {w W : World} {b : Nat} {o : Ob} {p : At} {st : St} (h : Gd w b o p st W) (e : Int) : DEnd w Ob.none e (.returned (.tuple #[.agg (obArr Ob.none atNil), .int .i64 e])) (W.setRow w.heap.size (obArr Ob.none atNil)) :=
  ⟨atNil, rfl, noneIn _ _, below_setRow h.bel (Nat.le_refl _) _⟩
theorem Gd.done {w W : World} {b : Nat} {o : Ob} {p : At} {st : St} (h : Gd w b o p st W) : DEnd w o 0 (.returned (.tuple #[.agg (obArr o p), .int .i64 0])) (W.setRow w.heap.size (obArr o p)) :=
  have hb := h.hb
  ⟨p, rfl, h.ins.1.far (gb_row w.heap.size _) (h.ins.2.mono (by omega)), below_setRow h.bel (Nat.le_refl _) _⟩
/-- ahead of the object -/
structure Hd (w : World) (st : St) (W : World) : Prop where
  res : Arr W w.heap.size 53 zeroO
  non : Arr W (w.heap.size + 1) 53 (obArr Ob.none atNil)
  cur : CS W (w.heap.size + 2) st
  bel : Below w.heap.size w W
theorem Hd.read {w W W' : World} {st st' : St} (h : Hd w st W) (h' : CS W' (w.heap.size + 2) st') (k : W.grownBy W' (some (w.heap.size + 2))) : Hd w st' W' :=
  ⟨h.res.kept k (fun e => by simp at e), h.non.kept k (fun e => by simp at e), h', h.bel.grown k h.bel.size (fun q e => by cases e; omega)⟩
def kOb (k : Int) : Ob := ⟨k, ⟨#[]⟩, [], ⟨#[]⟩, [], ⟨#[]⟩, ⟨#[]⟩, 0, ⟨#[]⟩⟩
theorem gd_start {w W : World} {st : St} (h : Hd w st W) (k : Int) : Gd w W.heap.size (kOb k) atNil st ((W.alloc (.cells zeroO 53)).setRow W.heap.size (obArr (kOb k) atNil)) := by
  have hlt := h.cur.lt
  have g0 : W.grownBy (W.alloc (.cells zeroO 53)) none := gb_alloc _
  have a0 := Arr.new W 53 zeroO
  have k2 : (W.alloc (.cells zeroO 53)).grownBy ((W.alloc (.cells zeroO 53)).setRow W.heap.size (obArr (kOb k) atNil)) (some W.heap.size) := gb_row _ _
  have hB := h.bel.grown g0 h.bel.size (fun q e => by cases e)
  exact ⟨(h.res.kept g0 (by simp)).kept k2 (fun e => by simp at e; omega), (h.non.kept g0 (by simp)).kept k2 (fun e => by simp at e; omega), (h.cur.kept g0 (by simp)).kept k2 (fun e => by simp at e; omega), a0.row _,
    hB.grown k2 hB.size (fun q e => by cases e; exact h.bel.size), hlt, own_nil _ _ _ _, own_nil _ _ _ _⟩
/-- the loops -/
theorem entsR_done {n : Nat} {res : Option (List Ent × List UInt8)} {lc : List UInt8} {T : List Ent} (h : res = match rdEnts (n - T.length) lc with | none => none | some (T2, r) => some (T ++ T2, r)) (hn : ¬ T.length < n) : res = some (T, lc) := by
  rw [h, show n - T.length = 0 from by omega, rdEnts]
  simp
theorem entsR_bad {n : Nat} {res : Option (List Ent × List UInt8)} {lc : List UInt8} {T : List Ent} (h : res = match rdEnts (n - T.length) lc with | none => none | some (T2, r) => some (T ++ T2, r)) (hn : T.length < n) (hr : rdEnt lc = none) : res = none := by
  rw [h, show n - T.length = (n - T.length - 1) + 1 from by omega, rdEnts]
  simp [hr]
theorem entsR_more {n : Nat} {res : Option (List Ent × List UInt8)} {lc r : List UInt8} {p : Ent} {T : List Ent} (h : res = match rdEnts (n - T.length) lc with | none => none | some (T2, r) => some (T ++ T2, r)) (hn : T.length < n) (hr : rdEnt lc = some (p, r)) :
    res = match rdEnts (n - (T ++ [p]).length) r with | none => none | some (T2, r) => some ((T ++ [p]) ++ T2, r) := by
  rw [h, show n - T.length = (n - (T ++ [p]).length) + 1 from by rw [List.length_append]; simp; omega, rdEnts]
  simp only [hr]
  cases rdEnts (n - (T ++ [p]).length) r <;> simp
theorem parsR_done {n : Nat} {res : Option (List ByteArray × List UInt8)} {lc : List UInt8} {T : List ByteArray} (h : res = match rdPars (n - T.length) lc with | none => none | some (T2, r) => some (T ++ T2, r)) (hn : ¬ T.length < n) : res = some (T, lc) := by
  rw [h, show n - T.length = 0 from by omega, rdPars]
  simp
theorem parsR_bad {n : Nat} {res : Option (List ByteArray × List UInt8)} {lc : List UInt8} {T : List ByteArray} (h : res = match rdPars (n - T.length) lc with | none => none | some (T2, r) => some (T ++ T2, r)) (hn : T.length < n) (hr : rdId lc = none) : res = none := by
  rw [h, show n - T.length = (n - T.length - 1) + 1 from by omega, rdPars]
  simp [hr]
theorem parsR_more {n : Nat} {res : Option (List ByteArray × List UInt8)} {lc r : List UInt8} {p : ByteArray} {T : List ByteArray} (h : res = match rdPars (n - T.length) lc with | none => none | some (T2, r) => some (T ++ T2, r)) (hn : T.length < n) (hr : rdId lc = some (p, r)) :
    res = match rdPars (n - (T ++ [p]).length) r with | none => none | some (T2, r) => some ((T ++ [p]) ++ T2, r) := by
  rw [h, show n - T.length = (n - (T ++ [p]).length) + 1 from by rw [List.length_append]; simp; omega, rdPars]
  simp only [hr]
  cases rdPars (n - (T ++ [p]).length) r <;> simp
/-- the state and the entries so far tell the answer -/
def ERes (n : Nat) (res : Option (List Ent × List UInt8)) (T : List Ent) : St → Prop
  | none => res = none ∧ T.length ≤ 8193
  | some lc => T.length + lc.length ≤ 8192 ∧ res = match rdEnts (n - T.length) lc with | none => none | some (T2, r) => some (T ++ T2, r)
def PRes (n : Nat) (res : Option (List ByteArray × List UInt8)) (T : List ByteArray) : St → Prop
  | none => res = none ∧ T.length ≤ 8193
  | some lc => T.length + lc.length ≤ 8192 ∧ res = match rdPars (n - T.length) lc with | none => none | some (T2, r) => some (T ++ T2, r)
theorem eres_start (st : St) : ERes (stNum st).1 (rdEntsS st) [] (stNum st).2 ∨ ∃ l, (stNum st).2 = some l ∧ 8192 < l.length := by
  unfold rdEntsS
  generalize (stNum st).1 = n
  cases (stNum st).2 with
  | none => exact .inl ⟨rfl, Nat.zero_le _⟩
  | some l =>
    by_cases hll : 8192 < l.length
    · exact .inr ⟨l, rfl, hll⟩
    · refine .inl ⟨by rw [List.length_nil]; omega, ?_⟩
      rw [List.length_nil, Nat.sub_zero]
      simp only
      cases rdEnts n l <;> rfl
def parsRes (st : St) : Option (List ByteArray × List UInt8) :=
  match (stNum st).2 with
  | none => none
  | some l => rdPars (stNum st).1 l
theorem pres_start (st : St) : PRes (stNum st).1 (parsRes st) [] (stNum st).2 ∨ ∃ l, (stNum st).2 = some l ∧ 8192 < l.length := by
  unfold parsRes
  generalize (stNum st).1 = n
  cases (stNum st).2 with
  | none => exact .inl ⟨rfl, Nat.zero_le _⟩
  | some l =>
    by_cases hll : 8192 < l.length
    · exact .inr ⟨l, rfl, hll⟩
    · refine .inl ⟨by rw [List.length_nil]; omega, ?_⟩
      rw [List.length_nil, Nat.sub_zero]
      simp only
      cases rdPars n l <;> rfl
theorem stPars_res (st : St) : stPars st = match parsRes st with | none => ([], none) | some (T, r) => (T, some r) := by
  unfold stPars parsRes
  generalize (stNum st).1 = n
  cases (stNum st).2 with
  | none => rfl
  | some l => simp only; cases rdPars n l <;> rfl
theorem eres_len {n : Nat} {res : Option (List Ent × List UInt8)} {T : List Ent} {st : St} (h : ERes n res T st) : T.length ≤ 8193 := by
  cases st with
  | none => exact h.2
  | some lc => have := h.1; omega
theorem pres_len {n : Nat} {res : Option (List ByteArray × List UInt8)} {T : List ByteArray} {st : St} (h : PRes n res T st) : T.length ≤ 8193 := by
  cases st with
  | none => exact h.2
  | some lc => have := h.1; omega
/-- an entry more: e and st3 are what the cursor gave -/
theorem eres_more {n : Nat} {res : Option (List Ent × List UInt8)} {T : List Ent} {lc : List UInt8} (h : ERes n res T (some lc)) (hn : T.length < n) (e : Ent) (st3 : St)
    (hc : rdEnt lc = match st3 with | none => none | some r => some (e, r)) : ERes n res (T ++ [e]) st3 := by
  cases st3 with
  | none => exact ⟨entsR_bad h.2 hn hc, by rw [List.length_append]; have := h.1; simp; omega⟩
  | some r =>
    have hl := rdEnt_len hc
    exact ⟨by rw [List.length_append]; have := h.1; simp; omega, entsR_more h.2 hn hc⟩
theorem pres_more {n : Nat} {res : Option (List ByteArray × List UInt8)} {T : List ByteArray} {lc : List UInt8} (h : PRes n res T (some lc)) (hn : T.length < n) : PRes n res (T ++ [(stId (some lc)).1]) (stId (some lc)).2 := by
  cases hr : rdId lc with
  | none =>
    rw [show stId (some lc) = (⟨#[]⟩, none) from by simp [stId, hr]]
    exact ⟨parsR_bad h.2 hn hr, by rw [List.length_append]; have := h.1; simp; omega⟩
  | some y =>
    obtain ⟨p, r⟩ := y
    rw [show stId (some lc) = (p, some r) from by simp [stId, hr]]
    have hl := rdId_len hr
    exact ⟨by rw [List.length_append]; have := h.1; simp; omega, parsR_more h.2 hn hr⟩
def stD (d : Nat) (st : St) : St := if 1 < d then none else st
theorem ent_chainD (lc : List UInt8) : rdEnt lc = match (stId (stD (stNum (stTxt (some lc)).2).1 (stNum (stTxt (some lc)).2).2)).2 with
    | none => none
    | some r => some (⟨(stTxt (some lc)).1, (stNum (stTxt (some lc)).2).1 == 1, (stId (stD (stNum (stTxt (some lc)).2).1 (stNum (stTxt (some lc)).2).2)).1⟩, r) := by
  rw [ent_chain]
  unfold stD
  by_cases h : 1 < (stNum (stTxt (some lc)).2).1
  · rw [if_pos h]
    cases (stId (stNum (stTxt (some lc)).2).2).2 with
    | none => rfl
    | some r => simp only; rw [if_pos h]; rfl
  · rw [if_neg h]
    cases (stId (stNum (stTxt (some lc)).2).2).2 with
    | none => rfl
    | some r => simp only; rw [if_neg h]
/-- the entries' loop -/
def RdERel (n : Nat) (res : Option (List Ent × List UInt8)) (w : World) (b : Nat) (i : Value) (wr : World) : Prop :=
  ∃ (T : List Ent) (A : Option Addr) (c : Nat) (st : St), T.length ≤ n ∧ i = .int .i64 (T.length : Int) ∧ Gd w b ⟨2, ⟨#[]⟩, T, ⟨#[]⟩, [], ⟨#[]⟩, ⟨#[]⟩, 0, ⟨#[]⟩⟩ ⟨A, c, none, 0⟩ st wr ∧ (∀ e ∈ T, e.name.size ≤ 4096) ∧ ERes n res T st
/-- the parents' loop -/
def RdPRel (n : Nat) (res : Option (List ByteArray × List UInt8)) (t : ByteArray) (w : World) (b : Nat) (i : Value) (wr : World) : Prop :=
  ∃ (T : List ByteArray) (A : Option Addr) (c : Nat) (st : St), T.length ≤ n ∧ i = .int .i64 (T.length : Int) ∧ Gd w b ⟨3, ⟨#[]⟩, [], t, T, ⟨#[]⟩, ⟨#[]⟩, 0, ⟨#[]⟩⟩ ⟨none, 0, A, c⟩ st wr ∧ PRes n res T st
end Go.Proofs.YtmikfmcgddmplaaGreatDoor

/- ref.Decode: its start. -/
namespace Go.Proofs.YtmikfmcgddmplaaGreatDoor
open Go.RowKit

theorem own_in {w : World} {base : Nat} {e : TypeId} {v : Value} {n size : Nat} {xs : List Value} (h : w.ownsRow base e size v n xs) (k : Nat) (hk : v.ownBlock = some k) : k < w.heap.size := by
  rcases h.2 with ⟨rfl, _⟩ | ⟨g, cap, cur, rfl, hb, hg, _⟩
  · cases hk
  · cases hk
    exact (Array.getElem?_eq_some_iff.1 hg).1
theorem own_apartS {w : World} {base g : Nat} {v : Value} {n : Nat} {xs : List Value} {cs : Array Value} (h : w.ownsRow base 9 1 v n xs) (hX : Arr w g 79 cs) : v.ownBlock = none ∨ v.ownBlock ≠ some g := by
  rcases h.2 with ⟨rfl, _⟩ | ⟨g', cap, cur, rfl, hb, hg, _⟩
  · exact .inl rfl
  · refine .inr fun e1 => ?_
    have e2 : g' = g := by simpa [Value.ownBlock] using e1
    subst e2
    unfold Arr at hX
    rw [hg] at hX
    simp only [Option.some.injEq, Obj.cells.injEq] at hX
    exact absurd hX.2.1 (by decide)
theorem one_str2 (x : ByteArray) : ∀ u ∈ [Value.string x], u.oneCell' = true := by
  intro u hu
  simp at hu
  subst hu
  rfl
/-- ahead of the cursor -/
def H0 (w W : World) : Prop := Arr W w.heap.size 53 zeroO ∧ Arr W (w.heap.size + 1) 53 (obArr Ob.none atNil) ∧ W.heap.size = w.heap.size + 2 ∧ Below w.heap.size w W
theorem h0_start (w : World) : H0 w (((w.alloc (.cells zeroO 53)).alloc (.cells zeroO 53)).setRow (w.heap.size + 1) (obArr Ob.none atNil)) := by
  have a0 := Arr.new w 53 zeroO
  have a1 := a0.alloc (.cells zeroO 53)
  have b1 := Arr.new_at (w.alloc (.cells zeroO 53)) 53 zeroO (g := w.heap.size + 1) (by simp)
  exact ⟨a1.row_far (by omega) _, b1.row _, by simp [World.setRow], below_setRow (((Below.refl _ _).alloc (Nat.le_refl _) _).alloc (by simp) _) (by omega) _⟩
theorem hd_start {w W : World} (h : H0 w W) (l : List UInt8) (hl : ¬ 8192 < l.length) : Hd w (some l) (W.alloc (.cells #[.string (bs l), .int .i64 0] 91)) :=
  ⟨h.1.alloc _, h.2.1.alloc _, ⟨Arr.new_at _ _ _ h.2.2.1.symm, by omega⟩, h.2.2.2.alloc (by have := h.2.2.1; omega) _⟩
end Go.Proofs.YtmikfmcgddmplaaGreatDoor

/- ref.Decode where no object is read. -/
namespace Go.Proofs.YtmikfmcgddmplaaGreatDoor
open Go.RowKit


set_option maxRecDepth 100000 in
set_option maxHeartbeats 8000000 in
theorem RefDecode_no (s : ByteArray) (hno : ¬ 8192 < s.data.toList.length → ∀ n r, rdNum s.data.toList = some (n, r) → ¬ (n = 1 ∨ n = 2 ∨ n = 3 ∨ n = 4)) (w : World) : Calls Tryz.prog 27 #[.string s] w (DEnd w (decO s.data.toList).1 (decO s.data.toList).2) := by
  obtain ⟨si, hsi, sz0, sz1, sz2⟩ := info_parts info_str
  obtain ⟨ei, hei, ez0, ez1, ez2⟩ := info_parts info_ent
  have Hsi := Lib.hid hsi
  have Sz0 := Lib.hid sz0
  have Sz1 := Lib.hid sz1
  have Sz2 := Lib.hid sz2
  have Hei := Lib.hid hei
  have Ez0 := Lib.hid ez0
  have Ez1 := Lib.hid ez1
  have Ez2 := Lib.hid ez2
  clear hsi sz0 sz1 sz2 hei ez0 ez1 ez2
  obtain ⟨R, hR⟩ : ∃ R, R = decO s.data.toList := ⟨_, rfl⟩
  rw [← hR]
  have HR := Lib.hid hR
  clear hR
  go_enter Tryz.func27, Tryz.ntmps27
  go_upto_region 2 with (refine wpList_store_row rfl 53 _ _ rfl (w.heap.size + 1) (obArr Ob.none atNil) rfl rfl 53 zeroO (Arr.new_at (w.alloc _) _ _ (by simp)) (obInfo _ _) rfl (obArr_one _ _) ?_)
  refine wp_forget (H0 w) (h0_start w) ?_
  intro W hW0
  have hlen : s.data.toList.length = s.size := rfl
  by_cases hlong : 8192 < s.data.toList.length
  · have HX : Hid (R = (Ob.none, 1)) := by
      show _ = _
      rw [HR.out]
      unfold decO
      rw [if_pos hlong]
    have hi : (8192 : Int) < s.size := by omega
    clear HR hlong hlen
    go_wp2_with (first | (refine wpList_load_row rfl 53 _ rfl (w.heap.size + 1) rfl 53 _ (0, 0) _ hW0.2.1 Tryz.underlying53 rfl (obInfo _ _) ?_) | (refine wpList_store_row rfl 53 _ _ rfl w.heap.size (obArr Ob.none atNil) rfl rfl 53 zeroO hW0.1 (obInfo _ _) rfl (obArr_one _ _) ?_))
    refine bodyPost_ret (v := .tuple #[.agg (obArr Ob.none atNil), .int .i64 1]) ?_ rfl (DEnd_eq HX.out ⟨atNil, rfl, noneIn _ _, below_setRow hW0.2.2.2 (Nat.le_refl _) _⟩)
    rw [results_cell_tmp Tryz.results27]
    have hld := run_loadVar_row (P := Tryz.prog) _ _ _ 53 _ _ _ (hW0.1.row (obArr Ob.none atNil)) Tryz.underlying53 rfl (obInfo Ob.none atNil)
    simp [asAddr, hld, Result.andThen]
  have hi : ¬ (8192 : Int) < s.size := by omega
  have hHd := Lib.hid (hd_start hW0 s.data.toList hlong)
  rw [bs_of] at hHd
  have hsz := hW0.2.2.1
  go_upto_region 5 with fail
  refine wp_forget (Hd w (some s.data.toList)) (by exact hHd.out) ?_
  clear hHd hW0 hsz W hi hlen
  generalize s.data.toList = l at *
  intro W hW
  have q1 := fun Wq h => cs_num (w.heap.size + 2) (some l) Wq h
  have hn62 := stNum_lt (some l)
  have hst : ∃ n1 s1, stNum (some l) = (n1, s1) := ⟨_, _, rfl⟩
  obtain ⟨n, s1, hst⟩ := hst
  rw [hst] at q1 hn62
  have Q1 := Lib.hid q1
  have HST := Lib.hid hst
  clear q1 hst
  simp only at hn62
  go_wp2_with fail
  (with_reducible refine (Q1.out W hW.cur).mono ?_)
  rintro _ W2 ⟨rfl, h2, k2⟩
  have hW2 := hW.read h2 k2
  clear hW h2 k2 Q1
  go_upto_region 7 with (refine wpList_store_row rfl 53 _ _ rfl W2.heap.size (obArr (kOb (n : Int)) atNil) rfl rfl 53 zeroO (Arr.new W2 _ _) (obInfo _ _) rfl (obArr_one _ _) ?_)
  refine wp_forget (Gd w W2.heap.size (kOb (n : Int)) atNil s1) (gd_start hW2 (n : Int)) ?_
  clear hW2
  generalize W2.heap.size = b at *
  clear W W2
  intro W hW
  obtain ⟨sc, ec, hC, he, he2, hsl⟩ := hW.cur.cells
  have d1 := hC.c1
  cases hnum : rdNum l with
  | none =>
    obtain ⟨rfl, rfl⟩ : n = 0 ∧ s1 = none := by
      have h := HST.out
      simp [stNum, hnum] at h
      exact ⟨h.1.symm, h.2.symm⟩
    have HX : Hid (R = (Ob.none, 2)) := by
      show _ = _
      rw [HR.out]
      unfold decO
      rw [if_neg hlong, hnum]
    rw [Option.isNone_none] at he
    clear HR HST he2 hsl hC hlong
    go_wp2_with (first | (refine wpList_load_row rfl 53 _ rfl (w.heap.size + 1) rfl 53 _ (0, 0) _ hW.non Tryz.underlying53 rfl (obInfo _ _) ?_) | (refine wpList_store_row rfl 53 _ _ rfl w.heap.size (obArr Ob.none atNil) rfl rfl 53 zeroO hW.res (obInfo _ _) rfl (obArr_one _ _) ?_))
    refine bodyPost_ret (v := .tuple #[.agg (obArr Ob.none atNil), .int .i64 2]) ?_ rfl (DEnd_eq HX.out (hW.fail 2))
    rw [results_cell_tmp Tryz.results27]
    have hld := run_loadVar_row (P := Tryz.prog) _ _ _ 53 _ _ _ (hW.res.row (obArr Ob.none atNil)) Tryz.underlying53 rfl (obInfo Ob.none atNil)
    simp [asAddr, hld, Result.andThen]
  | some y =>
    obtain ⟨n', r⟩ := y
    obtain ⟨rfl, rfl⟩ : n' = n ∧ s1 = some r := by
      have h := HST.out
      simp [stNum, hnum] at h
      exact ⟨h.1, h.2.symm⟩
    obtain ⟨_, rfl⟩ := hsl r rfl
    clear he he2 hsl hC HST
    have hkind : ¬ (n' = 1 ∨ n' = 2 ∨ n' = 3 ∨ n' = 4) := hno hlong n' r hnum
    clear hno
    have hkb := kindB_no (k := (n' : Int)) (by omega)
    have HX : Hid (R = (Ob.none, 4)) := by
      show _ = _
      rw [HR.out]
      unfold decO
      rw [if_neg hlong, hnum]
      simp only
      rw [if_pos hkb]
    have c0 : W.cell? ⟨b, 0, none⟩ = some (.int .i64 (n' : Int)) := hW.box.cell 0
    have hor : (n' : Int) < 1 ∨ (¬ (n' : Int) < 1 ∧ (4 : Int) < n') := by omega
    clear HR hlong hkb hkind hnum
    rcases hor with hi | ⟨hi, hi2⟩
    · go_wp2_with (first | (refine wpList_load_row rfl 53 _ rfl (w.heap.size + 1) rfl 53 _ (0, 0) _ hW.non Tryz.underlying53 rfl (obInfo _ _) ?_) | (refine wpList_store_row rfl 53 _ _ rfl w.heap.size (obArr Ob.none atNil) rfl rfl 53 zeroO hW.res (obInfo _ _) rfl (obArr_one _ _) ?_))
      refine bodyPost_ret (v := .tuple #[.agg (obArr Ob.none atNil), .int .i64 4]) ?_ rfl (DEnd_eq HX.out (hW.fail 4))
      rw [results_cell_tmp Tryz.results27]
      have hld := run_loadVar_row (P := Tryz.prog) _ _ _ 53 _ _ _ (hW.res.row (obArr Ob.none atNil)) Tryz.underlying53 rfl (obInfo Ob.none atNil)
      simp [asAddr, hld, Result.andThen]
    · go_wp2_with (first | (refine wpList_load_row rfl 53 _ rfl (w.heap.size + 1) rfl 53 _ (0, 0) _ hW.non Tryz.underlying53 rfl (obInfo _ _) ?_) | (refine wpList_store_row rfl 53 _ _ rfl w.heap.size (obArr Ob.none atNil) rfl rfl 53 zeroO hW.res (obInfo _ _) rfl (obArr_one _ _) ?_))
      refine bodyPost_ret (v := .tuple #[.agg (obArr Ob.none atNil), .int .i64 4]) ?_ rfl (DEnd_eq HX.out (hW.fail 4))
      rw [results_cell_tmp Tryz.results27]
      have hld := run_loadVar_row (P := Tryz.prog) _ _ _ 53 _ _ _ (hW.res.row (obArr Ob.none atNil)) Tryz.underlying53 rfl (obInfo Ob.none atNil)
      simp [asAddr, hld, Result.andThen]
end Go.Proofs.YtmikfmcgddmplaaGreatDoor

/- ref.Decode of kind 1. -/
namespace Go.Proofs.YtmikfmcgddmplaaGreatDoor
open Go.RowKit


set_option maxRecDepth 100000 in
set_option maxHeartbeats 8000000 in
theorem RefDecode_1 (s : ByteArray) (r : List UInt8) (hlong : ¬ 8192 < s.data.toList.length) (hnum : rdNum s.data.toList = some (1, r)) (w : World) : Calls Tryz.prog 27 #[.string s] w (DEnd w (decO s.data.toList).1 (decO s.data.toList).2) := by
  obtain ⟨si, hsi, sz0, sz1, sz2⟩ := info_parts info_str
  obtain ⟨ei, hei, ez0, ez1, ez2⟩ := info_parts info_ent
  have Hsi := Lib.hid hsi
  have Sz0 := Lib.hid sz0
  have Sz1 := Lib.hid sz1
  have Sz2 := Lib.hid sz2
  have Hei := Lib.hid hei
  have Ez0 := Lib.hid ez0
  have Ez1 := Lib.hid ez1
  have Ez2 := Lib.hid ez2
  clear hsi sz0 sz1 sz2 hei ez0 ez1 ez2
  obtain ⟨R, hR⟩ : ∃ R, R = decO s.data.toList := ⟨_, rfl⟩
  rw [← hR]
  have HR := Lib.hid hR
  clear hR
  go_enter Tryz.func27, Tryz.ntmps27
  go_upto_region 2 with (refine wpList_store_row rfl 53 _ _ rfl (w.heap.size + 1) (obArr Ob.none atNil) rfl rfl 53 zeroO (Arr.new_at (w.alloc _) _ _ (by simp)) (obInfo _ _) rfl (obArr_one _ _) ?_)
  refine wp_forget (H0 w) (h0_start w) ?_
  intro W hW0
  have hlen : s.data.toList.length = s.size := rfl
  have hi : ¬ (8192 : Int) < s.size := by omega
  have hHd := Lib.hid (hd_start hW0 s.data.toList hlong)
  rw [bs_of] at hHd
  have hsz := hW0.2.2.1
  go_upto_region 5 with fail
  refine wp_forget (Hd w (some s.data.toList)) (by exact hHd.out) ?_
  clear hHd hW0 hsz W hi hlen
  generalize s.data.toList = l at *
  intro W hW
  have q1 := fun Wq h => cs_num (w.heap.size + 2) (some l) Wq h
  have hn62 := stNum_lt (some l)
  have hst : ∃ n1 s1, stNum (some l) = (n1, s1) := ⟨_, _, rfl⟩
  obtain ⟨n, s1, hst⟩ := hst
  rw [hst] at q1 hn62
  have Q1 := Lib.hid q1
  have HST := Lib.hid hst
  clear q1 hst
  simp only at hn62
  go_wp2_with fail
  (with_reducible refine (Q1.out W hW.cur).mono ?_)
  rintro _ W2 ⟨rfl, h2, k2⟩
  have hW2 := hW.read h2 k2
  clear hW h2 k2 Q1
  go_upto_region 7 with (refine wpList_store_row rfl 53 _ _ rfl W2.heap.size (obArr (kOb (n : Int)) atNil) rfl rfl 53 zeroO (Arr.new W2 _ _) (obInfo _ _) rfl (obArr_one _ _) ?_)
  refine wp_forget (Gd w W2.heap.size (kOb (n : Int)) atNil s1) (gd_start hW2 (n : Int)) ?_
  clear hW2
  generalize W2.heap.size = b at *
  clear W W2
  intro W hW
  obtain ⟨sc, ec, hC, he, he2, hsl⟩ := hW.cur.cells
  have d1 := hC.c1
  obtain ⟨rfl, rfl⟩ : n = 1 ∧ s1 = some r := by
    have h := HST.out
    simp [stNum, hnum] at h
    exact ⟨h.1.symm, h.2.symm⟩
  obtain ⟨_, rfl⟩ := hsl r rfl
  clear he he2 hsl hC HST
  have q1 := fun Wq h => cs_txt (w.heap.size + 2) (some r) Wq h
  have hf : rdFields ((1 : Nat) : Int) r = match (stTxt (some r)).2 with | none => none | some rest => some (⟨1, (stTxt (some r)).1, [], ⟨#[]⟩, [], ⟨#[]⟩, ⟨#[]⟩, 0, ⟨#[]⟩⟩, rest) := by unfold rdFields; rw [if_pos (by decide)]; cases (stTxt (some r)).2 <;> rfl
  have HF : Hid (R = fin ⟨1, (stTxt (some r)).1, [], ⟨#[]⟩, [], ⟨#[]⟩, ⟨#[]⟩, 0, ⟨#[]⟩⟩ (stTxt (some r)).2) := by show _ = _; rw [HR.out]; exact dec_fin hlong hnum rfl hf
  clear hf HR
  generalize (stTxt (some r)).1 = t1 at *
  generalize (stTxt (some r)).2 = st at *
  have Q1 := Lib.hid q1
  clear q1
  have c0 : W.cell? ⟨b, 0, none⟩ = some (.int .i64 1) := hW.box.cell 0
  go_wp2_with fail
  (with_reducible refine (Q1.out W hW.cur).mono ?_)
  rintro _ W2 ⟨rfl, h2, k2⟩
  have hW2 := hW.read h2 k2
  clear hW h2 k2 Q1 c0 d1
  have c1 : W2.cell? ⟨b, 1, none⟩ = some (.string ⟨#[]⟩) := hW2.box.cell 1
  have f1 := hW2.box.free 1
  go_upto_region 32 with fail
  refine wp_forget (Gd w b ⟨1, t1, [], ⟨#[]⟩, [], ⟨#[]⟩, ⟨#[]⟩, 0, ⟨#[]⟩⟩ atNil st) (by exact hW2.put 1 (.string t1) rfl rfl rfl) ?_
  clear hW2 c1 f1
  clear W W2
  intro W hW
  obtain ⟨sc, ec, hC, he, he2, hsl⟩ := hW.cur.cells
  have d0 := hC.c0
  have d1 := hC.c1
  cases st with
  | none =>
    rw [Option.isNone_none] at he
    have HX : Hid (R = (Ob.none, 2)) := HF.out
    clear HF he2 hsl hC
    go_wp2_with (first | (refine wpList_load_row rfl 53 _ rfl (w.heap.size + 1) rfl 53 _ (0, 0) _ hW.non Tryz.underlying53 rfl (obInfo _ _) ?_) | (refine wpList_store_row rfl 53 _ _ rfl w.heap.size (obArr Ob.none atNil) rfl rfl 53 zeroO hW.res (obInfo _ _) rfl (obArr_one _ _) ?_))
    refine bodyPost_ret (v := .tuple #[.agg (obArr Ob.none atNil), .int .i64 2]) ?_ rfl (DEnd_eq HX.out (hW.fail 2))
    rw [results_cell_tmp Tryz.results27]
    have hld := run_loadVar_row (P := Tryz.prog) _ _ _ 53 _ _ _ (hW.res.row (obArr Ob.none atNil)) Tryz.underlying53 rfl (obInfo Ob.none atNil)
    simp [asAddr, hld, Result.andThen]
  | some rest =>
    obtain ⟨rfl, rfl⟩ := hsl rest rfl
    clear he he2 hsl hC
    by_cases hrest : 0 < rest.length
    · have HX : Hid (R = (Ob.none, 2)) := by
        show _ = _
        rw [HF.out]
        exact fin_rest hrest
      have hne : (bs rest).toList.isEmpty = false := by
        rw [ByteArray.toList_eq, bs_list]
        cases rest with
        | nil => simp at hrest
        | cons => rfl
      clear HF
      go_wp2_with (first | (refine wpList_load_row rfl 53 _ rfl (w.heap.size + 1) rfl 53 _ (0, 0) _ hW.non Tryz.underlying53 rfl (obInfo _ _) ?_) | (refine wpList_store_row rfl 53 _ _ rfl w.heap.size (obArr Ob.none atNil) rfl rfl 53 zeroO hW.res (obInfo _ _) rfl (obArr_one _ _) ?_))
      refine bodyPost_ret (v := .tuple #[.agg (obArr Ob.none atNil), .int .i64 2]) ?_ rfl (DEnd_eq HX.out (hW.fail 2))
      rw [results_cell_tmp Tryz.results27]
      have hld := run_loadVar_row (P := Tryz.prog) _ _ _ 53 _ _ _ (hW.res.row (obArr Ob.none atNil)) Tryz.underlying53 rfl (obInfo Ob.none atNil)
      simp [asAddr, hld, Result.andThen]
    · obtain rfl : rest = [] := List.eq_nil_of_length_eq_zero (by omega)
      have hne : (bs []).toList = [] := by rw [ByteArray.toList_eq, bs_list]
      have hF : R = if good ⟨1, t1, [], ⟨#[]⟩, [], ⟨#[]⟩, ⟨#[]⟩, 0, ⟨#[]⟩⟩ ≠ 0 then (Ob.none, good ⟨1, t1, [], ⟨#[]⟩, [], ⟨#[]⟩, ⟨#[]⟩, 0, ⟨#[]⟩⟩) else (⟨1, t1, [], ⟨#[]⟩, [], ⟨#[]⟩, ⟨#[]⟩, 0, ⟨#[]⟩⟩, 0) := HF.out
      have CG := Lib.hid (fun Wq h => GoodObject_any ⟨1, t1, [], ⟨#[]⟩, [], ⟨#[]⟩, ⟨#[]⟩, 0, ⟨#[]⟩⟩ atNil Wq h (fun e he => by simp at he))
      generalize hgo : good ⟨1, t1, [], ⟨#[]⟩, [], ⟨#[]⟩, ⟨#[]⟩, 0, ⟨#[]⟩⟩ = G at *
      clear hgo hrest HF
      have HF := Lib.hid hF
      clear hF
      go_wp2_with (refine wpList_load_row rfl 53 _ rfl b rfl 53 _ (0, 0) _ hW.box Tryz.underlying53 rfl (obInfo _ _) ?_)
      (with_reducible refine (CG.out W hW.ins.1).mono ?_)
      clear CG
      rintro _ W9 ⟨rfl, b9⟩
      have hW9 : Gd w b ⟨1, t1, [], ⟨#[]⟩, [], ⟨#[]⟩, ⟨#[]⟩, 0, ⟨#[]⟩⟩ atNil (some []) W9 := hW.grow (r := none) (gb_below b9) (fun q e => by cases e) (hW.oe.kept (gb_below (r := none) b9) (by cases hq : Value.ownBlock _ <;> simp)) (hW.op.kept (gb_below (r := none) b9) (by cases hq : Value.ownBlock _ <;> simp))
      clear hW b9 d0 d1
      cases hG : G != 0
      case true =>
        have HX : Hid (R = (Ob.none, G)) := by
          show _ = _
          rw [HF.out, if_pos (by simpa using hG)]
        clear HF
        go_wp2_with (first | (refine wpList_load_row rfl 53 _ rfl (w.heap.size + 1) rfl 53 _ (0, 0) _ hW9.non Tryz.underlying53 rfl (obInfo _ _) ?_) | (refine wpList_store_row rfl 53 _ _ rfl w.heap.size (obArr Ob.none atNil) rfl rfl 53 zeroO hW9.res (obInfo _ _) rfl (obArr_one _ _) ?_))
        refine bodyPost_ret (v := .tuple #[.agg (obArr Ob.none atNil), .int .i64 G]) ?_ rfl (DEnd_eq HX.out (hW9.fail G))
        rw [results_cell_tmp Tryz.results27]
        have hld := run_loadVar_row (P := Tryz.prog) _ _ _ 53 _ _ _ (hW9.res.row (obArr Ob.none atNil)) Tryz.underlying53 rfl (obInfo Ob.none atNil)
        simp [asAddr, hld, Result.andThen]
      have hG2 : G = 0 := by simpa using hG
      subst hG2
      have HX : Hid (R = (⟨1, t1, [], ⟨#[]⟩, [], ⟨#[]⟩, ⟨#[]⟩, 0, ⟨#[]⟩⟩, 0)) := by
        show _ = _
        rw [HF.out, if_neg (by simp)]
      clear HF hG
      go_wp2_with (first | (refine wpList_load_row rfl 53 _ rfl b rfl 53 _ (0, 0) _ hW9.box Tryz.underlying53 rfl (obInfo _ _) ?_) | (refine wpList_store_row rfl 53 _ _ rfl w.heap.size (obArr ⟨1, t1, [], ⟨#[]⟩, [], ⟨#[]⟩, ⟨#[]⟩, 0, ⟨#[]⟩⟩ atNil) rfl rfl 53 zeroO hW9.res (obInfo _ _) rfl (obArr_one _ _) ?_))
      refine bodyPost_ret (v := .tuple #[.agg (obArr ⟨1, t1, [], ⟨#[]⟩, [], ⟨#[]⟩, ⟨#[]⟩, 0, ⟨#[]⟩⟩ atNil), .int .i64 0]) ?_ rfl (DEnd_eq HX.out hW9.done)
      rw [results_cell_tmp Tryz.results27]
      have hld := run_loadVar_row (P := Tryz.prog) _ _ _ 53 _ _ _ (hW9.res.row (obArr ⟨1, t1, [], ⟨#[]⟩, [], ⟨#[]⟩, ⟨#[]⟩, 0, ⟨#[]⟩⟩ atNil)) Tryz.underlying53 rfl (obInfo ⟨1, t1, [], ⟨#[]⟩, [], ⟨#[]⟩, ⟨#[]⟩, 0, ⟨#[]⟩⟩ atNil)
      simp [asAddr, hld, Result.andThen]
end Go.Proofs.YtmikfmcgddmplaaGreatDoor

/- ref.Decode of kind 2. -/
namespace Go.Proofs.YtmikfmcgddmplaaGreatDoor
open Go.RowKit


set_option maxRecDepth 100000 in
set_option maxHeartbeats 8000000 in
theorem RefDecode_2 (s : ByteArray) (r : List UInt8) (hlong : ¬ 8192 < s.data.toList.length) (hnum : rdNum s.data.toList = some (2, r)) (w : World) : Calls Tryz.prog 27 #[.string s] w (DEnd w (decO s.data.toList).1 (decO s.data.toList).2) := by
  obtain ⟨si, hsi, sz0, sz1, sz2⟩ := info_parts info_str
  obtain ⟨ei, hei, ez0, ez1, ez2⟩ := info_parts info_ent
  have Hsi := Lib.hid hsi
  have Sz0 := Lib.hid sz0
  have Sz1 := Lib.hid sz1
  have Sz2 := Lib.hid sz2
  have Hei := Lib.hid hei
  have Ez0 := Lib.hid ez0
  have Ez1 := Lib.hid ez1
  have Ez2 := Lib.hid ez2
  clear hsi sz0 sz1 sz2 hei ez0 ez1 ez2
  obtain ⟨R, hR⟩ : ∃ R, R = decO s.data.toList := ⟨_, rfl⟩
  rw [← hR]
  have HR := Lib.hid hR
  clear hR
  go_enter Tryz.func27, Tryz.ntmps27
  go_upto_region 2 with (refine wpList_store_row rfl 53 _ _ rfl (w.heap.size + 1) (obArr Ob.none atNil) rfl rfl 53 zeroO (Arr.new_at (w.alloc _) _ _ (by simp)) (obInfo _ _) rfl (obArr_one _ _) ?_)
  refine wp_forget (H0 w) (h0_start w) ?_
  intro W hW0
  have hlen : s.data.toList.length = s.size := rfl
  have hi : ¬ (8192 : Int) < s.size := by omega
  have hHd := Lib.hid (hd_start hW0 s.data.toList hlong)
  rw [bs_of] at hHd
  have hsz := hW0.2.2.1
  go_upto_region 5 with fail
  refine wp_forget (Hd w (some s.data.toList)) (by exact hHd.out) ?_
  clear hHd hW0 hsz W hi hlen
  generalize s.data.toList = l at *
  intro W hW
  have q1 := fun Wq h => cs_num (w.heap.size + 2) (some l) Wq h
  have hn62 := stNum_lt (some l)
  have hst : ∃ n1 s1, stNum (some l) = (n1, s1) := ⟨_, _, rfl⟩
  obtain ⟨n, s1, hst⟩ := hst
  rw [hst] at q1 hn62
  have Q1 := Lib.hid q1
  have HST := Lib.hid hst
  clear q1 hst
  simp only at hn62
  go_wp2_with fail
  (with_reducible refine (Q1.out W hW.cur).mono ?_)
  rintro _ W2 ⟨rfl, h2, k2⟩
  have hW2 := hW.read h2 k2
  clear hW h2 k2 Q1
  go_upto_region 7 with (refine wpList_store_row rfl 53 _ _ rfl W2.heap.size (obArr (kOb (n : Int)) atNil) rfl rfl 53 zeroO (Arr.new W2 _ _) (obInfo _ _) rfl (obArr_one _ _) ?_)
  refine wp_forget (Gd w W2.heap.size (kOb (n : Int)) atNil s1) (gd_start hW2 (n : Int)) ?_
  clear hW2
  generalize W2.heap.size = b at *
  clear W W2
  intro W hW
  obtain ⟨sc, ec, hC, he, he2, hsl⟩ := hW.cur.cells
  have d1 := hC.c1
  obtain ⟨rfl, rfl⟩ : n = 2 ∧ s1 = some r := by
    have h := HST.out
    simp [stNum, hnum] at h
    exact ⟨h.1.symm, h.2.symm⟩
  obtain ⟨_, rfl⟩ := hsl r rfl
  clear he he2 hsl hC HST
  have hf : rdFields ((2 : Nat) : Int) r = match rdEntsS (some r) with | none => none | some (L, rest) => some (⟨2, ⟨#[]⟩, L, ⟨#[]⟩, [], ⟨#[]⟩, ⟨#[]⟩, 0, ⟨#[]⟩⟩, rest) := by unfold rdFields; rw [if_neg (by decide), if_pos (by decide)]; cases rdEntsS (some r) <;> rfl
  have HD : Hid (∀ (L : List Ent) (st : St), rdFields ((2 : Nat) : Int) r = (match st with | none => none | some rest => some (⟨2, ⟨#[]⟩, L, ⟨#[]⟩, [], ⟨#[]⟩, ⟨#[]⟩, 0, ⟨#[]⟩⟩, rest)) → R = fin ⟨2, ⟨#[]⟩, L, ⟨#[]⟩, [], ⟨#[]⟩, ⟨#[]⟩, 0, ⟨#[]⟩⟩ st) := fun L st h => by rw [HR.out]; exact dec_fin hlong hnum rfl h
  have q2 := fun Wq h => cs_num (w.heap.size + 2) (some r) Wq h
  have hn2 := stNum_lt (some r)
  have hst0 := eres_start (some r)
  generalize rdEntsS (some r) = res at *
  generalize (stNum (some r)).1 = n2 at *
  generalize (stNum (some r)).2 = s2 at *
  have HF0 := Lib.hid hf
  have HST := Lib.hid hst0
  have Q2 := Lib.hid q2
  clear q2 hst0 hf HR
  have c0 : W.cell? ⟨b, 0, none⟩ = some (.int .i64 2) := hW.box.cell 0
  go_wp2_with fail
  (with_reducible refine (Q2.out W hW.cur).mono ?_)
  rintro _ W2 ⟨rfl, h2, k2⟩
  have hW2 := hW.read h2 k2
  clear hW h2 k2 Q2 c0 d1
  go_wp2_with fail
  go_loopw [8] (fun i wr => RdERel n2 res w b i wr) (fun i _ => n2 - (intOf i).toNat)
  case atStart =>
    refine ⟨[], none, 0, s2, Nat.zero_le _, rfl, hW2, (fun e he => by simp at he), ?_⟩
    rcases HST.out with h | ⟨l, e, h⟩
    · exact h
    · have hc := hW2.cur
      rw [e] at hc
      exact absurd hc.2 (by omega)
  case round =>
    clear hW2 W W2 HST
    obtain ⟨T, A, cc, st, hk, rfl, hW, hnm, hE⟩ := hrel
    have hlenT := eres_len hE
    have HE := Lib.hid hE
    have HN := Lib.hid hnm
    clear hE hnm
    obtain ⟨sc, ec, hC, he, he2, hsl⟩ := hW.cur.cells
    have d1 := hC.c1
    have hgo : (T.length < n2 ∧ ∃ lc, st = some lc) ∨ ¬ (T.length < n2 ∧ ∃ lc, st = some lc) := Classical.em _
    rcases hgo with ⟨hlt, lc, rfl⟩ | hno
    · have hi : (T.length : Int) < n2 := by omega
      rw [Option.isNone_some, Bool.not_false] at he2
      have q3 := fun Wq h => cs_txt (w.heap.size + 2) (some lc) Wq h
      have q4 := fun Wq h => cs_num (w.heap.size + 2) (stTxt (some lc)).2 Wq h
      have q5 := fun Wq h => cs_id (w.heap.size + 2) (stD (stNum (stTxt (some lc)).2).1 (stNum (stTxt (some lc)).2).2) Wq h
      have hsm := txt_small (some lc)
      have HC0 := Lib.hid (ent_chainD lc)
      have HDef : Hid (∀ d st, stD d st = if 1 < d then none else st) := fun d st => rfl
      generalize (stId (stD (stNum (stTxt (some lc)).2).1 (stNum (stTxt (some lc)).2).2)).1 = id at *
      generalize (stId (stD (stNum (stTxt (some lc)).2).1 (stNum (stTxt (some lc)).2).2)).2 = s5 at *
      generalize (stNum (stTxt (some lc)).2).1 = d at *
      generalize (stNum (stTxt (some lc)).2).2 = s4 at *
      generalize (stTxt (some lc)).1 = nm at *
      generalize (stTxt (some lc)).2 = s3 at *
      have hD : Hid ((d == 1) = ((d : Int) == 1)) := (cast_eq d 1).symm
      have HM0 : Hid (ERes n2 res (T ++ [⟨nm, (d : Int) == 1, id⟩]) s5) := by
        have h := HC0.out
        rw [hD.out] at h
        exact eres_more HE.out hlt _ _ h
      have HN2 : Hid (∀ e ∈ T ++ [(⟨nm, (d : Int) == 1, id⟩ : Ent)], e.name.size ≤ 4096) := fun e he => by
        rcases List.mem_append.1 he with he | he
        · exact HN.out e he
        · simp at he
          subst he
          exact hsm
      have Q3 := Lib.hid q3
      have Q4 := Lib.hid q4
      have Q5 := Lib.hid q5
      clear q3 q4 q5 he hsl HE hC HF0 HD HC0 HN hD hsm
      go_wp2_with fail
      clear d1 he2
      (with_reducible refine (Q3.out wr hW.cur).mono ?_)
      rintro _ W2 ⟨rfl, h2, k2⟩
      have hW2 := hW.read h2 k2
      clear hW h2 k2 Q3
      have hlt2 := hW2.box.lt
      have hqX : ∀ q, (Value.slice A T.length cc).ownBlock = some q → q < W2.heap.size := fun q e => own_in hW2.oe q e
      go_upto_region 19 with fail
      refine wp_forget (fun Wq => Gd w b ⟨2, ⟨#[]⟩, T, ⟨#[]⟩, [], ⟨#[]⟩, ⟨#[]⟩, 0, ⟨#[]⟩⟩ ⟨A, cc, none, 0⟩ s3 Wq ∧ Arr Wq W2.heap.size 79 #[.string nm, .bool false, .string ⟨#[]⟩]) (by exact ⟨hW2.alloc _, Arr.new _ _ _⟩) ?_
      clear hW2
      generalize W2.heap.size = X at *
      clear W2
      rintro W3 ⟨hW3, hX3⟩
      go_wp2_with fail
      (with_reducible refine (Q4.out W3 hW3.cur).mono ?_)
      rintro _ W4 ⟨rfl, h2, k2⟩
      have hbb := hW3.hb
      have hX4 := hX3.kept k2 (fun e => by simp at e; omega)
      have hW4 := hW3.read h2 k2
      clear hW3 h2 k2 Q4 hX3
      by_cases h1d : 1 < d
      · have hdi : (1 : Int) < d := by omega
        have hst : stD d s4 = none := by rw [HDef.out, if_pos h1d]
        rw [hst] at Q5
        obtain ⟨sd, ed, hCd, _, _, _⟩ := hW4.cur.cells
        have e1 := hCd.c1
        have fe := Arr.free hCd 1
        have hW5 := hW4.read (st' := none) (show CS (W4.setCell ⟨w.heap.size + 2, 1, none⟩ (.int .i64 2)) (w.heap.size + 2) none from ⟨sd, 2, rfl, hCd.err 2⟩) (gb_set _ _ _)
        have hX5 := hX4.kept (gb_set (w.heap.size + 2) 1 (.int .i64 2)) (fun e => by simp at e; omega)
        clear hCd hW4 hX4
        go_upto_region 22 with fail
        refine wp_forget (fun Wq => Gd w b ⟨2, ⟨#[]⟩, T, ⟨#[]⟩, [], ⟨#[]⟩, ⟨#[]⟩, 0, ⟨#[]⟩⟩ ⟨A, cc, none, 0⟩ none Wq ∧ Arr Wq X 79 #[.string nm, .bool false, .string ⟨#[]⟩]) (by exact ⟨hW5, hX5⟩) ?_
        clear hW5 hX5 e1 fe W4
        rintro W4 ⟨hW4, hX4⟩
        go_wp2_with fail
        (with_reducible refine (Q5.out W4 hW4.cur).mono ?_)
        rintro _ W6 ⟨rfl, h2, k2⟩
        have hX6 := hX4.kept k2 (fun e => by simp at e; omega)
        have hW6 := hW4.read h2 k2
        clear hW4 h2 k2 Q5 hX4
        have x1 : W6.cell? ⟨X, 1, none⟩ = some (.bool false) := hX6.cell 1
        have x2 : W6.cell? ⟨X, 2, none⟩ = some (.string ⟨#[]⟩) := hX6.cell 2
        have y1 := hX6.free 1
        have y2 := hX6.free 2
        have hXb : b < X := hlt2
        have g1 : W6.grownBy (W6.setCell ⟨X, 1, none⟩ (.bool ((d : Int) == 1))) (some X) := gb_set _ _ _
        have g2 : (W6.setCell ⟨X, 1, none⟩ (.bool ((d : Int) == 1))).grownBy ((W6.setCell ⟨X, 1, none⟩ (.bool ((d : Int) == 1))).setCell ⟨X, 2, none⟩ (.string id)) (some X) := gb_set _ _ _
        have hoX : (Value.slice A T.length cc).ownBlock = none ∨ (Value.slice A T.length cc).ownBlock ≠ some X := .inr (fun e => Nat.lt_irrefl _ (hqX X e))
        have hpX := own_apartS hW6.op hX6
        have hW7 := (hW6.grow g1 (fun q e => by cases e; exact hXb) (hW6.oe.kept g1 hoX) (hW6.op.kept g1 hpX)).grow g2 (fun q e => by cases e; exact hXb) ((hW6.oe.kept g1 hoX).kept g2 hoX) ((hW6.op.kept g1 hpX).kept g2 hpX)
        have hX7 : Arr ((W6.setCell ⟨X, 1, none⟩ (.bool ((d : Int) == 1))).setCell ⟨X, 2, none⟩ (.string id)) X 79 #[.string nm, .bool ((d : Int) == 1), .string id] := (hX6.put 1 _).put 2 _
        clear hW6 hX6 g1 g2 hoX hpX
        go_upto_region 23 with fail
        refine wp_forget (fun Wq => Gd w b ⟨2, ⟨#[]⟩, T, ⟨#[]⟩, [], ⟨#[]⟩, ⟨#[]⟩, 0, ⟨#[]⟩⟩ ⟨A, cc, none, 0⟩ s5 Wq ∧ Arr Wq X 79 #[.string nm, .bool ((d : Int) == 1), .string id]) (by exact ⟨hW7, hX7⟩) ?_
        clear hW7 hX7 x1 x2 y1 y2 W6
        rintro W6 ⟨hW6, hX6⟩
        have x0 : W6.cell? ⟨X, 0, none⟩ = some (.string nm) := hX6.cell 0
        have x1 : W6.cell? ⟨X, 1, none⟩ = some (.bool ((d : Int) == 1)) := hX6.cell 1
        have x2 : W6.cell? ⟨X, 2, none⟩ = some (.string id) := hX6.cell 2
        have c2 : W6.cell? ⟨b, 2, none⟩ = some (.slice A T.length cc) := hW6.box.cell 2
        have hlt6 := hW6.box.lt
        generalize hdb : ((d : Int) == 1) = db at *
        clear hdb
        go_wp2_with (at_builtin; refine wpList_append_lies _ rfl _ _ 51 rfl (b + 1) 79 ei _ 3 40 Tryz.underlying51 Hei.out Ez0.out Ez1.out Ez2.out rfl (by decide) _ _ _ rfl (hW6.oe.alloc _) ⟨W6.heap.size, 0, none⟩ 1 1 [.string nm, .bool db, .string id] rfl rfl (new_cells W6 [.string nm, .bool db, .string id] 79) (by intro u hu; simp at hu; rcases hu with rfl | rfl | rfl <;> rfl) (by decide) (by simp only; unfold maxLen; omega) (by simp only; omega) (by simp; omega) _ rfl ?_)
        intro g7 cap7 w7 hown hgrow hat hg7
        have hge : ∀ q, (Value.slice A T.length cc).ownBlock = some q → b < q := fun q e1 => own_row_ge hW6.oe q e1
        have hb7 := (hW6.alloc (.cells #[.string nm, .bool db, .string id] 79)).box.kept hgrow (fun e1 => by have := hge b e1.symm; omega)
        have e2 : w7.cell? ⟨b, 2, none⟩ = some (.slice A T.length cc) := hb7.cell 2
        have f2 := hb7.free 2
        have hfin := Gd.app (o' := ⟨2, ⟨#[]⟩, T ++ [⟨nm, db, id⟩], ⟨#[]⟩, [], ⟨#[]⟩, ⟨#[]⟩, 0, ⟨#[]⟩⟩) (p' := ⟨some ⟨g7, 0, none⟩, cap7, none, 0⟩) (hW6.alloc (.cells #[.string nm, .bool db, .string id] 79)) hgrow hge 2 (.slice (some ⟨g7, 0, none⟩) (T ++ [(⟨nm, db, id⟩ : Ent)]).length cap7) rfl (by simp only [List.length_append, entCells_app]; exact hown) (own_nil _ _ _ _)
        have HFin := Lib.hid hfin
        clear hfin hown hgrow hat hb7 hW6 hX6 x0 x1 x2 c2
        go_wp2_with fail
        refine ⟨⟨T ++ [⟨nm, db, id⟩], some ⟨g7, 0, none⟩, cap7, s5, by rw [List.length_append]; simp; omega, by rw [List.length_append]; simp, ?_, HN2.out, HM0.out⟩, by simp [intOf]; omega⟩
        have hx := HFin.out
        rw [List.length_append] at hx
        exact hx
      · have hdi : ¬ (1 : Int) < d := by omega
        have hst : stD d s4 = s4 := by rw [HDef.out, if_neg h1d]
        rw [hst] at Q5
        go_wp2_with fail
        (with_reducible refine (Q5.out W4 hW4.cur).mono ?_)
        rintro _ W6 ⟨rfl, h2, k2⟩
        have hX6 := hX4.kept k2 (fun e => by simp at e; omega)
        have hW6 := hW4.read h2 k2
        clear hW4 h2 k2 Q5 hX4
        have x1 : W6.cell? ⟨X, 1, none⟩ = some (.bool false) := hX6.cell 1
        have x2 : W6.cell? ⟨X, 2, none⟩ = some (.string ⟨#[]⟩) := hX6.cell 2
        have y1 := hX6.free 1
        have y2 := hX6.free 2
        have hXb : b < X := hlt2
        have g1 : W6.grownBy (W6.setCell ⟨X, 1, none⟩ (.bool ((d : Int) == 1))) (some X) := gb_set _ _ _
        have g2 : (W6.setCell ⟨X, 1, none⟩ (.bool ((d : Int) == 1))).grownBy ((W6.setCell ⟨X, 1, none⟩ (.bool ((d : Int) == 1))).setCell ⟨X, 2, none⟩ (.string id)) (some X) := gb_set _ _ _
        have hoX : (Value.slice A T.length cc).ownBlock = none ∨ (Value.slice A T.length cc).ownBlock ≠ some X := .inr (fun e => Nat.lt_irrefl _ (hqX X e))
        have hpX := own_apartS hW6.op hX6
        have hW7 := (hW6.grow g1 (fun q e => by cases e; exact hXb) (hW6.oe.kept g1 hoX) (hW6.op.kept g1 hpX)).grow g2 (fun q e => by cases e; exact hXb) ((hW6.oe.kept g1 hoX).kept g2 hoX) ((hW6.op.kept g1 hpX).kept g2 hpX)
        have hX7 : Arr ((W6.setCell ⟨X, 1, none⟩ (.bool ((d : Int) == 1))).setCell ⟨X, 2, none⟩ (.string id)) X 79 #[.string nm, .bool ((d : Int) == 1), .string id] := (hX6.put 1 _).put 2 _
        clear hW6 hX6 g1 g2 hoX hpX
        go_upto_region 23 with fail
        refine wp_forget (fun Wq => Gd w b ⟨2, ⟨#[]⟩, T, ⟨#[]⟩, [], ⟨#[]⟩, ⟨#[]⟩, 0, ⟨#[]⟩⟩ ⟨A, cc, none, 0⟩ s5 Wq ∧ Arr Wq X 79 #[.string nm, .bool ((d : Int) == 1), .string id]) (by exact ⟨hW7, hX7⟩) ?_
        clear hW7 hX7 x1 x2 y1 y2 W6
        rintro W6 ⟨hW6, hX6⟩
        have x0 : W6.cell? ⟨X, 0, none⟩ = some (.string nm) := hX6.cell 0
        have x1 : W6.cell? ⟨X, 1, none⟩ = some (.bool ((d : Int) == 1)) := hX6.cell 1
        have x2 : W6.cell? ⟨X, 2, none⟩ = some (.string id) := hX6.cell 2
        have c2 : W6.cell? ⟨b, 2, none⟩ = some (.slice A T.length cc) := hW6.box.cell 2
        have hlt6 := hW6.box.lt
        generalize hdb : ((d : Int) == 1) = db at *
        clear hdb
        go_wp2_with (at_builtin; refine wpList_append_lies _ rfl _ _ 51 rfl (b + 1) 79 ei _ 3 40 Tryz.underlying51 Hei.out Ez0.out Ez1.out Ez2.out rfl (by decide) _ _ _ rfl (hW6.oe.alloc _) ⟨W6.heap.size, 0, none⟩ 1 1 [.string nm, .bool db, .string id] rfl rfl (new_cells W6 [.string nm, .bool db, .string id] 79) (by intro u hu; simp at hu; rcases hu with rfl | rfl | rfl <;> rfl) (by decide) (by simp only; unfold maxLen; omega) (by simp only; omega) (by simp; omega) _ rfl ?_)
        intro g7 cap7 w7 hown hgrow hat hg7
        have hge : ∀ q, (Value.slice A T.length cc).ownBlock = some q → b < q := fun q e1 => own_row_ge hW6.oe q e1
        have hb7 := (hW6.alloc (.cells #[.string nm, .bool db, .string id] 79)).box.kept hgrow (fun e1 => by have := hge b e1.symm; omega)
        have e2 : w7.cell? ⟨b, 2, none⟩ = some (.slice A T.length cc) := hb7.cell 2
        have f2 := hb7.free 2
        have hfin := Gd.app (o' := ⟨2, ⟨#[]⟩, T ++ [⟨nm, db, id⟩], ⟨#[]⟩, [], ⟨#[]⟩, ⟨#[]⟩, 0, ⟨#[]⟩⟩) (p' := ⟨some ⟨g7, 0, none⟩, cap7, none, 0⟩) (hW6.alloc (.cells #[.string nm, .bool db, .string id] 79)) hgrow hge 2 (.slice (some ⟨g7, 0, none⟩) (T ++ [(⟨nm, db, id⟩ : Ent)]).length cap7) rfl (by simp only [List.length_append, entCells_app]; exact hown) (own_nil _ _ _ _)
        have HFin := Lib.hid hfin
        clear hfin hown hgrow hat hb7 hW6 hX6 x0 x1 x2 c2
        go_wp2_with fail
        refine ⟨⟨T ++ [⟨nm, db, id⟩], some ⟨g7, 0, none⟩, cap7, s5, by rw [List.length_append]; simp; omega, by rw [List.length_append]; simp, ?_, HN2.out, HM0.out⟩, by simp [intOf]; omega⟩
        have hx := HFin.out
        rw [List.length_append] at hx
        exact hx
    · have HF : Hid (R = fin ⟨2, ⟨#[]⟩, T, ⟨#[]⟩, [], ⟨#[]⟩, ⟨#[]⟩, 0, ⟨#[]⟩⟩ st) := by
        show _ = _
        refine HD.out T st ?_
        cases st with
        | none => rw [HF0.out, HE.out.1]
        | some lc =>
          have hno2 : ¬ T.length < n2 := fun h => hno ⟨h, lc, rfl⟩
          rw [HF0.out, entsR_done HE.out.2 hno2]
      have hcases : ((T.length : Int) < n2 ∧ (ec == 0) = false) ∨ ¬ (T.length : Int) < n2 := by
        by_cases h : T.length < n2
        · refine .inl ⟨by omega, ?_⟩
          cases st with
          | none => exact he2
          | some lc => exact absurd ⟨h, lc, rfl⟩ hno
        · exact .inr (by omega)
      clear hno he he2 hsl hC HF0 HD HE
      rcases hcases with ⟨hi, hec⟩ | hi
      · go_upto_region 32 with fail
        clear d1 hi
        refine wp_forget (Gd w b ⟨2, ⟨#[]⟩, T, ⟨#[]⟩, [], ⟨#[]⟩, ⟨#[]⟩, 0, ⟨#[]⟩⟩ ⟨A, cc, none, 0⟩ st) hW ?_
        clear hW
        intro W hW
        obtain ⟨sc, ec, hC, he, he2, hsl⟩ := hW.cur.cells
        have d0 := hC.c0
        have d1 := hC.c1
        cases st with
        | none =>
          rw [Option.isNone_none] at he
          have HX : Hid (R = (Ob.none, 2)) := HF.out
          clear HF he2 hsl hC
          go_wp2_with (first | (refine wpList_load_row rfl 53 _ rfl (w.heap.size + 1) rfl 53 _ (0, 0) _ hW.non Tryz.underlying53 rfl (obInfo _ _) ?_) | (refine wpList_store_row rfl 53 _ _ rfl w.heap.size (obArr Ob.none atNil) rfl rfl 53 zeroO hW.res (obInfo _ _) rfl (obArr_one _ _) ?_))
          refine bodyPost_ret (v := .tuple #[.agg (obArr Ob.none atNil), .int .i64 2]) ?_ rfl (DEnd_eq HX.out (hW.fail 2))
          rw [results_cell_tmp Tryz.results27]
          have hld := run_loadVar_row (P := Tryz.prog) _ _ _ 53 _ _ _ (hW.res.row (obArr Ob.none atNil)) Tryz.underlying53 rfl (obInfo Ob.none atNil)
          simp [asAddr, hld, Result.andThen]
        | some rest =>
          obtain ⟨rfl, rfl⟩ := hsl rest rfl
          clear he he2 hsl hC
          by_cases hrest : 0 < rest.length
          · have HX : Hid (R = (Ob.none, 2)) := by
              show _ = _
              rw [HF.out]
              exact fin_rest hrest
            have hne : (bs rest).toList.isEmpty = false := by
              rw [ByteArray.toList_eq, bs_list]
              cases rest with
              | nil => simp at hrest
              | cons => rfl
            clear HF
            go_wp2_with (first | (refine wpList_load_row rfl 53 _ rfl (w.heap.size + 1) rfl 53 _ (0, 0) _ hW.non Tryz.underlying53 rfl (obInfo _ _) ?_) | (refine wpList_store_row rfl 53 _ _ rfl w.heap.size (obArr Ob.none atNil) rfl rfl 53 zeroO hW.res (obInfo _ _) rfl (obArr_one _ _) ?_))
            refine bodyPost_ret (v := .tuple #[.agg (obArr Ob.none atNil), .int .i64 2]) ?_ rfl (DEnd_eq HX.out (hW.fail 2))
            rw [results_cell_tmp Tryz.results27]
            have hld := run_loadVar_row (P := Tryz.prog) _ _ _ 53 _ _ _ (hW.res.row (obArr Ob.none atNil)) Tryz.underlying53 rfl (obInfo Ob.none atNil)
            simp [asAddr, hld, Result.andThen]
          · obtain rfl : rest = [] := List.eq_nil_of_length_eq_zero (by omega)
            have hne : (bs []).toList = [] := by rw [ByteArray.toList_eq, bs_list]
            have hF : R = if good ⟨2, ⟨#[]⟩, T, ⟨#[]⟩, [], ⟨#[]⟩, ⟨#[]⟩, 0, ⟨#[]⟩⟩ ≠ 0 then (Ob.none, good ⟨2, ⟨#[]⟩, T, ⟨#[]⟩, [], ⟨#[]⟩, ⟨#[]⟩, 0, ⟨#[]⟩⟩) else (⟨2, ⟨#[]⟩, T, ⟨#[]⟩, [], ⟨#[]⟩, ⟨#[]⟩, 0, ⟨#[]⟩⟩, 0) := HF.out
            have CG := Lib.hid (fun Wq h => GoodObject_any ⟨2, ⟨#[]⟩, T, ⟨#[]⟩, [], ⟨#[]⟩, ⟨#[]⟩, 0, ⟨#[]⟩⟩ ⟨A, cc, none, 0⟩ Wq h (fun e he => Nat.le_trans (HN.out e he) (by decide)))
            generalize hgo : good ⟨2, ⟨#[]⟩, T, ⟨#[]⟩, [], ⟨#[]⟩, ⟨#[]⟩, 0, ⟨#[]⟩⟩ = G at *
            clear hgo hrest HF
            have HF := Lib.hid hF
            clear hF
            go_wp2_with (refine wpList_load_row rfl 53 _ rfl b rfl 53 _ (0, 0) _ hW.box Tryz.underlying53 rfl (obInfo _ _) ?_)
            (with_reducible refine (CG.out W hW.ins.1).mono ?_)
            clear CG
            rintro _ W9 ⟨rfl, b9⟩
            have hW9 : Gd w b ⟨2, ⟨#[]⟩, T, ⟨#[]⟩, [], ⟨#[]⟩, ⟨#[]⟩, 0, ⟨#[]⟩⟩ ⟨A, cc, none, 0⟩ (some []) W9 := hW.grow (r := none) (gb_below b9) (fun q e => by cases e) (hW.oe.kept (gb_below (r := none) b9) (by cases hq : Value.ownBlock _ <;> simp)) (hW.op.kept (gb_below (r := none) b9) (by cases hq : Value.ownBlock _ <;> simp))
            clear hW b9 d0 d1
            cases hG : G != 0
            case true =>
              have HX : Hid (R = (Ob.none, G)) := by
                show _ = _
                rw [HF.out, if_pos (by simpa using hG)]
              clear HF
              go_wp2_with (first | (refine wpList_load_row rfl 53 _ rfl (w.heap.size + 1) rfl 53 _ (0, 0) _ hW9.non Tryz.underlying53 rfl (obInfo _ _) ?_) | (refine wpList_store_row rfl 53 _ _ rfl w.heap.size (obArr Ob.none atNil) rfl rfl 53 zeroO hW9.res (obInfo _ _) rfl (obArr_one _ _) ?_))
              refine bodyPost_ret (v := .tuple #[.agg (obArr Ob.none atNil), .int .i64 G]) ?_ rfl (DEnd_eq HX.out (hW9.fail G))
              rw [results_cell_tmp Tryz.results27]
              have hld := run_loadVar_row (P := Tryz.prog) _ _ _ 53 _ _ _ (hW9.res.row (obArr Ob.none atNil)) Tryz.underlying53 rfl (obInfo Ob.none atNil)
              simp [asAddr, hld, Result.andThen]
            have hG2 : G = 0 := by simpa using hG
            subst hG2
            have HX : Hid (R = (⟨2, ⟨#[]⟩, T, ⟨#[]⟩, [], ⟨#[]⟩, ⟨#[]⟩, 0, ⟨#[]⟩⟩, 0)) := by
              show _ = _
              rw [HF.out, if_neg (by simp)]
            clear HF hG
            go_wp2_with (first | (refine wpList_load_row rfl 53 _ rfl b rfl 53 _ (0, 0) _ hW9.box Tryz.underlying53 rfl (obInfo _ _) ?_) | (refine wpList_store_row rfl 53 _ _ rfl w.heap.size (obArr ⟨2, ⟨#[]⟩, T, ⟨#[]⟩, [], ⟨#[]⟩, ⟨#[]⟩, 0, ⟨#[]⟩⟩ ⟨A, cc, none, 0⟩) rfl rfl 53 zeroO hW9.res (obInfo _ _) rfl (obArr_one _ _) ?_))
            refine bodyPost_ret (v := .tuple #[.agg (obArr ⟨2, ⟨#[]⟩, T, ⟨#[]⟩, [], ⟨#[]⟩, ⟨#[]⟩, 0, ⟨#[]⟩⟩ ⟨A, cc, none, 0⟩), .int .i64 0]) ?_ rfl (DEnd_eq HX.out hW9.done)
            rw [results_cell_tmp Tryz.results27]
            have hld := run_loadVar_row (P := Tryz.prog) _ _ _ 53 _ _ _ (hW9.res.row (obArr ⟨2, ⟨#[]⟩, T, ⟨#[]⟩, [], ⟨#[]⟩, ⟨#[]⟩, 0, ⟨#[]⟩⟩ ⟨A, cc, none, 0⟩)) Tryz.underlying53 rfl (obInfo ⟨2, ⟨#[]⟩, T, ⟨#[]⟩, [], ⟨#[]⟩, ⟨#[]⟩, 0, ⟨#[]⟩⟩ ⟨A, cc, none, 0⟩)
            simp [asAddr, hld, Result.andThen]
      · go_upto_region 32 with fail
        clear d1 hi
        refine wp_forget (Gd w b ⟨2, ⟨#[]⟩, T, ⟨#[]⟩, [], ⟨#[]⟩, ⟨#[]⟩, 0, ⟨#[]⟩⟩ ⟨A, cc, none, 0⟩ st) hW ?_
        clear hW
        intro W hW
        obtain ⟨sc, ec, hC, he, he2, hsl⟩ := hW.cur.cells
        have d0 := hC.c0
        have d1 := hC.c1
        cases st with
        | none =>
          rw [Option.isNone_none] at he
          have HX : Hid (R = (Ob.none, 2)) := HF.out
          clear HF he2 hsl hC
          go_wp2_with (first | (refine wpList_load_row rfl 53 _ rfl (w.heap.size + 1) rfl 53 _ (0, 0) _ hW.non Tryz.underlying53 rfl (obInfo _ _) ?_) | (refine wpList_store_row rfl 53 _ _ rfl w.heap.size (obArr Ob.none atNil) rfl rfl 53 zeroO hW.res (obInfo _ _) rfl (obArr_one _ _) ?_))
          refine bodyPost_ret (v := .tuple #[.agg (obArr Ob.none atNil), .int .i64 2]) ?_ rfl (DEnd_eq HX.out (hW.fail 2))
          rw [results_cell_tmp Tryz.results27]
          have hld := run_loadVar_row (P := Tryz.prog) _ _ _ 53 _ _ _ (hW.res.row (obArr Ob.none atNil)) Tryz.underlying53 rfl (obInfo Ob.none atNil)
          simp [asAddr, hld, Result.andThen]
        | some rest =>
          obtain ⟨rfl, rfl⟩ := hsl rest rfl
          clear he he2 hsl hC
          by_cases hrest : 0 < rest.length
          · have HX : Hid (R = (Ob.none, 2)) := by
              show _ = _
              rw [HF.out]
              exact fin_rest hrest
            have hne : (bs rest).toList.isEmpty = false := by
              rw [ByteArray.toList_eq, bs_list]
              cases rest with
              | nil => simp at hrest
              | cons => rfl
            clear HF
            go_wp2_with (first | (refine wpList_load_row rfl 53 _ rfl (w.heap.size + 1) rfl 53 _ (0, 0) _ hW.non Tryz.underlying53 rfl (obInfo _ _) ?_) | (refine wpList_store_row rfl 53 _ _ rfl w.heap.size (obArr Ob.none atNil) rfl rfl 53 zeroO hW.res (obInfo _ _) rfl (obArr_one _ _) ?_))
            refine bodyPost_ret (v := .tuple #[.agg (obArr Ob.none atNil), .int .i64 2]) ?_ rfl (DEnd_eq HX.out (hW.fail 2))
            rw [results_cell_tmp Tryz.results27]
            have hld := run_loadVar_row (P := Tryz.prog) _ _ _ 53 _ _ _ (hW.res.row (obArr Ob.none atNil)) Tryz.underlying53 rfl (obInfo Ob.none atNil)
            simp [asAddr, hld, Result.andThen]
          · obtain rfl : rest = [] := List.eq_nil_of_length_eq_zero (by omega)
            have hne : (bs []).toList = [] := by rw [ByteArray.toList_eq, bs_list]
            have hF : R = if good ⟨2, ⟨#[]⟩, T, ⟨#[]⟩, [], ⟨#[]⟩, ⟨#[]⟩, 0, ⟨#[]⟩⟩ ≠ 0 then (Ob.none, good ⟨2, ⟨#[]⟩, T, ⟨#[]⟩, [], ⟨#[]⟩, ⟨#[]⟩, 0, ⟨#[]⟩⟩) else (⟨2, ⟨#[]⟩, T, ⟨#[]⟩, [], ⟨#[]⟩, ⟨#[]⟩, 0, ⟨#[]⟩⟩, 0) := HF.out
            have CG := Lib.hid (fun Wq h => GoodObject_any ⟨2, ⟨#[]⟩, T, ⟨#[]⟩, [], ⟨#[]⟩, ⟨#[]⟩, 0, ⟨#[]⟩⟩ ⟨A, cc, none, 0⟩ Wq h (fun e he => Nat.le_trans (HN.out e he) (by decide)))
            generalize hgo : good ⟨2, ⟨#[]⟩, T, ⟨#[]⟩, [], ⟨#[]⟩, ⟨#[]⟩, 0, ⟨#[]⟩⟩ = G at *
            clear hgo hrest HF
            have HF := Lib.hid hF
            clear hF
            go_wp2_with (refine wpList_load_row rfl 53 _ rfl b rfl 53 _ (0, 0) _ hW.box Tryz.underlying53 rfl (obInfo _ _) ?_)
            (with_reducible refine (CG.out W hW.ins.1).mono ?_)
            clear CG
            rintro _ W9 ⟨rfl, b9⟩
            have hW9 : Gd w b ⟨2, ⟨#[]⟩, T, ⟨#[]⟩, [], ⟨#[]⟩, ⟨#[]⟩, 0, ⟨#[]⟩⟩ ⟨A, cc, none, 0⟩ (some []) W9 := hW.grow (r := none) (gb_below b9) (fun q e => by cases e) (hW.oe.kept (gb_below (r := none) b9) (by cases hq : Value.ownBlock _ <;> simp)) (hW.op.kept (gb_below (r := none) b9) (by cases hq : Value.ownBlock _ <;> simp))
            clear hW b9 d0 d1
            cases hG : G != 0
            case true =>
              have HX : Hid (R = (Ob.none, G)) := by
                show _ = _
                rw [HF.out, if_pos (by simpa using hG)]
              clear HF
              go_wp2_with (first | (refine wpList_load_row rfl 53 _ rfl (w.heap.size + 1) rfl 53 _ (0, 0) _ hW9.non Tryz.underlying53 rfl (obInfo _ _) ?_) | (refine wpList_store_row rfl 53 _ _ rfl w.heap.size (obArr Ob.none atNil) rfl rfl 53 zeroO hW9.res (obInfo _ _) rfl (obArr_one _ _) ?_))
              refine bodyPost_ret (v := .tuple #[.agg (obArr Ob.none atNil), .int .i64 G]) ?_ rfl (DEnd_eq HX.out (hW9.fail G))
              rw [results_cell_tmp Tryz.results27]
              have hld := run_loadVar_row (P := Tryz.prog) _ _ _ 53 _ _ _ (hW9.res.row (obArr Ob.none atNil)) Tryz.underlying53 rfl (obInfo Ob.none atNil)
              simp [asAddr, hld, Result.andThen]
            have hG2 : G = 0 := by simpa using hG
            subst hG2
            have HX : Hid (R = (⟨2, ⟨#[]⟩, T, ⟨#[]⟩, [], ⟨#[]⟩, ⟨#[]⟩, 0, ⟨#[]⟩⟩, 0)) := by
              show _ = _
              rw [HF.out, if_neg (by simp)]
            clear HF hG
            go_wp2_with (first | (refine wpList_load_row rfl 53 _ rfl b rfl 53 _ (0, 0) _ hW9.box Tryz.underlying53 rfl (obInfo _ _) ?_) | (refine wpList_store_row rfl 53 _ _ rfl w.heap.size (obArr ⟨2, ⟨#[]⟩, T, ⟨#[]⟩, [], ⟨#[]⟩, ⟨#[]⟩, 0, ⟨#[]⟩⟩ ⟨A, cc, none, 0⟩) rfl rfl 53 zeroO hW9.res (obInfo _ _) rfl (obArr_one _ _) ?_))
            refine bodyPost_ret (v := .tuple #[.agg (obArr ⟨2, ⟨#[]⟩, T, ⟨#[]⟩, [], ⟨#[]⟩, ⟨#[]⟩, 0, ⟨#[]⟩⟩ ⟨A, cc, none, 0⟩), .int .i64 0]) ?_ rfl (DEnd_eq HX.out hW9.done)
            rw [results_cell_tmp Tryz.results27]
            have hld := run_loadVar_row (P := Tryz.prog) _ _ _ 53 _ _ _ (hW9.res.row (obArr ⟨2, ⟨#[]⟩, T, ⟨#[]⟩, [], ⟨#[]⟩, ⟨#[]⟩, 0, ⟨#[]⟩⟩ ⟨A, cc, none, 0⟩)) Tryz.underlying53 rfl (obInfo ⟨2, ⟨#[]⟩, T, ⟨#[]⟩, [], ⟨#[]⟩, ⟨#[]⟩, 0, ⟨#[]⟩⟩ ⟨A, cc, none, 0⟩)
            simp [asAddr, hld, Result.andThen]
end Go.Proofs.YtmikfmcgddmplaaGreatDoor

/- ref.Decode of kind 3. -/
namespace Go.Proofs.YtmikfmcgddmplaaGreatDoor
open Go.RowKit


set_option maxRecDepth 100000 in
set_option maxHeartbeats 8000000 in
theorem RefDecode_3 (s : ByteArray) (r : List UInt8) (hlong : ¬ 8192 < s.data.toList.length) (hnum : rdNum s.data.toList = some (3, r)) (w : World) : Calls Tryz.prog 27 #[.string s] w (DEnd w (decO s.data.toList).1 (decO s.data.toList).2) := by
  obtain ⟨si, hsi, sz0, sz1, sz2⟩ := info_parts info_str
  obtain ⟨ei, hei, ez0, ez1, ez2⟩ := info_parts info_ent
  have Hsi := Lib.hid hsi
  have Sz0 := Lib.hid sz0
  have Sz1 := Lib.hid sz1
  have Sz2 := Lib.hid sz2
  have Hei := Lib.hid hei
  have Ez0 := Lib.hid ez0
  have Ez1 := Lib.hid ez1
  have Ez2 := Lib.hid ez2
  clear hsi sz0 sz1 sz2 hei ez0 ez1 ez2
  obtain ⟨R, hR⟩ : ∃ R, R = decO s.data.toList := ⟨_, rfl⟩
  rw [← hR]
  have HR := Lib.hid hR
  clear hR
  go_enter Tryz.func27, Tryz.ntmps27
  go_upto_region 2 with (refine wpList_store_row rfl 53 _ _ rfl (w.heap.size + 1) (obArr Ob.none atNil) rfl rfl 53 zeroO (Arr.new_at (w.alloc _) _ _ (by simp)) (obInfo _ _) rfl (obArr_one _ _) ?_)
  refine wp_forget (H0 w) (h0_start w) ?_
  intro W hW0
  have hlen : s.data.toList.length = s.size := rfl
  have hi : ¬ (8192 : Int) < s.size := by omega
  have hHd := Lib.hid (hd_start hW0 s.data.toList hlong)
  rw [bs_of] at hHd
  have hsz := hW0.2.2.1
  go_upto_region 5 with fail
  refine wp_forget (Hd w (some s.data.toList)) (by exact hHd.out) ?_
  clear hHd hW0 hsz W hi hlen
  generalize s.data.toList = l at *
  intro W hW
  have q1 := fun Wq h => cs_num (w.heap.size + 2) (some l) Wq h
  have hn62 := stNum_lt (some l)
  have hst : ∃ n1 s1, stNum (some l) = (n1, s1) := ⟨_, _, rfl⟩
  obtain ⟨n, s1, hst⟩ := hst
  rw [hst] at q1 hn62
  have Q1 := Lib.hid q1
  have HST := Lib.hid hst
  clear q1 hst
  simp only at hn62
  go_wp2_with fail
  (with_reducible refine (Q1.out W hW.cur).mono ?_)
  rintro _ W2 ⟨rfl, h2, k2⟩
  have hW2 := hW.read h2 k2
  clear hW h2 k2 Q1
  go_upto_region 7 with (refine wpList_store_row rfl 53 _ _ rfl W2.heap.size (obArr (kOb (n : Int)) atNil) rfl rfl 53 zeroO (Arr.new W2 _ _) (obInfo _ _) rfl (obArr_one _ _) ?_)
  refine wp_forget (Gd w W2.heap.size (kOb (n : Int)) atNil s1) (gd_start hW2 (n : Int)) ?_
  clear hW2
  generalize W2.heap.size = b at *
  clear W W2
  intro W hW
  obtain ⟨sc, ec, hC, he, he2, hsl⟩ := hW.cur.cells
  have d1 := hC.c1
  obtain ⟨rfl, rfl⟩ : n = 3 ∧ s1 = some r := by
    have h := HST.out
    simp [stNum, hnum] at h
    exact ⟨h.1.symm, h.2.symm⟩
  obtain ⟨_, rfl⟩ := hsl r rfl
  clear he he2 hsl hC HST
  have q1 := fun Wq h => cs_id (w.heap.size + 2) (some r) Wq h
  have hf : rdFields ((3 : Nat) : Int) r = match (stTxt (stNum (stTxt (stPars (stId (some r)).2).2).2).2).2 with | none => none | some rest => some (⟨3, ⟨#[]⟩, [], (stId (some r)).1, (stPars (stId (some r)).2).1, (stTxt (stPars (stId (some r)).2).2).1, (stTxt (stNum (stTxt (stPars (stId (some r)).2).2).2).2).1, ((stNum (stTxt (stPars (stId (some r)).2).2).2).1 : Int), ⟨#[]⟩⟩, rest) := by unfold rdFields; rw [if_neg (by decide), if_neg (by decide), if_pos (by decide)]; cases (stTxt (stNum (stTxt (stPars (stId (some r)).2).2).2).2).2 <;> rfl
  have HF0 : Hid (R = fin ⟨3, ⟨#[]⟩, [], (stId (some r)).1, (stPars (stId (some r)).2).1, (stTxt (stPars (stId (some r)).2).2).1, (stTxt (stNum (stTxt (stPars (stId (some r)).2).2).2).2).1, ((stNum (stTxt (stPars (stId (some r)).2).2).2).1 : Int), ⟨#[]⟩⟩ (stTxt (stNum (stTxt (stPars (stId (some r)).2).2).2).2).2) := by show _ = _; rw [HR.out]; exact dec_fin hlong hnum rfl hf
  clear hf HR
  generalize (stId (some r)).1 = t1 at *
  generalize (stId (some r)).2 = s1 at *
  have q2 := fun Wq h => cs_num (w.heap.size + 2) s1 Wq h
  have hn2 := stNum_lt s1
  have hp0 := stPars_res s1
  have hst0 := pres_start s1
  generalize parsRes s1 = res at *
  generalize (stNum s1).1 = n2 at *
  generalize (stNum s1).2 = s2 at *
  have HST := Lib.hid hst0
  have HP0 := Lib.hid hp0
  have Q1 := Lib.hid q1
  have Q2 := Lib.hid q2
  clear q1 q2 hst0 hp0
  have c0 : W.cell? ⟨b, 0, none⟩ = some (.int .i64 3) := hW.box.cell 0
  go_wp2_with fail
  (with_reducible refine (Q1.out W hW.cur).mono ?_)
  rintro _ W2 ⟨rfl, h2, k2⟩
  have hW2 := hW.read h2 k2
  clear hW h2 k2 Q1 c0 d1
  have c3 : W2.cell? ⟨b, 3, none⟩ = some (.string ⟨#[]⟩) := hW2.box.cell 3
  have f3 := hW2.box.free 3
  go_upto_region 26 with fail
  refine wp_forget (Gd w b ⟨3, ⟨#[]⟩, [], t1, [], ⟨#[]⟩, ⟨#[]⟩, 0, ⟨#[]⟩⟩ atNil s1) (by exact hW2.put 3 (.string t1) rfl rfl rfl) ?_
  clear hW2 c3 f3
  clear W W2
  intro W hW
  go_wp2_with fail
  (with_reducible refine (Q2.out W hW.cur).mono ?_)
  rintro _ W2 ⟨rfl, h2, k2⟩
  have hW2 := hW.read h2 k2
  clear hW h2 k2 Q2
  go_wp2_with fail
  go_loopw [12] (fun i wr => RdPRel n2 res t1 w b i wr) (fun i _ => n2 - (intOf i).toNat)
  case atStart =>
    refine ⟨[], none, 0, s2, Nat.zero_le _, rfl, hW2, ?_⟩
    rcases HST.out with h | ⟨l, e, h⟩
    · exact h
    · have hc := hW2.cur
      rw [e] at hc
      exact absurd hc.2 (by omega)
  case round =>
    clear hW2 W W2 HST
    obtain ⟨T, A, cc, st, hk, rfl, hW, hE⟩ := hrel
    have hlenT := pres_len hE
    have HE := Lib.hid hE
    clear hE
    obtain ⟨sc, ec, hC, he, he2, hsl⟩ := hW.cur.cells
    have d1 := hC.c1
    have hgo : (T.length < n2 ∧ ∃ lc, st = some lc) ∨ ¬ (T.length < n2 ∧ ∃ lc, st = some lc) := Classical.em _
    rcases hgo with ⟨hlt, lc, rfl⟩ | hno
    · have hi : (T.length : Int) < n2 := by omega
      rw [Option.isNone_some, Bool.not_false] at he2
      have HM := Lib.hid (pres_more HE.out hlt)
      have q3 := fun Wq h => cs_id (w.heap.size + 2) (some lc) Wq h
      generalize (stId (some lc)).1 = id at *
      generalize (stId (some lc)).2 = s3 at *
      have Q3 := Lib.hid q3
      clear q3 he hsl HE hC HP0 HF0
      have c4 : wr.cell? ⟨b, 4, none⟩ = some (.slice A T.length cc) := hW.box.cell 4
      have hWd := hW.drew
      go_upto_region 30 with fail
      go_region_law (first
        | (refine step_append_lies _ rfl _ _ 22 rfl (b + 1) 9 si _ 1 16 Tryz.underlying22 Hsi.out Sz0.out Sz1.out Sz2.out rfl (by decide) _ _ _ rfl (hW3.op.alloc _) ⟨W3.heap.size, 0, none⟩ 1 1 [.string id] rfl rfl (new_cells W3 [.string id] 9) (one_str2 id) (by decide) (by simp only; unfold maxLen; omega) (by simp only; omega) (by simp; omega) _ rfl ?_
           intro g5 cap5 w5 hown hgrow hat hg5
           have hge : ∀ q, (Value.slice A T.length cc).ownBlock = some q → b < q := fun q e1 => own_row_ge hW3.op q e1
           have hb5 := (hW3.alloc (.cells #[.string id] 9)).box.kept hgrow (fun e1 => by have := hge b e1.symm; omega)
           have e4 : w5.cell? ⟨b, 4, none⟩ = some (.slice A T.length cc) := hb5.cell 4
           have f4 := hb5.free 4)
        | (go_simp
           go_at_call 50
           (with_reducible refine (Q3.out _ hWd.cur).mono ?_)
           rintro _ W3 ⟨rfl, h2, k2⟩
           have hW3 := hWd.read h2 k2
           have e4 : W3.cell? ⟨b, 4, none⟩ = some (.slice A T.length cc) := hW3.box.cell 4
           have hlt3 := hW3.box.lt))
      all_goals
        have hfin := Gd.app (o' := ⟨3, ⟨#[]⟩, [], t1, T ++ [id], ⟨#[]⟩, ⟨#[]⟩, 0, ⟨#[]⟩⟩) (p' := ⟨none, 0, some ⟨g5, 0, none⟩, cap5⟩) (hW3.alloc (.cells #[.string id] 9)) hgrow hge 4 (.slice (some ⟨g5, 0, none⟩) (T ++ [id]).length cap5) rfl (own_nil _ _ _ _) (by simp only [List.length_append, List.map_append]; exact hown)
        have HFin := Lib.hid hfin
        clear hfin hown hgrow hat hb5 hW3 hWd hW h2 k2 c4
        go_wp2_with fail
        refine ⟨⟨T ++ [id], some ⟨g5, 0, none⟩, cap5, s3, by rw [List.length_append]; simp; omega, by rw [List.length_append]; simp, ?_, HM.out⟩, by simp [intOf]; omega⟩
        have hx := HFin.out
        rw [List.length_append] at hx
        exact hx
    · have hPX : Hid (stPars s1 = (T, st) ∨ (st = none ∧ (stPars s1).2 = none)) := by
        cases st with
        | none =>
          right
          rw [HP0.out, HE.out.1]
          exact ⟨rfl, rfl⟩
        | some lc =>
          left
          have hno2 : ¬ T.length < n2 := fun h => hno ⟨h, lc, rfl⟩
          rw [HP0.out, parsR_done HE.out.2 hno2]
      have HF1 : Hid (R = fin ⟨3, ⟨#[]⟩, [], t1, T, (stTxt st).1, (stTxt (stNum (stTxt st).2).2).1, ((stNum (stTxt st).2).1 : Int), ⟨#[]⟩⟩ (stTxt (stNum (stTxt st).2).2).2) := by
        show _ = _
        rcases hPX.out with e | ⟨rfl, e⟩
        · have := HF0.out
          rw [e] at this
          exact this
        · rw [HF0.out, e]
          rfl
      have q3 := fun Wq h => cs_txt (w.heap.size + 2) st Wq h
      have q4 := fun Wq h => cs_num (w.heap.size + 2) (stTxt st).2 Wq h
      have q5 := fun Wq h => cs_txt (w.heap.size + 2) (stNum (stTxt st).2).2 Wq h
      clear HF0 hPX HP0 HE
      generalize (stTxt (stNum (stTxt st).2).2).1 = t5 at *
      generalize (stTxt (stNum (stTxt st).2).2).2 = s5 at *
      generalize (stNum (stTxt st).2).1 = n4 at *
      generalize (stNum (stTxt st).2).2 = s4 at *
      generalize (stTxt st).1 = t3 at *
      generalize (stTxt st).2 = s3 at *
      have Q3 := Lib.hid q3
      have Q4 := Lib.hid q4
      have Q5 := Lib.hid q5
      clear q3 q4 q5 hsl hC
      have hcases : ((T.length : Int) < n2 ∧ (ec == 0) = false) ∨ ¬ (T.length : Int) < n2 := by
        by_cases h : T.length < n2
        · refine .inl ⟨by omega, ?_⟩
          cases st with
          | none => exact he2
          | some lc => exact absurd ⟨h, lc, rfl⟩ hno
        · exact .inr (by omega)
      clear hno he he2
      rcases hcases with ⟨hi, hec⟩ | hi
      · have HF := HF1
        clear HF1
        go_wp2_with fail
        clear d1
        (with_reducible refine (Q3.out wr hW.cur).mono ?_)
        rintro _ W2 ⟨rfl, h2, k2⟩
        have hW2 := hW.read h2 k2
        clear hW h2 k2 Q3
        go_wp2_with fail
        (with_reducible refine (Q4.out W2 hW2.cur).mono ?_)
        rintro _ W3 ⟨rfl, h2, k2⟩
        have hW3 := hW2.read h2 k2
        clear hW2 h2 k2 Q4
        go_wp2_with fail
        (with_reducible refine (Q5.out W3 hW3.cur).mono ?_)
        rintro _ W4 ⟨rfl, h2, k2⟩
        have hW4 := hW3.read h2 k2
        clear hW3 h2 k2 Q5
        have c5 : W4.cell? ⟨b, 5, none⟩ = some (.string ⟨#[]⟩) := hW4.box.cell 5
        have c7 : W4.cell? ⟨b, 7, none⟩ = some (.int .i64 0) := hW4.box.cell 7
        have c6 : W4.cell? ⟨b, 6, none⟩ = some (.string ⟨#[]⟩) := hW4.box.cell 6
        have f5 := hW4.box.free 5
        have f7 := hW4.box.free 7
        have f6 := hW4.box.free 6
        go_upto_region 32 with fail
        refine wp_forget (Gd w b ⟨3, ⟨#[]⟩, [], t1, T, t3, t5, (n4 : Int), ⟨#[]⟩⟩ ⟨none, 0, A, cc⟩ s5) (by exact ((hW4.put (o' := ⟨3, ⟨#[]⟩, [], t1, T, t3, ⟨#[]⟩, 0, ⟨#[]⟩⟩) 5 (.string t3) rfl rfl rfl).put (o' := ⟨3, ⟨#[]⟩, [], t1, T, t3, ⟨#[]⟩, (n4 : Int), ⟨#[]⟩⟩) 7 (.int .i64 (n4 : Int)) rfl rfl rfl).put 6 (.string t5) rfl rfl rfl) ?_
        clear hW4 c5 c7 c6 f5 f7 f6
        intro W hW
        clear st
        obtain ⟨sc, ec, hC, he, he2, hsl⟩ := hW.cur.cells
        have d0 := hC.c0
        have d1 := hC.c1
        cases s5 with
        | none =>
          rw [Option.isNone_none] at he
          have HX : Hid (R = (Ob.none, 2)) := HF.out
          clear HF he2 hsl hC
          go_wp2_with (first | (refine wpList_load_row rfl 53 _ rfl (w.heap.size + 1) rfl 53 _ (0, 0) _ hW.non Tryz.underlying53 rfl (obInfo _ _) ?_) | (refine wpList_store_row rfl 53 _ _ rfl w.heap.size (obArr Ob.none atNil) rfl rfl 53 zeroO hW.res (obInfo _ _) rfl (obArr_one _ _) ?_))
          refine bodyPost_ret (v := .tuple #[.agg (obArr Ob.none atNil), .int .i64 2]) ?_ rfl (DEnd_eq HX.out (hW.fail 2))
          rw [results_cell_tmp Tryz.results27]
          have hld := run_loadVar_row (P := Tryz.prog) _ _ _ 53 _ _ _ (hW.res.row (obArr Ob.none atNil)) Tryz.underlying53 rfl (obInfo Ob.none atNil)
          simp [asAddr, hld, Result.andThen]
        | some rest =>
          obtain ⟨rfl, rfl⟩ := hsl rest rfl
          clear he he2 hsl hC
          by_cases hrest : 0 < rest.length
          · have HX : Hid (R = (Ob.none, 2)) := by
              show _ = _
              rw [HF.out]
              exact fin_rest hrest
            have hne : (bs rest).toList.isEmpty = false := by
              rw [ByteArray.toList_eq, bs_list]
              cases rest with
              | nil => simp at hrest
              | cons => rfl
            clear HF
            go_wp2_with (first | (refine wpList_load_row rfl 53 _ rfl (w.heap.size + 1) rfl 53 _ (0, 0) _ hW.non Tryz.underlying53 rfl (obInfo _ _) ?_) | (refine wpList_store_row rfl 53 _ _ rfl w.heap.size (obArr Ob.none atNil) rfl rfl 53 zeroO hW.res (obInfo _ _) rfl (obArr_one _ _) ?_))
            refine bodyPost_ret (v := .tuple #[.agg (obArr Ob.none atNil), .int .i64 2]) ?_ rfl (DEnd_eq HX.out (hW.fail 2))
            rw [results_cell_tmp Tryz.results27]
            have hld := run_loadVar_row (P := Tryz.prog) _ _ _ 53 _ _ _ (hW.res.row (obArr Ob.none atNil)) Tryz.underlying53 rfl (obInfo Ob.none atNil)
            simp [asAddr, hld, Result.andThen]
          · obtain rfl : rest = [] := List.eq_nil_of_length_eq_zero (by omega)
            have hne : (bs []).toList = [] := by rw [ByteArray.toList_eq, bs_list]
            have hF : R = if good ⟨3, ⟨#[]⟩, [], t1, T, t3, t5, (n4 : Int), ⟨#[]⟩⟩ ≠ 0 then (Ob.none, good ⟨3, ⟨#[]⟩, [], t1, T, t3, t5, (n4 : Int), ⟨#[]⟩⟩) else (⟨3, ⟨#[]⟩, [], t1, T, t3, t5, (n4 : Int), ⟨#[]⟩⟩, 0) := HF.out
            have CG := Lib.hid (fun Wq h => GoodObject_any ⟨3, ⟨#[]⟩, [], t1, T, t3, t5, (n4 : Int), ⟨#[]⟩⟩ ⟨none, 0, A, cc⟩ Wq h (fun e he => by simp at he))
            generalize hgo : good ⟨3, ⟨#[]⟩, [], t1, T, t3, t5, (n4 : Int), ⟨#[]⟩⟩ = G at *
            clear hgo hrest HF
            have HF := Lib.hid hF
            clear hF
            go_wp2_with (refine wpList_load_row rfl 53 _ rfl b rfl 53 _ (0, 0) _ hW.box Tryz.underlying53 rfl (obInfo _ _) ?_)
            (with_reducible refine (CG.out W hW.ins.1).mono ?_)
            clear CG
            rintro _ W9 ⟨rfl, b9⟩
            have hW9 : Gd w b ⟨3, ⟨#[]⟩, [], t1, T, t3, t5, (n4 : Int), ⟨#[]⟩⟩ ⟨none, 0, A, cc⟩ (some []) W9 := hW.grow (r := none) (gb_below b9) (fun q e => by cases e) (hW.oe.kept (gb_below (r := none) b9) (by cases hq : Value.ownBlock _ <;> simp)) (hW.op.kept (gb_below (r := none) b9) (by cases hq : Value.ownBlock _ <;> simp))
            clear hW b9 d0 d1
            cases hG : G != 0
            case true =>
              have HX : Hid (R = (Ob.none, G)) := by
                show _ = _
                rw [HF.out, if_pos (by simpa using hG)]
              clear HF
              go_wp2_with (first | (refine wpList_load_row rfl 53 _ rfl (w.heap.size + 1) rfl 53 _ (0, 0) _ hW9.non Tryz.underlying53 rfl (obInfo _ _) ?_) | (refine wpList_store_row rfl 53 _ _ rfl w.heap.size (obArr Ob.none atNil) rfl rfl 53 zeroO hW9.res (obInfo _ _) rfl (obArr_one _ _) ?_))
              refine bodyPost_ret (v := .tuple #[.agg (obArr Ob.none atNil), .int .i64 G]) ?_ rfl (DEnd_eq HX.out (hW9.fail G))
              rw [results_cell_tmp Tryz.results27]
              have hld := run_loadVar_row (P := Tryz.prog) _ _ _ 53 _ _ _ (hW9.res.row (obArr Ob.none atNil)) Tryz.underlying53 rfl (obInfo Ob.none atNil)
              simp [asAddr, hld, Result.andThen]
            have hG2 : G = 0 := by simpa using hG
            subst hG2
            have HX : Hid (R = (⟨3, ⟨#[]⟩, [], t1, T, t3, t5, (n4 : Int), ⟨#[]⟩⟩, 0)) := by
              show _ = _
              rw [HF.out, if_neg (by simp)]
            clear HF hG
            go_wp2_with (first | (refine wpList_load_row rfl 53 _ rfl b rfl 53 _ (0, 0) _ hW9.box Tryz.underlying53 rfl (obInfo _ _) ?_) | (refine wpList_store_row rfl 53 _ _ rfl w.heap.size (obArr ⟨3, ⟨#[]⟩, [], t1, T, t3, t5, (n4 : Int), ⟨#[]⟩⟩ ⟨none, 0, A, cc⟩) rfl rfl 53 zeroO hW9.res (obInfo _ _) rfl (obArr_one _ _) ?_))
            refine bodyPost_ret (v := .tuple #[.agg (obArr ⟨3, ⟨#[]⟩, [], t1, T, t3, t5, (n4 : Int), ⟨#[]⟩⟩ ⟨none, 0, A, cc⟩), .int .i64 0]) ?_ rfl (DEnd_eq HX.out hW9.done)
            rw [results_cell_tmp Tryz.results27]
            have hld := run_loadVar_row (P := Tryz.prog) _ _ _ 53 _ _ _ (hW9.res.row (obArr ⟨3, ⟨#[]⟩, [], t1, T, t3, t5, (n4 : Int), ⟨#[]⟩⟩ ⟨none, 0, A, cc⟩)) Tryz.underlying53 rfl (obInfo ⟨3, ⟨#[]⟩, [], t1, T, t3, t5, (n4 : Int), ⟨#[]⟩⟩ ⟨none, 0, A, cc⟩)
            simp [asAddr, hld, Result.andThen]
      · have HF := HF1
        clear HF1
        go_wp2_with fail
        clear d1
        (with_reducible refine (Q3.out wr hW.cur).mono ?_)
        rintro _ W2 ⟨rfl, h2, k2⟩
        have hW2 := hW.read h2 k2
        clear hW h2 k2 Q3
        go_wp2_with fail
        (with_reducible refine (Q4.out W2 hW2.cur).mono ?_)
        rintro _ W3 ⟨rfl, h2, k2⟩
        have hW3 := hW2.read h2 k2
        clear hW2 h2 k2 Q4
        go_wp2_with fail
        (with_reducible refine (Q5.out W3 hW3.cur).mono ?_)
        rintro _ W4 ⟨rfl, h2, k2⟩
        have hW4 := hW3.read h2 k2
        clear hW3 h2 k2 Q5
        have c5 : W4.cell? ⟨b, 5, none⟩ = some (.string ⟨#[]⟩) := hW4.box.cell 5
        have c7 : W4.cell? ⟨b, 7, none⟩ = some (.int .i64 0) := hW4.box.cell 7
        have c6 : W4.cell? ⟨b, 6, none⟩ = some (.string ⟨#[]⟩) := hW4.box.cell 6
        have f5 := hW4.box.free 5
        have f7 := hW4.box.free 7
        have f6 := hW4.box.free 6
        go_upto_region 32 with fail
        refine wp_forget (Gd w b ⟨3, ⟨#[]⟩, [], t1, T, t3, t5, (n4 : Int), ⟨#[]⟩⟩ ⟨none, 0, A, cc⟩ s5) (by exact ((hW4.put (o' := ⟨3, ⟨#[]⟩, [], t1, T, t3, ⟨#[]⟩, 0, ⟨#[]⟩⟩) 5 (.string t3) rfl rfl rfl).put (o' := ⟨3, ⟨#[]⟩, [], t1, T, t3, ⟨#[]⟩, (n4 : Int), ⟨#[]⟩⟩) 7 (.int .i64 (n4 : Int)) rfl rfl rfl).put 6 (.string t5) rfl rfl rfl) ?_
        clear hW4 c5 c7 c6 f5 f7 f6
        intro W hW
        clear st
        obtain ⟨sc, ec, hC, he, he2, hsl⟩ := hW.cur.cells
        have d0 := hC.c0
        have d1 := hC.c1
        cases s5 with
        | none =>
          rw [Option.isNone_none] at he
          have HX : Hid (R = (Ob.none, 2)) := HF.out
          clear HF he2 hsl hC
          go_wp2_with (first | (refine wpList_load_row rfl 53 _ rfl (w.heap.size + 1) rfl 53 _ (0, 0) _ hW.non Tryz.underlying53 rfl (obInfo _ _) ?_) | (refine wpList_store_row rfl 53 _ _ rfl w.heap.size (obArr Ob.none atNil) rfl rfl 53 zeroO hW.res (obInfo _ _) rfl (obArr_one _ _) ?_))
          refine bodyPost_ret (v := .tuple #[.agg (obArr Ob.none atNil), .int .i64 2]) ?_ rfl (DEnd_eq HX.out (hW.fail 2))
          rw [results_cell_tmp Tryz.results27]
          have hld := run_loadVar_row (P := Tryz.prog) _ _ _ 53 _ _ _ (hW.res.row (obArr Ob.none atNil)) Tryz.underlying53 rfl (obInfo Ob.none atNil)
          simp [asAddr, hld, Result.andThen]
        | some rest =>
          obtain ⟨rfl, rfl⟩ := hsl rest rfl
          clear he he2 hsl hC
          by_cases hrest : 0 < rest.length
          · have HX : Hid (R = (Ob.none, 2)) := by
              show _ = _
              rw [HF.out]
              exact fin_rest hrest
            have hne : (bs rest).toList.isEmpty = false := by
              rw [ByteArray.toList_eq, bs_list]
              cases rest with
              | nil => simp at hrest
              | cons => rfl
            clear HF
            go_wp2_with (first | (refine wpList_load_row rfl 53 _ rfl (w.heap.size + 1) rfl 53 _ (0, 0) _ hW.non Tryz.underlying53 rfl (obInfo _ _) ?_) | (refine wpList_store_row rfl 53 _ _ rfl w.heap.size (obArr Ob.none atNil) rfl rfl 53 zeroO hW.res (obInfo _ _) rfl (obArr_one _ _) ?_))
            refine bodyPost_ret (v := .tuple #[.agg (obArr Ob.none atNil), .int .i64 2]) ?_ rfl (DEnd_eq HX.out (hW.fail 2))
            rw [results_cell_tmp Tryz.results27]
            have hld := run_loadVar_row (P := Tryz.prog) _ _ _ 53 _ _ _ (hW.res.row (obArr Ob.none atNil)) Tryz.underlying53 rfl (obInfo Ob.none atNil)
            simp [asAddr, hld, Result.andThen]
          · obtain rfl : rest = [] := List.eq_nil_of_length_eq_zero (by omega)
            have hne : (bs []).toList = [] := by rw [ByteArray.toList_eq, bs_list]
            have hF : R = if good ⟨3, ⟨#[]⟩, [], t1, T, t3, t5, (n4 : Int), ⟨#[]⟩⟩ ≠ 0 then (Ob.none, good ⟨3, ⟨#[]⟩, [], t1, T, t3, t5, (n4 : Int), ⟨#[]⟩⟩) else (⟨3, ⟨#[]⟩, [], t1, T, t3, t5, (n4 : Int), ⟨#[]⟩⟩, 0) := HF.out
            have CG := Lib.hid (fun Wq h => GoodObject_any ⟨3, ⟨#[]⟩, [], t1, T, t3, t5, (n4 : Int), ⟨#[]⟩⟩ ⟨none, 0, A, cc⟩ Wq h (fun e he => by simp at he))
            generalize hgo : good ⟨3, ⟨#[]⟩, [], t1, T, t3, t5, (n4 : Int), ⟨#[]⟩⟩ = G at *
            clear hgo hrest HF
            have HF := Lib.hid hF
            clear hF
            go_wp2_with (refine wpList_load_row rfl 53 _ rfl b rfl 53 _ (0, 0) _ hW.box Tryz.underlying53 rfl (obInfo _ _) ?_)
            (with_reducible refine (CG.out W hW.ins.1).mono ?_)
            clear CG
            rintro _ W9 ⟨rfl, b9⟩
            have hW9 : Gd w b ⟨3, ⟨#[]⟩, [], t1, T, t3, t5, (n4 : Int), ⟨#[]⟩⟩ ⟨none, 0, A, cc⟩ (some []) W9 := hW.grow (r := none) (gb_below b9) (fun q e => by cases e) (hW.oe.kept (gb_below (r := none) b9) (by cases hq : Value.ownBlock _ <;> simp)) (hW.op.kept (gb_below (r := none) b9) (by cases hq : Value.ownBlock _ <;> simp))
            clear hW b9 d0 d1
            cases hG : G != 0
            case true =>
              have HX : Hid (R = (Ob.none, G)) := by
                show _ = _
                rw [HF.out, if_pos (by simpa using hG)]
              clear HF
              go_wp2_with (first | (refine wpList_load_row rfl 53 _ rfl (w.heap.size + 1) rfl 53 _ (0, 0) _ hW9.non Tryz.underlying53 rfl (obInfo _ _) ?_) | (refine wpList_store_row rfl 53 _ _ rfl w.heap.size (obArr Ob.none atNil) rfl rfl 53 zeroO hW9.res (obInfo _ _) rfl (obArr_one _ _) ?_))
              refine bodyPost_ret (v := .tuple #[.agg (obArr Ob.none atNil), .int .i64 G]) ?_ rfl (DEnd_eq HX.out (hW9.fail G))
              rw [results_cell_tmp Tryz.results27]
              have hld := run_loadVar_row (P := Tryz.prog) _ _ _ 53 _ _ _ (hW9.res.row (obArr Ob.none atNil)) Tryz.underlying53 rfl (obInfo Ob.none atNil)
              simp [asAddr, hld, Result.andThen]
            have hG2 : G = 0 := by simpa using hG
            subst hG2
            have HX : Hid (R = (⟨3, ⟨#[]⟩, [], t1, T, t3, t5, (n4 : Int), ⟨#[]⟩⟩, 0)) := by
              show _ = _
              rw [HF.out, if_neg (by simp)]
            clear HF hG
            go_wp2_with (first | (refine wpList_load_row rfl 53 _ rfl b rfl 53 _ (0, 0) _ hW9.box Tryz.underlying53 rfl (obInfo _ _) ?_) | (refine wpList_store_row rfl 53 _ _ rfl w.heap.size (obArr ⟨3, ⟨#[]⟩, [], t1, T, t3, t5, (n4 : Int), ⟨#[]⟩⟩ ⟨none, 0, A, cc⟩) rfl rfl 53 zeroO hW9.res (obInfo _ _) rfl (obArr_one _ _) ?_))
            refine bodyPost_ret (v := .tuple #[.agg (obArr ⟨3, ⟨#[]⟩, [], t1, T, t3, t5, (n4 : Int), ⟨#[]⟩⟩ ⟨none, 0, A, cc⟩), .int .i64 0]) ?_ rfl (DEnd_eq HX.out hW9.done)
            rw [results_cell_tmp Tryz.results27]
            have hld := run_loadVar_row (P := Tryz.prog) _ _ _ 53 _ _ _ (hW9.res.row (obArr ⟨3, ⟨#[]⟩, [], t1, T, t3, t5, (n4 : Int), ⟨#[]⟩⟩ ⟨none, 0, A, cc⟩)) Tryz.underlying53 rfl (obInfo ⟨3, ⟨#[]⟩, [], t1, T, t3, t5, (n4 : Int), ⟨#[]⟩⟩ ⟨none, 0, A, cc⟩)
            simp [asAddr, hld, Result.andThen]
end Go.Proofs.YtmikfmcgddmplaaGreatDoor

/- ref.Decode of kind 4. -/
namespace Go.Proofs.YtmikfmcgddmplaaGreatDoor
open Go.RowKit


set_option maxRecDepth 100000 in
set_option maxHeartbeats 8000000 in
theorem RefDecode_4 (s : ByteArray) (r : List UInt8) (hlong : ¬ 8192 < s.data.toList.length) (hnum : rdNum s.data.toList = some (4, r)) (w : World) : Calls Tryz.prog 27 #[.string s] w (DEnd w (decO s.data.toList).1 (decO s.data.toList).2) := by
  obtain ⟨si, hsi, sz0, sz1, sz2⟩ := info_parts info_str
  obtain ⟨ei, hei, ez0, ez1, ez2⟩ := info_parts info_ent
  have Hsi := Lib.hid hsi
  have Sz0 := Lib.hid sz0
  have Sz1 := Lib.hid sz1
  have Sz2 := Lib.hid sz2
  have Hei := Lib.hid hei
  have Ez0 := Lib.hid ez0
  have Ez1 := Lib.hid ez1
  have Ez2 := Lib.hid ez2
  clear hsi sz0 sz1 sz2 hei ez0 ez1 ez2
  obtain ⟨R, hR⟩ : ∃ R, R = decO s.data.toList := ⟨_, rfl⟩
  rw [← hR]
  have HR := Lib.hid hR
  clear hR
  go_enter Tryz.func27, Tryz.ntmps27
  go_upto_region 2 with (refine wpList_store_row rfl 53 _ _ rfl (w.heap.size + 1) (obArr Ob.none atNil) rfl rfl 53 zeroO (Arr.new_at (w.alloc _) _ _ (by simp)) (obInfo _ _) rfl (obArr_one _ _) ?_)
  refine wp_forget (H0 w) (h0_start w) ?_
  intro W hW0
  have hlen : s.data.toList.length = s.size := rfl
  have hi : ¬ (8192 : Int) < s.size := by omega
  have hHd := Lib.hid (hd_start hW0 s.data.toList hlong)
  rw [bs_of] at hHd
  have hsz := hW0.2.2.1
  go_upto_region 5 with fail
  refine wp_forget (Hd w (some s.data.toList)) (by exact hHd.out) ?_
  clear hHd hW0 hsz W hi hlen
  generalize s.data.toList = l at *
  intro W hW
  have q1 := fun Wq h => cs_num (w.heap.size + 2) (some l) Wq h
  have hn62 := stNum_lt (some l)
  have hst : ∃ n1 s1, stNum (some l) = (n1, s1) := ⟨_, _, rfl⟩
  obtain ⟨n, s1, hst⟩ := hst
  rw [hst] at q1 hn62
  have Q1 := Lib.hid q1
  have HST := Lib.hid hst
  clear q1 hst
  simp only at hn62
  go_wp2_with fail
  (with_reducible refine (Q1.out W hW.cur).mono ?_)
  rintro _ W2 ⟨rfl, h2, k2⟩
  have hW2 := hW.read h2 k2
  clear hW h2 k2 Q1
  go_upto_region 7 with (refine wpList_store_row rfl 53 _ _ rfl W2.heap.size (obArr (kOb (n : Int)) atNil) rfl rfl 53 zeroO (Arr.new W2 _ _) (obInfo _ _) rfl (obArr_one _ _) ?_)
  refine wp_forget (Gd w W2.heap.size (kOb (n : Int)) atNil s1) (gd_start hW2 (n : Int)) ?_
  clear hW2
  generalize W2.heap.size = b at *
  clear W W2
  intro W hW
  obtain ⟨sc, ec, hC, he, he2, hsl⟩ := hW.cur.cells
  have d1 := hC.c1
  obtain ⟨rfl, rfl⟩ : n = 4 ∧ s1 = some r := by
    have h := HST.out
    simp [stNum, hnum] at h
    exact ⟨h.1.symm, h.2.symm⟩
  obtain ⟨_, rfl⟩ := hsl r rfl
  clear he he2 hsl hC HST
  have q1 := fun Wq h => cs_id (w.heap.size + 2) (some r) Wq h
  have q2 := fun Wq h => cs_txt (w.heap.size + 2) (stId (some r)).2 Wq h
  have q3 := fun Wq h => cs_txt (w.heap.size + 2) (stTxt (stId (some r)).2).2 Wq h
  have hf : rdFields ((4 : Nat) : Int) r = match (stTxt (stTxt (stId (some r)).2).2).2 with | none => none | some rest => some (⟨4, ⟨#[]⟩, [], ⟨#[]⟩, [], (stTxt (stId (some r)).2).1, (stTxt (stTxt (stId (some r)).2).2).1, 0, (stId (some r)).1⟩, rest) := by unfold rdFields; rw [if_neg (by decide), if_neg (by decide), if_neg (by decide)]; cases (stTxt (stTxt (stId (some r)).2).2).2 <;> rfl
  have HF : Hid (R = fin ⟨4, ⟨#[]⟩, [], ⟨#[]⟩, [], (stTxt (stId (some r)).2).1, (stTxt (stTxt (stId (some r)).2).2).1, 0, (stId (some r)).1⟩ (stTxt (stTxt (stId (some r)).2).2).2) := by show _ = _; rw [HR.out]; exact dec_fin hlong hnum rfl hf
  clear hf HR
  generalize (stTxt (stTxt (stId (some r)).2).2).1 = t3 at *
  generalize (stTxt (stTxt (stId (some r)).2).2).2 = st at *
  generalize (stTxt (stId (some r)).2).1 = t2 at *
  generalize (stTxt (stId (some r)).2).2 = s2 at *
  generalize (stId (some r)).1 = t1 at *
  generalize (stId (some r)).2 = s1 at *
  have Q1 := Lib.hid q1
  have Q2 := Lib.hid q2
  have Q3 := Lib.hid q3
  clear q1 q2 q3
  have c0 : W.cell? ⟨b, 0, none⟩ = some (.int .i64 4) := hW.box.cell 0
  go_wp2_with fail
  (with_reducible refine (Q1.out W hW.cur).mono ?_)
  rintro _ W2 ⟨rfl, h2, k2⟩
  have hW2 := hW.read h2 k2
  clear hW h2 k2 Q1 c0 d1
  go_wp2_with fail
  (with_reducible refine (Q2.out W2 hW2.cur).mono ?_)
  rintro _ W3 ⟨rfl, h2, k2⟩
  have hW3 := hW2.read h2 k2
  clear hW2 h2 k2 Q2
  go_wp2_with fail
  (with_reducible refine (Q3.out W3 hW3.cur).mono ?_)
  rintro _ W4 ⟨rfl, h2, k2⟩
  have hW4 := hW3.read h2 k2
  clear hW3 h2 k2 Q3
  have c8 : W4.cell? ⟨b, 8, none⟩ = some (.string ⟨#[]⟩) := hW4.box.cell 8
  have c5 : W4.cell? ⟨b, 5, none⟩ = some (.string ⟨#[]⟩) := hW4.box.cell 5
  have c6 : W4.cell? ⟨b, 6, none⟩ = some (.string ⟨#[]⟩) := hW4.box.cell 6
  have f8 := hW4.box.free 8
  have f5 := hW4.box.free 5
  have f6 := hW4.box.free 6
  go_upto_region 32 with fail
  refine wp_forget (Gd w b ⟨4, ⟨#[]⟩, [], ⟨#[]⟩, [], t2, t3, 0, t1⟩ atNil st) (by exact ((hW4.put (o' := ⟨4, ⟨#[]⟩, [], ⟨#[]⟩, [], ⟨#[]⟩, ⟨#[]⟩, 0, t1⟩) 8 (.string t1) rfl rfl rfl).put (o' := ⟨4, ⟨#[]⟩, [], ⟨#[]⟩, [], t2, ⟨#[]⟩, 0, t1⟩) 5 (.string t2) rfl rfl rfl).put 6 (.string t3) rfl rfl rfl) ?_
  clear hW4 c8 c5 c6 f8 f5 f6
  clear W W2 W3 W4
  intro W hW
  obtain ⟨sc, ec, hC, he, he2, hsl⟩ := hW.cur.cells
  have d0 := hC.c0
  have d1 := hC.c1
  cases st with
  | none =>
    rw [Option.isNone_none] at he
    have HX : Hid (R = (Ob.none, 2)) := HF.out
    clear HF he2 hsl hC
    go_wp2_with (first | (refine wpList_load_row rfl 53 _ rfl (w.heap.size + 1) rfl 53 _ (0, 0) _ hW.non Tryz.underlying53 rfl (obInfo _ _) ?_) | (refine wpList_store_row rfl 53 _ _ rfl w.heap.size (obArr Ob.none atNil) rfl rfl 53 zeroO hW.res (obInfo _ _) rfl (obArr_one _ _) ?_))
    refine bodyPost_ret (v := .tuple #[.agg (obArr Ob.none atNil), .int .i64 2]) ?_ rfl (DEnd_eq HX.out (hW.fail 2))
    rw [results_cell_tmp Tryz.results27]
    have hld := run_loadVar_row (P := Tryz.prog) _ _ _ 53 _ _ _ (hW.res.row (obArr Ob.none atNil)) Tryz.underlying53 rfl (obInfo Ob.none atNil)
    simp [asAddr, hld, Result.andThen]
  | some rest =>
    obtain ⟨rfl, rfl⟩ := hsl rest rfl
    clear he he2 hsl hC
    by_cases hrest : 0 < rest.length
    · have HX : Hid (R = (Ob.none, 2)) := by
        show _ = _
        rw [HF.out]
        exact fin_rest hrest
      have hne : (bs rest).toList.isEmpty = false := by
        rw [ByteArray.toList_eq, bs_list]
        cases rest with
        | nil => simp at hrest
        | cons => rfl
      clear HF
      go_wp2_with (first | (refine wpList_load_row rfl 53 _ rfl (w.heap.size + 1) rfl 53 _ (0, 0) _ hW.non Tryz.underlying53 rfl (obInfo _ _) ?_) | (refine wpList_store_row rfl 53 _ _ rfl w.heap.size (obArr Ob.none atNil) rfl rfl 53 zeroO hW.res (obInfo _ _) rfl (obArr_one _ _) ?_))
      refine bodyPost_ret (v := .tuple #[.agg (obArr Ob.none atNil), .int .i64 2]) ?_ rfl (DEnd_eq HX.out (hW.fail 2))
      rw [results_cell_tmp Tryz.results27]
      have hld := run_loadVar_row (P := Tryz.prog) _ _ _ 53 _ _ _ (hW.res.row (obArr Ob.none atNil)) Tryz.underlying53 rfl (obInfo Ob.none atNil)
      simp [asAddr, hld, Result.andThen]
    · obtain rfl : rest = [] := List.eq_nil_of_length_eq_zero (by omega)
      have hne : (bs []).toList = [] := by rw [ByteArray.toList_eq, bs_list]
      have hF : R = if good ⟨4, ⟨#[]⟩, [], ⟨#[]⟩, [], t2, t3, 0, t1⟩ ≠ 0 then (Ob.none, good ⟨4, ⟨#[]⟩, [], ⟨#[]⟩, [], t2, t3, 0, t1⟩) else (⟨4, ⟨#[]⟩, [], ⟨#[]⟩, [], t2, t3, 0, t1⟩, 0) := HF.out
      have CG := Lib.hid (fun Wq h => GoodObject_any ⟨4, ⟨#[]⟩, [], ⟨#[]⟩, [], t2, t3, 0, t1⟩ atNil Wq h (fun e he => by simp at he))
      generalize hgo : good ⟨4, ⟨#[]⟩, [], ⟨#[]⟩, [], t2, t3, 0, t1⟩ = G at *
      clear hgo hrest HF
      have HF := Lib.hid hF
      clear hF
      go_wp2_with (refine wpList_load_row rfl 53 _ rfl b rfl 53 _ (0, 0) _ hW.box Tryz.underlying53 rfl (obInfo _ _) ?_)
      (with_reducible refine (CG.out W hW.ins.1).mono ?_)
      clear CG
      rintro _ W9 ⟨rfl, b9⟩
      have hW9 : Gd w b ⟨4, ⟨#[]⟩, [], ⟨#[]⟩, [], t2, t3, 0, t1⟩ atNil (some []) W9 := hW.grow (r := none) (gb_below b9) (fun q e => by cases e) (hW.oe.kept (gb_below (r := none) b9) (by cases hq : Value.ownBlock _ <;> simp)) (hW.op.kept (gb_below (r := none) b9) (by cases hq : Value.ownBlock _ <;> simp))
      clear hW b9 d0 d1
      cases hG : G != 0
      case true =>
        have HX : Hid (R = (Ob.none, G)) := by
          show _ = _
          rw [HF.out, if_pos (by simpa using hG)]
        clear HF
        go_wp2_with (first | (refine wpList_load_row rfl 53 _ rfl (w.heap.size + 1) rfl 53 _ (0, 0) _ hW9.non Tryz.underlying53 rfl (obInfo _ _) ?_) | (refine wpList_store_row rfl 53 _ _ rfl w.heap.size (obArr Ob.none atNil) rfl rfl 53 zeroO hW9.res (obInfo _ _) rfl (obArr_one _ _) ?_))
        refine bodyPost_ret (v := .tuple #[.agg (obArr Ob.none atNil), .int .i64 G]) ?_ rfl (DEnd_eq HX.out (hW9.fail G))
        rw [results_cell_tmp Tryz.results27]
        have hld := run_loadVar_row (P := Tryz.prog) _ _ _ 53 _ _ _ (hW9.res.row (obArr Ob.none atNil)) Tryz.underlying53 rfl (obInfo Ob.none atNil)
        simp [asAddr, hld, Result.andThen]
      have hG2 : G = 0 := by simpa using hG
      subst hG2
      have HX : Hid (R = (⟨4, ⟨#[]⟩, [], ⟨#[]⟩, [], t2, t3, 0, t1⟩, 0)) := by
        show _ = _
        rw [HF.out, if_neg (by simp)]
      clear HF hG
      go_wp2_with (first | (refine wpList_load_row rfl 53 _ rfl b rfl 53 _ (0, 0) _ hW9.box Tryz.underlying53 rfl (obInfo _ _) ?_) | (refine wpList_store_row rfl 53 _ _ rfl w.heap.size (obArr ⟨4, ⟨#[]⟩, [], ⟨#[]⟩, [], t2, t3, 0, t1⟩ atNil) rfl rfl 53 zeroO hW9.res (obInfo _ _) rfl (obArr_one _ _) ?_))
      refine bodyPost_ret (v := .tuple #[.agg (obArr ⟨4, ⟨#[]⟩, [], ⟨#[]⟩, [], t2, t3, 0, t1⟩ atNil), .int .i64 0]) ?_ rfl (DEnd_eq HX.out hW9.done)
      rw [results_cell_tmp Tryz.results27]
      have hld := run_loadVar_row (P := Tryz.prog) _ _ _ 53 _ _ _ (hW9.res.row (obArr ⟨4, ⟨#[]⟩, [], ⟨#[]⟩, [], t2, t3, 0, t1⟩ atNil)) Tryz.underlying53 rfl (obInfo ⟨4, ⟨#[]⟩, [], ⟨#[]⟩, [], t2, t3, 0, t1⟩ atNil)
      simp [asAddr, hld, Result.andThen]
end Go.Proofs.YtmikfmcgddmplaaGreatDoor

/- ref.Decode: its contract. -/
namespace Go.Proofs.YtmikfmcgddmplaaGreatDoor
open Go.RowKit


theorem RefDecode_any (s : ByteArray) (w : World) : Calls Tryz.prog 27 #[.string s] w (DEnd w (decO s.data.toList).1 (decO s.data.toList).2) := by
  by_cases hlong : 8192 < s.data.toList.length
  · exact RefDecode_no s (fun h => absurd hlong h) w
  cases hnum : rdNum s.data.toList with
  | none => exact RefDecode_no s (fun _ n r h => by rw [hnum] at h; cases h) w
  | some y =>
    obtain ⟨n, r⟩ := y
    by_cases hk : n = 1 ∨ n = 2 ∨ n = 3 ∨ n = 4
    · rcases hk with rfl | rfl | rfl | rfl
      · exact RefDecode_1 s r hlong hnum w
      · exact RefDecode_2 s r hlong hnum w
      · exact RefDecode_3 s r hlong hnum w
      · exact RefDecode_4 s r hlong hnum w
    · exact RefDecode_no s (fun _ n' r' h => by rw [hnum] at h; cases h; exact hk) w
end Go.Proofs.YtmikfmcgddmplaaGreatDoor
