/- Texts in one: ORefDecA, ORefDecB. -/
import Derived.Test.YtgffbdkngnpfpaaDoorOPure
import Derived.Test.YtgffbdkngnpfpaaDoorORefCur
import Derived.Test.YtgffbdkngnpfpaaDoorORefGood
import Derived.Test.YtgffbdkngnpfpaaDoorOApp
/- ref.Decode: where it stands; plain facts. -/
namespace Go.Proofs.YtgffbdkngnpfpaaDoor
open Go.RowKit

/-- what Decode answers, once the fields are read -/
def fin (o : Ob) : St → Ob × Int
  | none => (Ob.none, 2)
  | some rest => if 0 < rest.length then (Ob.none, 2) else if good o ≠ 0 then (Ob.none, good o) else (o, 0)
theorem dec_fin {l r : List UInt8} {n : Nat} {o : Ob} {st : St} (hl : ¬ 8192 < l.length) (hn : rdNum l = some (n, r)) (hk : kindB (n : Int) = true)
    (hf : rdFields (n : Int) r = match st with | none => none | some rest => some (o, rest)) : decO l = fin o st := by
  unfold decO
  rw [if_neg hl, hn]
  simp only
  rw [if_neg (by rw [hk]; decide), hf]
  cases st with
  | none => rfl
  | some rest => rfl
theorem fin_rest {o : Ob} {rest : List UInt8} (h : 0 < rest.length) : fin o (some rest) = (Ob.none, 2) := by
  show (if 0 < rest.length then _ else _) = _
  rw [if_pos h]
theorem kindB_no {k : Int} (h : ¬ (k = 1 ∨ k = 2 ∨ k = 3 ∨ k = 4)) : kindB k = false := by
  cases hk : kindB k with
  | false => rfl
  | true => exact absurd (kindB_cases hk) h
/-- the result's block, the empty object's, the cursor's, the object's -/
structure Gd (w : World) (b : Nat) (o : Ob) (p : At) (st : St) (W : World) : Prop where
  res : Arr W w.heap.size 25 zeroO
  non : Arr W (w.heap.size + 1) 25 (obArr Ob.none atNil)
  cur : CS W (w.heap.size + 2) st
  box : Arr W b 25 (obArr o p)
  bel : Below w.heap.size w W
  hb : w.heap.size + 2 < b
  oe : W.ownsRow (b + 1) 48 3 (.slice p.ea o.ents.length p.ec) o.ents.length (entCells o.ents)
  op : W.ownsRow (b + 1) 9 1 (.slice p.pa o.pars.length p.pc) o.pars.length (o.pars.map sv)
theorem Gd.read {w W W' : World} {b : Nat} {o : Ob} {p : At} {st st' : St} (h : Gd w b o p st W) (h' : CS W' (w.heap.size + 2) st') (k : W.grownBy W' (some (w.heap.size + 2))) : Gd w b o p st' W' := by
  have h1 := h.hb
  exact ⟨h.res.kept k (fun e => by simp at e), h.non.kept k (fun e => by simp at e), h', h.box.kept k (fun e => by simp at e; omega), h.bel.grown k h.bel.size (fun q e => by cases e; omega), h.hb,
    h.oe.kept k (own_far h.oe (by omega)), h.op.kept k (own_far h.op (by omega))⟩
theorem Gd.grow {w W W' : World} {b : Nat} {o : Ob} {p : At} {st : St} {r : Option Nat} (h : Gd w b o p st W) (k : W.grownBy W' r) (hr : ∀ q, r = some q → b < q)
    (he : W'.ownsRow (b + 1) 48 3 (.slice p.ea o.ents.length p.ec) o.ents.length (entCells o.ents)) (hp : W'.ownsRow (b + 1) 9 1 (.slice p.pa o.pars.length p.pc) o.pars.length (o.pars.map sv)) : Gd w b o p st W' := by
  have h1 := h.hb
  have hl : ∀ g, g ≤ b → some g ≠ r := fun g hg e => by have := hr g e.symm; omega
  exact ⟨h.res.kept k (hl _ (by omega)), h.non.kept k (hl _ (by omega)), h.cur.kept k (hl _ (by omega)), h.box.kept k (hl _ (by omega)), h.bel.grown k h.bel.size (fun q e => by have := hr q e; omega), h.hb, he, hp⟩
theorem Gd.alloc {w W : World} {b : Nat} {o : Ob} {p : At} {st : St} (h : Gd w b o p st W) (x : Obj) : Gd w b o p st (W.alloc x) := h.grow (r := none) (gb_alloc x) (fun q e => by cases e) (h.oe.alloc x) (h.op.alloc x)
theorem Gd.drew {w W : World} {b : Nat} {o : Ob} {p : At} {st : St} (h : Gd w b o p st W) : Gd w b o p st W.drew :=
  ⟨h.res, h.non, h.cur.kept (gb_below (r := none) (Below.refl _ _).drew) (by simp), h.box, h.bel.drew, h.hb, h.oe.drew, h.op.drew⟩
/-- something beyond the object's block has turned, and a field is stored -/
theorem Gd.app {w W W' : World} {b : Nat} {o o' : Ob} {p p' : At} {st : St} {r : Option Nat} (h : Gd w b o p st W) (k : W.grownBy W' r) (hr : ∀ q, r = some q → b < q) (i : Nat) (v : Value) (e : (obArr o p).setIfInBounds i v = obArr o' p')
    (he : W'.ownsRow (b + 1) 48 3 (.slice p'.ea o'.ents.length p'.ec) o'.ents.length (entCells o'.ents)) (hp : W'.ownsRow (b + 1) 9 1 (.slice p'.pa o'.pars.length p'.pc) o'.pars.length (o'.pars.map sv)) :
    Gd w b o' p' st (W'.setCell ⟨b, i, none⟩ v) := by
  have h1 := h.hb
  have hl : ∀ g, g ≤ b → some g ≠ r := fun g hg e => by have := hr g e.symm; omega
  have hB := h.bel.grown k h.bel.size (fun q e => by have := hr q e; omega)
  have k2 : W'.grownBy (W'.setCell ⟨b, i, none⟩ v) (some b) := gb_set b i v
  exact ⟨(h.res.kept k (hl _ (by omega))).kept k2 (fun e => by simp at e; omega), (h.non.kept k (hl _ (by omega))).kept k2 (fun e => by simp at e; omega), (h.cur.kept k (hl _ (by omega))).kept k2 (fun e => by simp at e; omega),
    by rw [← e]; exact (h.box.kept k (hl _ (Nat.le_refl _))).put i v, hB.grown k2 hB.size (fun q e => by cases e; omega), h.hb, he.kept k2 (own_far he (by omega)), hp.kept k2 (own_far hp (by omega))⟩
theorem Gd.put {w W : World} {b : Nat} {o o' : Ob} {p : At} {st : St} (h : Gd w b o p st W) (i : Nat) (v : Value) (e : (obArr o p).setIfInBounds i v = obArr o' p) (he : o'.ents = o.ents) (hp : o'.pars = o.pars) : Gd w b o' p st (W.setCell ⟨b, i, none⟩ v) :=
  h.app (r := none) (World.grownBy.refl _ _) (fun q e => by cases e) i v e (by rw [he]; exact h.oe) (by rw [hp]; exact h.op)
theorem Gd.ins {w W : World} {b : Nat} {o : Ob} {p : At} {st : St} (h : Gd w b o p st W) : ObIn W W.heap.size o p ∧ Above b p := by
  obtain ⟨A, c, e, h1, h2⟩ := own_ents h.oe
  obtain ⟨A', c', e', h3, h4, h5⟩ := own_texts h.op
  simp only [Value.slice.injEq, true_and] at e e'
  obtain ⟨rfl, rfl⟩ := e
  obtain ⟨rfl, rfl⟩ := e'
  exact ⟨⟨h1, h4, h3⟩, fun ad e => by have := h2 ad e; omega, fun ad e => by have := h5 ad e; omega⟩
/-- the answer is stored -/
theorem Gd.fail {w W : World} {b : Nat} {o : Ob} {p : At} {st : St} (h : Gd w b o p st W) (e : Int) : DEnd w Ob.none e (.returned (.tuple #[.agg (obArr Ob.none atNil), .int .i64 e])) (W.setRow w.heap.size (obArr Ob.none atNil)) :=
  ⟨atNil, rfl, noneIn _ _, below_setRow h.bel (Nat.le_refl _) _⟩
theorem Gd.done {w W : World} {b : Nat} {o : Ob} {p : At} {st : St} (h : Gd w b o p st W) : DEnd w o 0 (.returned (.tuple #[.agg (obArr o p), .int .i64 0])) (W.setRow w.heap.size (obArr o p)) :=
  have hb := h.hb
  ⟨p, rfl, h.ins.1.far (gb_row w.heap.size _) (h.ins.2.mono (by omega)), below_setRow h.bel (Nat.le_refl _) _⟩
/-- ahead of the object -/
structure Hd (w : World) (st : St) (W : World) : Prop where
  res : Arr W w.heap.size 25 zeroO
  non : Arr W (w.heap.size + 1) 25 (obArr Ob.none atNil)
  cur : CS W (w.heap.size + 2) st
  bel : Below w.heap.size w W
theorem Hd.read {w W W' : World} {st st' : St} (h : Hd w st W) (h' : CS W' (w.heap.size + 2) st') (k : W.grownBy W' (some (w.heap.size + 2))) : Hd w st' W' :=
  ⟨h.res.kept k (fun e => by simp at e), h.non.kept k (fun e => by simp at e), h', h.bel.grown k h.bel.size (fun q e => by cases e; omega)⟩
def kOb (k : Int) : Ob := ⟨k, ⟨#[]⟩, [], ⟨#[]⟩, [], ⟨#[]⟩, ⟨#[]⟩, 0, ⟨#[]⟩⟩
theorem gd_start {w W : World} {st : St} (h : Hd w st W) (k : Int) : Gd w W.heap.size (kOb k) atNil st ((W.alloc (.cells zeroO 25)).setRow W.heap.size (obArr (kOb k) atNil)) := by
  have hlt := h.cur.lt
  have g0 : W.grownBy (W.alloc (.cells zeroO 25)) none := gb_alloc _
  have a0 := Arr.new W 25 zeroO
  have k2 : (W.alloc (.cells zeroO 25)).grownBy ((W.alloc (.cells zeroO 25)).setRow W.heap.size (obArr (kOb k) atNil)) (some W.heap.size) := gb_row _ _
  have hB := h.bel.grown g0 h.bel.size (fun q e => by cases e)
  exact ⟨(h.res.kept g0 (by simp)).kept k2 (fun e => by simp at e; omega), (h.non.kept g0 (by simp)).kept k2 (fun e => by simp at e; omega), (h.cur.kept g0 (by simp)).kept k2 (fun e => by simp at e; omega), a0.row _,
    hB.grown k2 hB.size (fun q e => by cases e; exact h.bel.size), hlt, own_nil _ _ _ _, own_nil _ _ _ _⟩
/-- the loops -/
theorem entsR_done {n : Nat} {res : Option (List Ent × List UInt8)} {lc : List UInt8} {T : List Ent} (h : res = match rdEnts (n - T.length) lc with | none => none | some (T2, r) => some (T ++ T2, r)) (hn : ¬ T.length < n) : res = some (T, lc) := by
  rw [h, show n - T.length = 0 from by omega, rdEnts]
  simp
theorem entsR_bad {n : Nat} {res : Option (List Ent × List UInt8)} {lc : List UInt8} {T : List Ent} (h : res = match rdEnts (n - T.length) lc with | none => none | some (T2, r) => some (T ++ T2, r)) (hn : T.length < n) (hr : rdEnt lc = none) : res = none := by
  rw [h, show n - T.length = (n - T.length - 1) + 1 from by omega, rdEnts]
  simp [hr]
theorem entsR_more {n : Nat} {res : Option (List Ent × List UInt8)} {lc r : List UInt8} {p : Ent} {T : List Ent} (h : res = match rdEnts (n - T.length) lc with | none => none | some (T2, r) => some (T ++ T2, r)) (hn : T.length < n) (hr : rdEnt lc = some (p, r)) :
    res = match rdEnts (n - (T ++ [p]).length) r with | none => none | some (T2, r) => some ((T ++ [p]) ++ T2, r) := by
  rw [h, show n - T.length = (n - (T ++ [p]).length) + 1 from by rw [List.length_append]; simp; omega, rdEnts]
  simp only [hr]
  cases rdEnts (n - (T ++ [p]).length) r <;> simp
theorem parsR_done {n : Nat} {res : Option (List ByteArray × List UInt8)} {lc : List UInt8} {T : List ByteArray} (h : res = match rdPars (n - T.length) lc with | none => none | some (T2, r) => some (T ++ T2, r)) (hn : ¬ T.length < n) : res = some (T, lc) := by
  rw [h, show n - T.length = 0 from by omega, rdPars]
  simp
theorem parsR_bad {n : Nat} {res : Option (List ByteArray × List UInt8)} {lc : List UInt8} {T : List ByteArray} (h : res = match rdPars (n - T.length) lc with | none => none | some (T2, r) => some (T ++ T2, r)) (hn : T.length < n) (hr : rdId lc = none) : res = none := by
  rw [h, show n - T.length = (n - T.length - 1) + 1 from by omega, rdPars]
  simp [hr]
theorem parsR_more {n : Nat} {res : Option (List ByteArray × List UInt8)} {lc r : List UInt8} {p : ByteArray} {T : List ByteArray} (h : res = match rdPars (n - T.length) lc with | none => none | some (T2, r) => some (T ++ T2, r)) (hn : T.length < n) (hr : rdId lc = some (p, r)) :
    res = match rdPars (n - (T ++ [p]).length) r with | none => none | some (T2, r) => some ((T ++ [p]) ++ T2, r) := by
  rw [h, show n - T.length = (n - (T ++ [p]).length) + 1 from by rw [List.length_append]; simp; omega, rdPars]
  simp only [hr]
  cases rdPars (n - (T ++ [p]).length) r <;> simp
/-- the state and the entries so far tell the answer -/
def ERes (n : Nat) (res : Option (List Ent × List UInt8)) (T : List Ent) : St → Prop
  | none => res = none ∧ T.length ≤ 8193
  | some lc => T.length + lc.length ≤ 8192 ∧ res = match rdEnts (n - T.length) lc with | none => none | some (T2, r) => some (T ++ T2, r)
def PRes (n : Nat) (res : Option (List ByteArray × List UInt8)) (T : List ByteArray) : St → Prop
  | none => res = none ∧ T.length ≤ 8193
  | some lc => T.length + lc.length ≤ 8192 ∧ res = match rdPars (n - T.length) lc with | none => none | some (T2, r) => some (T ++ T2, r)
theorem eres_start (st : St) : ERes (stNum st).1 (rdEntsS st) [] (stNum st).2 ∨ ∃ l, (stNum st).2 = some l ∧ 8192 < l.length := by
  unfold rdEntsS
  generalize (stNum st).1 = n
  cases (stNum st).2 with
  | none => exact .inl ⟨rfl, Nat.zero_le _⟩
  | some l =>
    by_cases hll : 8192 < l.length
    · exact .inr ⟨l, rfl, hll⟩
    · refine .inl ⟨by rw [List.length_nil]; omega, ?_⟩
      rw [List.length_nil, Nat.sub_zero]
      simp only
      cases rdEnts n l <;> rfl
def parsRes (st : St) : Option (List ByteArray × List UInt8) :=
  match (stNum st).2 with
  | none => none
  | some l => rdPars (stNum st).1 l
theorem pres_start (st : St) : PRes (stNum st).1 (parsRes st) [] (stNum st).2 ∨ ∃ l, (stNum st).2 = some l ∧ 8192 < l.length := by
  unfold parsRes
  generalize (stNum st).1 = n
  cases (stNum st).2 with
  | none => exact .inl ⟨rfl, Nat.zero_le _⟩
  | some l =>
    by_cases hll : 8192 < l.length
    · exact .inr ⟨l, rfl, hll⟩
    · refine .inl ⟨by rw [List.length_nil]; omega, ?_⟩
      rw [List.length_nil, Nat.sub_zero]
      simp only
      cases rdPars n l <;> rfl
theorem stPars_res (st : St) : stPars st = match parsRes st with | none => ([], none) | some (T, r) => (T, some r) := by
  unfold stPars parsRes
  generalize (stNum st).1 = n
  cases (stNum st).2 with
  | none => rfl
  | some l => simp only; cases rdPars n l <;> rfl
theorem eres_len {n : Nat} {res : Option (List Ent × List UInt8)} {T : List Ent} {st : St} (h : ERes n res T st) : T.length ≤ 8193 := by
  cases st with
  | none => exact h.2
  | some lc => have := h.1; omega
theorem pres_len {n : Nat} {res : Option (List ByteArray × List UInt8)} {T : List ByteArray} {st : St} (h : PRes n res T st) : T.length ≤ 8193 := by
  cases st with
  | none => exact h.2
  | some lc => have := h.1; omega
/-- an entry more: e and st3 are what the cursor gave -/
theorem eres_more {n : Nat} {res : Option (List Ent × List UInt8)} {T : List Ent} {lc : List UInt8} (h : ERes n res T (some lc)) (hn : T.length < n) (e : Ent) (st3 : St)
    (hc : rdEnt lc = match st3 with | none => none | some r => some (e, r)) : ERes n res (T ++ [e]) st3 := by
  cases st3 with
  | none => exact ⟨entsR_bad h.2 hn hc, by rw [List.length_append]; have := h.1; simp; omega⟩
  | some r =>
    have hl := rdEnt_len hc
    exact ⟨by rw [List.length_append]; have := h.1; simp; omega, entsR_more h.2 hn hc⟩
theorem pres_more {n : Nat} {res : Option (List ByteArray × List UInt8)} {T : List ByteArray} {lc : List UInt8} (h : PRes n res T (some lc)) (hn : T.length < n) : PRes n res (T ++ [(stId (some lc)).1]) (stId (some lc)).2 := by
  cases hr : rdId lc with
  | none =>
    rw [show stId (some lc) = (⟨#[]⟩, none) from by simp [stId, hr]]
    exact ⟨parsR_bad h.2 hn hr, by rw [List.length_append]; have := h.1; simp; omega⟩
  | some y =>
    obtain ⟨p, r⟩ := y
    rw [show stId (some lc) = (p, some r) from by simp [stId, hr]]
    have hl := rdId_len hr
    exact ⟨by rw [List.length_append]; have := h.1; simp; omega, parsR_more h.2 hn hr⟩
def stD (d : Nat) (st : St) : St := if 1 < d then none else st
theorem ent_chainD (lc : List UInt8) : rdEnt lc = match (stId (stD (stNum (stTxt (some lc)).2).1 (stNum (stTxt (some lc)).2).2)).2 with
    | none => none
    | some r => some (⟨(stTxt (some lc)).1, (stNum (stTxt (some lc)).2).1 == 1, (stId (stD (stNum (stTxt (some lc)).2).1 (stNum (stTxt (some lc)).2).2)).1⟩, r) := by
  rw [ent_chain]
  unfold stD
  by_cases h : 1 < (stNum (stTxt (some lc)).2).1
  · rw [if_pos h]
    cases (stId (stNum (stTxt (some lc)).2).2).2 with
    | none => rfl
    | some r => simp only; rw [if_pos h]; rfl
  · rw [if_neg h]
    cases (stId (stNum (stTxt (some lc)).2).2).2 with
    | none => rfl
    | some r => simp only; rw [if_neg h]
/-- the entries' loop -/
def RdERel (n : Nat) (res : Option (List Ent × List UInt8)) (w : World) (b : Nat) (i : Value) (wr : World) : Prop :=
  ∃ (T : List Ent) (A : Option Addr) (c : Nat) (st : St), T.length ≤ n ∧ i = .int .i64 (T.length : Int) ∧ Gd w b ⟨2, ⟨#[]⟩, T, ⟨#[]⟩, [], ⟨#[]⟩, ⟨#[]⟩, 0, ⟨#[]⟩⟩ ⟨A, c, none, 0⟩ st wr ∧ (∀ e ∈ T, e.name.size ≤ 4096) ∧ ERes n res T st
/-- the parents' loop -/
def RdPRel (n : Nat) (res : Option (List ByteArray × List UInt8)) (t : ByteArray) (w : World) (b : Nat) (i : Value) (wr : World) : Prop :=
  ∃ (T : List ByteArray) (A : Option Addr) (c : Nat) (st : St), T.length ≤ n ∧ i = .int .i64 (T.length : Int) ∧ Gd w b ⟨3, ⟨#[]⟩, [], t, T, ⟨#[]⟩, ⟨#[]⟩, 0, ⟨#[]⟩⟩ ⟨none, 0, A, c⟩ st wr ∧ PRes n res T st
end Go.Proofs.YtgffbdkngnpfpaaDoor

/- ref.Decode: its start. -/
namespace Go.Proofs.YtgffbdkngnpfpaaDoor
open Go.RowKit

theorem own_in {w : World} {base : Nat} {e : TypeId} {v : Value} {n size : Nat} {xs : List Value} (h : w.ownsRow base e size v n xs) (k : Nat) (hk : v.ownBlock = some k) : k < w.heap.size := by
  rcases h.2 with ⟨rfl, _⟩ | ⟨g, cap, cur, rfl, hb, hg, _⟩
  · cases hk
  · cases hk
    exact (Array.getElem?_eq_some_iff.1 hg).1
theorem own_apartS {w : World} {base g : Nat} {v : Value} {n : Nat} {xs : List Value} {cs : Array Value} (h : w.ownsRow base 9 1 v n xs) (hX : Arr w g 48 cs) : v.ownBlock = none ∨ v.ownBlock ≠ some g := by
  rcases h.2 with ⟨rfl, _⟩ | ⟨g', cap, cur, rfl, hb, hg, _⟩
  · exact .inl rfl
  · refine .inr fun e1 => ?_
    have e2 : g' = g := by simpa [Value.ownBlock] using e1
    subst e2
    unfold Arr at hX
    rw [hg] at hX
    simp only [Option.some.injEq, Obj.cells.injEq] at hX
    exact absurd hX.2.1 (by decide)
theorem one_str (x : ByteArray) : ∀ u ∈ [Value.string x], u.oneCell' = true := by
  intro u hu
  simp at hu
  subst hu
  rfl
/-- ahead of the cursor -/
def H0 (w W : World) : Prop := Arr W w.heap.size 25 zeroO ∧ Arr W (w.heap.size + 1) 25 (obArr Ob.none atNil) ∧ W.heap.size = w.heap.size + 2 ∧ Below w.heap.size w W
theorem h0_start (w : World) : H0 w (((w.alloc (.cells zeroO 25)).alloc (.cells zeroO 25)).setRow (w.heap.size + 1) (obArr Ob.none atNil)) := by
  have a0 := Arr.new w 25 zeroO
  have a1 := a0.alloc (.cells zeroO 25)
  have b1 := Arr.new_at (w.alloc (.cells zeroO 25)) 25 zeroO (g := w.heap.size + 1) (by simp)
  exact ⟨a1.row_far (by omega) _, b1.row _, by simp [World.setRow], below_setRow (((Below.refl _ _).alloc (Nat.le_refl _) _).alloc (by simp) _) (by omega) _⟩
theorem hd_start {w W : World} (h : H0 w W) (l : List UInt8) (hl : ¬ 8192 < l.length) : Hd w (some l) (W.alloc (.cells #[.string (bs l), .int .i64 0] 45)) :=
  ⟨h.1.alloc _, h.2.1.alloc _, ⟨Arr.new_at _ _ _ h.2.2.1.symm, by omega⟩, h.2.2.2.alloc (by have := h.2.2.1; omega) _⟩
end Go.Proofs.YtgffbdkngnpfpaaDoor
