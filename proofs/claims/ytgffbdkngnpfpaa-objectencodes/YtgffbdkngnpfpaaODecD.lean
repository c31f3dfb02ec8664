/- Reading an object's fields. -/
import Derived.Test.YtgffbdkngnpfpaaODecC
import Derived.Deep.Cut
namespace Go.Proofs.Ytgffbdkngnpfpaa
open Go.RowKit

/-- an object's fields by the reader's states -/
def rdFields (k : Int) (l : List UInt8) : Option (Ob × List UInt8) :=
  if k = 1 then (match (stTxt (some l)).2 with
    | none => none
    | some r => some (⟨1, (stTxt (some l)).1, [], ⟨#[]⟩, [], ⟨#[]⟩, ⟨#[]⟩, 0, ⟨#[]⟩⟩, r))
  else if k = 2 then (match rdEntsS (some l) with
    | none => none
    | some (L, r) => some (⟨2, ⟨#[]⟩, L, ⟨#[]⟩, [], ⟨#[]⟩, ⟨#[]⟩, 0, ⟨#[]⟩⟩, r))
  else if k = 3 then (match (stTxt (stNum (stTxt (stPars (stId (some l)).2).2).2).2).2 with
    | none => none
    | some r => some (⟨3, ⟨#[]⟩, [], (stId (some l)).1, (stPars (stId (some l)).2).1, (stTxt (stPars (stId (some l)).2).2).1, (stTxt (stNum (stTxt (stPars (stId (some l)).2).2).2).2).1,
        ((stNum (stTxt (stPars (stId (some l)).2).2).2).1 : Int), ⟨#[]⟩⟩, r))
  else (match (stTxt (stTxt (stId (some l)).2).2).2 with
    | none => none
    | some r => some (⟨4, ⟨#[]⟩, [], ⟨#[]⟩, [], (stTxt (stId (some l)).2).1, (stTxt (stTxt (stId (some l)).2).2).1, 0, (stId (some l)).1⟩, r))

theorem gb_cell {w w' : World} {r : Option Nat} (k : w.grownBy w' r) {p : Addr} (hp : p.block < w.heap.size) (hr : some p.block ≠ r) : w'.cell? p = w.cell? p := by
  unfold World.cell?
  rw [k.block p.block hp hr]
theorem add_block (ad : Addr) (k : Nat) : (ad.add k).block = ad.block := by unfold Addr.add; split <;> rfl
theorem Txs.kept {w w' : World} {A : Option Addr} {T : List ByteArray} {r : Nat} (h : Txs w w.heap.size A T) (k : w.grownBy w' (some r)) (hr : ∀ ad, A = some ad → ad.block ≠ r) : Txs w' w'.heap.size A T := fun j x hx => by
  obtain ⟨ad, e, hb, hc⟩ := h j x hx
  have := hr ad e
  exact ⟨ad, e, Nat.lt_of_lt_of_le hb k.size, (gb_cell k hb (fun e1 => by rw [add_block] at e1; cases e1; exact this rfl)).trans hc⟩
theorem Ens.kept {w w' : World} {A : Option Addr} {T : List Ent} {r : Nat} (h : Ens w w.heap.size A T) (k : w.grownBy w' (some r)) (hr : ∀ ad, A = some ad → ad.block ≠ r) : Ens w' w'.heap.size A T := fun j x hx => by
  obtain ⟨ad, e, hb, h0, h1, h2⟩ := h j x hx
  have := hr ad e
  have hne : some (ad.add (j * 3)).block ≠ some r := fun e1 => by rw [add_block] at e1; cases e1; exact this rfl
  exact ⟨ad, e, Nat.lt_of_lt_of_le hb k.size, (gb_cell k hb hne).trans h0, (gb_cell (p := ⟨(ad.add (j * 3)).block, (ad.add (j * 3)).off + 1, none⟩) k hb hne).trans h1, (gb_cell (p := ⟨(ad.add (j * 3)).block, (ad.add (j * 3)).off + 2, none⟩) k hb hne).trans h2⟩

def zeroO : Array Value := #[.int .i64 0, .string ⟨#[]⟩, .slice none 0 0, .string ⟨#[]⟩, .slice none 0 0, .string ⟨#[]⟩, .string ⟨#[]⟩, .int .i64 0, .string ⟨#[]⟩]
/-- where readFields stands: the result's block, the object's block, the reader -/
structure Fd (w : World) (g r b : Nat) (o : Ob) (p : At) (st : St) (W : World) : Prop where
  res : Arr W r 25 zeroO
  box : Arr W b 25 (obArr o p)
  rd : RS W g st
  gb : w.grownBy W (some g)
  hg : g < w.heap.size
  hr : w.heap.size ≤ r
  hb : r < b
  ents : Ens W W.heap.size p.ea o.ents
  pars : Txs W W.heap.size p.pa o.pars
  room : o.pars.length ≤ p.pc
  fe : ∀ ad, p.ea = some ad → b < ad.block
  fp : ∀ ad, p.pa = some ad → b < ad.block
theorem Fd.read {w W W' : World} {g r b : Nat} {o : Ob} {p : At} {st st' : St} (h : Fd w g r b o p st W) (h' : RS W' g st') (k : W.grownBy W' (some g)) : Fd w g r b o p st' W' := by
  have h1 := h.hg
  have h2 := h.hr
  have h3 := h.hb
  exact ⟨h.res.kept k (fun e => by cases e; omega), h.box.kept k (fun e => by cases e; omega), h', gb_trans h.gb k, h.hg, h.hr, h.hb, h.ents.kept k (fun ad e => by have := h.fe ad e; omega),
    h.pars.kept k (fun ad e => by have := h.fp ad e; omega), h.room, h.fe, h.fp⟩
theorem Fd.put {w W : World} {g r b : Nat} {o o' : Ob} {p p' : At} {st : St} (h : Fd w g r b o p st W) (i : Nat) (v : Value) (e : (obArr o p).setIfInBounds i v = obArr o' p')
    (he : Ens W W.heap.size p'.ea o'.ents) (ht : Txs W W.heap.size p'.pa o'.pars) (hm : o'.pars.length ≤ p'.pc) (fe : ∀ ad, p'.ea = some ad → b < ad.block) (fp : ∀ ad, p'.pa = some ad → b < ad.block) :
    Fd w g r b o' p' st (W.setCell ⟨b, i, none⟩ v) := by
  have h1 := h.hg
  have h2 := h.hr
  have h3 := h.hb
  have k : W.grownBy (W.setCell ⟨b, i, none⟩ v) (some b) := gb_set b i v
  refine ⟨h.res.kept k (fun e => by cases e; omega), by rw [← e]; exact h.box.put i v, h.rd.kept k (fun e => by cases e; omega), gb_own h.gb k (fun q e => by cases e; omega), h.hg, h.hr, h.hb,
    he.kept k (fun ad e => by have := fe ad e; omega), ht.kept k (fun ad e => by have := fp ad e; omega), hm, fe, fp⟩
/-- the slices of an object lie in blocks above b -/
def Above (b : Nat) (p : At) : Prop := (∀ ad, p.ea = some ad → b < ad.block) ∧ (∀ ad, p.pa = some ad → b < ad.block)
theorem Above.mono {b b' : Nat} {p : At} (h : Above b p) (hb : b' ≤ b) : Above b' p := ⟨fun ad e => Nat.lt_of_le_of_lt hb (h.1 ad e), fun ad e => Nat.lt_of_le_of_lt hb (h.2 ad e)⟩
theorem ObIn.far {w w' : World} {b : Nat} {o : Ob} {p : At} (h : ObIn w w.heap.size o p) (k : w.grownBy w' (some b)) (f : Above b p) : ObIn w' w'.heap.size o p :=
  ⟨h.ents.kept k (fun ad e => by have := f.1 ad e; omega), h.pars.kept k (fun ad e => by have := f.2 ad e; omega), h.room⟩
/-- behind readFields -/
def FEnd (g : Nat) (w : World) (res : Option (Ob × List UInt8)) (x : Ending) (w' : World) : Prop :=
  ∃ o p ok, x = .returned (.tuple #[.agg (obArr o p), .bool ok]) ∧ w.grownBy w' (some g) ∧
    ((∃ r, res = some (o, r) ∧ ok = true ∧ RS w' g (some r) ∧ ObIn w' w'.heap.size o p ∧ Above w.heap.size p) ∨ (res = none ∧ ∃ st', RS w' g st' ∧ (ok = false ∨ st' = none)))
/-- the result is stored -/
theorem Fd.done {w W : World} {g r b : Nat} {o : Ob} {p : At} {st : St} (h : Fd w g r b o p st W) :
    Arr (W.setRow r (obArr o p)) r 25 (obArr o p) ∧ w.grownBy (W.setRow r (obArr o p)) (some g) ∧ RS (W.setRow r (obArr o p)) g st ∧ (ObIn (W.setRow r (obArr o p)) (W.setRow r (obArr o p)).heap.size o p ∧ Above w.heap.size p) := by
  have h1 := h.hg
  have h2 := h.hr
  have h3 := h.hb
  have k : W.grownBy (W.setRow r (obArr o p)) (some r) := gb_row r _
  exact ⟨h.res.row _, gb_own h.gb k (fun q e => by cases e; omega), h.rd.kept k (fun e => by cases e; omega), ⟨h.ents.kept k (fun ad e => by have := h.fe ad e; omega), h.pars.kept k (fun ad e => by have := h.fp ad e; omega), h.room⟩, fun ad e => by have := h.fe ad e; omega, fun ad e => by have := h.fp ad e; omega⟩
def atNil : At := ⟨none, 0, none, 0⟩
theorem fd_start {w : World} {g : Nat} {st : St} (h : RS w g st) (k : Int) :
    Fd w g w.heap.size (w.heap.size + 1) ⟨k, ⟨#[]⟩, [], ⟨#[]⟩, [], ⟨#[]⟩, ⟨#[]⟩, 0, ⟨#[]⟩⟩ atNil st
      (((w.alloc (.cells zeroO 25)).alloc (.cells zeroO 25)).setRow (w.heap.size + 1) (obArr ⟨k, ⟨#[]⟩, [], ⟨#[]⟩, [], ⟨#[]⟩, ⟨#[]⟩, 0, ⟨#[]⟩⟩ atNil)) := by
  have hlt := h.lt
  have a0 := Arr.new w 25 zeroO
  have g0 : w.grownBy (w.alloc (.cells zeroO 25)) (some g) := gb_alloc _
  have h0 := h.below ((Below.refl _ _).alloc (Nat.le_refl _) (.cells zeroO 25))
  have e0 : (w.alloc (.cells zeroO 25)).heap.size = w.heap.size + 1 := by simp
  generalize w.alloc (.cells zeroO 25) = w1 at *
  have a1 := a0.alloc (.cells zeroO 25)
  have b1 := Arr.new_at w1 25 zeroO e0.symm
  have g1 := gb_trans g0 (gb_alloc (r := some g) (.cells zeroO 25))
  have h1 := h0.below ((Below.refl _ _).alloc (Nat.le_refl _) (.cells zeroO 25))
  generalize w1.alloc (.cells zeroO 25) = w2 at *
  exact ⟨a1.row_far (by omega) _, b1.row _, h1.kept (gb_row _ _) (fun e => by cases e; omega), gb_own g1 (gb_row (w.heap.size + 1) _) (fun q e => by cases e; omega), hlt, Nat.le_refl _, by omega, Ens.nil _ _ _, Txs.nil _ _ _, Nat.le_refl _, fun ad e => (by cases e), fun ad e => (by cases e)⟩
end Go.Proofs.Ytgffbdkngnpfpaa
