/- Texts in one: ODecD, ODecE, OGood, OGoodB, OStray. -/
import Derived.Test.YtbpmgpbmeganoaaDoorODecC
import Derived.Deep.Cut
import Derived.Test.YtbpmgpbmeganoaaDoorOMem
import Derived.Test.YtbpmgpbmeganoaaDoorWDone
import Derived.Test.YtbpmgpbmeganoaaDoorWRead
/- Reading an object's fields. -/
namespace Go.Proofs.YtbpmgpbmeganoaaDoor
open Go.RowKit

/-- an object's fields by the reader's states -/
def rdFields (k : Int) (l : List UInt8) : Option (Ob × List UInt8) :=
  if k = 1 then (match (stTxt (some l)).2 with
    | none => none
    | some r => some (⟨1, (stTxt (some l)).1, [], ⟨#[]⟩, [], ⟨#[]⟩, ⟨#[]⟩, 0, ⟨#[]⟩⟩, r))
  else if k = 2 then (match rdEntsS (some l) with
    | none => none
    | some (L, r) => some (⟨2, ⟨#[]⟩, L, ⟨#[]⟩, [], ⟨#[]⟩, ⟨#[]⟩, 0, ⟨#[]⟩⟩, r))
  else if k = 3 then (match (stTxt (stNum (stTxt (stPars (stId (some l)).2).2).2).2).2 with
    | none => none
    | some r => some (⟨3, ⟨#[]⟩, [], (stId (some l)).1, (stPars (stId (some l)).2).1, (stTxt (stPars (stId (some l)).2).2).1, (stTxt (stNum (stTxt (stPars (stId (some l)).2).2).2).2).1,
        ((stNum (stTxt (stPars (stId (some l)).2).2).2).1 : Int), ⟨#[]⟩⟩, r))
  else (match (stTxt (stTxt (stId (some l)).2).2).2 with
    | none => none
    | some r => some (⟨4, ⟨#[]⟩, [], ⟨#[]⟩, [], (stTxt (stId (some l)).2).1, (stTxt (stTxt (stId (some l)).2).2).1, 0, (stId (some l)).1⟩, r))

theorem gb_cell {w w' : World} {r : Option Nat} (k : w.grownBy w' r) {p : Addr} (hp : p.block < w.heap.size) (hr : some p.block ≠ r) : w'.cell? p = w.cell? p := by
  unfold World.cell?
  rw [k.block p.block hp hr]
theorem add_block (ad : Addr) (k : Nat) : (ad.add k).block = ad.block := by unfold Addr.add; split <;> rfl
theorem Txs.kept {w w' : World} {A : Option Addr} {T : List ByteArray} {r : Nat} (h : Txs w w.heap.size A T) (k : w.grownBy w' (some r)) (hr : ∀ ad, A = some ad → ad.block ≠ r) : Txs w' w'.heap.size A T := fun j x hx => by
  obtain ⟨ad, e, hb, hc⟩ := h j x hx
  have := hr ad e
  exact ⟨ad, e, Nat.lt_of_lt_of_le hb k.size, (gb_cell k hb (fun e1 => by rw [add_block] at e1; cases e1; exact this rfl)).trans hc⟩
theorem Ens.kept {w w' : World} {A : Option Addr} {T : List Ent} {r : Nat} (h : Ens w w.heap.size A T) (k : w.grownBy w' (some r)) (hr : ∀ ad, A = some ad → ad.block ≠ r) : Ens w' w'.heap.size A T := fun j x hx => by
  obtain ⟨ad, e, hb, h0, h1, h2⟩ := h j x hx
  have := hr ad e
  have hne : some (ad.add (j * 3)).block ≠ some r := fun e1 => by rw [add_block] at e1; cases e1; exact this rfl
  exact ⟨ad, e, Nat.lt_of_lt_of_le hb k.size, (gb_cell k hb hne).trans h0, (gb_cell (p := ⟨(ad.add (j * 3)).block, (ad.add (j * 3)).off + 1, none⟩) k hb hne).trans h1, (gb_cell (p := ⟨(ad.add (j * 3)).block, (ad.add (j * 3)).off + 2, none⟩) k hb hne).trans h2⟩

def zeroO : Array Value := #[.int .i64 0, .string ⟨#[]⟩, .slice none 0 0, .string ⟨#[]⟩, .slice none 0 0, .string ⟨#[]⟩, .string ⟨#[]⟩, .int .i64 0, .string ⟨#[]⟩]
/-- the slices of an object lie in blocks above b -/
def Above (b : Nat) (p : At) : Prop := (∀ ad, p.ea = some ad → b < ad.block) ∧ (∀ ad, p.pa = some ad → b < ad.block)
theorem Above.mono {b b' : Nat} {p : At} (h : Above b p) (hb : b' ≤ b) : Above b' p := ⟨fun ad e => Nat.lt_of_le_of_lt hb (h.1 ad e), fun ad e => Nat.lt_of_le_of_lt hb (h.2 ad e)⟩
theorem ObIn.far {w w' : World} {b : Nat} {o : Ob} {p : At} (h : ObIn w w.heap.size o p) (k : w.grownBy w' (some b)) (f : Above b p) : ObIn w' w'.heap.size o p :=
  ⟨h.ents.kept k (fun ad e => by have := f.1 ad e; omega), h.pars.kept k (fun ad e => by have := f.2 ad e; omega), h.room⟩
/-- behind readFields -/
def FEnd (g : Nat) (w : World) (res : Option (Ob × List UInt8)) (x : Ending) (w' : World) : Prop :=
  ∃ o p ok, x = .returned (.tuple #[.agg (obArr o p), .bool ok]) ∧ w.grownBy w' (some g) ∧
    ((∃ r, res = some (o, r) ∧ ok = true ∧ RS w' g (some r) ∧ ObIn w' w'.heap.size o p ∧ Above w.heap.size p) ∨ (res = none ∧ ∃ st', RS w' g st' ∧ (ok = false ∨ st' = none)))
def atNil : At := ⟨none, 0, none, 0⟩
end Go.Proofs.YtbpmgpbmeganoaaDoor

/- object.readFields: its contract. -/
namespace Go.Proofs.YtbpmgpbmeganoaaDoor
open Go.RowKit

end Go.Proofs.YtbpmgpbmeganoaaDoor

/- Package object: what is wrong with an object: the parts of Good. -/
namespace Go.Proofs.YtbpmgpbmeganoaaDoor
open Go.RowKit

def IxRel (T : List ByteArray) (x : ByteArray) (i : Value) : Prop := ∃ k : Nat, k ≤ T.length ∧ i = .int .i64 (k : Int) ∧ (T.take k).any (eqB x) = false
end Go.Proofs.YtbpmgpbmeganoaaDoor

/- Package object: entries and parents. -/
namespace Go.Proofs.YtbpmgpbmeganoaaDoor
open Go.RowKit

def GERel (L : List Ent) (w : World) (b i : Value) (wr : World) : Prop :=
  ∃ (k : Nat) (s : ByteArray), k ≤ L.length ∧ i = .int .i64 (k : Int) ∧ b = .string s ∧ entsB ⟨#[]⟩ L = entsB s (L.drop k) ∧ Below w.heap.size w wr
def PERel (T : List ByteArray) (w : World) (i : Value) (wr : World) : Prop :=
  ∃ k : Nat, k ≤ T.length ∧ i = .int .i64 (k : Int) ∧ parsE [] T = parsE (T.take k) (T.drop k) ∧ Below w.heap.size w wr
end Go.Proofs.YtbpmgpbmeganoaaDoor

/- hasStrayField: its contract, kind by kind. -/
namespace Go.Proofs.YtbpmgpbmeganoaaDoor
open Go.RowKit

theorem nil_list : (⟨#[]⟩ : ByteArray).toList = [] := by rw [toList_data]
theorem nilB_of {s : ByteArray} (h : s.toList = []) : nilB s = true := by unfold nilB; rw [h, nil_list]; rfl
theorem nilB_not {s : ByteArray} (h : ¬ s.toList = []) : nilB s = false := by unfold nilB; rw [nil_list, beq_eq_false_iff_ne]; exact h

end Go.Proofs.YtbpmgpbmeganoaaDoor
