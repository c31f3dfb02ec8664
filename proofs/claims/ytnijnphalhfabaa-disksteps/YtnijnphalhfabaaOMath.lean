/- Objects, their bytes, and what is wrong with them: plain definitions. -/
import Derived.Test.YtnijnphalhfabaaWBase
import Derived.Test.YtnijnphalhfabaaRdn
import Derived.Test.YtnijnphalhfabaaORune
namespace Go.Proofs.Ytnijnphalhfabaa
open Go.RowKit

structure Ent where
  name : ByteArray
  dir : Bool
  id : ByteArray
  deriving DecidableEq
structure Ob where
  kind : Int
  data : ByteArray
  ents : List Ent
  tree : ByteArray
  pars : List ByteArray
  who : ByteArray
  note : ByteArray
  time : Int
  target : ByteArray
  deriving DecidableEq
def Ob.none : Ob := ⟨0, ⟨#[]⟩, [], ⟨#[]⟩, [], ⟨#[]⟩, ⟨#[]⟩, 0, ⟨#[]⟩⟩

/-- an empty text -/
def nilB (s : ByteArray) : Bool := s.toList == (⟨#[]⟩ : ByteArray).toList
def eqB (a b : ByteArray) : Bool := a.toList == b.toList
def leB (a b : ByteArray) : Bool := Op.bytesLess a.toList b.toList || a.toList == b.toList
theorem eqB_iff (a b : ByteArray) : eqB a b = true ↔ a = b := by
  unfold eqB
  rw [beq_iff_eq, toList_data, toList_data]
  exact ⟨bytes_eq, fun h => by rw [h]⟩
theorem nilB_iff (a : ByteArray) : nilB a = true ↔ a = ⟨#[]⟩ := eqB_iff a _

def kindB (k : Int) : Bool := k == 1 || k == 2 || k == 3 || k == 4
def strayB (o : Ob) : Bool :=
  (o.kind != 1 && !nilB o.data) || (o.kind != 2 && decide (0 < o.ents.length)) || (o.kind != 3 && (!nilB o.tree || decide (0 < o.pars.length) || o.time != 0)) ||
  (o.kind != 4 && !nilB o.target) || (o.kind != 3 && o.kind != 4 && (!nilB o.who || !nilB o.note))
def longB (o : Ob) : Bool := decide (4096 < o.data.size) || decide (4096 < o.who.size) || decide (4096 < o.note.size)
def fullB (o : Ob) : Bool := decide (64 < o.ents.length) || decide (4 < o.pars.length)
def nameB (s : ByteArray) : Bool := !(nilB s || decide (60 < s.size) || eqB s ⟨#[46]⟩ || eqB s ⟨#[46, 46]⟩) && !hasBarred s
def idB (s : ByteArray) : Bool := s.size == 32
def entsB : ByteArray → List Ent → Bool
  | _, [] => true
  | b, e :: l => nameB e.name && idB e.id && !leB e.name b && entsB e.name l
def parsE : List ByteArray → List ByteArray → Int
  | _, [] => 0
  | had, p :: l => if !idB p then 2 else if had.any (eqB p) then 8 else parsE (had ++ [p]) l
def noIdB (o : Ob) : Bool := (o.kind == 3 && !idB o.tree) || (o.kind == 4 && !idB o.target)
def zeroB (o : Ob) : Bool := hasZero o.who || hasZero o.note
def lateB (o : Ob) : Bool := decide (o.time < 0) || decide (1099511627776 ≤ o.time)
/-- what Good answers -/
def good (o : Ob) : Int :=
  if !kindB o.kind then 4 else if strayB o then 2 else if longB o then 1 else if fullB o then 6 else if !entsB ⟨#[]⟩ o.ents then 2
  else if parsE [] o.pars ≠ 0 then parsE [] o.pars else if noIdB o then 2 else if zeroB o then 2 else if lateB o then 3 else 0
end Go.Proofs.Ytnijnphalhfabaa
