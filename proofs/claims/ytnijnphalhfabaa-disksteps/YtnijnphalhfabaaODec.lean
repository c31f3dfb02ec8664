/- Reading an object's bytes: plain definitions, and a reader's contracts by them. -/
import Derived.Test.YtnijnphalhfabaaOEnc
import Derived.Test.YtnijnphalhfabaaWRead
import Derived.Test.YtnijnphalhfabaaRdn
namespace Go.Proofs.Ytnijnphalhfabaa
open Go.RowKit

def rdText (l : List UInt8) : Option (ByteArray × List UInt8) :=
  match rdNum l with
  | none => none
  | some (n, r) => if n ≤ 4096 ∧ n ≤ r.length then some (bs (r.take n), r.drop n) else none
def rdId (l : List UInt8) : Option (ByteArray × List UInt8) := if 32 ≤ l.length then some (bs (l.take 32), l.drop 32) else none

/-- what is left of a reader's bytes; none: something went wrong -/
abbrev St := Option (List UInt8)
def stNum : St → Nat × St
  | none => (0, none)
  | some l => match rdNum l with
    | none => (0, none)
    | some (n, r) => (n, some r)
def stTxt : St → ByteArray × St
  | none => (⟨#[]⟩, none)
  | some l => match rdText l with
    | none => (⟨#[]⟩, none)
    | some (t, r) => (t, some r)
def stId : St → ByteArray × St
  | none => (⟨#[]⟩, none)
  | some l => match rdId l with
    | none => (⟨#[]⟩, none)
    | some (t, r) => (t, some r)
def rdPars : Nat → List UInt8 → Option (List ByteArray × List UInt8)
  | 0, l => some ([], l)
  | n + 1, l => match rdId l with
    | none => none
    | some (p, r) => match rdPars n r with
      | none => none
      | some (T, r2) => some (p :: T, r2)
def rdEnt (l : List UInt8) : Option (Ent × List UInt8) :=
  match rdText l with
  | none => none
  | some (nm, l1) => match rdNum l1 with
    | none => none
    | some (d, l2) => match rdId l2 with
      | none => none
      | some (id, l3) => if 1 < d then none else some (⟨nm, d == 1, id⟩, l3)
def rdEnts : Nat → List UInt8 → Option (List Ent × List UInt8)
  | 0, l => some ([], l)
  | n + 1, l => match rdEnt l with
    | none => none
    | some (e, r) => match rdEnts n r with
      | none => none
      | some (T, r2) => some (e :: T, r2)
/-- the parents, or none and an error -/
def stPars (st : St) : List ByteArray × St :=
  match (stNum st).2 with
  | none => ([], none)
  | some l => match rdPars (stNum st).1 l with
    | none => ([], none)
    | some (T, r) => (T, some r)
theorem stNum_none {st : St} (h : (stNum st).2 = none) : (stNum st).1 = 0 := by
  cases st with
  | none => rfl
  | some l =>
    unfold stNum at *
    cases hg : rdNum l with
    | none => simp [hg]
    | some y => simp [hg] at h
end Go.Proofs.Ytnijnphalhfabaa
