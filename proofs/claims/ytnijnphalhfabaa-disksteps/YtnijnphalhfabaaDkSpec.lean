/- Disks: plain definitions: what the steps of package disk do. -/
import Derived.Test.YtnijnphalhfabaaWBase
import Derived.Test.YtnijnphalhfabaaRdn
namespace Go.Proofs.Ytnijnphalhfabaa
open Go.RowKit

def ltB (a b : ByteArray) : Bool := Op.bytesLess a.toList b.toList
def sameB (a b : ByteArray) : Bool := a.toList == b.toList
theorem sameB_iff (a b : ByteArray) : sameB a b = true ↔ a = b := by
  unfold sameB
  rw [beq_iff_eq, toList_data, toList_data]
  exact ⟨bytes_eq, fun h => by rw [h]⟩
theorem less_irr : ∀ l : List UInt8, Op.bytesLess l l = false
  | [] => rfl
  | a :: l => by
    rw [Op.bytesLess, less_irr l]
    simp
theorem less_trans : ∀ a b c : List UInt8, Op.bytesLess a b = true → Op.bytesLess b c = true → Op.bytesLess a c = true
  | [], [], _, h, _ => by simp [Op.bytesLess] at h
  | [], _ :: _, [], _, h => by simp [Op.bytesLess] at h
  | [], _ :: _, _ :: _, _, _ => by simp [Op.bytesLess]
  | _ :: _, [], _, h, _ => by simp [Op.bytesLess] at h
  | _ :: _, _ :: _, [], _, h => by simp [Op.bytesLess] at h
  | a :: x, b :: y, c :: z, h1, h2 => by
    have ih := less_trans x y z
    simp only [Op.bytesLess, Bool.or_eq_true, Bool.and_eq_true, decide_eq_true_eq, beq_iff_eq] at h1 h2 ⊢
    rcases h1 with h1 | ⟨rfl, h1⟩
    · rcases h2 with h2 | ⟨rfl, h2⟩
      · exact .inl (UInt8.lt_trans h1 h2)
      · exact .inl h1
    · rcases h2 with h2 | ⟨rfl, h2⟩
      · exact .inl h2
      · exact .inr ⟨rfl, ih h1 h2⟩
theorem less_tri : ∀ a b : List UInt8, Op.bytesLess a b = true ∨ a = b ∨ Op.bytesLess b a = true
  | [], [] => .inr (.inl rfl)
  | [], _ :: _ => .inl (by simp [Op.bytesLess])
  | _ :: _, [] => .inr (.inr (by simp [Op.bytesLess]))
  | a :: x, b :: y => by
    have ih := less_tri x y
    simp only [Op.bytesLess, Bool.or_eq_true, Bool.and_eq_true, decide_eq_true_eq, beq_iff_eq]
    by_cases e : a = b
    · subst e
      rcases ih with h | rfl | h
      · exact .inl (.inr ⟨rfl, h⟩)
      · exact .inr (.inl rfl)
      · exact .inr (.inr (.inr ⟨rfl, h⟩))
    · by_cases h : a < b
      · exact .inl (.inl h)
      · exact .inr (.inr (.inl (by
          rw [UInt8.lt_iff_toNat_lt] at h ⊢
          have : a.toNat ≠ b.toNat := fun q => e (UInt8.toNat_inj.1 q)
          omega)))
theorem ltB_irr (a : ByteArray) : ltB a a = false := less_irr _
theorem ltB_trans {a b c : ByteArray} (h1 : ltB a b = true) (h2 : ltB b c = true) : ltB a c = true := less_trans _ _ _ h1 h2
theorem ltB_tri (a b : ByteArray) : ltB a b = true ∨ a = b ∨ ltB b a = true := by
  rcases less_tri a.toList b.toList with h | h | h
  · exact .inl h
  · exact .inr (.inl (by rw [toList_data, toList_data] at h; exact bytes_eq h))
  · exact .inr (.inr h)
theorem ltB_ne {a b : ByteArray} (h : ltB a b = true) : a ≠ b := fun e => by rw [e, ltB_irr] at h; cases h
theorem ltB_asym {a b : ByteArray} (h : ltB a b = true) : ltB b a = false := by
  cases hb : ltB b a with
  | false => rfl
  | true => have := ltB_trans h hb; rw [ltB_irr] at this; cases this

/-- a file -/
structure Fl where
  name : ByteArray
  safe : ByteArray
  tail : ByteArray
  deriving DecidableEq
/-- a disk -/
structure Dk where
  files : List Fl
  fuse : Int
  deriving DecidableEq
def inName (c : UInt8) : Bool := (decide (97 ≤ c.toNat) && decide (c.toNat ≤ 122)) || (decide (48 ≤ c.toNat) && decide (c.toNat ≤ 57)) || decide (c.toNat = 46) || decide (c.toNat = 45)
def named (s : ByteArray) : Bool := decide (1 ≤ s.size) && decide (s.size ≤ 80) && s.data.toList.all inName
def fits (f : Fl) : Bool := decide (f.safe.size + f.tail.size ≤ 1048576)
def goodL : ByteArray → List Fl → Bool
  | _, [] => true
  | b, f :: l => named f.name && fits f && ltB b f.name && goodL f.name l
def goodD (L : List Fl) : Bool := decide (L.length ≤ 400) && goodL ⟨#[]⟩ L
/-- where the first file stands whose name is this or comes behind it -/
def low (n : ByteArray) : List Fl → Nat
  | [] => 0
  | f :: l => if ltB f.name n then low n l + 1 else 0
def getF (n : ByteArray) (L : List Fl) : Option Fl := L.find? fun f => decide (f.name = n)
def del (n : ByteArray) (L : List Fl) : List Fl := L.filter fun f => !decide (f.name = n)
/-- the files with one more, or another in its place -/
def putL (f : Fl) : List Fl → List Fl
  | [] => [f]
  | x :: l => if ltB x.name f.name then x :: putL f l else if x.name = f.name then f :: l else f :: x :: l
def wrP (L : List Fl) (n s : ByteArray) : Except Int (List Fl) :=
  if !named n then .error 2 else match getF n L with
  | none => if 400 ≤ L.length then .error 6 else if 1048576 < s.size then .error 1 else .ok (putL ⟨n, ⟨#[]⟩, s⟩ L)
  | some f => if 1048576 < f.safe.size + f.tail.size + s.size then .error 1 else .ok (putL ⟨n, f.safe, f.tail ++ s⟩ L)
def syP (L : List Fl) (n : ByteArray) : Except Int (List Fl) := match getF n L with
  | none => .error 7
  | some f => .ok (putL ⟨n, f.safe ++ f.tail, ⟨#[]⟩⟩ L)
def rnP (L : List Fl) (n m : ByteArray) : Except Int (List Fl) := if !named m then .error 2 else match getF n L with
  | none => .error 7
  | some f => .ok (putL ⟨m, f.safe, f.tail⟩ (del n L))
def rmP (L : List Fl) (n : ByteArray) : Except Int (List Fl) := match getF n L with
  | none => .error 7
  | some _ => .ok (del n L)
def burnt (z : Int) : Int := if 0 < z then z - 1 else z
/-- a step, whose change is r -/
def stepP (d : Dk) (r : Except Int (List Fl)) : Dk × Int :=
  if !goodD d.files then (d, 3) else if d.fuse = 0 then (d, 12) else match r with
  | .error e => (d, e)
  | .ok L => (⟨L, burnt d.fuse⟩, 0)
def readD (d : Dk) (n : ByteArray) : ByteArray × Int := if !goodD d.files then (⟨#[]⟩, 3) else match getF n d.files with
  | none => (⟨#[]⟩, 7)
  | some f => (f.safe ++ f.tail, 0)
def crashF (k : Nat) (f : Fl) : Fl := ⟨f.name, f.safe ++ f.tail.extract 0 (min k f.tail.size), ⟨#[]⟩⟩
def crashD (d : Dk) (k : Int) : Dk × Int := if !goodD d.files || decide (k < 0) then (d, 3) else (⟨d.files.map (crashF k.toNat), -1⟩, 0)
/-- a disk and an error; the next step, if there is none -/
def thenD (r : Dk × Int) (f : Dk → Dk × Int) : Dk × Int := if r.2 ≠ 0 then r else f r.1
def newN (n : ByteArray) : ByteArray := n ++ ⟨#[46, 110, 101, 119]⟩
def saveD (d : Dk) (n s : ByteArray) : Dk × Int :=
  if !goodD d.files then (d, 3) else if !named n || !named (newN n) then (d, 2) else
  thenD (thenD (thenD (if (getF (newN n) d.files).isSome then stepP d (rmP d.files (newN n)) else (d, 0)) fun d => stepP d (wrP d.files (newN n) s)) fun d => stepP d (syP d.files (newN n))) fun d => stepP d (rnP d.files (newN n) n)
end Go.Proofs.Ytnijnphalhfabaa
