/- Texts in one: ORune, OMath, WRead. -/
import Derived.Test.YtenjnaebhbmfiaaDoorProg
import Derived.Test.YtenjnaebhbmfiaaDoorMem
import Derived.Lib.OthersKept
import Derived.Lib.MapLaws
import Derived.Deep.LoopGhost
import Derived.Shelf.Abstract
import Derived.Below
import Derived.Test.YtenjnaebhbmfiaaDoorRfSpec
/- strings.ContainsFunc with a function that tells runes of 128 and more not apart: it goes by single bytes. -/
namespace Go.Proofs.YtenjnaebhbmfiaaDoor
open Go.RowKit Go.Lib

/-- byte j of a text (0 behind its end), as a number -/
def byteAt (s : ByteArray) (j : Nat) : Nat := (s.data.toList.getD j 0).toNat
theorem rune_bytes (p : Nat → Bool) (hc : ∀ x y, 128 ≤ x → 128 ≤ y → p x = p y) (s : ByteArray) (pos : Nat) :
    p (Utf8.decode s pos).1 = p (byteAt s pos) ∧ ∀ j, pos ≤ j → j < pos + (Utf8.decode s pos).2 → p (byteAt s j) = p (byteAt s pos) := by
  rw [Go.Lib.decode_N]
  have e0 : (s.data.toList.getD pos 0).toNat = byteAt s pos := rfl
  have e1 : (s.data.toList.getD (pos + 1) 0).toNat = byteAt s (pos + 1) := rfl
  have e2 : (s.data.toList.getD (pos + 2) 0).toNat = byteAt s (pos + 2) := rfl
  have e3 : (s.data.toList.getD (pos + 3) 0).toNat = byteAt s (pos + 3) := rfl
  rw [e0, e1, e2, e3]
  clear e0 e1 e2 e3
  by_cases h0 : byteAt s pos < 128
  · have e : ∀ n b1 b2 b3, decodeN n (byteAt s pos) b1 b2 b3 = (byteAt s pos, 1) := fun n b1 b2 b3 => by unfold decodeN; rw [if_pos h0]
    rw [e]
    refine ⟨rfl, fun j h1 h2 => ?_⟩
    have : j = pos := by simp only at h2; omega
    rw [this]
  · rcases decodeN_shape (s.data.toList.length - pos) (byteAt s pos) (byteAt s (pos + 1)) (byteAt s (pos + 2)) (byteAt s (pos + 3)) with ⟨q, _⟩ | ⟨q0, _, q1, hr, e⟩ | ⟨q0, _, q1, q2, hr, _, e⟩ | ⟨q0, _, q1, q2, q3, hr, _, e⟩ | e
    · exact absurd q h0
    · rw [e]
      refine ⟨hc _ _ (by simp only; omega) (by omega), fun j h1 h2 => ?_⟩
      simp only at h2
      obtain rfl | rfl : j = pos ∨ j = pos + 1 := by omega
      · rfl
      · exact hc _ _ (by omega) (by omega)
    · rw [e]
      refine ⟨hc _ _ (by simp only; omega) (by omega), fun j h1 h2 => ?_⟩
      simp only at h2
      obtain rfl | rfl | rfl : j = pos ∨ j = pos + 1 ∨ j = pos + 2 := by omega
      · rfl
      · exact hc _ _ (by omega) (by omega)
      · exact hc _ _ (by omega) (by omega)
    · rw [e]
      refine ⟨hc _ _ (by simp only; omega) (by omega), fun j h1 h2 => ?_⟩
      simp only at h2
      obtain rfl | rfl | rfl | rfl : j = pos ∨ j = pos + 1 ∨ j = pos + 2 ∨ j = pos + 3 := by omega
      · rfl
      · exact hc _ _ (by omega) (by omega)
      · exact hc _ _ (by omega) (by omega)
      · exact hc _ _ (by omega) (by omega)
    · rw [e]
      refine ⟨hc _ _ (by simp only; omega) (by omega), fun j h1 h2 => ?_⟩
      have : j = pos := by simp only at h2; omega
      rw [this]

/-- is there a byte of which p holds? -/
def hasB (p : Nat → Bool) (s : ByteArray) : Bool := s.data.toList.any fun b => p b.toNat
theorem hasB_no (p : Nat → Bool) (s : ByteArray) (h : ∀ j, j < s.size → p (byteAt s j) = false) : hasB p s = false := by
  unfold hasB
  rw [List.any_eq_false]
  intro b hb
  obtain ⟨j, hj, rfl⟩ := List.getElem_of_mem hb
  have := h j hj
  unfold byteAt at this
  rw [List.getD_eq_getElem?_getD, List.getElem?_eq_getElem hj] at this
  simpa using this
theorem hasB_yes (p : Nat → Bool) (s : ByteArray) (j : Nat) (hj : j < s.size) (h : p (byteAt s j) = true) : hasB p s = true := by
  unfold hasB
  rw [List.any_eq_true]
  unfold byteAt at h
  have hj' : j < s.data.toList.length := hj
  rw [List.getD_eq_getElem?_getD, List.getElem?_eq_getElem hj'] at h
  exact ⟨_, List.getElem_mem hj', by simpa using h⟩

/-- a function of runes that answers p -/
def Pred (g : Nat) (p : Nat → Bool) : Prop := ∀ (W : World) (x : Nat), x ≤ 1114111 → Calls Tryd.prog g #[.int .i32 (x : Int)] W fun e w' => e = .returned (.bool (p x)) ∧ W = w'

theorem cast_eq (x k : Nat) : ((x : Int) == (k : Int)) = (x == k) := by
  rw [Bool.eq_iff_iff, beq_iff_eq, beq_iff_eq]
  omega
def zeroP (x : Nat) : Bool := x == 0
def barredP (x : Nat) : Bool := decide (x < 33) || decide (126 < x) || x == 47
/-- a text with a byte 0 -/
abbrev hasZero (s : ByteArray) : Bool := hasB zeroP s
abbrev hasBarred (s : ByteArray) : Bool := hasB barredP s
end Go.Proofs.YtenjnaebhbmfiaaDoor

/- Objects, their bytes, and what is wrong with them: plain definitions. -/
namespace Go.Proofs.YtenjnaebhbmfiaaDoor
open Go.RowKit

structure Ent where
  name : ByteArray
  dir : Bool
  id : ByteArray
  deriving DecidableEq
structure Ob where
  kind : Int
  data : ByteArray
  ents : List Ent
  tree : ByteArray
  pars : List ByteArray
  who : ByteArray
  note : ByteArray
  time : Int
  target : ByteArray
  deriving DecidableEq
def Ob.none : Ob := ⟨0, ⟨#[]⟩, [], ⟨#[]⟩, [], ⟨#[]⟩, ⟨#[]⟩, 0, ⟨#[]⟩⟩

/-- an empty text -/
def nilB (s : ByteArray) : Bool := s.toList == (⟨#[]⟩ : ByteArray).toList
def eqB (a b : ByteArray) : Bool := a.toList == b.toList
def leB (a b : ByteArray) : Bool := Op.bytesLess a.toList b.toList || a.toList == b.toList
theorem eqB_iff (a b : ByteArray) : eqB a b = true ↔ a = b := by
  unfold eqB
  rw [beq_iff_eq, toList_data, toList_data]
  exact ⟨bytes_eq, fun h => by rw [h]⟩
theorem nilB_iff (a : ByteArray) : nilB a = true ↔ a = ⟨#[]⟩ := eqB_iff a _

def kindB (k : Int) : Bool := k == 1 || k == 2 || k == 3 || k == 4
def strayB (o : Ob) : Bool :=
  (o.kind != 1 && !nilB o.data) || (o.kind != 2 && decide (0 < o.ents.length)) || (o.kind != 3 && (!nilB o.tree || decide (0 < o.pars.length) || o.time != 0)) ||
  (o.kind != 4 && !nilB o.target) || (o.kind != 3 && o.kind != 4 && (!nilB o.who || !nilB o.note))
def longB (o : Ob) : Bool := decide (4096 < o.data.size) || decide (4096 < o.who.size) || decide (4096 < o.note.size)
def fullB (o : Ob) : Bool := decide (64 < o.ents.length) || decide (4 < o.pars.length)
def nameB (s : ByteArray) : Bool := !(nilB s || decide (60 < s.size) || eqB s ⟨#[46]⟩ || eqB s ⟨#[46, 46]⟩) && !hasBarred s
def idB (s : ByteArray) : Bool := s.size == 32
def entsB : ByteArray → List Ent → Bool
  | _, [] => true
  | b, e :: l => nameB e.name && idB e.id && !leB e.name b && entsB e.name l
def parsE : List ByteArray → List ByteArray → Int
  | _, [] => 0
  | had, p :: l => if !idB p then 2 else if had.any (eqB p) then 8 else parsE (had ++ [p]) l
def noIdB (o : Ob) : Bool := (o.kind == 3 && !idB o.tree) || (o.kind == 4 && !idB o.target)
def zeroB (o : Ob) : Bool := hasZero o.who || hasZero o.note
def lateB (o : Ob) : Bool := decide (o.time < 0) || decide (1099511627776 ≤ o.time)
/-- what Good answers -/
def good (o : Ob) : Int :=
  if !kindB o.kind then 4 else if strayB o then 2 else if longB o then 1 else if fullB o then 6 else if !entsB ⟨#[]⟩ o.ents then 2
  else if parsE [] o.pars ≠ 0 then parsE [] o.pars else if noIdB o then 2 else if zeroB o then 2 else if lateB o then 3 else 0
end Go.Proofs.YtenjnaebhbmfiaaDoor

/- The methods of a reader: their contracts. -/
namespace Go.Proofs.YtenjnaebhbmfiaaDoor
open Go.RowKit

section
variable {w w1 w2 : World} {r : Option Nat}
theorem gb_trans (h : w.grownBy w1 r) (k : w1.grownBy w2 r) : w.grownBy w2 r :=
  ⟨k.os.trans h.os, k.tape.trans h.tape, k.output.trans h.output, Nat.le_trans h.size k.size, fun i hi hr => (k.block i (Nat.lt_of_lt_of_le hi h.size) hr).trans (h.block i hi hr)⟩
theorem gb_below (h : Below w.heap.size w w1) : w.grownBy w1 r := ⟨h.os, h.tape, h.output, h.size, fun i hi _ => h.block i hi⟩
theorem gb_set (g i : Nat) (u : Value) : w.grownBy (w.setCell ⟨g, i, none⟩ u) (some g) :=
  ⟨rfl, rfl, rfl, by simp [World.setCell], fun k _ hr => Below.heap_setCell w ⟨g, i, none⟩ u k (fun e => hr (by rw [e]))⟩
theorem gb_alloc (o : Obj) : w.grownBy (w.alloc o) r := gb_below ((Below.refl _ _).alloc (Nat.le_refl _) o)
/-- what is made anew may change as it likes -/
theorem gb_new {g : Nat} (h : w.grownBy w1 r) (k : w1.grownBy w2 (some g)) (hg : w.heap.size ≤ g) : w.grownBy w2 r :=
  ⟨k.os.trans h.os, k.tape.trans h.tape, k.output.trans h.output, Nat.le_trans h.size k.size, fun i hi hr => (k.block i (Nat.lt_of_lt_of_le hi h.size) (fun e => by cases e; omega)).trans (h.block i hi hr)⟩
theorem below_gb {B : Nat} {a : World} {g : Nat} (h : Below B a w) (k : w.grownBy w1 (some g)) (hg : B ≤ g) (hB : B ≤ w.heap.size) : Below B a w1 :=
  h.grown k hB (fun _ e => by cases e; exact hg)
theorem Arr.kept {g : Nat} {t : TypeId} {cs : Array Value} (h : Arr w g t cs) (k : w.grownBy w1 r) (hr : some g ≠ r) : Arr w1 g t cs := (k.block g h.lt hr).trans h
end

end Go.Proofs.YtenjnaebhbmfiaaDoor
