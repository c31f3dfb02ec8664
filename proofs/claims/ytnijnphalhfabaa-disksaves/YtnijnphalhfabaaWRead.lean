/- The methods of a reader: their contracts. -/
import Derived.Test.YtnijnphalhfabaaDkMath
namespace Go.Proofs.Ytnijnphalhfabaa
open Go.RowKit

section
variable {w w1 w2 : World} {r : Option Nat}
theorem gb_trans (h : w.grownBy w1 r) (k : w1.grownBy w2 r) : w.grownBy w2 r :=
  ⟨k.os.trans h.os, k.tape.trans h.tape, k.output.trans h.output, Nat.le_trans h.size k.size, fun i hi hr => (k.block i (Nat.lt_of_lt_of_le hi h.size) hr).trans (h.block i hi hr)⟩
theorem gb_below (h : Below w.heap.size w w1) : w.grownBy w1 r := ⟨h.os, h.tape, h.output, h.size, fun i hi _ => h.block i hi⟩
theorem gb_set (g i : Nat) (u : Value) : w.grownBy (w.setCell ⟨g, i, none⟩ u) (some g) :=
  ⟨rfl, rfl, rfl, by simp [World.setCell], fun k _ hr => Below.heap_setCell w ⟨g, i, none⟩ u k (fun e => hr (by rw [e]))⟩
theorem gb_alloc (o : Obj) : w.grownBy (w.alloc o) r := gb_below ((Below.refl _ _).alloc (Nat.le_refl _) o)
/-- what is made anew may change as it likes -/
theorem gb_new {g : Nat} (h : w.grownBy w1 r) (k : w1.grownBy w2 (some g)) (hg : w.heap.size ≤ g) : w.grownBy w2 r :=
  ⟨k.os.trans h.os, k.tape.trans h.tape, k.output.trans h.output, Nat.le_trans h.size k.size, fun i hi hr => (k.block i (Nat.lt_of_lt_of_le hi h.size) (fun e => by cases e; omega)).trans (h.block i hi hr)⟩
theorem below_gb {B : Nat} {a : World} {g : Nat} (h : Below B a w) (k : w.grownBy w1 (some g)) (hg : B ≤ g) (hB : B ≤ w.heap.size) : Below B a w1 :=
  h.grown k hB (fun _ e => by cases e; exact hg)
theorem Arr.kept {g : Nat} {t : TypeId} {cs : Array Value} (h : Arr w g t cs) (k : w.grownBy w1 r) (hr : some g ≠ r) : Arr w1 g t cs := (k.block g h.lt hr).trans h
end

end Go.Proofs.Ytnijnphalhfabaa
