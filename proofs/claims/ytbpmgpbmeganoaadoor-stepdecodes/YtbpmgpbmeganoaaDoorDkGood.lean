/- Texts in one: DkNamed, DkGood. -/
import Derived.Test.YtbpmgpbmeganoaaDoorDkMem
import Derived.Deep.Cut
import Derived.Deep.RegionWith
import Derived.Deep.RegionLaw
import Derived.StillTailTactics
/- disk.inNames, Named, size, content, burnt: their contracts. -/
namespace Go.Proofs.YtbpmgpbmeganoaaDoor
open Go.RowKit

def NmRel (s : ByteArray) (w : World) (i : Value) (wr : World) : Prop :=
  ∃ k : Nat, k ≤ s.size ∧ i = .int .i64 (k : Int) ∧ (s.data.toList.take k).all inName = true ∧ wr = w
end Go.Proofs.YtbpmgpbmeganoaaDoor

/- disk.Good: its contract. -/
namespace Go.Proofs.YtbpmgpbmeganoaaDoor
open Go.RowKit

/-- texts that memory bears -/
def Sized (L : List Fl) : Prop := ∀ f ∈ L, f.name.size ≤ 140737488355328 ∧ f.safe.size ≤ 140737488355328 ∧ f.tail.size ≤ 140737488355328
end Go.Proofs.YtbpmgpbmeganoaaDoor
