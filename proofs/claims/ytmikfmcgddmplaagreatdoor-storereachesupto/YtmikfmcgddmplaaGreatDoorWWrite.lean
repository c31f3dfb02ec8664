/- The methods of a writer: their contracts. -/
import Derived.Test.YtmikfmcgddmplaaGreatDoorWRead
import Derived.Test.YtmikfmcgddmplaaGreatDoorRdn
import Derived.Lib.BufferWrite
import Derived.StillTailTactics
namespace Go.Proofs.YtmikfmcgddmplaaGreatDoor
open Go.RowKit

theorem Arr.ne {w : World} {g g' : Nat} {t t' : TypeId} {cs cs' : Array Value} (h : Arr w g t cs) (h' : Arr w g' t' cs') (ht : t ≠ t') : g ≠ g' := by
  rintro rfl
  unfold Arr at h h'
  rw [h] at h'
  simp only [Option.some.injEq, Obj.cells.injEq] at h'
  exact ht h'.2.1

/-- the bytes of pieces, the last piece first -/
def cat : List ByteArray → List UInt8
  | [] => []
  | p :: ps => cat ps ++ p.data.toList
/-- the number of a pointer's block, and one; 0: nil -/
def ptrN : Value → Nat
  | .pointer (some a) => a.block + 1
  | _ => 0
end Go.Proofs.YtmikfmcgddmplaaGreatDoor
