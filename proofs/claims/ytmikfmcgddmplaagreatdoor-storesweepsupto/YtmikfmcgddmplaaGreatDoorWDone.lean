/- (*wire.Writer).Done: its contract. -/
import Derived.Test.YtmikfmcgddmplaaGreatDoorIMap
import Derived.BigQuiet
import Derived.Deep.QuietTactic
namespace Go.Proofs.YtmikfmcgddmplaaGreatDoor
open Go.RowKit

theorem copied (z x tail : List UInt8) (o : Nat) (h : z.length = o + x.length) :
    (((barr (z ++ tail)).toList.take o ++ Lib.byteCells x) ++ (barr (z ++ tail)).toList.drop (o + x.length)).toArray = barr (z.take o ++ x ++ tail) := by
  have e1 : (barr (z ++ tail)).toList = (z ++ tail).map bv := rfl
  have e2 : Lib.byteCells x = x.map bv := rfl
  rw [e1, e2, ← List.map_take, ← List.map_drop, ← List.map_append, ← List.map_append, List.take_append_of_le_length (by omega), List.drop_append, List.drop_eq_nil_of_le (by omega), List.nil_append, show o + x.length - z.length = 0 from by omega, List.drop_zero]
  rfl

theorem gb_row {w : World} (g : Nat) (cs : Array Value) : w.grownBy (w.setRow g cs) (some g) :=
  ⟨rfl, rfl, rfl, by simp [World.setRow], fun k _ hr => by
    simp only [World.setRow, Array.getElem?_modify]
    rw [if_neg (fun e => hr (by rw [e]))]⟩

end Go.Proofs.YtmikfmcgddmplaaGreatDoor
