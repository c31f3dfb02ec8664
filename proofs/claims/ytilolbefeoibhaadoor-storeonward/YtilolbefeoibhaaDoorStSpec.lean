/- Store: plain definitions: what Get, load, Put answer. -/
import Derived.Test.YtilolbefeoibhaaDoorDkMath
import Derived.Test.YtilolbefeoibhaaDoorOEncB
import Derived.Test.YtilolbefeoibhaaDoorAbc
import Derived.Test.YtilolbefeoibhaaDoorHex
namespace Go.Proofs.YtilolbefeoibhaaDoor
open Go.RowKit

def sumB (s : ByteArray) : ByteArray := bs (sha s.data.toList)
def fileN (id : ByteArray) : ByteArray := ⟨#[111]⟩ ++ bs (hexOf id.data.toList)
def tellR (r : ByteArray × Int) (id : ByteArray) : ByteArray × Int :=
  if r.2 ≠ 0 then (⟨#[]⟩, r.2) else if sumB r.1 ≠ id then (⟨#[]⟩, 5) else (r.1, 0)
def getO (d : Dk) (id : ByteArray) : ByteArray × Int := if id.size ≠ 32 then (⟨#[]⟩, 2) else tellR (readD d (fileN id)) id
/-- what load makes of what a getter tells -/
def loadR (r : ByteArray × Int) : Ob × Int :=
  if r.2 ≠ 0 then (Ob.none, 7) else if (decO r.1.data.toList).2 ≠ 0 then (Ob.none, 2) else ((decO r.1.data.toList).1, 0)
def hasO (d : Dk) (id : ByteArray) : Bool := decide ((loadR (getO d id)).2 = 0)
def putO (d : Dk) (s : ByteArray) : Dk × ByteArray × Int :=
  if (decO s.data.toList).2 ≠ 0 then (d, ⟨#[]⟩, (decO s.data.toList).2) else if hasO d (sumB s) = true then (d, sumB s, 0) else
  if (saveD d (fileN (sumB s)) s).2 ≠ 0 then ((saveD d (fileN (sumB s)) s).1, ⟨#[]⟩, (saveD d (fileN (sumB s)) s).2) else ((saveD d (fileN (sumB s)) s).1, sumB s, 0)
end Go.Proofs.YtilolbefeoibhaaDoor
