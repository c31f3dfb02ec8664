/- wire.numberBytes, wire.Put, wire.PutText: their contracts. -/
import Derived.Test.YtnijnphalhfabaaProg
import Derived.Test.YtnijnphalhfabaaBytes
import Derived.Test.YtnijnphalhfabaaInf
import Derived.Test.YtnijnphalhfabaaWNum
namespace Go.Proofs.Ytnijnphalhfabaa
open Go.RowKit

theorem group_byte (m : Nat) : bits .or .u8 ((m : Int) % 256) 128 = ((UInt8.ofNat (m % 128 + 128)).toNat : Int) := by
  have key : ∀ k : Fin 256, bits .or .u8 ((k.val : Nat) : Int) 128 = ((UInt8.ofNat (k.val % 128 + 128)).toNat : Int) := by decide +kernel
  have h := key ⟨m % 256, Nat.mod_lt _ (by decide)⟩
  have e : (m : Int) % 256 = ((m % 256 : Nat) : Int) := by omega
  rw [e, h]
  simp only
  rw [show m % 256 % 128 = m % 128 from by omega]
theorem last_byte (m : Nat) : IntKind.u8.wrap (m : Int) = ((UInt8.ofNat m).toNat : Int) := by
  rw [IntKind.wrap_u8', UInt8.toNat_ofNat']; omega

def NBRel (n base : Nat) (w : World) (t0 t3 : Value) (wr : World) : Prop :=
  ∃ (m : Nat) (done : List UInt8), m < 4611686018427387904 ∧ num n = done ++ num m ∧ t0 = .int .i64 (m : Int) ∧ t3 = .slice (some ⟨base, 0, none⟩) done.length 9 ∧
    wr.ownsRow base 5 1 (.slice (some ⟨base, 0, none⟩) done.length 9) done.length (done.map bv) ∧ Below base w wr

end Go.Proofs.Ytnijnphalhfabaa
