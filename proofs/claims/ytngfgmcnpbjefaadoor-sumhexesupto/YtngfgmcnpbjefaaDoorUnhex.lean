/- strings.IndexByte over the digits, and sum.Unhex: their contracts. -/
import Derived.Test.YtngfgmcnpbjefaaDoorHex
import Derived.Lib.Bytealg
namespace Go.Proofs.YtngfgmcnpbjefaaDoor
open Go.RowKit

/-- the value of a digit; -1: it is none -/
def dv (c : UInt8) : Int := Lib.indexByte digs c

set_option maxRecDepth 100000 in
set_option maxHeartbeats 1000000 in
theorem IndexByte_any (c : UInt8) (w : World) :
    Calls Tryd.prog 37 #[.string { data := #[48, 49, 50, 51, 52, 53, 54, 55, 56, 57, 97, 98, 99, 100, 101, 102] }, .int .u8 (c.toNat : Int)] w
      fun e w' => e = .returned (.int .i64 (dv c)) ∧ w = w' := by
  have hc : ∀ w, (callFunc 48 #[.string { data := #[48, 49, 50, 51, 52, 53, 54, 55, 56, 57, 97, 98, 99, 100, 101, 102] }, .int .u8 (c.toNat : Int)]).run Tryd.prog w = .ok (.value (.int .i64 (dv c))) w := fun w => by
    rw [run_callFunc_extern Tryd.func48 (by kernel_rfl) (by kernel_rfl) (by kernel_rfl) (by kernel_rfl : Extern.find Tryd.f48 = some Extern.BytealgIndexByte.indexByte), Lib.run_indexByteString]
    have e : ((c.toNat : Int)).toNat.toUInt8 = c := by rw [Int.toNat_natCast]; simp
    rw [e]
    rfl
  go_enter Tryd.func37, Tryd.ntmps37
  go_wp2
  go_ret
  exact ⟨rfl, rfl⟩

theorem dv_hd (n : Nat) (h : n < 16) : dv (hd n) = (n : Int) := by
  have key : ∀ k : Fin 16, dv (hd k.val) = (k.val : Int) := by decide +kernel
  exact key ⟨n, h⟩
theorem dv_cases (c : UInt8) : dv c = -1 ∨ ∃ n : Nat, n < 16 ∧ dv c = (n : Int) ∧ hd n = c := by
  have key : ∀ k : Fin 256, dv (UInt8.ofNat k.val) = -1 ∨ ∃ n : Fin 16, dv (UInt8.ofNat k.val) = (n.val : Int) ∧ hd n.val = UInt8.ofNat k.val := by decide +kernel
  have h := key ⟨c.toNat, c.toNat_lt⟩
  simp only [UInt8.ofNat_toNat] at h
  rcases h with h | ⟨n, h1, h2⟩
  · exact .inl h
  · exact .inr ⟨n.val, n.isLt, h1, h2⟩

/-- a byte out of two digits -/
def byte2 (a b : UInt8) : UInt8 := UInt8.ofNat ((dv a).toNat * 16 + (dv b).toNat)
/-- the bytes of digits; none: they are no digits -/
def unpair : List UInt8 → Option (List UInt8)
  | [] => some []
  | [_] => none
  | a :: b :: l => if dv a < 0 ∨ dv b < 0 then none else (unpair l).map (byte2 a b :: ·)
theorem byte_join (x y : Nat) (hx : x < 16) (hy : y < 16) : IntKind.u8.wrap (bits .or .i64 ((x : Int) * 16) (y : Int)) = ((UInt8.ofNat (x * 16 + y)).toNat : Int) := by
  have key : ∀ x y : Fin 16, IntKind.u8.wrap (bits .or .i64 ((x.val : Int) * 16) (y.val : Int)) = ((UInt8.ofNat (x.val * 16 + y.val)).toNat : Int) := by decide +kernel
  exact key ⟨x, hx⟩ ⟨y, hy⟩
theorem unpair_hex (l : List UInt8) : unpair (hexOf l) = some l := by
  induction l with
  | nil => rfl
  | cons b l ih =>
    have hb := b.toNat_lt
    have e : hexOf (b :: l) = hd (b.toNat / 16) :: hd (b.toNat % 16) :: hexOf l := by simp [hexOf]
    rw [e, unpair, dv_hd _ (by omega), dv_hd _ (by omega), if_neg (by omega), ih]
    simp only [Option.map_some, Option.some.injEq, List.cons.injEq, and_true]
    unfold byte2
    rw [dv_hd _ (by omega), dv_hd _ (by omega)]
    apply UInt8.toNat_inj.1
    rw [UInt8.toNat_ofNat']
    omega
theorem hex_unpair_n (n : Nat) : ∀ (l p : List UInt8), l.length ≤ n → unpair l = some p → hexOf p = l := by
  induction n with
  | zero =>
    intro l p hl h
    have : l = [] := List.eq_nil_of_length_eq_zero (by omega)
    subst this
    simp [unpair] at h
    subst h
    rfl
  | succ n ih =>
    intro l p hl h
    match l, hl, h with
    | [], _, h => simp [unpair] at h; subst h; rfl
    | [_], _, h => simp [unpair] at h
    | a :: b :: l, hl, h =>
      rw [unpair] at h
      by_cases hn : dv a < 0 ∨ dv b < 0
      · rw [if_pos hn] at h; cases h
      · rw [if_neg hn] at h
        obtain ⟨q, hq, rfl⟩ := Option.map_eq_some_iff.1 h
        have ih' := ih l q (by simp at hl; omega) hq
        have ha := dv_cases a
        have hb := dv_cases b
        rcases ha with ha | ⟨x, hx, ha, hxa⟩
        · omega
        · rcases hb with hb | ⟨y, hy, hb, hyb⟩
          · omega
          · have e : hexOf (byte2 a b :: q) = hd ((byte2 a b).toNat / 16) :: hd ((byte2 a b).toNat % 16) :: hexOf q := by simp [hexOf]
            have e2 : (byte2 a b).toNat = x * 16 + y := by
              unfold byte2
              rw [ha, hb, UInt8.toNat_ofNat', Int.toNat_natCast, Int.toNat_natCast]
              omega
            rw [e, e2, ih', show (x * 16 + y) / 16 = x from by omega, show (x * 16 + y) % 16 = y from by omega, hxa, hyb]
theorem hex_unpair (l p : List UInt8) (h : unpair l = some p) : hexOf p = l := hex_unpair_n l.length l p (Nat.le_refl _) h
theorem unpair_even_n (n : Nat) : ∀ (l p : List UInt8), l.length ≤ n → unpair l = some p → l.length = 2 * p.length := by
  intro l p _ h
  rw [← hex_unpair l p h, hexOf_length]
end Go.Proofs.YtngfgmcnpbjefaaDoor
