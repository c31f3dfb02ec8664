/- Texts in one: OIds, Abc. -/
import Derived.Test.YtmikfmcgddmplaaGreatDoorBw
import Derived.Test.YtmikfmcgddmplaaGreatDoorSum
import Derived.Test.YtmikfmcgddmplaaGreatDoorShb
/- keep.objects, keep.ObjectIds: the walks. -/
namespace Go.Proofs.YtmikfmcgddmplaaGreatDoor
open Go.RowKit

theorem Id_any (b : ByteArray) (hb : b.size < 1152921504606846976) (w : World) (ht : Tab w) :
    Calls Tryz.prog 52 #[.string b] w fun e w' => e = .returned (.string (bs (sha b.data.toList))) ∧ Below w.heap.size w w' := by
  have C := Lib.hid (Sum_any b hb w ht)
  generalize bs (sha b.data.toList) = S at *
  go_enter Tryz.func52, Tryz.ntmps52
  go_wp2_with fail
  (with_reducible refine C.out.mono ?_)
  rintro _ w1 ⟨rfl, b1⟩
  go_wp2_with fail
  go_ret
  exact ⟨rfl, b1⟩
theorem enc_inj {o q : Ob} (h1 : encE o = 0) (h2 : encE q = 0) (h : encS o = encS q) : o = q := by
  have e1 := enc_back h1
  have e2 := enc_back h2
  rw [h, e2] at e1
  simp only [Prod.mk.injEq, and_true] at e1
  exact e1.symm
/-- two boxed objects, and the table -/
structure Bt (w : World) (o q : Ob) (p p' : At) (W : World) : Prop where
  bs : Bs w o q p p' W
  tab : Tab W
theorem Bt.below {w W W' : World} {o q : Ob} {p p' : At} (h : Bt w o q p p' W) (b : Below W.heap.size W W') : Bt w o q p p' W' := ⟨h.bs.below b, h.tab.below b h.tab.1⟩

end Go.Proofs.YtmikfmcgddmplaaGreatDoor

/- The digest of three letters, by the kernel; hexadecimal digits: plain mathematics, no program is named here. -/
namespace Go.Proofs.YtmikfmcgddmplaaGreatDoor
def abcDigest : List UInt8 := [0xba, 0x78, 0x16, 0xbf, 0x8f, 0x01, 0xcf, 0xea, 0x41, 0x41, 0x40, 0xde, 0x5d, 0xae, 0x22, 0x23, 0xb0, 0x03, 0x61, 0xa3, 0x96, 0x17, 0x7a, 0x9c, 0xb4, 0x10, 0xff, 0x61, 0xf2, 0x00, 0x15, 0xad]
set_option maxRecDepth 100000 in
theorem abc_block : digest (block startH ([97, 98, 99] ++ pad 3)) = abcDigest := by decide +kernel
theorem sha_abc : sha [97, 98, 99] = abcDigest := by
  rw [← abc_block]
  unfold sha shaFrom
  rw [blocks_end startH [97, 98, 99] (by decide)]
  have h : ([97, 98, 99] : List UInt8).drop (([97, 98, 99] : List UInt8).length - ([97, 98, 99] : List UInt8).length % 64) ++ pad ([97, 98, 99] : List UInt8).length = [97, 98, 99] ++ pad 3 := rfl
  rw [h, blocks_step _ _ (by decide +kernel), blocks_end _ _ (by decide +kernel)]
  rw [List.take_of_length_le (by decide +kernel)]

/-- the digits -/
def digs : List UInt8 := [48, 49, 50, 51, 52, 53, 54, 55, 56, 57, 97, 98, 99, 100, 101, 102]
def hd (n : Nat) : UInt8 := digs.getD n 0
def hexOf (l : List UInt8) : List UInt8 := l.flatMap fun b => [hd (b.toNat / 16), hd (b.toNat % 16)]
theorem hexOf_append (a b : List UInt8) : hexOf (a ++ b) = hexOf a ++ hexOf b := by simp [hexOf]
theorem hexOf_length (l : List UInt8) : (hexOf l).length = 2 * l.length := by
  induction l with
  | nil => rfl
  | cons b l ih => have := hexOf_append [b] l; simp only [List.singleton_append] at this; rw [this, List.length_append, ih]; simp [hexOf]; omega
theorem hexOf_take (l : List UInt8) (k : Nat) (h : k < l.length) : hexOf (l.take (k + 1)) = hexOf (l.take k) ++ [hd ((l.getD k 0).toNat / 16), hd ((l.getD k 0).toNat % 16)] := by
  rw [List.take_succ_eq_append_getElem h, hexOf_append]
  simp [hexOf, h]
end Go.Proofs.YtmikfmcgddmplaaGreatDoor
