/- keep.SumStates at every state: which way it goes. -/
import Derived.Test.YtngfgmcnpbjefaaDoorStates
namespace Go.Proofs.YtngfgmcnpbjefaaDoor
open Go.RowKit

theorem isS (hs : List UInt32) (h8 : hs.length = 8) (r : ByteArray) (m : Int) : IsS (sarr hs r m) := ⟨hs, r, m, rfl, h8⟩
theorem isZ : IsS zeroS := isS _ rfl _ _
/-- the state behind more bytes -/
def addS (hs : List UInt32) (r : ByteArray) (m : Nat) (b : ByteArray) : Array Value :=
  sarr (blocks hs (r.data.toList ++ b.data.toList)) (bs (restOf (r.data.toList ++ b.data.toList))) ((m + b.size : Nat) : Int)
theorem isAdd (hs : List UInt32) (h8 : hs.length = 8) (r : ByteArray) (m : Nat) (b : ByteArray) : IsS (addS hs r m b) := isS _ (blocks_len8 _ _ h8) _ _
theorem add_is (hs : List UInt32) (h8 : hs.length = 8) (r b : ByteArray) (m : Nat) (h : okS r m) (hb : m + b.size < 1152921504606846976) : AddIs (sarr hs r m) b (addS hs r m b) 0 :=
  fun W hT => Add_ok hs h8 r b m h hb W hT
theorem okAdd (_hs : List UInt32) (r b : ByteArray) (m : Nat) (h : okS r m) (hb : m + b.size < 1152921504606846976) : okS (bs (restOf (r.data.toList ++ b.data.toList))) ((m + b.size : Nat) : Int) := by
  have hr := h.2.2
  refine ⟨by omega, by omega, ?_⟩
  rw [bs_size, restOf_length, List.length_append]
  show (((r.size + b.size) % 64 : Nat) : Int) = _
  omega
/-- twice is at once -/
theorem addS_twice (hs : List UInt32) (r a b : ByteArray) (m : Nat) :
    addS (blocks hs (r.data.toList ++ a.data.toList)) (bs (restOf (r.data.toList ++ a.data.toList))) (m + a.size) b = addS hs r m (a ++ b) := by
  obtain ⟨e1, e2⟩ := blocks_restOf hs (r.data.toList ++ a.data.toList) b.data.toList
  unfold addS
  rw [bs_list, append_list, ← List.append_assoc, ← e1, ← e2, ByteArray.size_append, Nat.add_assoc]
theorem zero_ok : okS ⟨#[]⟩ ((0 : Nat) : Int) := ⟨by omega, by omega, rfl⟩

theorem SumStates_any (hs : List UInt32) (h8 : hs.length = 8) (r a b : ByteArray) (m : Int) (hm : -9223372036854775808 ≤ m) (hM : m ≤ 9223372036854775807) (ha : a.size ≤ 140737488355328) (hb : b.size ≤ 140737488355328) (w : World) (ht : Tab w) :
    Calls Tryd.prog 8 #[.agg (sarr hs r m), .string a, .string b] w fun e w' => e = .returned (.bool true) ∧ Below w.heap.size w w' := by
  have hab : ¬ (9223372036854775807 < a.size + b.size) := by omega
  have hs2 : (a ++ b).size = a.size + b.size := ByteArray.size_append ..
  have Z : AddIs zeroS b (addS (List.replicate 8 0) ⟨#[]⟩ 0 b) 0 := add_is (List.replicate 8 0) rfl ⟨#[]⟩ b 0 zero_ok (by omega)
  have iZ := isAdd (List.replicate 8 0) rfl ⟨#[]⟩ 0 b
  by_cases hok : okS r m
  · obtain ⟨M, rfl⟩ := Int.eq_ofNat_of_zero_le hok.1
    have G : GoodIs (sarr hs r M) true := fun W => Good_yes hs h8 r M hok W
    by_cases h1 : M + a.size < 1152921504606846976
    · have C1 := add_is hs h8 r a M hok h1
      have o1 := okAdd hs r a M hok h1
      have l1 : (blocks hs (r.data.toList ++ a.data.toList)).length = 8 := blocks_len8 _ _ h8
      by_cases h2 : M + (a ++ b).size < 1152921504606846976
      · have C3 := add_is hs h8 r (a ++ b) M hok h2
        have C2 := add_is _ l1 _ b (M + a.size) o1 (by omega)
        rw [addS_twice] at C2
        have o3 := okAdd hs r (a ++ b) M hok h2
        refine States_walk _ _ _ _ a b 0 0 0 (isS hs h8 r M) (isAdd hs h8 r M a) (isAdd hs h8 r M (a ++ b)) (isAdd hs h8 r M (a ++ b)) C1 C2 C3 (.inr (.inr ⟨G, rfl, rfl, rfl, rfl, ⟨_, fun W hT => End_ok _ (blocks_len8 _ _ h8) _ _ o3 W hT⟩, fun W => Good_yes _ (blocks_len8 _ _ h8) _ _ o3 W⟩)) hab w ht
      · have C3 : AddIs (sarr hs r M) (a ++ b) zeroS 3 := fun W _ => Add_long hs h8 r (a ++ b) M hok (by omega) (by omega) W
        have C2 : AddIs (addS hs r M a) b zeroS 3 := fun W _ => Add_long _ l1 _ b (M + a.size) o1 (by omega) (by omega) W
        exact States_walk _ _ _ _ a b 0 3 3 (isS hs h8 r M) (isAdd hs h8 r M a) isZ isZ C1 C2 C3 (.inr (.inl ⟨G, rfl⟩)) hab w ht
    · have C1 : AddIs (sarr hs r M) a zeroS 3 := fun W _ => Add_long hs h8 r a M hok (by omega) (by omega) W
      have C3 : AddIs (sarr hs r M) (a ++ b) zeroS 3 := fun W _ => Add_long hs h8 r (a ++ b) M hok (by omega) (by omega) W
      exact States_walk _ _ _ _ a b 3 0 3 (isS hs h8 r M) isZ iZ isZ C1 Z C3 (.inr (.inl ⟨G, rfl⟩)) hab w ht
  · have C1 : AddIs (sarr hs r m) a zeroS 3 := fun W _ => Add_bad hs h8 r a m hm hM hok W
    have C3 : AddIs (sarr hs r m) (a ++ b) zeroS 3 := fun W _ => Add_bad hs h8 r (a ++ b) m hm hM hok W
    exact States_walk _ _ _ _ a b 3 0 3 (isS hs h8 r m) isZ iZ isZ C1 Z C3 (.inl ⟨fun W => Good_no hs h8 r m hm hM hok W, ⟨_, fun W _ => End_bad hs h8 r m hm hM hok W⟩, rfl, rfl⟩) hab w ht
end Go.Proofs.YtngfgmcnpbjefaaDoor
