/- Merkle: Leaf, Node and their texts, split: their contracts; the document's own Leaf, Two, parting. -/
import Derived.Test.YtejapjmlofekfaaDoorRefMath
import Derived.Test.YtejapjmlofekfaaDoorRefSum
import Derived.Test.YtejapjmlofekfaaDoorOMem
namespace Go.Proofs.YtejapjmlofekfaaDoor
open Go.RowKit

theorem dg_size (s : ByteArray) : (dg s).size = 32 := by
  unfold dg
  rw [bs_size]
  exact digest_length _ (blocks_len8 _ _ (blocks_len8 _ _ rfl))
theorem rootL_size (l : List ByteArray) : (rootL l).size = 32 := by
  by_cases h : 2 ≤ l.length
  · rw [rootL_two h]; exact dg_size _
  · match l, h with
    | [], _ => rw [rootL_nil]; exact dg_size _
    | [x], _ => rw [rootL_one]; exact dg_size _
    | _ :: _ :: _, h => simp at h
theorem leafText_any (s : ByteArray) (hs : s.size ≤ 281474976710656) (w : World) :
    Calls Tryd.prog 42 #[.string s] w fun e w' => e = .returned (.string (leafT s)) ∧ w = w' := by
  go_enter Tryd.func42, Tryd.ntmps42
  go_wp2_with fail
  go_ret
  exact ⟨rfl, rfl⟩
theorem nodeText_any (a b : ByteArray) (ha : a.size ≤ 281474976710656) (hb : b.size ≤ 281474976710656) (w : World) :
    Calls Tryd.prog 43 #[.string a, .string b] w fun e w' => e = .returned (.string (nodeT a b)) ∧ w = w' := by
  go_enter Tryd.func43, Tryd.ntmps43
  go_wp2_with fail
  go_ret
  exact ⟨rfl, rfl⟩
theorem Leaf_any (s : ByteArray) (hs : s.size ≤ 281474976710656) (w : World) (ht : Tab w) :
    Calls Tryd.prog 22 #[.string s] w fun e w' => e = .returned (.string (leafD s)) ∧ Below w.heap.size w w' := by
  have h1 : (leafT s).size < 1152921504606846976 := by unfold leafT; rw [ByteArray.size_append, show (⟨#[0]⟩ : ByteArray).size = 1 from rfl]; omega
  go_enter Tryd.func22, Tryd.ntmps22
  go_wp2_with fail
  (with_reducible refine (leafText_any s hs _).mono ?_)
  rintro _ w1 ⟨rfl, rfl⟩
  go_wp2_with fail
  (with_reducible refine (Sum_any _ h1 _ ht).mono ?_)
  rintro _ w1 ⟨rfl, b1⟩
  go_wp2_with fail
  go_ret
  exact ⟨rfl, b1⟩
theorem Node_any (a b : ByteArray) (ha : a.size ≤ 281474976710656) (hb : b.size ≤ 281474976710656) (w : World) (ht : Tab w) :
    Calls Tryd.prog 24 #[.string a, .string b] w fun e w' => e = .returned (.string (nodeD a b)) ∧ Below w.heap.size w w' := by
  have h1 : (nodeT a b).size < 1152921504606846976 := by unfold nodeT; rw [ByteArray.size_append, ByteArray.size_append, show (⟨#[1]⟩ : ByteArray).size = 1 from rfl]; omega
  go_enter Tryd.func24, Tryd.ntmps24
  go_wp2_with fail
  (with_reducible refine (nodeText_any a b ha hb _).mono ?_)
  rintro _ w1 ⟨rfl, rfl⟩
  go_wp2_with fail
  (with_reducible refine (Sum_any _ h1 _ ht).mono ?_)
  rintro _ w1 ⟨rfl, b1⟩
  go_wp2_with fail
  go_ret
  exact ⟨rfl, b1⟩
theorem refLeaf_any (s : ByteArray) (hs : s.size ≤ 281474976710656) (w : World) :
    Calls Tryd.prog 23 #[.string s] w fun e w' => e = .returned (.string (leafD s)) ∧ Below w.heap.size w w' := by
  have h1 : (leafT s).size < 1152921504606846976 := by unfold leafT; rw [ByteArray.size_append, show (⟨#[0]⟩ : ByteArray).size = 1 from rfl]; omega
  have q := fun W => Lib.hid (RefSum_any (leafT s) h1 W)
  go_enter Tryd.func23, Tryd.ntmps23
  go_wp2_with fail
  refine (q _).out.mono ?_
  rintro _ w1 ⟨rfl, b1⟩
  go_wp2_with fail
  go_ret
  exact ⟨rfl, b1⟩
theorem refTwo_any (a b : ByteArray) (ha : a.size ≤ 281474976710656) (hb : b.size ≤ 281474976710656) (w : World) :
    Calls Tryd.prog 25 #[.string a, .string b] w fun e w' => e = .returned (.string (nodeD a b)) ∧ Below w.heap.size w w' := by
  have h1 : (nodeT a b).size < 1152921504606846976 := by unfold nodeT; rw [ByteArray.size_append, ByteArray.size_append, show (⟨#[1]⟩ : ByteArray).size = 1 from rfl]; omega
  have q := fun W => Lib.hid (RefSum_any (nodeT a b) h1 W)
  go_enter Tryd.func25, Tryd.ntmps25
  go_wp2_with fail
  refine (q _).out.mono ?_
  rintro _ w1 ⟨rfl, b1⟩
  go_wp2_with fail
  go_ret
  exact ⟨rfl, b1⟩
end Go.Proofs.YtejapjmlofekfaaDoor
