/- ref.GoodObject: its contract. -/
import Derived.Test.YtgffbdkngnpfpaaORefGood1
import Derived.Test.YtgffbdkngnpfpaaORefGood2
import Derived.Test.YtgffbdkngnpfpaaORefGood3
import Derived.Test.YtgffbdkngnpfpaaORefGood4
namespace Go.Proofs.Ytgffbdkngnpfpaa
open Go.RowKit

set_option maxRecDepth 100000 in
theorem GoodObject_no (o : Ob) (p : At) (w : World) (hk : kindB o.kind = false) :
    Calls Try.prog 11 #[.agg (obArr o p)] w fun e w' => e = .returned (.int .i64 (good o)) ∧ Below w.heap.size w w' := by
  have hG : Hid (good o = 4) := by show _ = _; unfold good; rw [hk]; rfl
  have hc0 := Lib.hid ((Arr.new w 25 (obArr o p)).cell 0)
  have hor : o.kind < 1 ∨ 4 < o.kind := by
    unfold kindB at hk
    simp at hk
    omega
  generalize hA : obArr o p = arr at *
  have h0 : arr[0]? = some (.int .i64 o.kind) := by rw [← hA]; rfl
  clear hA hk
  have c0 := hc0.out
  rw [h0] at c0
  clear h0 hc0
  rcases hor with h | h
  · go_enter Try.func11, Try.ntmps11
    go_wp2_with fail
    go_ret
    exact ⟨by rw [hG.out]; rfl, (Below.refl _ _).alloc (Nat.le_refl _) _⟩
  · have h1 : ¬ o.kind < 1 := by omega
    go_enter Try.func11, Try.ntmps11
    go_wp2_with fail
    go_ret
    exact ⟨by rw [hG.out]; rfl, (Below.refl _ _).alloc (Nat.le_refl _) _⟩
theorem GoodObject_any (o : Ob) (p : At) (w : World) (hO : ObIn w w.heap.size o p) (hnm : ∀ e ∈ o.ents, e.name.size ≤ 281474976710656) :
    Calls Try.prog 11 #[.agg (obArr o p)] w fun e w' => e = .returned (.int .i64 (good o)) ∧ Below w.heap.size w w' := by
  cases hk : kindB o.kind with
  | false => exact GoodObject_no o p w hk
  | true =>
    rcases kindB_cases hk with h | h | h | h
    · exact GoodObject_1 o p w hO hnm h
    · exact GoodObject_2 o p w hO hnm h
    · exact GoodObject_3 o p w hO hnm h
    · exact GoodObject_4 o p w hO hnm h
end Go.Proofs.Ytgffbdkngnpfpaa
