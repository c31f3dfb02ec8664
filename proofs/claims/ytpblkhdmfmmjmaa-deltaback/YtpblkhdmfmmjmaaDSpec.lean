/- What Apply answers: plain definitions. -/
import Derived.Test.YtpblkhdmfmmjmaaRdn
namespace Go.Proofs.Ytpblkhdmfmmjmaa

/-- an operation: what went wrong, the bytes that it appends, what is left -/
def opD (base l : List UInt8) : Int × List UInt8 × List UInt8 :=
  match rdNum l with
  | none => (2, [], [])
  | some (op, l1) =>
    if op % 2 = 1 then match rdNum l1 with
      | none => (2, [], [])
      | some (k, l2) => if base.length < k ∨ base.length - k < op / 2 then (3, [], []) else (0, (base.drop k).take (op / 2), l2)
    else if l1.length < op / 2 then (2, [], []) else (0, l1.take (op / 2), l1.drop (op / 2))
/-- the operations, one by one; the number of rounds is bounded by the bytes that are left -/
def appD (base : List UInt8) (will : Nat) : Nat → List UInt8 → List UInt8 → List UInt8 × Int
  | _, out, [] => if out.length < will then ([], 2) else (out, 0)
  | 0, _, _ :: _ => ([], 2)
  | f + 1, out, b :: l =>
    if (opD base (b :: l)).1 ≠ 0 then ([], (opD base (b :: l)).1)
    else if (opD base (b :: l)).2.1 = [] ∨ will - out.length < (opD base (b :: l)).2.1.length then ([], 2)
    else appD base will f (out ++ (opD base (b :: l)).2.1) (opD base (b :: l)).2.2
/-- Apply -/
def applyD (base d : List UInt8) : List UInt8 × Int :=
  match rdNum d with
  | none => ([], 2)
  | some (was, d1) => match rdNum d1 with
    | none => ([], 2)
    | some (will, d2) => if was ≠ base.length then ([], 11) else if 8192 < will then ([], 1) else appD base will d2.length [] d2
theorem rdNum_less {l r : List UInt8} {n : Nat} (h : rdNum l = some (n, r)) : r.length < l.length := by
  unfold rdNum at h
  cases hg : got l with
  | none => simp [hg] at h
  | some y =>
    obtain ⟨m, k⟩ := y
    simp only [hg, Option.some.injEq, Prod.mk.injEq] at h
    have hk := got_some l m k hg
    have h1 : 1 ≤ k := hk.2.2.1
    have h2 := hk.2.2.2.2
    rw [← h.2, List.length_drop]
    omega
theorem opD_less (base l : List UInt8) (h : (opD base l).1 = 0) : (opD base l).2.2.length < l.length := by
  unfold opD at h ⊢
  cases h1 : rdNum l with
  | none => simp [h1] at h
  | some y =>
    obtain ⟨op, l1⟩ := y
    have a1 := rdNum_less h1
    simp only [h1] at h ⊢
    by_cases ho : op % 2 = 1
    · rw [if_pos ho] at h ⊢
      cases h2 : rdNum l1 with
      | none => simp [h2] at h
      | some z =>
        obtain ⟨k, l2⟩ := z
        have a2 := rdNum_less h2
        simp only [h2] at h ⊢
        by_cases hr : base.length < k ∨ base.length - k < op / 2
        · rw [if_pos hr] at h; cases h
        · rw [if_neg hr]; simp only; omega
    · rw [if_neg ho] at h ⊢
      by_cases hr : l1.length < op / 2
      · rw [if_pos hr] at h; cases h
      · rw [if_neg hr]; simp only [List.length_drop]; omega
end Go.Proofs.Ytpblkhdmfmmjmaa
