/- Readers and the document's own cursor, by lists of bytes. -/
import Derived.Test.YtpblkhdmfmmjmaaDSpec
import Derived.Test.YtpblkhdmfmmjmaaWStep
namespace Go.Proofs.Ytpblkhdmfmmjmaa
open Go.RowKit

theorem bs_all (l : List UInt8) : (bs l).extract 0 (bs l).size = bs l := by
  rw [bs_drop, List.drop_zero]
theorem rdNum_lt {l r : List UInt8} {n : Nat} (h : rdNum l = some (n, r)) : n < 4611686018427387904 := by
  unfold rdNum at h
  cases hg : got l with
  | none => simp [hg] at h
  | some y =>
    obtain ⟨m, k⟩ := y
    simp only [hg, Option.some.injEq, Prod.mk.injEq] at h
    have hk := got_some l m k hg
    omega
theorem stN_some {l r : List UInt8} {n : Nat} (h : rdNum l = some (n, r)) : stN (bs l) 0 = ((n : Int), bs r, 0) := by
  unfold rdNum at h
  cases hg : got l with
  | none => simp [hg] at h
  | some y =>
    obtain ⟨m, k⟩ := y
    simp only [hg, Option.some.injEq, Prod.mk.injEq] at h
    unfold stN
    rw [if_pos rfl, bs_list, hg]
    simp only
    rw [bs_drop, h.1, h.2]
theorem stN_none {l : List UInt8} (h : rdNum l = none) : stN (bs l) 0 = (0, bs l, 2) := by
  unfold rdNum at h
  cases hg : got l with
  | none =>
    unfold stN
    rw [if_pos rfl, bs_list, hg]
    simp only
    rw [bs_all]
  | some y => simp [hg] at h
section
variable {l r : List UInt8} {n : Nat}
theorem rd_some (hl : l.length ≤ 281474976710656) (h : rdNum l = some (n, r)) (g : Nat) (W : World) (hR : Rd W g (bs l) 0) :
    Calls Try.prog 13 #[.pointer (some ⟨g, 0, none⟩)] W (After W g (.int .i64 (n : Int)) (bs r) 0) := by
  have q := (both_num (bs l) 0 (by rw [bs_size]; exact hl)).2.1 W g hR
  rw [stN_some h] at q
  exact q
theorem rd_none (hl : l.length ≤ 281474976710656) (h : rdNum l = none) (g : Nat) (W : World) (hR : Rd W g (bs l) 0) :
    Calls Try.prog 13 #[.pointer (some ⟨g, 0, none⟩)] W (After W g (.int .i64 0) (bs l) 2) := by
  have q := (both_num (bs l) 0 (by rw [bs_size]; exact hl)).2.1 W g hR
  rw [stN_none h] at q
  exact q
theorem cu_some (hl : l.length ≤ 281474976710656) (h : rdNum l = some (n, r)) (g : Nat) (W : World) (hR : Cu W g (bs l) 0) :
    Calls Try.prog 17 #[.pointer (some ⟨g, 0, none⟩)] W (AfterC W g (.int .i64 (n : Int)) (bs r) 0) := by
  have q := (both_num (bs l) 0 (by rw [bs_size]; exact hl)).2.2 W g hR
  rw [stN_some h] at q
  exact q
theorem cu_none (hl : l.length ≤ 281474976710656) (h : rdNum l = none) (g : Nat) (W : World) (hR : Cu W g (bs l) 0) :
    Calls Try.prog 17 #[.pointer (some ⟨g, 0, none⟩)] W (AfterC W g (.int .i64 0) (bs l) 2) := by
  have q := (both_num (bs l) 0 (by rw [bs_size]; exact hl)).2.2 W g hR
  rw [stN_none h] at q
  exact q
theorem rd_take (hn : n ≤ l.length) (g : Nat) (W : World) (hR : Rd W g (bs l) 0) :
    Calls Try.prog 27 #[.pointer (some ⟨g, 0, none⟩), .int .i64 (n : Int)] W (After W g (.string (bs (l.take n))) (bs (l.drop n)) 0) := by
  have q := Bytes_go g (bs l) n (by rw [bs_size]; exact hn) W hR
  rw [bs_head, bs_drop] at q
  exact q
theorem cu_take (hn : n ≤ l.length) (g : Nat) (W : World) (hR : Cu W g (bs l) 0) :
    Calls Try.prog 18 #[.pointer (some ⟨g, 0, none⟩), .int .i64 (n : Int)] W (AfterC W g (.string (bs (l.take n))) (bs (l.drop n)) 0) := by
  have q := ctake_go g (bs l) n (by rw [bs_size]; exact hn) W hR
  rw [bs_head, bs_drop] at q
  exact q
end
end Go.Proofs.Ytpblkhdmfmmjmaa
