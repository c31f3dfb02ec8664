/- A reader and the document's own cursor, step by step: both answer alike. -/
import Derived.Test.YtpblkhdmfmmjmaaWRead
import Derived.Test.YtpblkhdmfmmjmaaWRefText
namespace Go.Proofs.Ytpblkhdmfmmjmaa
open Go.RowKit

/-- the document's own cursor: what is left, what went wrong -/
def Cu (w : World) (g : Nat) (s : ByteArray) (e : Int) : Prop := Arr w g 36 #[.string s, .int .i64 e]
theorem Cu.c0 {w : World} {g : Nat} {s : ByteArray} {e : Int} (h : Cu w g s e) : w.cell? ⟨g, 0, none⟩ = some (.string s) := h.cell 0
theorem Cu.c1 {w : World} {g : Nat} {s : ByteArray} {e : Int} (h : Cu w g s e) : w.cell? ⟨g, 1, none⟩ = some (.int .i64 e) := h.cell 1
theorem Cu.set {w : World} {g : Nat} {s : ByteArray} {e : Int} (h : Cu w g s e) (s2 : ByteArray) : Cu (w.setCell ⟨g, 0, none⟩ (.string s2)) g s2 e := h.put 0 _
theorem Cu.err {w : World} {g : Nat} {s : ByteArray} {e : Int} (h : Cu w g s e) (e2 : Int) : Cu (w.setCell ⟨g, 1, none⟩ (.int .i64 e2)) g s e2 := h.put 1 _
def AfterC (w : World) (g : Nat) (v : Value) (s : ByteArray) (e : Int) (x : Ending) (w' : World) : Prop := x = .returned v ∧ Cu w' g s e ∧ w.grownBy w' (some g)

theorem cnumber_go (g : Nat) (s : ByteArray) (n k : Nat) (e : Int) (C : RefGetIs s n k e) (hk : k ≤ s.size) (w : World) (h : Cu w g s 0) :
    Calls Try.prog 17 #[.pointer (some ⟨g, 0, none⟩)] w (AfterC w g (.int .i64 (n : Int)) (s.extract k s.size) e) := by
  have c0 := h.c0
  have c1 := h.c1
  go_enter Try.func17, Try.ntmps17
  go_wp2_with fail
  have q := C w
  (with_reducible refine q.mono ?_)
  clear q
  rintro x w1 ⟨rfl, b1⟩
  have h1 : Cu w1 g s 0 := Arr.below h b1 h.lt
  have d0 := h1.c0
  have f0 := h1.free 0
  have h2 := h1.set (s.extract k s.size)
  have d1 := h1.c1
  have f1 := h1.free 1
  have h3 := h2.err e
  clear c0 c1
  go_wp2_with fail
  go_ret
  exact ⟨rfl, h3, gb_trans (gb_below b1) (gb_trans (gb_set _ _ _) (gb_set _ _ _))⟩
theorem cnumber_bad (g : Nat) (s : ByteArray) (e : Int) (he : (e != 0) = true) (w : World) (h : Cu w g s e) :
    Calls Try.prog 17 #[.pointer (some ⟨g, 0, none⟩)] w (AfterC w g (.int .i64 0) s e) := by
  have c1 := h.c1
  go_enter Try.func17, Try.ntmps17
  go_wp2_with fail
  go_ret
  exact ⟨rfl, h, World.grownBy.refl _ _⟩
theorem ctake_bad (g : Nat) (s : ByteArray) (n e : Int) (he : (e != 0) = true) (he2 : (e == 0) = false) (w : World) (h : Cu w g s e) :
    Calls Try.prog 18 #[.pointer (some ⟨g, 0, none⟩), .int .i64 n] w (AfterC w g (.string ⟨#[]⟩) s e) := by
  have c1 := h.c1
  go_enter Try.func18, Try.ntmps18
  go_wp2_with fail
  go_ret
  exact ⟨rfl, h, World.grownBy.refl _ _⟩
theorem ctake_no (g : Nat) (s : ByteArray) (n : Int) (hn : n < 0 ∨ (s.size : Int) < n) (w : World) (h : Cu w g s 0) :
    Calls Try.prog 18 #[.pointer (some ⟨g, 0, none⟩), .int .i64 n] w (AfterC w g (.string ⟨#[]⟩) s 2) := by
  have c0 := h.c0
  have c1 := h.c1
  have f1 := h.free 1
  have h2 := h.err 2
  rcases hn with hn | hn
  · go_enter Try.func18, Try.ntmps18
    go_wp2_with fail
    go_ret
    exact ⟨rfl, h2, gb_set _ _ _⟩
  · have hn2 : ¬ n < 0 := by omega
    go_enter Try.func18, Try.ntmps18
    go_wp2_with fail
    go_ret
    exact ⟨rfl, h2, gb_set _ _ _⟩
theorem ctake_go (g : Nat) (s : ByteArray) (n : Nat) (hn : n ≤ s.size) (w : World) (h : Cu w g s 0) :
    Calls Try.prog 18 #[.pointer (some ⟨g, 0, none⟩), .int .i64 (n : Int)] w (AfterC w g (.string (s.extract 0 n)) (s.extract n s.size) 0) := by
  have c0 := h.c0
  have c1 := h.c1
  have f0 := h.free 0
  have h2 := h.set (s.extract n s.size)
  have hn2 : ¬ (n : Int) < 0 := by omega
  have hn3 : ¬ (s.size : Int) < n := by omega
  go_enter Try.func18, Try.ntmps18
  go_wp2_with fail
  go_ret
  exact ⟨rfl, h2, gb_set _ _ _⟩

/-- what a step answers, what is left, what went wrong -/
def stN (s : ByteArray) (e : Int) : Int × ByteArray × Int :=
  if e = 0 then (match got s.data.toList with | some (n, k) => ((n : Int), s.extract k s.size, 0) | none => (0, s.extract 0 s.size, 2)) else (0, s, e)
def stT (s : ByteArray) (e : Int) : ByteArray × ByteArray × Int :=
  if e = 0 then (match got s.data.toList with
    | some (n, k) => if 4096 < n then (⟨#[]⟩, s.extract 0 s.size, 1) else if s.size < k + n then (⟨#[]⟩, s.extract 0 s.size, 2) else (s.extract k (k + n), s.extract (k + n) s.size, 0)
    | none => (⟨#[]⟩, s.extract 0 s.size, 2)) else (⟨#[]⟩, s, e)
def stB (s : ByteArray) (e n : Int) : ByteArray × ByteArray × Int :=
  if e = 0 then (if n < 0 ∨ (s.size : Int) < n then (⟨#[]⟩, s, 2) else (s.extract 0 n.toNat, s.extract n.toNat s.size, 0)) else (⟨#[]⟩, s, e)

theorem both_num (s : ByteArray) (e : Int) (hs : s.size ≤ 281474976710656) : (stN s e).2.1.size ≤ s.size ∧
    (∀ W g, Rd W g s e → Calls Try.prog 13 #[.pointer (some ⟨g, 0, none⟩)] W (After W g (.int .i64 (stN s e).1) (stN s e).2.1 (stN s e).2.2)) ∧
    (∀ W g, Cu W g s e → Calls Try.prog 17 #[.pointer (some ⟨g, 0, none⟩)] W (AfterC W g (.int .i64 (stN s e).1) (stN s e).2.1 (stN s e).2.2)) := by
  by_cases he : e = 0
  · subst he
    cases hg : got s.data.toList with
    | none =>
      have hst : stN s 0 = (0, s.extract 0 s.size, 2) := by unfold stN; rw [if_pos rfl, hg]
      rw [hst]
      exact ⟨by simp, fun W g h => Number_go g s 0 0 2 (getIs_none s hs hg) (Nat.zero_le _) W h, fun W g h => cnumber_go g s 0 0 2 (refGetIs_none s hs hg) (Nat.zero_le _) W h⟩
    | some nk =>
      obtain ⟨n, k⟩ := nk
      have hk : k ≤ s.size := (got_some _ _ _ hg).2.2.2.2
      have hst : stN s 0 = ((n : Int), s.extract k s.size, 0) := by unfold stN; rw [if_pos rfl, hg]
      rw [hst]
      exact ⟨by simp, fun W g h => Number_go g s n k 0 (getIs_some s hs n k hg) hk W h, fun W g h => cnumber_go g s n k 0 (refGetIs_some s hs n k hg) hk W h⟩
  · have hst : stN s e = (0, s, e) := by unfold stN; rw [if_neg he]
    have he1 : (e != 0) = true := by rw [bne_iff_ne]; exact he
    rw [hst]
    exact ⟨Nat.le_refl _, fun W g h => Number_bad g s e he1 W h, fun W g h => cnumber_bad g s e he1 W h⟩
theorem both_bytes (s : ByteArray) (e n : Int) : (stB s e n).2.1.size ≤ s.size ∧
    (∀ W g, Rd W g s e → Calls Try.prog 27 #[.pointer (some ⟨g, 0, none⟩), .int .i64 n] W (After W g (.string (stB s e n).1) (stB s e n).2.1 (stB s e n).2.2)) ∧
    (∀ W g, Cu W g s e → Calls Try.prog 18 #[.pointer (some ⟨g, 0, none⟩), .int .i64 n] W (AfterC W g (.string (stB s e n).1) (stB s e n).2.1 (stB s e n).2.2)) := by
  by_cases he : e = 0
  · subst he
    by_cases hn : n < 0 ∨ (s.size : Int) < n
    · have hst : stB s 0 n = (⟨#[]⟩, s, 2) := by unfold stB; rw [if_pos rfl, if_pos hn]
      rw [hst]
      exact ⟨Nat.le_refl _, fun W g h => Bytes_no g s n hn W h, fun W g h => ctake_no g s n hn W h⟩
    · obtain ⟨m, rfl⟩ := Int.eq_ofNat_of_zero_le (show 0 ≤ n by omega)
      have hst : stB s 0 (m : Int) = (s.extract 0 m, s.extract m s.size, 0) := by unfold stB; rw [if_pos rfl, if_neg hn, Int.toNat_natCast]
      rw [hst]
      exact ⟨by simp, fun W g h => Bytes_go g s m (by omega) W h, fun W g h => ctake_go g s m (by omega) W h⟩
  · have hst : stB s e n = (⟨#[]⟩, s, e) := by unfold stB; rw [if_neg he]
    have he1 : (e != 0) = true := by rw [bne_iff_ne]; exact he
    have he2 : (e == 0) = false := by rw [beq_eq_false_iff_ne]; exact he
    rw [hst]
    exact ⟨Nat.le_refl _, fun W g h => Bytes_bad g s n e he1 W h, fun W g h => ctake_bad g s n e he1 he2 W h⟩
end Go.Proofs.Ytpblkhdmfmmjmaa
