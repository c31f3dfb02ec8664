/- The methods of a reader: their contracts. -/
import Derived.Test.YtilolbefeoibhaaDoorDkMath
namespace Go.Proofs.YtilolbefeoibhaaDoor
open Go.RowKit

section
variable {w w1 w2 : World} {r : Option Nat}
theorem gb_trans (h : w.grownBy w1 r) (k : w1.grownBy w2 r) : w.grownBy w2 r :=
  ⟨k.os.trans h.os, k.tape.trans h.tape, k.output.trans h.output, Nat.le_trans h.size k.size, fun i hi hr => (k.block i (Nat.lt_of_lt_of_le hi h.size) hr).trans (h.block i hi hr)⟩
theorem gb_below (h : Below w.heap.size w w1) : w.grownBy w1 r := ⟨h.os, h.tape, h.output, h.size, fun i hi _ => h.block i hi⟩
theorem gb_set (g i : Nat) (u : Value) : w.grownBy (w.setCell ⟨g, i, none⟩ u) (some g) :=
  ⟨rfl, rfl, rfl, by simp [World.setCell], fun k _ hr => Below.heap_setCell w ⟨g, i, none⟩ u k (fun e => hr (by rw [e]))⟩
theorem gb_alloc (o : Obj) : w.grownBy (w.alloc o) r := gb_below ((Below.refl _ _).alloc (Nat.le_refl _) o)
/-- what is made anew may change as it likes -/
theorem gb_new {g : Nat} (h : w.grownBy w1 r) (k : w1.grownBy w2 (some g)) (hg : w.heap.size ≤ g) : w.grownBy w2 r :=
  ⟨k.os.trans h.os, k.tape.trans h.tape, k.output.trans h.output, Nat.le_trans h.size k.size, fun i hi hr => (k.block i (Nat.lt_of_lt_of_le hi h.size) (fun e => by cases e; omega)).trans (h.block i hi hr)⟩
theorem below_gb {B : Nat} {a : World} {g : Nat} (h : Below B a w) (k : w.grownBy w1 (some g)) (hg : B ≤ g) (hB : B ≤ w.heap.size) : Below B a w1 :=
  h.grown k hB (fun _ e => by cases e; exact hg)
theorem Arr.kept {g : Nat} {t : TypeId} {cs : Array Value} (h : Arr w g t cs) (k : w.grownBy w1 r) (hr : some g ≠ r) : Arr w1 g t cs := (k.block g h.lt hr).trans h
end

/-- a reader: what is left, what went wrong -/
def Rd (w : World) (g : Nat) (s : ByteArray) (e : Int) : Prop := Arr w g 86 #[.string s, .int .i64 e]
theorem Rd.c0 {w : World} {g : Nat} {s : ByteArray} {e : Int} (h : Rd w g s e) : w.cell? ⟨g, 0, none⟩ = some (.string s) := h.cell 0
theorem Rd.c1 {w : World} {g : Nat} {s : ByteArray} {e : Int} (h : Rd w g s e) : w.cell? ⟨g, 1, none⟩ = some (.int .i64 e) := h.cell 1
theorem Rd.set {w : World} {g : Nat} {s : ByteArray} {e : Int} (h : Rd w g s e) (s2 : ByteArray) : Rd (w.setCell ⟨g, 0, none⟩ (.string s2)) g s2 e := h.put 0 _
theorem Rd.err {w : World} {g : Nat} {s : ByteArray} {e : Int} (h : Rd w g s e) (e2 : Int) : Rd (w.setCell ⟨g, 1, none⟩ (.int .i64 e2)) g s e2 := h.put 1 _
/-- behind a method: the answer, the reader, and nothing else of old has turned -/
def After (w : World) (g : Nat) (v : Value) (s : ByteArray) (e : Int) (x : Ending) (w' : World) : Prop := x = .returned v ∧ Rd w' g s e ∧ w.grownBy w' (some g)

theorem Read_any (s : ByteArray) (w : World) :
    Calls Tryd.prog 24 #[.string s] w fun x w' => x = .returned (.pointer (some ⟨w.heap.size, 0, none⟩)) ∧ Rd w' w.heap.size s 0 ∧ Below w.heap.size w w' := by
  go_enter Tryd.func24, Tryd.ntmps24
  go_wp2_with fail
  go_ret
  exact ⟨rfl, Arr.new _ _ _, (Below.refl _ _).alloc (Nat.le_refl _) _⟩
theorem Bad_any (g : Nat) (s : ByteArray) (e : Int) (w : World) (h : Rd w g s e) :
    Calls Tryd.prog 26 #[.pointer (some ⟨g, 0, none⟩)] w fun x w' => x = .returned (.int .i64 e) ∧ w = w' := by
  have c1 := h.c1
  go_enter Tryd.func26, Tryd.ntmps26
  go_wp2_with fail
  go_ret
  exact ⟨rfl, rfl⟩
theorem Left_any (g : Nat) (s : ByteArray) (e : Int) (w : World) (h : Rd w g s e) :
    Calls Tryd.prog 29 #[.pointer (some ⟨g, 0, none⟩)] w fun x w' => x = .returned (.int .i64 (s.size : Int)) ∧ w = w' := by
  have c0 := h.c0
  go_enter Tryd.func29, Tryd.ntmps29
  go_wp2_with fail
  go_ret
  exact ⟨rfl, rfl⟩
theorem consume_any (g : Nat) (s : ByteArray) (e0 : Int) (k : Nat) (e : Int) (hk : k ≤ s.size) (w : World) (h : Rd w g s e0) :
    Calls Tryd.prog 45 #[.pointer (some ⟨g, 0, none⟩), .int .i64 (k : Int), .int .i64 e] w (After w g (.tuple #[]) (s.extract k s.size) e) := by
  have c0 := h.c0
  have f0 := h.free 0
  have h2 := h.set (s.extract k s.size)
  have c1 := h2.c1
  have f1 := h2.free 1
  have h3 := h2.err e
  go_enter Tryd.func45, Tryd.ntmps45
  go_wp2_with fail
  go_end0
  exact ⟨rfl, h3, gb_trans (gb_set _ _ _) (gb_set _ _ _)⟩

/-- Number where nothing went wrong yet -/
theorem Number_go (g : Nat) (s : ByteArray) (n k : Nat) (e : Int) (C : GetIs s n k e) (hk : k ≤ s.size) (w : World) (h : Rd w g s 0) :
    Calls Tryd.prog 25 #[.pointer (some ⟨g, 0, none⟩)] w (After w g (.int .i64 (n : Int)) (s.extract k s.size) e) := by
  have c0 := h.c0
  go_enter Tryd.func25, Tryd.ntmps25
  go_wp2_with fail
  (with_reducible refine (Bad_any g s 0 w h).mono ?_)
  rintro x w1 ⟨rfl, rfl⟩
  go_wp2_with fail
  have q := C w
  (with_reducible refine q.mono ?_)
  clear q
  rintro x w1 ⟨rfl, rfl⟩
  go_wp2_with fail
  (with_reducible refine (consume_any g s 0 k e hk w h).mono ?_)
  rintro x w1 ⟨rfl, h1, g1⟩
  go_wp2_with fail
  go_ret
  exact ⟨rfl, h1, g1⟩
theorem Number_bad (g : Nat) (s : ByteArray) (e : Int) (he : (e != 0) = true) (w : World) (h : Rd w g s e) :
    Calls Tryd.prog 25 #[.pointer (some ⟨g, 0, none⟩)] w (After w g (.int .i64 0) s e) := by
  go_enter Tryd.func25, Tryd.ntmps25
  go_wp2_with fail
  (with_reducible refine (Bad_any g s e w h).mono ?_)
  rintro x w1 ⟨rfl, rfl⟩
  go_wp2_with fail
  go_ret
  exact ⟨rfl, h, World.grownBy.refl _ _⟩
theorem Text_go (g : Nat) (s r : ByteArray) (k : Nat) (e : Int) (C : TextIs s r k e) (hk : k ≤ s.size) (w : World) (h : Rd w g s 0) :
    Calls Tryd.prog 46 #[.pointer (some ⟨g, 0, none⟩)] w (After w g (.string r) (s.extract k s.size) e) := by
  have c0 := h.c0
  go_enter Tryd.func46, Tryd.ntmps46
  go_wp2_with fail
  (with_reducible refine (Bad_any g s 0 w h).mono ?_)
  rintro x w1 ⟨rfl, rfl⟩
  go_wp2_with fail
  have q := C w
  (with_reducible refine q.mono ?_)
  clear q
  rintro x w1 ⟨rfl, rfl⟩
  go_wp2_with fail
  (with_reducible refine (consume_any g s 0 k e hk w h).mono ?_)
  rintro x w1 ⟨rfl, h1, g1⟩
  go_wp2_with fail
  go_ret
  exact ⟨rfl, h1, g1⟩
theorem Text_bad (g : Nat) (s : ByteArray) (e : Int) (he : (e != 0) = true) (w : World) (h : Rd w g s e) :
    Calls Tryd.prog 46 #[.pointer (some ⟨g, 0, none⟩)] w (After w g (.string ⟨#[]⟩) s e) := by
  go_enter Tryd.func46, Tryd.ntmps46
  go_wp2_with fail
  (with_reducible refine (Bad_any g s e w h).mono ?_)
  rintro x w1 ⟨rfl, rfl⟩
  go_wp2_with fail
  go_ret
  exact ⟨rfl, h, World.grownBy.refl _ _⟩
theorem Bytes_bad (g : Nat) (s : ByteArray) (n e : Int) (he : (e != 0) = true) (w : World) (h : Rd w g s e) :
    Calls Tryd.prog 48 #[.pointer (some ⟨g, 0, none⟩), .int .i64 n] w (After w g (.string ⟨#[]⟩) s e) := by
  go_enter Tryd.func48, Tryd.ntmps48
  go_wp2_with fail
  (with_reducible refine (Bad_any g s e w h).mono ?_)
  rintro x w1 ⟨rfl, rfl⟩
  go_wp2_with fail
  go_ret
  exact ⟨rfl, h, World.grownBy.refl _ _⟩
theorem Bytes_no (g : Nat) (s : ByteArray) (n : Int) (hn : n < 0 ∨ (s.size : Int) < n) (w : World) (h : Rd w g s 0) :
    Calls Tryd.prog 48 #[.pointer (some ⟨g, 0, none⟩), .int .i64 n] w (After w g (.string ⟨#[]⟩) s 2) := by
  have c0 := h.c0
  have c1 := h.c1
  have f1 := h.free 1
  have h2 := h.err 2
  rcases hn with hn | hn
  · go_enter Tryd.func48, Tryd.ntmps48
    go_wp2_with fail
    (with_reducible refine (Bad_any g s 0 w h).mono ?_)
    rintro x w1 ⟨rfl, rfl⟩
    go_wp2_with fail
    go_ret
    exact ⟨rfl, h2, gb_set _ _ _⟩
  · have hn2 : ¬ n < 0 := by omega
    go_enter Tryd.func48, Tryd.ntmps48
    go_wp2_with fail
    (with_reducible refine (Bad_any g s 0 w h).mono ?_)
    rintro x w1 ⟨rfl, rfl⟩
    go_wp2_with fail
    go_ret
    exact ⟨rfl, h2, gb_set _ _ _⟩
theorem Bytes_go (g : Nat) (s : ByteArray) (n : Nat) (hn : n ≤ s.size) (w : World) (h : Rd w g s 0) :
    Calls Tryd.prog 48 #[.pointer (some ⟨g, 0, none⟩), .int .i64 (n : Int)] w (After w g (.string (s.extract 0 n)) (s.extract n s.size) 0) := by
  have c0 := h.c0
  have hn2 : ¬ (n : Int) < 0 := by omega
  have hn3 : ¬ (s.size : Int) < n := by omega
  go_enter Tryd.func48, Tryd.ntmps48
  go_wp2_with fail
  (with_reducible refine (Bad_any g s 0 w h).mono ?_)
  rintro x w1 ⟨rfl, rfl⟩
  go_wp2_with fail
  (with_reducible refine (consume_any g s 0 n 0 hn w h).mono ?_)
  rintro x w1 ⟨rfl, h1, g1⟩
  go_wp2_with fail
  go_ret
  exact ⟨rfl, h1, g1⟩
end Go.Proofs.YtilolbefeoibhaaDoor
