/- The methods of a writer: their contracts. -/
import Derived.Test.YtbpmgpbmeganoaaDoorWRead
import Derived.Test.YtbpmgpbmeganoaaDoorRfSpec
import Derived.Lib.BufferWrite
import Derived.StillTailTactics
namespace Go.Proofs.YtbpmgpbmeganoaaDoor
open Go.RowKit

theorem Arr.ne {w : World} {g g' : Nat} {t t' : TypeId} {cs cs' : Array Value} (h : Arr w g t cs) (h' : Arr w g' t' cs') (ht : t ≠ t') : g ≠ g' := by
  rintro rfl
  unfold Arr at h h'
  rw [h] at h'
  simp only [Option.some.injEq, Obj.cells.injEq] at h'
  exact ht h'.2.1

/-- the bytes of pieces, the last piece first -/
def cat : List ByteArray → List UInt8
  | [] => []
  | p :: ps => cat ps ++ p.data.toList
/-- the number of a pointer's block, and one; 0: nil -/
def ptrN : Value → Nat
  | .pointer (some a) => a.block + 1
  | _ => 0
/-- the pieces behind a pointer, each made before the one that points to it -/
def Chain (w : World) : List ByteArray → Value → Prop
  | [], v => v = .pointer none
  | p :: ps, v => ∃ g v', v = .pointer (some ⟨g, 0, none⟩) ∧ Arr w g 95 #[v', .string p] ∧ ptrN v' ≤ g ∧ Chain w ps v'
theorem Chain.kept {w w' : World} {r : Option Nat} (k : w.grownBy w' r) (hr : ∀ g, r = some g → ∃ t cs, t ≠ 95 ∧ Arr w g t cs) :
    ∀ (ps : List ByteArray) (v : Value), Chain w ps v → Chain w' ps v
  | [], _, h => h
  | _ :: ps, _, ⟨g, v', e, ha, hn, hc⟩ => ⟨g, v', e, ha.kept k (fun e => by
      obtain ⟨t, cs, ht, h⟩ := hr g e.symm
      exact (h.ne ha ht) rfl), hn, Chain.kept k hr ps v' hc⟩
theorem Chain.below {w w' : World} (k : Below w.heap.size w w') (ps : List ByteArray) (v : Value) (h : Chain w ps v) : Chain w' ps v :=
  Chain.kept (r := none) (gb_below k) (fun _ e => by cases e) ps v h

theorem Chain.ptr {w : World} : ∀ (ps : List ByteArray) (v : Value), Chain w ps v → ∃ a, v = .pointer a
  | [], _, h => ⟨none, h⟩
  | _ :: _, _, ⟨g, _, e, _, _⟩ => ⟨some ⟨g, 0, none⟩, e⟩
theorem Chain.le {w : World} : ∀ (ps : List ByteArray) (v : Value), Chain w ps v → ptrN v ≤ w.heap.size
  | [], _, h => by rw [show _ = Value.pointer none from h]; exact Nat.zero_le _
  | _ :: _, _, ⟨g, _, e, ha, _⟩ => by rw [e]; exact ha.lt
/-- a writer of these pieces -/
def WOk (w : World) (g : Nat) (ps : List ByteArray) : Prop :=
  ∃ v, Arr w g 60 #[v, .int .i64 ((cat ps).length : Int), .int .i64 0] ∧ Chain w ps v
/-- a writer with an error -/
def WBad (w : World) (g : Nat) (e : Int) : Prop := ∃ v n, Arr w g 60 #[v, n, .int .i64 e]
theorem WOk.below {w w' : World} {g : Nat} {ps : List ByteArray} (h : WOk w g ps) (k : Below w.heap.size w w') : WOk w' g ps := by
  obtain ⟨v, ha, hc⟩ := h
  exact ⟨v, ha.below k ha.lt, hc.below k⟩
theorem WBad.below {w w' : World} {g : Nat} {e : Int} (h : WBad w g e) (k : Below w.heap.size w w') : WBad w' g e := by
  obtain ⟨v, n, ha⟩ := h
  exact ⟨v, n, ha.below k ha.lt⟩
def Added (w : World) (g : Nat) (ps : List ByteArray) (x : Ending) (w' : World) : Prop := x = .returned (.tuple #[]) ∧ WOk w' g ps ∧ w.grownBy w' (some g)
def Failed (w : World) (g : Nat) (e : Int) (x : Ending) (w' : World) : Prop := x = .returned (.tuple #[]) ∧ WBad w' g e ∧ w.grownBy w' (some g)

set_option maxRecDepth 100000 in
theorem add_ok (g : Nat) (ps : List ByteArray) (s : ByteArray) (hs : s.size ≤ 281474976710656) (hl : (cat ps).length ≤ 281474976710656) (w : World) (h : WOk w g ps) :
    Calls Tryd.prog 70 #[.pointer (some ⟨g, 0, none⟩), .string s, .int .i64 0] w (Added w g (s :: ps)) := by
  obtain ⟨v, ha, hc⟩ := h
  obtain ⟨a, rfl⟩ := hc.ptr
  have c0 := ha.cell 0
  have c1 := ha.cell 1
  have c2 := ha.cell 2
  have f0 := ha.free 0
  have f1 := ha.free 1
  have hlt := ha.lt
  have HL : Hid ((cat (s :: ps)).length = (cat ps).length + s.size) := by show _ = _; rw [cat, List.length_append]; rfl
  generalize (cat ps).length = n at *
  simp only [List.getElem?_toArray, List.getElem?_cons_zero, List.getElem?_cons_succ] at c0 c1 c2
  go_enter Tryd.func70, Tryd.ntmps70
  go_wp2_with fail
  go_end0
  have k2 : w.grownBy ((w.setCell ⟨g, 0, none⟩ (.pointer (some ⟨w.heap.size, 0, none⟩))).setCell ⟨g, 1, none⟩ (.int .i64 ((n : Int) + s.size))) (some g) := gb_trans (gb_set _ _ _) (gb_set _ _ _)
  have a2 := (ha.put 0 (.pointer (some ⟨w.heap.size, 0, none⟩))).put 1 (.int .i64 ((n : Int) + s.size))
  have hz : ((w.setCell ⟨g, 0, none⟩ (.pointer (some ⟨w.heap.size, 0, none⟩))).setCell ⟨g, 1, none⟩ (.int .i64 ((n : Int) + s.size))).heap.size = w.heap.size := by simp [World.setCell]
  have hc2 := hc.kept k2 (fun g' e => by cases e; exact ⟨_, _, by decide, ha⟩)
  generalize (w.setCell ⟨g, 0, none⟩ (.pointer (some ⟨w.heap.size, 0, none⟩))).setCell ⟨g, 1, none⟩ (.int .i64 ((n : Int) + s.size)) = W2 at *
  refine ⟨rfl, ⟨.pointer (some ⟨w.heap.size, 0, none⟩), ?_, w.heap.size, .pointer a, rfl, Arr.new_at _ _ _ hz.symm, hc.le, hc2.below ((Below.refl _ _).alloc (Nat.le_refl _) _)⟩, gb_trans k2 (gb_alloc _)⟩
  rw [HL.out, Int.natCast_add]
  exact a2.alloc _

theorem add_err (g : Nat) (ps : List ByteArray) (s : ByteArray) (e : Int) (he : (e != 0) = true) (w : World) (h : WOk w g ps) :
    Calls Tryd.prog 70 #[.pointer (some ⟨g, 0, none⟩), .string s, .int .i64 e] w (Failed w g e) := by
  obtain ⟨v, ha, hc⟩ := h
  obtain ⟨a, rfl⟩ := hc.ptr
  have c0 := ha.cell 0
  have c1 := ha.cell 1
  have c2 := ha.cell 2
  have f0 := ha.free 0
  have f1 := ha.free 1
  have f2 := ha.free 2
  clear hc
  generalize (cat ps).length = n at *
  simp only [List.getElem?_toArray, List.getElem?_cons_zero, List.getElem?_cons_succ] at c0 c1 c2
  go_enter Tryd.func70, Tryd.ntmps70
  go_wp2_with fail
  (try simp only [Exit.inBlock, Exit.then]); refine bodyPost_ret (results_none rfl _ _ _) rfl ?_
  exact ⟨rfl, ⟨.pointer none, .int .i64 0, ((ha.put 0 _).put 1 _).put 2 _⟩, gb_trans (gb_trans (gb_set _ _ _) (gb_set _ _ _)) (gb_set _ _ _)⟩
theorem add_bad (g : Nat) (s : ByteArray) (e e2 : Int) (he : (e != 0) = true) (w : World) (h : WBad w g e) :
    Calls Tryd.prog 70 #[.pointer (some ⟨g, 0, none⟩), .string s, .int .i64 e2] w (Failed w g e) := by
  obtain ⟨v, n, ha⟩ := h
  have c2 := ha.cell 2
  simp only [List.getElem?_toArray, List.getElem?_cons_zero, List.getElem?_cons_succ] at c2
  go_enter Tryd.func70, Tryd.ntmps70
  go_wp2_with fail
  (try simp only [Exit.inBlock, Exit.then]); refine bodyPost_ret (results_none rfl _ _ _) rfl ?_
  exact ⟨rfl, ⟨v, n, ha⟩, World.grownBy.refl _ _⟩
theorem WNumber_ok (g : Nat) (ps : List ByteArray) (n : Int) (x : ByteArray) (C : PutIs ⟨#[]⟩ n x 0) (hs : x.size ≤ 281474976710656) (hl : (cat ps).length ≤ 281474976710656) (w : World) (h : WOk w g ps) :
    Calls Tryd.prog 38 #[.pointer (some ⟨g, 0, none⟩), .int .i64 n] w (Added w g (x :: ps)) := by
  go_enter Tryd.func38, Tryd.ntmps38
  go_wp2_with fail
  have q := C w
  (with_reducible refine q.mono ?_)
  clear q
  rintro e w1 ⟨rfl, b1⟩
  have h1 := h.below b1
  go_wp2_with fail
  (with_reducible refine (add_ok g ps x hs hl w1 h1).mono ?_)
  rintro e w2 ⟨rfl, h2, k2⟩
  go_wp2_with fail
  go_end0
  exact ⟨rfl, h2, gb_trans (gb_below b1) k2⟩
theorem WNumber_err (g : Nat) (ps : List ByteArray) (n : Int) (x : ByteArray) (e : Int) (he : (e != 0) = true) (C : PutIs ⟨#[]⟩ n x e) (w : World) (h : WOk w g ps) :
    Calls Tryd.prog 38 #[.pointer (some ⟨g, 0, none⟩), .int .i64 n] w (Failed w g e) := by
  go_enter Tryd.func38, Tryd.ntmps38
  go_wp2_with fail
  have q := C w
  (with_reducible refine q.mono ?_)
  clear q
  rintro e w1 ⟨rfl, b1⟩
  have h1 := h.below b1
  go_wp2_with fail
  (with_reducible refine (add_err g ps x _ he w1 h1).mono ?_)
  rintro e w2 ⟨rfl, h2, k2⟩
  go_wp2_with fail
  go_end0
  exact ⟨rfl, h2, gb_trans (gb_below b1) k2⟩
theorem WNumber_bad (g : Nat) (n : Int) (x : ByteArray) (e e2 : Int) (he : (e != 0) = true) (C : PutIs ⟨#[]⟩ n x e2) (w : World) (h : WBad w g e) :
    Calls Tryd.prog 38 #[.pointer (some ⟨g, 0, none⟩), .int .i64 n] w (Failed w g e) := by
  go_enter Tryd.func38, Tryd.ntmps38
  go_wp2_with fail
  have q := C w
  (with_reducible refine q.mono ?_)
  clear q
  rintro e w1 ⟨rfl, b1⟩
  have h1 := h.below b1
  go_wp2_with fail
  (with_reducible refine (add_bad g x _ e2 he w1 h1).mono ?_)
  rintro e w2 ⟨rfl, h2, k2⟩
  go_wp2_with fail
  go_end0
  exact ⟨rfl, h2, gb_trans (gb_below b1) k2⟩
theorem WText_ok (g : Nat) (ps : List ByteArray) (t x : ByteArray) (C : PutTextIs ⟨#[]⟩ t x 0) (hs : x.size ≤ 281474976710656) (hl : (cat ps).length ≤ 281474976710656) (w : World) (h : WOk w g ps) :
    Calls Tryd.prog 69 #[.pointer (some ⟨g, 0, none⟩), .string t] w (Added w g (x :: ps)) := by
  go_enter Tryd.func69, Tryd.ntmps69
  go_wp2_with fail
  have q := C w
  (with_reducible refine q.mono ?_)
  clear q
  rintro e w1 ⟨rfl, b1⟩
  have h1 := h.below b1
  go_wp2_with fail
  (with_reducible refine (add_ok g ps x hs hl w1 h1).mono ?_)
  rintro e w2 ⟨rfl, h2, k2⟩
  go_wp2_with fail
  go_end0
  exact ⟨rfl, h2, gb_trans (gb_below b1) k2⟩
theorem WText_err (g : Nat) (ps : List ByteArray) (t x : ByteArray) (e : Int) (he : (e != 0) = true) (C : PutTextIs ⟨#[]⟩ t x e) (w : World) (h : WOk w g ps) :
    Calls Tryd.prog 69 #[.pointer (some ⟨g, 0, none⟩), .string t] w (Failed w g e) := by
  go_enter Tryd.func69, Tryd.ntmps69
  go_wp2_with fail
  have q := C w
  (with_reducible refine q.mono ?_)
  clear q
  rintro e w1 ⟨rfl, b1⟩
  have h1 := h.below b1
  go_wp2_with fail
  (with_reducible refine (add_err g ps x _ he w1 h1).mono ?_)
  rintro e w2 ⟨rfl, h2, k2⟩
  go_wp2_with fail
  go_end0
  exact ⟨rfl, h2, gb_trans (gb_below b1) k2⟩
theorem WText_bad (g : Nat) (t x : ByteArray) (e e2 : Int) (he : (e != 0) = true) (C : PutTextIs ⟨#[]⟩ t x e2) (w : World) (h : WBad w g e) :
    Calls Tryd.prog 69 #[.pointer (some ⟨g, 0, none⟩), .string t] w (Failed w g e) := by
  go_enter Tryd.func69, Tryd.ntmps69
  go_wp2_with fail
  have q := C w
  (with_reducible refine q.mono ?_)
  clear q
  rintro e w1 ⟨rfl, b1⟩
  have h1 := h.below b1
  go_wp2_with fail
  (with_reducible refine (add_bad g x _ e2 he w1 h1).mono ?_)
  rintro e w2 ⟨rfl, h2, k2⟩
  go_wp2_with fail
  go_end0
  exact ⟨rfl, h2, gb_trans (gb_below b1) k2⟩
theorem WBytes_ok (g : Nat) (ps : List ByteArray) (x : ByteArray) (hs : x.size ≤ 281474976710656) (hl : (cat ps).length ≤ 281474976710656) (w : World) (h : WOk w g ps) :
    Calls Tryd.prog 39 #[.pointer (some ⟨g, 0, none⟩), .string x] w (Added w g (x :: ps)) := by
  go_enter Tryd.func39, Tryd.ntmps39
  go_wp2_with fail
  (with_reducible refine (add_ok g ps x hs hl w h).mono ?_)
  rintro e w2 ⟨rfl, h2, k2⟩
  go_wp2_with fail
  go_end0
  exact ⟨rfl, h2, k2⟩
theorem WBytes_bad (g : Nat) (x : ByteArray) (e : Int) (he : (e != 0) = true) (w : World) (h : WBad w g e) :
    Calls Tryd.prog 39 #[.pointer (some ⟨g, 0, none⟩), .string x] w (Failed w g e) := by
  go_enter Tryd.func39, Tryd.ntmps39
  go_wp2_with fail
  (with_reducible refine (add_bad g x e 0 he w h).mono ?_)
  rintro e w2 ⟨rfl, h2, k2⟩
  go_wp2_with fail
  go_end0
  exact ⟨rfl, h2, k2⟩
end Go.Proofs.YtbpmgpbmeganoaaDoor
