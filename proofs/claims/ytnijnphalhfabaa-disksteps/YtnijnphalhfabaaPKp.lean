/- What a call has turned: all but the blocks that X names is as it was. -/
import Derived.Test.YtnijnphalhfabaaIMap
import Derived.Test.YtnijnphalhfabaaODecB
namespace Go.Proofs.Ytnijnphalhfabaa
open Go.RowKit

structure Kp (X : Nat → Prop) (w w' : World) : Prop where
  os : w'.os = w.os
  tape : w'.tape = w.tape
  output : w'.output = w.output
  size : w.heap.size ≤ w'.heap.size
  block : ∀ k, k < w.heap.size → ¬ X k → w'.heap[k]? = w.heap[k]?
section
variable {X Y : Nat → Prop} {w w1 w2 : World} {r : Option Nat}
theorem Kp.refl (X : Nat → Prop) (w : World) : Kp X w w := ⟨rfl, rfl, rfl, Nat.le_refl _, fun _ _ _ => rfl⟩
theorem Kp.gb (h : w.grownBy w1 r) : Kp (fun i => r = some i) w w1 := ⟨h.os, h.tape, h.output, h.size, fun k hk hx => h.block k hk (fun e => hx e.symm)⟩
theorem Kp.bel (h : Below w.heap.size w w1) : Kp X w w1 := ⟨h.os, h.tape, h.output, h.size, fun k hk _ => h.block k hk⟩
theorem Kp.mono (h : Kp X w w1) (hx : ∀ i, i < w.heap.size → X i → Y i) : Kp Y w w1 := ⟨h.os, h.tape, h.output, h.size, fun k hk hy => h.block k hk (fun x => hy (hx k hk x))⟩
theorem Kp.trans (h : Kp X w w1) (k : Kp Y w1 w2) (hx : ∀ i, i < w.heap.size → Y i → X i) : Kp X w w2 :=
  ⟨k.os.trans h.os, k.tape.trans h.tape, k.output.trans h.output, Nat.le_trans h.size k.size, fun i hi hn => (k.block i (Nat.lt_of_lt_of_le hi h.size) (fun y => hn (hx i hi y))).trans (h.block i hi hn)⟩
theorem Kp.drew (h : Kp X w w1) : Kp X w w1.drew := ⟨h.os, h.tape, h.output, h.size, h.block⟩
theorem Kp.below (h : Kp X w w1) {B : Nat} (hB : B ≤ w.heap.size) (hx : ∀ i, i < w.heap.size → X i → B ≤ i) : Below B w w1 :=
  ⟨h.os, h.tape, h.output, h.size, fun k hk => h.block k (by omega) (fun x => by have := hx k (by omega) x; omega)⟩
theorem Kp.grown (h : Kp (fun i => r = some i) w w1) : w.grownBy w1 r := ⟨h.os, h.tape, h.output, h.size, fun k hk hx => h.block k hk (fun e => hx e.symm)⟩
theorem Arr.kp {g : Nat} {t : TypeId} {cs : Array Value} (h : Arr w g t cs) (k : Kp X w w1) (hx : ¬ X g) : Arr w1 g t cs := (k.block g h.lt hx).trans h
theorem MapI.kp {g : Nat} {l : List KI} (h : MapI w g l) (k : Kp X w w1) (hx : ¬ X g) : MapI w1 g l := (k.block g h.lt hx).trans h
theorem own_kp {base : Nat} {e : TypeId} {size : Nat} {v : Value} {n : Nat} {xs : List Value} (h : w.ownsRow base e size v n xs) (k : Kp X w w1) (hx : ∀ g, v.ownBlock = some g → ¬ X g) : w1.ownsRow base e size v n xs := by
  refine ⟨h.1, ?_⟩
  rcases h.2 with h2 | ⟨g, cap, cur, rfl, hb, hg, rest⟩
  · exact .inl h2
  · exact .inr ⟨g, cap, cur, rfl, hb, (k.block g (Array.getElem?_eq_some_iff.1 hg).1 (hx g rfl)).trans hg, rest⟩
theorem own_drew {base : Nat} {e : TypeId} {size : Nat} {v : Value} {n : Nat} {xs : List Value} (h : w.ownsRow base e size v n xs) : w.drew.ownsRow base e size v n xs := h
theorem Txs.kp {B : Nat} {A : Option Addr} {T : List ByteArray} (h : Txs w B A T) (k : Kp X w w1) (hB : B ≤ w.heap.size) (hx : ∀ i, i < B → ¬ X i) : Txs w1 B A T := fun j x hj => by
  obtain ⟨ad, e, hb, hc⟩ := h j x hj
  exact ⟨ad, e, hb, (World.cell?_of_block (k.block _ (by omega) (hx _ hb))).trans hc⟩
/-- a row of another type than a block's -/
theorem own_ne {base : Nat} {e t : TypeId} {size g : Nat} {v : Value} {n : Nat} {xs : List Value} {cs : Array Value} (h : w.ownsRow base e size v n xs) (h' : Arr w g t cs) (ht : e ≠ t) : v.ownBlock ≠ some g := fun q => by
  rcases h.2 with ⟨rfl, _⟩ | ⟨k, cap, cur, rfl, _, hg, _⟩
  · cases q
  · cases q
    have := hg.symm.trans h'
    simp only [Option.some.injEq, Obj.cells.injEq] at this
    exact ht this.2.1
theorem own_map {base : Nat} {e : TypeId} {size g : Nat} {v : Value} {n : Nat} {xs : List Value} {l : List KI} (h : w.ownsRow base e size v n xs) (h' : MapI w g l) : v.ownBlock ≠ some g := fun q => by
  rcases h.2 with ⟨rfl, _⟩ | ⟨k, cap, cur, rfl, _, hg, _⟩
  · cases q
  · cases q
    have := hg.symm.trans h'
    cases this
theorem own_row {base base' : Nat} {e e' : TypeId} {size size' : Nat} {v v' : Value} {n n' : Nat} {xs xs' : List Value} (h : w.ownsRow base e size v n xs) (h' : w.ownsRow base' e' size' v' n' xs') (he : e ≠ e') (g : Nat) (hg : v.ownBlock = some g) : v'.ownBlock ≠ some g := fun q => by
  rcases h.2 with ⟨rfl, _⟩ | ⟨k, cap, cur, rfl, _, hk, _⟩
  · cases hg
  · cases hg
    rcases h'.2 with ⟨rfl, _⟩ | ⟨k', cap', cur', rfl, _, hk', _⟩
    · cases q
    · cases q
      have := hk.symm.trans hk'
      simp only [Option.some.injEq, Obj.cells.injEq] at this
      exact he this.2.1
theorem map_arr {g g' : Nat} {t : TypeId} {cs : Array Value} {l : List KI} (h : MapI w g l) (h' : Arr w g' t cs) : g ≠ g' := fun e => by
  subst e
  have := h.symm.trans h'
  cases this
end
/-- the keys of a map are these texts -/
def KeyIs (M : List KI) (T : List ByteArray) : Prop := ∀ k, (posI k M).isSome = true ↔ k ∈ T
theorem posI_push (k x : ByteArray) (v : Nat) : ∀ M : List KI, (posI k (M ++ [(x, v)])).isSome = ((posI k M).isSome || decide (k = x))
  | [] => by
    simp only [posI, List.nil_append, Option.isSome_none, Bool.false_or]
    by_cases h : k = x
    · simp [h]
    · simp [h]
  | y :: M => by
    have := posI_push k x v M
    simp only [posI, List.cons_append]
    by_cases h : k = y.1
    · simp [h]
    · simp only [if_neg h, Option.isSome_map]
      exact this
theorem keys_push {M : List KI} {T : List ByteArray} (h : KeyIs M T) (s : ByteArray) (v : Nat) : KeyIs (M ++ [(s, v)]) (T ++ [s]) := fun k => by
  rw [posI_push, Bool.or_eq_true, h k, List.mem_append, List.mem_singleton, decide_eq_true_iff]
theorem keys_nil : KeyIs [] [] := fun k => by simp [posI]
end Go.Proofs.Ytnijnphalhfabaa
