/- Texts in one: PKp, DkMem. -/
import Derived.Test.YtenjnaebhbmfiaaDoorIMap
import Derived.Test.YtenjnaebhbmfiaaDoorODecB
import Derived.Test.YtenjnaebhbmfiaaDoorRfSpec
import Derived.Test.YtenjnaebhbmfiaaDoorWRead
/- What a call has turned: all but the blocks that X names is as it was. -/
namespace Go.Proofs.YtenjnaebhbmfiaaDoor
open Go.RowKit

structure Kp (X : Nat → Prop) (w w' : World) : Prop where
  os : w'.os = w.os
  tape : w'.tape = w.tape
  output : w'.output = w.output
  size : w.heap.size ≤ w'.heap.size
  block : ∀ k, k < w.heap.size → ¬ X k → w'.heap[k]? = w.heap[k]?
section
variable {X Y : Nat → Prop} {w w1 w2 : World} {r : Option Nat}
theorem Kp.refl (X : Nat → Prop) (w : World) : Kp X w w := ⟨rfl, rfl, rfl, Nat.le_refl _, fun _ _ _ => rfl⟩
theorem Kp.gb (h : w.grownBy w1 r) : Kp (fun i => r = some i) w w1 := ⟨h.os, h.tape, h.output, h.size, fun k hk hx => h.block k hk (fun e => hx e.symm)⟩
theorem Kp.bel (h : Below w.heap.size w w1) : Kp X w w1 := ⟨h.os, h.tape, h.output, h.size, fun k hk _ => h.block k hk⟩
theorem Kp.mono (h : Kp X w w1) (hx : ∀ i, i < w.heap.size → X i → Y i) : Kp Y w w1 := ⟨h.os, h.tape, h.output, h.size, fun k hk hy => h.block k hk (fun x => hy (hx k hk x))⟩
theorem Kp.trans (h : Kp X w w1) (k : Kp Y w1 w2) (hx : ∀ i, i < w.heap.size → Y i → X i) : Kp X w w2 :=
  ⟨k.os.trans h.os, k.tape.trans h.tape, k.output.trans h.output, Nat.le_trans h.size k.size, fun i hi hn => (k.block i (Nat.lt_of_lt_of_le hi h.size) (fun y => hn (hx i hi y))).trans (h.block i hi hn)⟩
theorem Kp.drew (h : Kp X w w1) : Kp X w w1.drew := ⟨h.os, h.tape, h.output, h.size, h.block⟩
theorem Kp.below (h : Kp X w w1) {B : Nat} (hB : B ≤ w.heap.size) (hx : ∀ i, i < w.heap.size → X i → B ≤ i) : Below B w w1 :=
  ⟨h.os, h.tape, h.output, h.size, fun k hk => h.block k (by omega) (fun x => by have := hx k (by omega) x; omega)⟩
theorem Kp.grown (h : Kp (fun i => r = some i) w w1) : w.grownBy w1 r := ⟨h.os, h.tape, h.output, h.size, fun k hk hx => h.block k hk (fun e => hx e.symm)⟩
theorem Arr.kp {g : Nat} {t : TypeId} {cs : Array Value} (h : Arr w g t cs) (k : Kp X w w1) (hx : ¬ X g) : Arr w1 g t cs := (k.block g h.lt hx).trans h
theorem MapI.kp {g : Nat} {l : List KI} (h : MapI w g l) (k : Kp X w w1) (hx : ¬ X g) : MapI w1 g l := (k.block g h.lt hx).trans h
theorem own_kp {base : Nat} {e : TypeId} {size : Nat} {v : Value} {n : Nat} {xs : List Value} (h : w.ownsRow base e size v n xs) (k : Kp X w w1) (hx : ∀ g, v.ownBlock = some g → ¬ X g) : w1.ownsRow base e size v n xs := by
  refine ⟨h.1, ?_⟩
  rcases h.2 with h2 | ⟨g, cap, cur, rfl, hb, hg, rest⟩
  · exact .inl h2
  · exact .inr ⟨g, cap, cur, rfl, hb, (k.block g (Array.getElem?_eq_some_iff.1 hg).1 (hx g rfl)).trans hg, rest⟩
theorem own_drew {base : Nat} {e : TypeId} {size : Nat} {v : Value} {n : Nat} {xs : List Value} (h : w.ownsRow base e size v n xs) : w.drew.ownsRow base e size v n xs := h
theorem Txs.kp {B : Nat} {A : Option Addr} {T : List ByteArray} (h : Txs w B A T) (k : Kp X w w1) (hB : B ≤ w.heap.size) (hx : ∀ i, i < B → ¬ X i) : Txs w1 B A T := fun j x hj => by
  obtain ⟨ad, e, hb, hc⟩ := h j x hj
  exact ⟨ad, e, hb, (World.cell?_of_block (k.block _ (by omega) (hx _ hb))).trans hc⟩
/-- a row of another type than a block's -/
theorem own_ne {base : Nat} {e t : TypeId} {size g : Nat} {v : Value} {n : Nat} {xs : List Value} {cs : Array Value} (h : w.ownsRow base e size v n xs) (h' : Arr w g t cs) (ht : e ≠ t) : v.ownBlock ≠ some g := fun q => by
  rcases h.2 with ⟨rfl, _⟩ | ⟨k, cap, cur, rfl, _, hg, _⟩
  · cases q
  · cases q
    have := hg.symm.trans h'
    simp only [Option.some.injEq, Obj.cells.injEq] at this
    exact ht this.2.1
theorem own_map {base : Nat} {e : TypeId} {size g : Nat} {v : Value} {n : Nat} {xs : List Value} {l : List KI} (h : w.ownsRow base e size v n xs) (h' : MapI w g l) : v.ownBlock ≠ some g := fun q => by
  rcases h.2 with ⟨rfl, _⟩ | ⟨k, cap, cur, rfl, _, hg, _⟩
  · cases q
  · cases q
    have := hg.symm.trans h'
    cases this
theorem own_row {base base' : Nat} {e e' : TypeId} {size size' : Nat} {v v' : Value} {n n' : Nat} {xs xs' : List Value} (h : w.ownsRow base e size v n xs) (h' : w.ownsRow base' e' size' v' n' xs') (he : e ≠ e') (g : Nat) (hg : v.ownBlock = some g) : v'.ownBlock ≠ some g := fun q => by
  rcases h.2 with ⟨rfl, _⟩ | ⟨k, cap, cur, rfl, _, hk, _⟩
  · cases hg
  · cases hg
    rcases h'.2 with ⟨rfl, _⟩ | ⟨k', cap', cur', rfl, _, hk', _⟩
    · cases q
    · cases q
      have := hk.symm.trans hk'
      simp only [Option.some.injEq, Obj.cells.injEq] at this
      exact he this.2.1
theorem map_arr {g g' : Nat} {t : TypeId} {cs : Array Value} {l : List KI} (h : MapI w g l) (h' : Arr w g' t cs) : g ≠ g' := fun e => by
  subst e
  have := h.symm.trans h'
  cases this
end
/-- the keys of a map are these texts -/
def KeyIs (M : List KI) (T : List ByteArray) : Prop := ∀ k, (posI k M).isSome = true ↔ k ∈ T
theorem posI_push (k x : ByteArray) (v : Nat) : ∀ M : List KI, (posI k (M ++ [(x, v)])).isSome = ((posI k M).isSome || decide (k = x))
  | [] => by
    simp only [posI, List.nil_append, Option.isSome_none, Bool.false_or]
    by_cases h : k = x
    · simp [h]
    · simp [h]
  | y :: M => by
    have := posI_push k x v M
    simp only [posI, List.cons_append]
    by_cases h : k = y.1
    · simp [h]
    · simp only [if_neg h, Option.isSome_map]
      exact this
theorem keys_push {M : List KI} {T : List ByteArray} (h : KeyIs M T) (s : ByteArray) (v : Nat) : KeyIs (M ++ [(s, v)]) (T ++ [s]) := fun k => by
  rw [posI_push, Bool.or_eq_true, h k, List.mem_append, List.mem_singleton, decide_eq_true_iff]
theorem keys_nil : KeyIs [] [] := fun k => by simp [posI]
end Go.Proofs.YtenjnaebhbmfiaaDoor

/- Disks in memory. -/
namespace Go.Proofs.YtenjnaebhbmfiaaDoor
open Go.RowKit

def flArr (f : Fl) : Array Value := #[.string f.name, .string f.safe, .string f.tail]
def flZero : Array Value := #[.string ⟨#[]⟩, .string ⟨#[]⟩, .string ⟨#[]⟩]
def flCells : List Fl → List Value
  | [] => []
  | f :: l => (flArr f).toList ++ flCells l
theorem flCells_app : ∀ a b : List Fl, flCells (a ++ b) = flCells a ++ flCells b
  | [], b => rfl
  | x :: a, b => by rw [List.cons_append, flCells, flCells_app a b, flCells, List.append_assoc]
theorem flCells_len : ∀ l : List Fl, (flCells l).length = l.length * 3
  | [] => rfl
  | f :: l => by
    rw [flCells, List.length_append, flCells_len l, List.length_cons]
    have : (flArr f).toList.length = 3 := rfl
    omega
theorem flCells_at : ∀ (l : List Fl) (k j : Nat) (f : Fl), l[k]? = some f → j < 3 → (flCells l)[k * 3 + j]? = (flArr f).toList[j]?
  | [], k, j, f, h, _ => by simp at h
  | x :: l, 0, j, f, h, hj => by
    simp at h
    subst h
    rw [flCells, Nat.zero_mul, Nat.zero_add, List.getElem?_append_left (show j < (flArr x).toList.length from hj)]
  | x :: l, k + 1, j, f, h, hj => by
    rw [List.getElem?_cons_succ] at h
    have ih := flCells_at l k j f h hj
    have e : (flArr x).toList.length = 3 := rfl
    rw [flCells, List.getElem?_append_right (by omega), show (k + 1) * 3 + j - (flArr x).toList.length = k * 3 + j from by omega]
    exact ih
theorem flCells_take : ∀ (l : List Fl) (k : Nat), (flCells l).take (k * 3) = flCells (l.take k)
  | [], k => by simp [flCells]
  | x :: l, 0 => by simp [flCells]
  | x :: l, k + 1 => by
    have e : (flArr x).toList.length = 3 := rfl
    rw [List.take_succ_cons, flCells, flCells, ← flCells_take l k, show (k + 1) * 3 = (flArr x).toList.length + k * 3 from by omega, List.take_append, List.take_of_length_le (by omega)]
    simp
theorem flCells_drop : ∀ (l : List Fl) (k : Nat), (flCells l).drop (k * 3) = flCells (l.drop k)
  | [], k => by simp [flCells]
  | x :: l, 0 => by simp [flCells]
  | x :: l, k + 1 => by
    have e : (flArr x).toList.length = 3 := rfl
    rw [List.drop_succ_cons, flCells, ← flCells_drop l k, show (k + 1) * 3 = (flArr x).toList.length + k * 3 from by omega, List.drop_append, List.drop_of_length_le (by omega)]
    simp
theorem flCells_one (l : List Fl) : ∀ u ∈ flCells l, u.oneCell' = true := by
  induction l with
  | nil => intro u hu; cases hu
  | cons f l ih =>
    intro u hu
    rcases List.mem_append.1 hu with h | h
    · simp [flArr] at h
      rcases h with rfl | rfl | rfl <;> rfl
    · exact ih u h
theorem flArr_one (f : Fl) : (flArr f).all (·.oneCell') = true := by
  unfold flArr
  rw [Array.all_eq_true_iff_forall_mem]
  intro v hv
  simp at hv
  rcases hv with rfl | rfl | rfl <;> rfl
/-- the files that a slice holds, all in blocks below B -/
def Fls (w : World) (B : Nat) (A : Option Addr) (L : List Fl) : Prop :=
  ∀ k x, L[k]? = some x → ∃ ad, A = some ad ∧ (ad.add (k * 3)).block < B ∧ w.cell? (ad.add (k * 3)) = some (.string x.name) ∧
    w.cell? ⟨(ad.add (k * 3)).block, (ad.add (k * 3)).off + 1, none⟩ = some (.string x.safe) ∧ w.cell? ⟨(ad.add (k * 3)).block, (ad.add (k * 3)).off + 2, none⟩ = some (.string x.tail)
theorem Fls.below {w w' : World} {B : Nat} {A : Option Addr} {L : List Fl} (h : Fls w B A L) (b : Below B w w') : Fls w' B A L := fun k x hx => by
  obtain ⟨ad, e, hb, h0, h1, h2⟩ := h k x hx
  exact ⟨ad, e, hb, (b.cell hb).trans h0, (b.cell (p := ⟨(ad.add (k * 3)).block, (ad.add (k * 3)).off + 1, none⟩) hb).trans h1, (b.cell (p := ⟨(ad.add (k * 3)).block, (ad.add (k * 3)).off + 2, none⟩) hb).trans h2⟩
theorem Fls.mono {w : World} {B B' : Nat} {A : Option Addr} {L : List Fl} (h : Fls w B A L) (hB : B ≤ B') : Fls w B' A L := fun k x hx => by
  obtain ⟨ad, e, hb, hc⟩ := h k x hx
  exact ⟨ad, e, by omega, hc⟩
theorem Fls.nil (w : World) (B : Nat) (A : Option Addr) : Fls w B A [] := fun k x h => by simp at h
theorem Fls.up {w w' : World} {A : Option Addr} {L : List Fl} (h : Fls w w.heap.size A L) (b : Below w.heap.size w w') : Fls w' w'.heap.size A L := (h.below b).mono b.size
/-- a disk's cells -/
def dkArr (L : List Fl) (A : Option Addr) (c : Nat) (z : Int) : Array Value := #[.slice A L.length c, .int .i64 z]
def dkZero : Array Value := #[.slice none 0 0, .int .i64 0]
theorem dkArr_one (L : List Fl) (A : Option Addr) (c : Nat) (z : Int) : (dkArr L A c z).all (·.oneCell') = true := by
  unfold dkArr
  rw [Array.all_eq_true_iff_forall_mem]
  intro v hv
  simp at hv
  rcases hv with rfl | rfl <;> rfl
end Go.Proofs.YtenjnaebhbmfiaaDoor
