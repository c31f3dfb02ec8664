/- Reading parents and entries. -/
import Derived.Test.YtbpmgpbmeganoaaDoorBw
import Derived.Deep.AppendLies
namespace Go.Proofs.YtbpmgpbmeganoaaDoor
open Go.RowKit

def sv (t : ByteArray) : Value := .string t
theorem info_str : (Tryd.prog.info? 9).map (fun i => (i.zero, i.size, i.bytes)) = some (some (.string ⟨#[]⟩), 1, 16) := by kernel_rfl
def entCells : List Ent → List Value
  | [] => []
  | e :: l => .string e.name :: .bool e.dir :: .string e.id :: entCells l
theorem entCells_len : ∀ l : List Ent, (entCells l).length = l.length * 3
  | [] => rfl
  | e :: l => by simp only [entCells, List.length_cons, entCells_len l]; omega
theorem entCells_app : ∀ (a : List Ent) (e : Ent), entCells (a ++ [e]) = entCells a ++ [.string e.name, .bool e.dir, .string e.id]
  | [], e => rfl
  | x :: a, e => by rw [List.cons_append, entCells, entCells_app a e]; rfl
theorem entCells_at : ∀ (l : List Ent) (k : Nat) (x : Ent), l[k]? = some x → (entCells l)[k * 3]? = some (.string x.name) ∧ (entCells l)[k * 3 + 1]? = some (.bool x.dir) ∧ (entCells l)[k * 3 + 2]? = some (.string x.id)
  | [], k, x, h => by simp at h
  | e :: l, 0, x, h => by
    simp at h; subst h
    exact ⟨rfl, rfl, rfl⟩
  | e :: l, k + 1, x, h => by
    rw [List.getElem?_cons_succ] at h
    obtain ⟨h0, h1, h2⟩ := entCells_at l k x h
    have e0 : (k + 1) * 3 = k * 3 + 3 := by omega
    rw [e0]
    exact ⟨h0, h1, h2⟩
theorem zero_add (g j : Nat) : (⟨g, 0, none⟩ : Addr).add j = ⟨g, j, none⟩ := by unfold Addr.add; split <;> simp_all
theorem own_texts {w : World} {base : Nat} {v : Value} {T : List ByteArray} (h : w.ownsRow base 9 1 v T.length (T.map sv)) : ∃ A c, v = .slice A T.length c ∧ T.length ≤ c ∧ Txs w w.heap.size A T ∧ ∀ ad, A = some ad → base ≤ ad.block := by
  rcases h.2 with ⟨rfl, hn⟩ | ⟨g, cap, cur, rfl, hb, hg, hnc, hcm, hcs, htake⟩
  · have e : T = [] := List.eq_nil_of_length_eq_zero hn
    subst e
    exact ⟨none, 0, rfl, Nat.le_refl _, Txs.nil _ _ _, fun ad e => by cases e⟩
  · refine ⟨some ⟨g, 0, none⟩, cap, rfl, hnc, fun k x hx => ⟨_, rfl, ?_, ?_⟩, fun ad e => by cases e; exact hb⟩
    · rw [zero_add]; exact (Array.getElem?_eq_some_iff.1 hg).1
    · have hk : k < T.length := (List.getElem?_eq_some_iff.1 hx).1
      have hu : (T.map sv)[k]? = some (.string x) := by rw [List.getElem?_map, hx]; rfl
      rw [zero_add, cell_of_row w g k cur _ (0, 0) hg, ← hu, ← htake, List.getElem?_take_of_lt (by omega)]
      simp
theorem own_far {w : World} {base : Nat} {e : TypeId} {v : Value} {n size g : Nat} {xs : List Value} (h : w.ownsRow base e size v n xs) (hg : g < base) : v.ownBlock = none ∨ v.ownBlock ≠ some g := by
  rcases h.2 with ⟨rfl, _⟩ | ⟨g', cap, cur, rfl, hb, _, _⟩
  · exact .inl rfl
  · refine .inr fun e1 => ?_
    have e2 : g' = g := by simpa [Value.ownBlock] using e1
    omega
theorem own_row_ge {w : World} {base : Nat} {e : TypeId} {v : Value} {n size : Nat} {xs : List Value} (h : w.ownsRow base e size v n xs) (k : Nat) (hk : v.ownBlock = some k) : base ≤ k := by
  rcases h.2 with ⟨rfl, _⟩ | ⟨g, cap, cur, rfl, hb, _⟩
  · cases hk
  · cases hk; exact hb
theorem gb_own {w w1 w2 : World} {r r2 : Option Nat} (h : w.grownBy w1 r) (k : w1.grownBy w2 r2) (hr : ∀ q, r2 = some q → w.heap.size ≤ q) : w.grownBy w2 r :=
  ⟨k.os.trans h.os, k.tape.trans h.tape, k.output.trans h.output, Nat.le_trans h.size k.size, fun i hi hir => (k.block i (Nat.lt_of_lt_of_le hi h.size) (fun e => by have := hr i e.symm; omega)).trans (h.block i hi hir)⟩

theorem stNum_lt (st : St) : (stNum st).1 < 4611686018427387904 := by
  cases st with
  | none => exact (by decide : (0 : Nat) < 4611686018427387904)
  | some l =>
    unfold stNum
    cases hg : rdNum l with
    | none => simp [hg]
    | some y =>
      obtain ⟨n, r⟩ := y
      simp only [hg]
      exact rdNum_lt hg
def RPRel (n : Nat) (l0 : List UInt8) (g : Nat) (w : World) (v i : Value) (wr : World) : Prop :=
  ∃ (T : List ByteArray) (lc : List UInt8), T.length ≤ n ∧ i = .int .i64 (T.length : Int) ∧ RS wr g (some lc) ∧ wr.ownsRow w.heap.size 9 1 v T.length (T.map sv) ∧ w.grownBy wr (some g) ∧
    T.length * 32 + lc.length ≤ 8192 ∧ rdPars n l0 = match rdPars (n - T.length) lc with
      | none => none
      | some (T2, r) => some (T ++ T2, r)
/-- behind a list that was read -/
def PEnd (g : Nat) (w : World) (T : List ByteArray) (st : St) (x : Ending) (w' : World) : Prop :=
  ∃ A c, x = .returned (.slice A T.length c) ∧ T.length ≤ c ∧ (Txs w' w'.heap.size A T ∧ ∀ ad, A = some ad → w.heap.size ≤ ad.block) ∧ RS w' g st ∧ w.grownBy w' (some g)
theorem pars_done {n : Nat} {l0 lc : List UInt8} {T : List ByteArray} (h : rdPars n l0 = match rdPars (n - T.length) lc with | none => none | some (T2, r) => some (T ++ T2, r)) (hn : ¬ T.length < n) : rdPars n l0 = some (T, lc) := by
  rw [h, show n - T.length = 0 from by omega, rdPars]
  simp
theorem pars_bad {n : Nat} {l0 lc : List UInt8} {T : List ByteArray} (h : rdPars n l0 = match rdPars (n - T.length) lc with | none => none | some (T2, r) => some (T ++ T2, r)) (hn : T.length < n) (hr : rdId lc = none) : rdPars n l0 = none := by
  rw [h, show n - T.length = (n - T.length - 1) + 1 from by omega, rdPars]
  simp [hr]
theorem pars_more {n : Nat} {l0 lc r : List UInt8} {p : ByteArray} {T : List ByteArray} (h : rdPars n l0 = match rdPars (n - T.length) lc with | none => none | some (T2, r) => some (T ++ T2, r)) (hn : T.length < n) (hr : rdId lc = some (p, r)) :
    rdPars n l0 = match rdPars (n - (T ++ [p]).length) r with | none => none | some (T2, r) => some ((T ++ [p]) ++ T2, r) := by
  rw [h, show n - T.length = (n - (T ++ [p]).length) + 1 from by rw [List.length_append]; simp; omega, rdPars]
  simp only [hr]
  cases rdPars (n - (T ++ [p]).length) r <;> simp
theorem rdId_len {l r : List UInt8} {p : ByteArray} (h : rdId l = some (p, r)) : r.length + 32 = l.length := by
  unfold rdId at h
  split at h
  · simp only [Option.some.injEq, Prod.mk.injEq] at h
    rw [← h.2, List.length_drop]; omega
  · cases h

end Go.Proofs.YtbpmgpbmeganoaaDoor
