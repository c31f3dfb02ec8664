/- Texts in one: Mem, Bytes. -/
import Derived.WalkKit
import Derived.WalkSpells
import Derived.WalkLawsBesides
import Derived.Lib.Hide
import Derived.Deep.Draws
/- Small facts on memory: a block whose cells are all known. No program is named here. -/
namespace Go.Proofs.Ytpekjnifmhlopaa
open Go.RowKit

/-- Block g holds just these cells, none frozen. -/
def Arr (w : World) (g : Nat) (t : TypeId) (cs : Array Value) : Prop := w.heap[g]? = some (.cells cs t (0, 0))
section
variable {w w' : World} {g : Nat} {t : TypeId} {cs : Array Value}
theorem Arr.lt (h : Arr w g t cs) : g < w.heap.size := (Array.getElem?_eq_some_iff.1 h).1
theorem Arr.cell (h : Arr w g t cs) (i : Nat) : w.cell? ⟨g, i, none⟩ = cs[i]? := cell_of_row w g i cs t (0, 0) h
theorem Arr.free (h : Arr w g t cs) (i : Nat) : w.frozen? ⟨g, i, none⟩ = false := by unfold Arr at h; simp [World.frozen?, h]
theorem Arr.new (w : World) (t : TypeId) (cs : Array Value) : Arr (w.alloc (.cells cs t)) w.heap.size t cs := heap_alloc_new w _
theorem Arr.new_at (w : World) (t : TypeId) (cs : Array Value) {g : Nat} (hg : g = w.heap.size) : Arr (w.alloc (.cells cs t)) g t cs := by subst hg; exact Arr.new w t cs
theorem Arr.drew (h : Arr w g t cs) : Arr w.drew g t cs := h
theorem Arr.drewN (h : Arr w g t cs) (n : Nat) : Arr (w.drewN n) g t cs := h
theorem Arr.alloc (h : Arr w g t cs) (o : Obj) : Arr (w.alloc o) g t cs := (Below.heap_alloc w o g h.lt).trans h
theorem Arr.put (h : Arr w g t cs) (i : Nat) (u : Value) : Arr (w.setCell ⟨g, i, none⟩ u) g t (cs.setIfInBounds i u) := by
  unfold Arr at h ⊢
  simp [World.setCell, Array.getElem?_modify, h]
theorem Arr.far (h : Arr w g t cs) {p : Addr} (hp : g ≠ p.block) (u : Value) : Arr (w.setCell p u) g t cs := (Below.heap_setCell w p u g hp).trans h
theorem Arr.below {B : Nat} (h : Arr w g t cs) (hb : Below B w w') (hg : g < B) : Arr w' g t cs := (hb.block g hg).trans h
theorem Arr.row (h : Arr w g t cs) (cs' : Array Value) : Arr (w.setRow g cs') g t cs' := setRow_heap w g cs _ t _ h
theorem Arr.row_far (h : Arr w g t cs) {k : Nat} (hk : k ≠ g) (cs' : Array Value) : Arr (w.setRow k cs') g t cs := by
  unfold Arr at h ⊢
  simp only [World.setRow, Array.getElem?_modify]
  rw [if_neg hk]; exact h
end
theorem Arr.store {P : Program} {w : World} {g : Nat} {t : TypeId} {cs : Array Value} (h : Arr w g t cs) (cs' : Array Value) (hl : cs'.size = cs.size) (h1 : cs'.all (·.oneCell') = true) :
    (storeCells ⟨g, 0, none⟩ cs'.toList).run P w = .ok () (w.setRow g cs') := by
  have := run_storeCells_from (P := P) g t cs'.toList 0 cs w h (by simp; omega) (fun v hv => (Array.all_eq_true_iff_forall_mem.1 h1) v (by simpa using hv))
  simpa using this
theorem below_setRow {B : Nat} {a w : World} (h : Below B a w) {g : Nat} (hg : B ≤ g) (cs : Array Value) : Below B a (w.setRow g cs) :=
  h.trans ⟨rfl, rfl, rfl, by simp [World.setRow], fun k hk => by
    simp only [World.setRow, Array.getElem?_modify]
    rw [if_neg (by omega)]⟩
theorem setRow_size (w : World) (g : Nat) (cs : Array Value) : (w.setRow g cs).heap.size = w.heap.size := by simp [World.setRow]
theorem below_drewN {B : Nat} {a w : World} (h : Below B a w) (n : Nat) : Below B a (w.drewN n) := ⟨h.os, h.tape, h.output, h.size, h.block⟩

/-- Of the world, go on with what is said of it alone. -/
theorem wp_forget {P : Program} {c : Code} {Q : Exit → Act → World → Prop} {a : Act} {W : World} (R : World → Prop) (hR : R W) (h : ∀ W', R W' → c.wp P Q a W') : c.wp P Q a W := h W hR

end Go.Proofs.Ytpekjnifmhlopaa

/- Bytes as cells and as strings: plain facts; no program is named here. -/
namespace Go.Proofs.Ytpekjnifmhlopaa
open Go.RowKit

def bv (b : UInt8) : Value := .int .u8 (b.toNat : Int)
def barr (l : List UInt8) : Array Value := (l.map bv).toArray
theorem barr_size (l : List UInt8) : (barr l).size = l.length := by simp [barr]
theorem barr_at (l : List UInt8) (i : Nat) (h : i < l.length) : (barr l)[i]? = some (.int .u8 ((l.getD i 0).toNat : Int)) := by
  simp [barr, bv, h]
theorem barr_set (l : List UInt8) (i : Nat) (x : UInt8) : (barr l).setIfInBounds i (.int .u8 (x.toNat : Int)) = barr (l.set i x) := by
  unfold barr
  apply Array.ext'
  simp [List.map_set, bv]
theorem barr_one (l : List UInt8) : (barr l).all (·.oneCell') = true := by
  rw [Array.all_eq_true_iff_forall_mem]
  intro v hv
  simp only [barr, List.mem_toArray, List.mem_map] at hv
  obtain ⟨x, _, rfl⟩ := hv
  rfl
theorem barr_zero (n : Nat) : barr (List.replicate n 0) = Array.replicate n (.int .u8 0) := by
  unfold barr
  apply Array.ext'
  simp [bv]

/-- A list of bytes as a string. -/
def bs (l : List UInt8) : ByteArray := ⟨l.toArray⟩
theorem bs_list (l : List UInt8) : (bs l).data.toList = l := by simp [bs]
theorem bs_size (l : List UInt8) : (bs l).size = l.length := by simp [bs, ByteArray.size]
theorem bs_of (s : ByteArray) : bs s.data.toList = s := by simp [bs]

theorem append_list (a b : ByteArray) : (a ++ b).data.toList = a.data.toList ++ b.data.toList := by
  rw [ByteArray.data_append, Array.toList_append]
theorem foldl_push : ∀ (l : List UInt8) (s : ByteArray), (l.map fun b => (b.toNat : Int)).foldl (fun r n => r.push (UInt8.ofNat n.toNat)) s = ⟨(s.data.toList ++ l).toArray⟩
  | [], s => by simp
  | b :: l, s => by
    rw [List.map_cons, List.foldl_cons, foldl_push l]
    simp [ByteArray.push]

/-- The first n bytes of a block, as a string. -/
theorem run_bytes {P : Program} {w : World} {g : Nat} {t : TypeId} {cs : Array Value} (h : Arr w g t cs) (l : List UInt8) (hl : cs.toList.take l.length = l.map bv) (c : Nat) :
    (Conv.bytesToString (.slice (some ⟨g, 0, none⟩) l.length c)).run P w = .ok (.string (bs l)) w := by
  have hload : (loadCells ⟨g, 0, none⟩ l.length).run P w = .ok ((l.map fun b => (b.toNat : Int)).map (Value.int .u8)).toArray w := by
    have := run_loadCells_list (P := P) w ⟨g, 0, none⟩ (l.map bv) (fun j v hv => by
      have hadd : (⟨g, 0, none⟩ : Addr).add j = ⟨g, j, none⟩ := by unfold Addr.add; split <;> simp_all
      rw [hadd, h.cell j]
      have hj : j < l.length := by
        have := (List.getElem?_eq_some_iff.1 hv).1
        simpa using this
      rw [← hl, List.getElem?_take_of_lt hj] at hv
      simpa using hv)
    have e : (l.map fun b => (b.toNat : Int)).map (Value.int .u8) = l.map bv := by rw [List.map_map]; rfl
    rw [e]
    simpa using this
  rw [run_bytesToString w _ _ _ _ hload, foldl_push]
  simp [bs]

/-- The cells of a block that has just been made, one by one. -/
theorem new_cells (w : World) (l : List Value) (t : TypeId) : ∀ (j : Nat) (u : Value), l[j]? = some u → (w.alloc (.cells l.toArray t)).cell? ((⟨w.heap.size, 0, none⟩ : Addr).add j) = some u := by
  intro j u h
  have hadd : (⟨w.heap.size, 0, none⟩ : Addr).add j = ⟨w.heap.size, j, none⟩ := by unfold Addr.add; split <;> simp_all
  rw [hadd, (Arr.new w t l.toArray).cell j]
  simpa using h
theorem bytes_one (l : List UInt8) : ∀ u ∈ l.map bv, u.oneCell' = true := by
  intro u hu
  obtain ⟨x, _, rfl⟩ := List.mem_map.1 hu
  rfl

/-- a slice of the call's own, at the row's head, as a string -/
theorem run_bytes_own {P : Program} {w : World} {base g cap : Nat} {e : TypeId} {l : List UInt8} (h : w.ownsRow base e 1 (.slice (some ⟨g, 0, none⟩) l.length cap) l.length (l.map bv)) :
    (Conv.bytesToString (.slice (some ⟨g, 0, none⟩) l.length cap)).run P w = .ok (.string (bs l)) w := by
  rcases h.2 with ⟨h', _⟩ | ⟨g', cap', cur, h', hb, hg, hnc, hcm, hcs, htake⟩
  · simp at h'
  · simp only [Value.slice.injEq, Option.some.injEq, Addr.mk.injEq, and_true, true_and] at h'
    obtain ⟨rfl, rfl⟩ := h'
    exact run_bytes hg l (by rw [← htake]; simp) cap

end Go.Proofs.Ytpekjnifmhlopaa
