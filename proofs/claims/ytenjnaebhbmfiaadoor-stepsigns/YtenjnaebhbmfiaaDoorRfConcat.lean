/- Texts in one: DkRow, DkIns, DkInsB, RfConcat. -/
import Derived.Test.YtenjnaebhbmfiaaDoorRfFind
import Derived.Test.YtenjnaebhbmfiaaDoorOApp
import Derived.Lib.Overlaps
import Derived.Lib.AppendZeros
import Derived.Lib.SliceRun
import Derived.Laws.IdiomCopy
import Derived.Test.YtenjnaebhbmfiaaDoorRfMem
/- Rows of files: copy, clear, append of zeros, as runs; what they leave. -/
namespace Go.Proofs.YtenjnaebhbmfiaaDoor
open Go.RowKit

section
variable {P : Program}
theorem run_copy_k (w : World) (dT sT ty elem : TypeId) (size b o dLen dCap : Nat) (a : Addr) (sLen sCap : Nat) (cs : List Value)
    (hu : P.underlying dT = some (.slice elem)) (hs : (P.info? elem).map (·.size) = some size) (hn : cs.length = Nat.min sLen dLen * size)
    (hsrc : ∀ j v, cs[j]? = some v → w.cell? (a.add j) = some v) (hc : ∀ j, j < cs.length → (w.cell? ⟨b, o + j, none⟩).isSome = true) (hf : ∀ j, j < cs.length → w.frozen? ⟨b, o + j, none⟩ = false) (h1 : ∀ v ∈ cs, v.oneCell' = true) :
    (Builtin.copy_ #[dT, sT] ty #[.slice (some ⟨b, o, none⟩) dLen dCap, .slice (some a) sLen sCap]).run P w = .ok (goInt (Nat.min sLen dLen)) (w.setCells b o cs) := by
  have hl := run_loadCells_list (P := P) w a cs hsrc
  have hst := run_storeCells_cells (P := P) b o cs 0 w (by simpa using hc) (by simpa using hf) h1
  cases hq : P.info? elem with
  | none => simp [hq] at hs
  | some i =>
    have hi : i.size = size := by simpa [hq] using hs
    rw [hn] at hl
    simp [Builtin.copy_, run_underlying hu, Builtin.lenOf, Builtin.firstCells, sizeOf, typeInfo, hq, hi, hl, hst]
theorem run_clear_k (w : World) (t e ty : TypeId) (z : Value) (ht : P.underlying t = some (.slice e)) (hv : ∀ w, (zeroValue e).run P w = .ok z w) (b o n c : Nat) (hn : 0 < n) (zs : List Value) (hz : (Builtin.zeroCells z.cells n).toList = zs) (h1 : ∀ v ∈ zs, v.oneCell' = true)
    (hc : ∀ j, j < zs.length → (w.cell? ⟨b, o + j, none⟩).isSome = true) (hf : ∀ j, j < zs.length → w.frozen? ⟨b, o + j, none⟩ = false) :
    (Builtin.clear_ #[t] ty #[.slice (some ⟨b, o, none⟩) n c]).run P w = .ok (.tuple #[]) (w.setCells b o zs) := by
  have hst := run_storeCells_cells (P := P) b o zs 0 w (by simpa using hc) (by simpa using hf) h1
  simp only [Nat.add_zero] at hst
  obtain ⟨m, rfl⟩ : ∃ m, n = m + 1 := ⟨n - 1, by omega⟩
  simp [Builtin.clear_, run_underlying ht, hv, hz, hst]
theorem run_append_zeros (w : World) (t tn ty e : TypeId) (i : TypeInfo) (z : Value) (k kn : IntKind) (ht : P.underlying t = some (.slice e)) (htn : P.underlying tn = some (.int kn)) (hi : P.info? e = some i) (hz : i.zero = some z)
    (a : Addr) (sLen sCap n : Nat) (olds : List Value) (hold : (Builtin.firstCells i.size sLen (.slice (some a) sLen sCap)).run P w.drew = .ok olds.toArray w.drew) (h0 : 0 < n) (hs : 0 < i.size) (hg : sCap < sLen + n)
    (h63 : ((sLen + n : Nat) : Int) ≤ 9223372036854775807) (h48 : n * i.bytes ≤ 281474976710656) (hfit : Builtin.nextslicecap (sLen + n) sCap * i.bytes ≤ 281474976710656) :
    (Builtin.append_ #[t, tn] ty #[.slice (some a) sLen sCap, .int k n]).run P w =
      .ok (.slice (some ⟨w.heap.size, 0, none⟩) (sLen + n) (grownCap w (sLen + n) sCap e)) (w.drew.alloc (.cells (olds.toArray ++ Builtin.zeroCells z.cells n ++ Builtin.zeroCells z.cells (grownCap w (sLen + n) sCap e - (sLen + n))) e)) := by
  have hn : n ≠ 0 := by omega
  have hw : IntKind.i64.wrap (n : Int) = n := by rw [IntKind.wrap_i64]; omega
  have hc : ¬ (sLen + n ≤ sCap) := by omega
  have h63' : ¬ (9223372036854775807 < ((sLen : Int) + (n : Int))) := by omega
  have h48' : ¬ (281474976710656 < Builtin.nextslicecap (sLen + n) sCap * i.bytes) := by omega
  have h48i : ¬ (281474976710656 < (n : Int) * (i.bytes : Int)) := by
    rw [← Int.natCast_mul]
    omega
  have hneg : ¬ ((n : Int) < 0) := by omega
  have hns : ¬ (n * i.size = 0) := Nat.mul_ne_zero hn (by omega)
  simp [Builtin.append_, run_underlying ht, run_underlying htn, sizeOf, typeInfo, zeroValue, hi, hz, asInt, asIntOf, hw, hneg, hns, h63', h48', h48i, hc, Question.forced, hold, newRow, grownCap]
theorem wp_copy_is (w : World) {o : Oper} {a : Act} {K : Act → World → Prop} {Q : Exit → Act → World → Prop} (d s : Operand) (t t' : TypeId)
    (ho : o.op = .call { callee := .builtin .copy, args := #[d, s], argTypes := #[t, t'] }) (v u : Value) (hd : a.eval d = v) (hs : a.eval s = u) {v' : Value} {w' : World}
    (hr : (Builtin.copy_ #[t, t'] o.type #[v, u]).run P w = .ok v' w') (h : K (a.put o.dst v') w') : o.wp P a w K Q := by
  unfold Oper.wp execOp
  simp only [ho, resolve, invoke, builtin, Sem.run_bind, Sem.run_pure, Result.andThen_ok, List.map_toArray, List.map_cons, List.map_nil, hd, hs, hr]
  exact h
theorem wpList_copy_is (w : World) {ops : Array Oper} {rest : List Oper} {o : Oper} {a : Act} {Q : Exit → Act → World → Prop} (hgd : o.guard = none) (d s : Operand) (t t' : TypeId)
    (ho : o.op = .call { callee := .builtin .copy, args := #[d, s], argTypes := #[t, t'] }) (v u : Value) (hd : a.eval d = v) (hs : a.eval s = u) {v' : Value} {w' : World}
    (hr : (Builtin.copy_ #[t, t'] o.type #[v, u]).run P w = .ok v' w') (h : wpList P ops Q rest (a.put o.dst v') w') : wpList P ops Q (o :: rest) a w :=
  wpList_plain hgd fun _ hK => wp_copy_is w d s t t' ho v u hd hs hr (hK _ _ h)
theorem step_copy_is {ops : Array Oper} {o : Oper} {a : Act} {w : World} {K : Act → World → Prop} {Q : Exit → Act → World → Prop} {E : Prop}
    (hg : o.guard = none) (d x : Operand) (dT sT : TypeId) (hop : o.op = Op.call { callee := Callee.builtin Builtin.copy, args := #[d, x], argTypes := #[dT, sT] })
    (v u : Value) (hd : a.eval d = v) (hx : a.eval x = u) {v' : Value} {w' : World} (hr : (Builtin.copy_ #[dT, sT] o.type #[v, u]).run P w = .ok v' w') (hK : K (a.put o.dst v') w') :
    if Region.wanted o (yielded ops a.tmps) = true then Oper.wp P o a w K Q else E := by
  have hw : Region.wanted o (yielded ops a.tmps) = true := by simp [Region.wanted, hg]
  rw [if_pos hw]
  unfold Oper.wp
  simp [execOp, hop, resolve, invoke, builtin, hd, hx, hr, Result.andThen]
  exact hK
end
/-- cells laid over others from a place on -/
def layL (C : List Value) (o : Nat) (vs : List Value) : List Value := C.take o ++ vs ++ C.drop (o + vs.length)
theorem layL_len {C vs : List Value} {o : Nat} (h : o + vs.length ≤ C.length) : (layL C o vs).length = C.length := by
  unfold layL
  rw [List.length_append, List.length_append, List.length_take, List.length_drop]
  omega
theorem layL_cons (C : List Value) (o : Nat) (v : Value) (r : List Value) (h : o < C.length) : layL (C.set o v) (o + 1) r = layL C o (v :: r) := by
  unfold layL
  rw [show (C.set o v).take (o + 1) = C.take o ++ [v] from by
      rw [List.take_set, List.take_succ_eq_append_getElem h, List.set_append_right _ _ (by rw [List.length_take]; omega), List.length_take, show o - min o C.length = 0 from by omega]
      rfl,
    show (C.set o v).drop (o + 1 + r.length) = C.drop (o + 1 + r.length) from by rw [List.drop_set_of_lt (by omega)], List.length_cons, show o + (r.length + 1) = o + 1 + r.length from by omega]
  simp
theorem arr_setCells {g : Nat} {t : TypeId} : ∀ (vs : List Value) (o : Nat) (C : List Value) (w : World), Arr w g t C.toArray → o + vs.length ≤ C.length → Arr (w.setCells g o vs) g t (layL C o vs).toArray
  | [], o, C, w, h, _ => by
    unfold layL
    simp only [World.setCells, List.append_nil, List.length_nil, Nat.add_zero, List.take_append_drop]
    exact h
  | v :: r, o, C, w, h, hl => by
    have h1 := h.put o v
    rw [List.setIfInBounds_toArray] at h1
    have h2 := arr_setCells r (o + 1) (C.set o v) _ h1 (by rw [List.length_set]; simp at hl; omega)
    rw [layL_cons _ _ _ _ (by simp at hl; omega)] at h2
    exact h2
theorem gb_setCells (g : Nat) : ∀ (vs : List Value) (o : Nat) (w : World), w.grownBy (w.setCells g o vs) (some g)
  | [], _, _ => gb_below (Below.refl _ _)
  | v :: r, o, w => gb_trans (gb_set (w := w) g o v) (gb_setCells g r (o + 1) _)
theorem Arr.toL {w : World} {g : Nat} {t : TypeId} {cs : Array Value} (h : Arr w g t cs) : Arr w g t cs.toList.toArray := by rw [Array.toArray_toList]; exact h
end Go.Proofs.YtenjnaebhbmfiaaDoor

/- slices.Insert, slices.Delete, slices.Clone at files: contracts. -/
namespace Go.Proofs.YtenjnaebhbmfiaaDoor
open Go.RowKit

theorem shape_arr {w : World} {g : Nat} {t : TypeId} {cs : Array Value} (h : Arr w g t cs) : w.shape? g = some (t, cs.size) := by
  unfold Arr at h
  simp [World.shape?, h]
theorem free_arr {w : World} {g : Nat} {t : TypeId} {cs : Array Value} (h : Arr w g t cs) (k : Nat) : w.frozen? { block := g, off := k } = false := h.free k
theorem ins_cells (L : List Fl) (i : Nat) (x : Fl) : flCells (L.take i ++ x :: L.drop i) = (flCells L).take (i * 3) ++ (flArr x).toList ++ (flCells L).drop (i * 3) := by
  rw [flCells_app, flCells, ← flCells_take, ← flCells_drop, List.append_assoc]
theorem lay_ins {C F xs : List Value} {n i : Nat} (h : C.take (n * 3) = F) (hF : F.length = n * 3) (hi : i < n) (hx : xs.length = 3) :
    (layL (layL C ((i + 1) * 3) (F.drop (i * 3))) (i * 3) xs).take ((n + 1) * 3) = F.take (i * 3) ++ xs ++ F.drop (i * 3) := by
  have hCn : n * 3 ≤ C.length := by rw [← h, List.length_take] at hF; omega
  have e1 : (layL C ((i + 1) * 3) (F.drop (i * 3))).take (i * 3) = F.take (i * 3) := by
    unfold layL
    rw [List.append_assoc, List.take_append_of_le_length (by rw [List.length_take]; omega), List.take_take, ← h, List.take_take, Nat.min_eq_left (by omega), Nat.min_eq_left (by omega)]
  have e2 : (layL C ((i + 1) * 3) (F.drop (i * 3))).drop (i * 3 + 3) = F.drop (i * 3) ++ C.drop ((i + 1) * 3 + (F.drop (i * 3)).length) := by
    unfold layL
    rw [List.append_assoc, List.drop_append, List.drop_of_length_le (by rw [List.length_take]; omega), List.length_take, show i * 3 + 3 - min ((i + 1) * 3) C.length = 0 from by omega, List.drop_zero, List.nil_append]
  rw [show layL (layL C ((i + 1) * 3) (F.drop (i * 3))) (i * 3) xs = F.take (i * 3) ++ xs ++ (F.drop (i * 3) ++ C.drop ((i + 1) * 3 + (F.drop (i * 3)).length)) from by
    rw [show layL (layL C ((i + 1) * 3) (F.drop (i * 3))) (i * 3) xs = (layL C ((i + 1) * 3) (F.drop (i * 3))).take (i * 3) ++ xs ++ (layL C ((i + 1) * 3) (F.drop (i * 3))).drop (i * 3 + xs.length) from rfl, e1, hx, e2]]
  rw [← List.append_assoc, List.take_append_of_le_length (by simp only [List.length_append, List.length_take, List.length_drop, hF, hx]; omega), List.take_of_length_le (by simp only [List.length_append, List.length_take, List.length_drop, hF, hx]; omega)]
theorem flArr_ones (x : Fl) : ∀ u ∈ (flArr x).toList, u.oneCell' = true := fun u hu => flCells_one [x] u (by simp [flCells]; exact Array.mem_toList_iff.1 hu)
end Go.Proofs.YtenjnaebhbmfiaaDoor

/- slices.Insert at files: a new row; whatever road. -/
namespace Go.Proofs.YtenjnaebhbmfiaaDoor
open Go.RowKit

theorem lay_grow {O Z xs R : List Value} {a m : Nat} (hO : O.length = a) (hx : xs.length = 3) (hm : m = a + 3 + R.length) (_ : 3 + R.length ≤ Z.length) : (layL (layL (O ++ Z) a xs) (a + 3) R).take m = O ++ xs ++ R := by
  have e1 : layL (O ++ Z) a xs = O ++ xs ++ Z.drop 3 := by
    unfold layL
    rw [← hO, List.take_left, hx, List.drop_append, List.drop_of_length_le (by omega), Nat.add_sub_cancel_left, List.nil_append]
  have e2 : (O ++ xs ++ Z.drop 3).take (a + 3) = O ++ xs := List.take_left' (by rw [List.length_append, hO, hx])
  rw [e1]
  unfold layL
  rw [e2, List.take_append_of_le_length (by simp only [List.length_append, hO, hx]; omega), List.take_of_length_le (by simp only [List.length_append, hO, hx]; omega)]
end Go.Proofs.YtenjnaebhbmfiaaDoor

/- slices.Grow at nil, slices.Concat, of lists of refs: contracts. -/
namespace Go.Proofs.YtenjnaebhbmfiaaDoor
open Go.RowKit

section
variable {P : Program}
theorem run_append_zeros_nil (w : World) (t tn ty e : TypeId) (i : TypeInfo) (z : Value) (k kn : IntKind) (ht : P.underlying t = some (.slice e)) (htn : P.underlying tn = some (.int kn)) (hi : P.info? e = some i) (hz : i.zero = some z)
    (c n : Nat) (h0 : 0 < n) (hs : 0 < i.size) (hg : c < n)
    (h63 : (n : Int) ≤ 9223372036854775807) (h48 : n * i.bytes ≤ 281474976710656) (hfit : Builtin.nextslicecap n c * i.bytes ≤ 281474976710656) :
    (Builtin.append_ #[t, tn] ty #[.slice none 0 c, .int k n]).run P w =
      .ok (.slice (some ⟨w.heap.size, 0, none⟩) n (grownCap w n c e)) (w.drew.alloc (.cells (Builtin.zeroCells z.cells n ++ Builtin.zeroCells z.cells (grownCap w n c e - n)) e)) := by
  have hn : n ≠ 0 := by omega
  have hw : IntKind.i64.wrap (n : Int) = n := by rw [IntKind.wrap_i64]; omega
  have hc : ¬ (n ≤ c) := by omega
  have h63' : ¬ (9223372036854775807 < (n : Int)) := by omega
  have h48' : ¬ (281474976710656 < Builtin.nextslicecap n c * i.bytes) := by omega
  have h48i : ¬ (281474976710656 < (n : Int) * (i.bytes : Int)) := by
    rw [← Int.natCast_mul]
    omega
  have hneg : ¬ ((n : Int) < 0) := by omega
  have hns : ¬ (n * i.size = 0) := Nat.mul_ne_zero hn (by omega)
  simp [Builtin.append_, run_underlying ht, run_underlying htn, sizeOf, typeInfo, zeroValue, hi, hz, asInt, asIntOf, hw, hneg, hns, h63', h48', h48i, hc, Question.forced, Builtin.firstCells, newRow, grownCap]
end
theorem own_at {w : World} {base : Nat} {e : TypeId} {size n : Nat} {v : Value} {xs : List Value} (h : w.ownsRow base e size v n xs) (k : Nat) (hk : v.ownBlock = some k) : base ≤ k := by
  rcases h.2 with ⟨rfl, _⟩ | ⟨g, cap, cur, rfl, hb, _⟩
  · cases hk
  · cases hk; exact hb
def rfZero : Array Value := #[.string ⟨#[]⟩, .string ⟨#[]⟩]
/-- pieces: slices of refs, each where it lies -/
abbrev Pc := Option Addr × List Rf × Nat
def catP (Ps : List Pc) : List Rf := (Ps.map (·.2.1)).flatten
theorem catP_next (Ps : List Pc) (k : Nat) (p : Pc) (h : Ps[k]? = some p) : catP (Ps.take (k + 1)) = catP (Ps.take k) ++ p.2.1 := by
  obtain ⟨hk, rfl⟩ := List.getElem?_eq_some_iff.1 h
  unfold catP
  rw [List.take_succ_eq_append_getElem hk, List.map_append, List.flatten_append]
  simp
theorem catP_le (Ps : List Pc) (k : Nat) : (catP (Ps.take k)).length ≤ (catP Ps).length := by
  have h : catP Ps = catP (Ps.take k) ++ catP (Ps.drop k) := by
    unfold catP
    rw [← List.flatten_append, ← List.map_append, List.take_append_drop]
  rw [h, List.length_append]
  omega
def Pcs (W : World) (B g : Nat) (Ps : List Pc) : Prop := ∀ k p, Ps[k]? = some p → W.cell? ⟨g, k, none⟩ = some (.slice p.1 p.2.1.length p.2.2) ∧ Rfs W B p.1 p.2.1
theorem Pcs.below {W W' : World} {B g : Nat} {Ps : List Pc} (h : Pcs W B g Ps) (hg : g < B) (b : Below B W W') : Pcs W' B g Ps := fun k p hp => by
  obtain ⟨h1, h2⟩ := h k p hp
  exact ⟨(b.cell (p := ⟨g, k, none⟩) hg).trans h1, h2.below b⟩
def CcRel1 (Ps : List Pc) (W : World) (z i : Value) (wr : World) : Prop :=
  ∃ k : Nat, k ≤ Ps.length ∧ z = .int .i64 ((catP (Ps.take k)).length : Int) ∧ i = .int .i64 (k : Int) ∧ W = wr
end Go.Proofs.YtenjnaebhbmfiaaDoor
