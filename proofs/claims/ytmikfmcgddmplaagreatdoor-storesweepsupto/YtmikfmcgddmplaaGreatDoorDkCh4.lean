/- Texts in one: DkRow, DkIns, DkInsB, DkDel, DkCh, DkCh2, DkCh3, DkCh4. -/
import Derived.Test.YtmikfmcgddmplaaGreatDoorDkFind
import Derived.Test.YtmikfmcgddmplaaGreatDoorOApp
import Derived.Lib.Overlaps
import Derived.Lib.AppendZeros
import Derived.Lib.SliceRun
import Derived.Laws.IdiomCopy
/- Rows of files: copy, clear, append of zeros, as runs; what they leave. -/
namespace Go.Proofs.YtmikfmcgddmplaaGreatDoor
open Go.RowKit

section
variable {P : Program}
theorem run_copy_k (w : World) (dT sT ty elem : TypeId) (size b o dLen dCap : Nat) (a : Addr) (sLen sCap : Nat) (cs : List Value)
    (hu : P.underlying dT = some (.slice elem)) (hs : (P.info? elem).map (·.size) = some size) (hn : cs.length = Nat.min sLen dLen * size)
    (hsrc : ∀ j v, cs[j]? = some v → w.cell? (a.add j) = some v) (hc : ∀ j, j < cs.length → (w.cell? ⟨b, o + j, none⟩).isSome = true) (hf : ∀ j, j < cs.length → w.frozen? ⟨b, o + j, none⟩ = false) (h1 : ∀ v ∈ cs, v.oneCell' = true) :
    (Builtin.copy_ #[dT, sT] ty #[.slice (some ⟨b, o, none⟩) dLen dCap, .slice (some a) sLen sCap]).run P w = .ok (goInt (Nat.min sLen dLen)) (w.setCells b o cs) := by
  have hl := run_loadCells_list (P := P) w a cs hsrc
  have hst := run_storeCells_cells (P := P) b o cs 0 w (by simpa using hc) (by simpa using hf) h1
  cases hq : P.info? elem with
  | none => simp [hq] at hs
  | some i =>
    have hi : i.size = size := by simpa [hq] using hs
    rw [hn] at hl
    simp [Builtin.copy_, run_underlying hu, Builtin.lenOf, Builtin.firstCells, sizeOf, typeInfo, hq, hi, hl, hst]
theorem run_clear_k (w : World) (t e ty : TypeId) (z : Value) (ht : P.underlying t = some (.slice e)) (hv : ∀ w, (zeroValue e).run P w = .ok z w) (b o n c : Nat) (hn : 0 < n) (zs : List Value) (hz : (Builtin.zeroCells z.cells n).toList = zs) (h1 : ∀ v ∈ zs, v.oneCell' = true)
    (hc : ∀ j, j < zs.length → (w.cell? ⟨b, o + j, none⟩).isSome = true) (hf : ∀ j, j < zs.length → w.frozen? ⟨b, o + j, none⟩ = false) :
    (Builtin.clear_ #[t] ty #[.slice (some ⟨b, o, none⟩) n c]).run P w = .ok (.tuple #[]) (w.setCells b o zs) := by
  have hst := run_storeCells_cells (P := P) b o zs 0 w (by simpa using hc) (by simpa using hf) h1
  simp only [Nat.add_zero] at hst
  obtain ⟨m, rfl⟩ : ∃ m, n = m + 1 := ⟨n - 1, by omega⟩
  simp [Builtin.clear_, run_underlying ht, hv, hz, hst]
theorem run_append_zeros (w : World) (t tn ty e : TypeId) (i : TypeInfo) (z : Value) (k kn : IntKind) (ht : P.underlying t = some (.slice e)) (htn : P.underlying tn = some (.int kn)) (hi : P.info? e = some i) (hz : i.zero = some z)
    (a : Addr) (sLen sCap n : Nat) (olds : List Value) (hold : (Builtin.firstCells i.size sLen (.slice (some a) sLen sCap)).run P w.drew = .ok olds.toArray w.drew) (h0 : 0 < n) (hs : 0 < i.size) (hg : sCap < sLen + n)
    (h63 : ((sLen + n : Nat) : Int) ≤ 9223372036854775807) (h48 : n * i.bytes ≤ 281474976710656) (hfit : Builtin.nextslicecap (sLen + n) sCap * i.bytes ≤ 281474976710656) :
    (Builtin.append_ #[t, tn] ty #[.slice (some a) sLen sCap, .int k n]).run P w =
      .ok (.slice (some ⟨w.heap.size, 0, none⟩) (sLen + n) (grownCap w (sLen + n) sCap e)) (w.drew.alloc (.cells (olds.toArray ++ Builtin.zeroCells z.cells n ++ Builtin.zeroCells z.cells (grownCap w (sLen + n) sCap e - (sLen + n))) e)) := by
  have hn : n ≠ 0 := by omega
  have hw : IntKind.i64.wrap (n : Int) = n := by rw [IntKind.wrap_i64]; omega
  have hc : ¬ (sLen + n ≤ sCap) := by omega
  have h63' : ¬ (9223372036854775807 < ((sLen : Int) + (n : Int))) := by omega
  have h48' : ¬ (281474976710656 < Builtin.nextslicecap (sLen + n) sCap * i.bytes) := by omega
  have h48i : ¬ (281474976710656 < (n : Int) * (i.bytes : Int)) := by
    rw [← Int.natCast_mul]
    omega
  have hneg : ¬ ((n : Int) < 0) := by omega
  have hns : ¬ (n * i.size = 0) := Nat.mul_ne_zero hn (by omega)
  simp [Builtin.append_, run_underlying ht, run_underlying htn, sizeOf, typeInfo, zeroValue, hi, hz, asInt, asIntOf, hw, hneg, hns, h63', h48', h48i, hc, Question.forced, hold, newRow, grownCap]
theorem wp_copy_is (w : World) {o : Oper} {a : Act} {K : Act → World → Prop} {Q : Exit → Act → World → Prop} (d s : Operand) (t t' : TypeId)
    (ho : o.op = .call { callee := .builtin .copy, args := #[d, s], argTypes := #[t, t'] }) (v u : Value) (hd : a.eval d = v) (hs : a.eval s = u) {v' : Value} {w' : World}
    (hr : (Builtin.copy_ #[t, t'] o.type #[v, u]).run P w = .ok v' w') (h : K (a.put o.dst v') w') : o.wp P a w K Q := by
  unfold Oper.wp execOp
  simp only [ho, resolve, invoke, builtin, Sem.run_bind, Sem.run_pure, Result.andThen_ok, List.map_toArray, List.map_cons, List.map_nil, hd, hs, hr]
  exact h
theorem wpList_copy_is (w : World) {ops : Array Oper} {rest : List Oper} {o : Oper} {a : Act} {Q : Exit → Act → World → Prop} (hgd : o.guard = none) (d s : Operand) (t t' : TypeId)
    (ho : o.op = .call { callee := .builtin .copy, args := #[d, s], argTypes := #[t, t'] }) (v u : Value) (hd : a.eval d = v) (hs : a.eval s = u) {v' : Value} {w' : World}
    (hr : (Builtin.copy_ #[t, t'] o.type #[v, u]).run P w = .ok v' w') (h : wpList P ops Q rest (a.put o.dst v') w') : wpList P ops Q (o :: rest) a w :=
  wpList_plain hgd fun _ hK => wp_copy_is w d s t t' ho v u hd hs hr (hK _ _ h)
theorem step_copy_is {ops : Array Oper} {o : Oper} {a : Act} {w : World} {K : Act → World → Prop} {Q : Exit → Act → World → Prop} {E : Prop}
    (hg : o.guard = none) (d x : Operand) (dT sT : TypeId) (hop : o.op = Op.call { callee := Callee.builtin Builtin.copy, args := #[d, x], argTypes := #[dT, sT] })
    (v u : Value) (hd : a.eval d = v) (hx : a.eval x = u) {v' : Value} {w' : World} (hr : (Builtin.copy_ #[dT, sT] o.type #[v, u]).run P w = .ok v' w') (hK : K (a.put o.dst v') w') :
    if Region.wanted o (yielded ops a.tmps) = true then Oper.wp P o a w K Q else E := by
  have hw : Region.wanted o (yielded ops a.tmps) = true := by simp [Region.wanted, hg]
  rw [if_pos hw]
  unfold Oper.wp
  simp [execOp, hop, resolve, invoke, builtin, hd, hx, hr, Result.andThen]
  exact hK
end
/-- cells laid over others from a place on -/
def layL (C : List Value) (o : Nat) (vs : List Value) : List Value := C.take o ++ vs ++ C.drop (o + vs.length)
theorem layL_len {C vs : List Value} {o : Nat} (h : o + vs.length ≤ C.length) : (layL C o vs).length = C.length := by
  unfold layL
  rw [List.length_append, List.length_append, List.length_take, List.length_drop]
  omega
theorem layL_cons (C : List Value) (o : Nat) (v : Value) (r : List Value) (h : o < C.length) : layL (C.set o v) (o + 1) r = layL C o (v :: r) := by
  unfold layL
  rw [show (C.set o v).take (o + 1) = C.take o ++ [v] from by
      rw [List.take_set, List.take_succ_eq_append_getElem h, List.set_append_right _ _ (by rw [List.length_take]; omega), List.length_take, show o - min o C.length = 0 from by omega]
      rfl,
    show (C.set o v).drop (o + 1 + r.length) = C.drop (o + 1 + r.length) from by rw [List.drop_set_of_lt (by omega)], List.length_cons, show o + (r.length + 1) = o + 1 + r.length from by omega]
  simp
theorem arr_setCells {g : Nat} {t : TypeId} : ∀ (vs : List Value) (o : Nat) (C : List Value) (w : World), Arr w g t C.toArray → o + vs.length ≤ C.length → Arr (w.setCells g o vs) g t (layL C o vs).toArray
  | [], o, C, w, h, _ => by
    unfold layL
    simp only [World.setCells, List.append_nil, List.length_nil, Nat.add_zero, List.take_append_drop]
    exact h
  | v :: r, o, C, w, h, hl => by
    have h1 := h.put o v
    rw [List.setIfInBounds_toArray] at h1
    have h2 := arr_setCells r (o + 1) (C.set o v) _ h1 (by rw [List.length_set]; simp at hl; omega)
    rw [layL_cons _ _ _ _ (by simp at hl; omega)] at h2
    exact h2
theorem gb_setCells (g : Nat) : ∀ (vs : List Value) (o : Nat) (w : World), w.grownBy (w.setCells g o vs) (some g)
  | [], _, _ => gb_below (Below.refl _ _)
  | v :: r, o, w => gb_trans (gb_set (w := w) g o v) (gb_setCells g r (o + 1) _)
theorem Arr.toL {w : World} {g : Nat} {t : TypeId} {cs : Array Value} (h : Arr w g t cs) : Arr w g t cs.toList.toArray := by rw [Array.toArray_toList]; exact h
end Go.Proofs.YtmikfmcgddmplaaGreatDoor

/- slices.Insert, slices.Delete, slices.Clone at files: contracts. -/
namespace Go.Proofs.YtmikfmcgddmplaaGreatDoor
open Go.RowKit

theorem file_size : (Tryz.prog.info? 68).map (·.size) = some 3 := by kernel_rfl
theorem shape_arr {w : World} {g : Nat} {t : TypeId} {cs : Array Value} (h : Arr w g t cs) : w.shape? g = some (t, cs.size) := by
  unfold Arr at h
  simp [World.shape?, h]
theorem free_arr {w : World} {g : Nat} {t : TypeId} {cs : Array Value} (h : Arr w g t cs) (k : Nat) : w.frozen? { block := g, off := k } = false := h.free k
theorem ins_cells (L : List Fl) (i : Nat) (x : Fl) : flCells (L.take i ++ x :: L.drop i) = (flCells L).take (i * 3) ++ (flArr x).toList ++ (flCells L).drop (i * 3) := by
  rw [flCells_app, flCells, ← flCells_take, ← flCells_drop, List.append_assoc]
theorem lay_ins {C F xs : List Value} {n i : Nat} (h : C.take (n * 3) = F) (hF : F.length = n * 3) (hi : i < n) (hx : xs.length = 3) :
    (layL (layL C ((i + 1) * 3) (F.drop (i * 3))) (i * 3) xs).take ((n + 1) * 3) = F.take (i * 3) ++ xs ++ F.drop (i * 3) := by
  have hCn : n * 3 ≤ C.length := by rw [← h, List.length_take] at hF; omega
  have e1 : (layL C ((i + 1) * 3) (F.drop (i * 3))).take (i * 3) = F.take (i * 3) := by
    unfold layL
    rw [List.append_assoc, List.take_append_of_le_length (by rw [List.length_take]; omega), List.take_take, ← h, List.take_take, Nat.min_eq_left (by omega), Nat.min_eq_left (by omega)]
  have e2 : (layL C ((i + 1) * 3) (F.drop (i * 3))).drop (i * 3 + 3) = F.drop (i * 3) ++ C.drop ((i + 1) * 3 + (F.drop (i * 3)).length) := by
    unfold layL
    rw [List.append_assoc, List.drop_append, List.drop_of_length_le (by rw [List.length_take]; omega), List.length_take, show i * 3 + 3 - min ((i + 1) * 3) C.length = 0 from by omega, List.drop_zero, List.nil_append]
  rw [show layL (layL C ((i + 1) * 3) (F.drop (i * 3))) (i * 3) xs = F.take (i * 3) ++ xs ++ (F.drop (i * 3) ++ C.drop ((i + 1) * 3 + (F.drop (i * 3)).length)) from by
    rw [show layL (layL C ((i + 1) * 3) (F.drop (i * 3))) (i * 3) xs = (layL C ((i + 1) * 3) (F.drop (i * 3))).take (i * 3) ++ xs ++ (layL C ((i + 1) * 3) (F.drop (i * 3))).drop (i * 3 + xs.length) from rfl, e1, hx, e2]]
  rw [← List.append_assoc, List.take_append_of_le_length (by simp only [List.length_append, List.length_take, List.length_drop, hF, hx]; omega), List.take_of_length_le (by simp only [List.length_append, List.length_take, List.length_drop, hF, hx]; omega)]
/-- behind an insertion -/
def InEnd (base : Nat) (L' : List Fl) (v : Value) (W : World) (e : Ending) (w' : World) : Prop :=
  ∃ v', e = .returned v' ∧ w'.ownsRow base 68 3 v' L'.length (flCells L') ∧ W.grownBy w' v.ownBlock
theorem x_news {W : World} {vb : Nat} {x : Fl} (h : Arr W vb 68 (flArr x)) : News W (some ⟨vb, 0, none⟩) 1 (flArr x).toList := by
  refine ⟨fun e => (by cases e), fun ad e j u hu => ?_⟩
  cases e
  rw [zero_add, h.cell j, ← Array.getElem?_toList]
  exact hu
theorem flArr_ones (x : Fl) : ∀ u ∈ (flArr x).toList, u.oneCell' = true := fun u hu => flCells_one [x] u (by simp [flCells]; exact Array.mem_toList_iff.1 hu)
set_option maxRecDepth 100000 in
set_option maxHeartbeats 1000000 in
theorem insert_end (L : List Fl) (x : Fl) (hl : L.length ≤ 1000) (v : Value) (base : Nat) (W : World) (h : W.ownsRow base 68 3 v L.length (flCells L)) (vb : Nat) (hv : Arr W vb 68 (flArr x)) (hb : base ≤ W.heap.size) :
    Calls Tryz.prog 135 #[v, .int .i64 (L.length : Int), .slice (some ⟨vb, 0, none⟩) 1 1] W (InEnd base (L.take L.length ++ x :: L.drop L.length) v W) := by
  obtain ⟨si, hsi, sz0, sz1, sz2⟩ := info_parts info_file
  have Hsi := Lib.hid hsi
  have Sz0 := Lib.hid sz0
  have Sz1 := Lib.hid sz1
  have Sz2 := Lib.hid sz2
  clear hsi sz0 sz1 sz2
  have HN := Lib.hid (x_news hv)
  have HE : Hid (InEnd base (L.take L.length ++ x :: L.drop L.length) v W = InEnd base (L ++ [x]) v W) := by show _ = _; rw [List.take_length, List.drop_length]
  rw [HE.out]
  clear HE
  obtain ⟨A, c, rfl, hc, _⟩ := own_files h
  rcases h.2 with ⟨e0, hn0⟩ | ⟨g, cap, cur, e0, hbg, hg, hnc, hcm, hcs, htake⟩
  · obtain rfl : L = [] := List.eq_nil_of_length_eq_zero hn0
    simp only [Value.slice.injEq] at e0
    obtain ⟨rfl, _, rfl⟩ := e0
    simp only [List.length_nil] at h ⊢
    go_enter Tryz.func135, Tryz.ntmps135
    go_wp2_with (at_builtin; refine wpList_app _ rfl _ _ 35 rfl base 68 si _ 3 48 Tryz.underlying35 Hsi.out Sz0.out Sz1.out Sz2.out rfl (by decide) _ _ _ rfl h (some ⟨vb, 0, none⟩) 1 1 (flArr x).toList rfl rfl HN.out (flArr_ones x) (by unfold maxLen; omega) (by omega) hb ?_)
    intro v' w' h1 h2
    go_wp2_with fail
    go_ret
    exact ⟨v', rfl, by simp only [flCells, List.nil_append, List.append_nil, List.length_singleton] at h1 ⊢; exact h1, h2⟩
  · cases e0
    have i1 : (L.length : Int) ≤ L.length := by omega
    go_enter Tryz.func135, Tryz.ntmps135
    go_wp2_with (at_builtin; refine wpList_app _ rfl _ _ 35 rfl base 68 si _ 3 48 Tryz.underlying35 Hsi.out Sz0.out Sz1.out Sz2.out rfl (by decide) _ _ _ rfl h (some ⟨vb, 0, none⟩) 1 1 (flArr x).toList rfl rfl HN.out (flArr_ones x) (by unfold maxLen; omega) (by omega) hb ?_)
    all_goals
      intro v' w' h1 h2
      go_wp2_with fail
      go_ret
      refine ⟨v', rfl, ?_, h2⟩
      rw [List.length_append, flCells_app]
      simp only [flCells, List.append_nil, List.length_singleton]
      exact h1
set_option maxRecDepth 100000 in
set_option maxHeartbeats 1000000 in
theorem insert_shift (L : List Fl) (i : Nat) (hi : i < L.length) (x : Fl) (hl : L.length ≤ 1000) (g cap : Nat) (C : List Value) (base : Nat) (W : World) (hbg : base ≤ g) (hg : Arr W g 68 C.toArray) (hroom : L.length + 1 ≤ cap) (hcm : cap ≤ maxLen) (hcs : C.length = cap * 3) (htake : C.take (L.length * 3) = flCells L)
    (vb : Nat) (hv : Arr W vb 68 (flArr x)) (hne : vb ≠ g) :
    Calls Tryz.prog 135 #[.slice (some ⟨g, 0, none⟩) L.length cap, .int .i64 (i : Int), .slice (some ⟨vb, 0, none⟩) 1 1] W (InEnd base (L.take i ++ x :: L.drop i) (.slice (some ⟨g, 0, none⟩) L.length cap) W) := by
  have hsz := file_size
  have hov : ∀ o lb cb, (callFunc 150 #[.slice (some ⟨vb, 0, none⟩) 1 1, .slice (some ⟨g, o, none⟩) lb cb]).run Tryz.prog W = .ok (.value (.bool false)) W := fun o lb cb => by
    rw [run_callFunc_extern Tryz.func150 (by kernel_rfl) (by kernel_rfl) (by kernel_rfl) (e := Extern.SlicesOverlaps.overlaps #[35, 35] #[4]) (by kernel_rfl),
      Lib.run_overlaps_apart W 35 4 68 Tryz.underlying35 3 (fun w => by rfl) ⟨vb, 0, none⟩ ⟨g, o, none⟩ 1 1 lb cb hne _ _ _ _ (shape_arr hv) (shape_arr hg) (by rw [List.size_toArray]; omega) (hv.free 0) (free_arr hv _)]
    rfl
  have b1 : ¬ (i : Int) = L.length := by omega
  have b2 : ¬ (cap : Int) < L.length + 1 := by omega
  have b3 : (i : Int) ≤ L.length := by omega
  have b4 : (L.length : Int) + 1 ≤ cap := by omega
  have b5 : (i : Int) + 1 ≤ L.length + 1 := by omega
  have hc2 : (cap : Int) ≤ 9223372036854775807 := by unfold maxLen at hcm; omega
  have HM := Lib.hid hcm
  have HT := Lib.hid htake
  have hcl : (flCells (L.drop i)).length = (L.length - i) * 3 := by rw [flCells_len, List.length_drop]
  have hcell : ∀ j, j < cap * 3 → W.cell? ⟨g, j, none⟩ = C[j]? := fun j hj => by rw [hg.cell j, List.getElem?_toArray]
  have hcp1 : ∀ ty dc sc, (Builtin.copy_ #[35, 35] ty #[.slice (some ⟨g, (i + 1) * 3, none⟩) (L.length - i) dc, .slice (some ⟨g, i * 3, none⟩) (L.length + 1 - i) sc]).run Tryz.prog W.drew = .ok (goInt (Nat.min (L.length + 1 - i) (L.length - i))) (W.drew.setCells g ((i + 1) * 3) (flCells (L.drop i))) := fun ty dc sc =>
    run_copy_k W.drew _ _ ty 68 3 g ((i + 1) * 3) _ dc ⟨g, i * 3, none⟩ _ sc (flCells (L.drop i)) Tryz.underlying35 hsz (by rw [hcl]; simp only [Nat.min_def]; split <;> omega)
      (fun j v hj => by
        have hlt := (List.getElem?_eq_some_iff.1 hj).1
        rw [← flCells_drop, List.getElem?_drop, ← HT.out, List.getElem?_take_of_lt (by omega)] at hj
        rw [Addr.add_lit]
        exact (hcell (i * 3 + j) (by omega)).trans hj)
      (fun j hj => by
        have := hcell ((i + 1) * 3 + j) (by omega)
        show (W.cell? _).isSome = true
        rw [this, List.getElem?_eq_getElem (by omega)]
        rfl)
      (fun j _ => hg.free _) (flCells_one _)
  have HL : Hid ((layL C ((i + 1) * 3) (flCells (L.drop i))).length = cap * 3) := by show _ = _; rw [layL_len (by omega), hcs]
  have A1 : Arr (W.drew.setCells g ((i + 1) * 3) (flCells (L.drop i))) g 68 (layL C ((i + 1) * 3) (flCells (L.drop i))).toArray := arr_setCells _ _ C W.drew hg.drew (by omega)
  have k1 : W.grownBy (W.drew.setCells g ((i + 1) * 3) (flCells (L.drop i))) (some g) := gb_trans (gb_below ((Below.refl _ W).drew)) (gb_setCells g _ _ W.drew)
  have V1 : Arr (W.drew.setCells g ((i + 1) * 3) (flCells (L.drop i))) vb 68 (flArr x) := hv.kept k1 (fun e => hne (Option.some.inj e))
  have HF : Hid (∀ ty dc, (Builtin.copy_ #[35, 35] ty #[.slice (some ⟨g, i * 3, none⟩) (L.length + 1 - i) dc, .slice (some ⟨vb, 0, none⟩) 1 1]).run Tryz.prog (W.drew.setCells g ((i + 1) * 3) (flCells (L.drop i))) = .ok (goInt 1) ((W.drew.setCells g ((i + 1) * 3) (flCells (L.drop i))).setCells g (i * 3) (flArr x).toList) ∧ Arr (W.drew.setCells g ((i + 1) * 3) (flCells (L.drop i))) g 68 (layL C ((i + 1) * 3) (flCells (L.drop i))).toArray ∧ W.grownBy (W.drew.setCells g ((i + 1) * 3) (flCells (L.drop i))) (some g)) := fun ty dc => by
    refine ⟨?_, A1, k1⟩
    have := run_copy_k (P := Tryz.prog) (W.drew.setCells g ((i + 1) * 3) (flCells (L.drop i))) 35 35 ty 68 3 g (i * 3) (L.length + 1 - i) dc ⟨vb, 0, none⟩ 1 1 (flArr x).toList Tryz.underlying35 hsz (by rw [show Nat.min 1 (L.length + 1 - i) = 1 from by simp only [Nat.min_def]; split <;> omega]; rfl)
      (fun j v hj => by rw [Addr.add_lit, Nat.zero_add, V1.cell j, ← Array.getElem?_toList]; exact hj)
      (fun j hj => by
        have hj3 : j < 3 := hj
        rw [A1.cell, List.getElem?_toArray, List.getElem?_eq_getElem (by rw [HL.out]; omega)]
        rfl)
      (fun j _ => A1.free _) (flArr_ones x)
    rw [show Nat.min 1 (L.length + 1 - i) = 1 from by simp only [Nat.min_def]; split <;> omega] at this
    exact this
  clear hcm htake hcell A1 k1 V1 hcl
  go_enter Tryz.func135, Tryz.ntmps135
  go_wp2_with (simp only [hov])
  have s1 : IntKind.i64.wrap ((i : Int) + 1) = (i : Int) + 1 := IntWalk.i64_in _ (by omega)
  have s2 : (0 : Int) ≤ (i : Int) + 1 := by omega
  have s4 : ((i : Int) + 1).toNat = i + 1 := by omega
  have s5 : ¬ cap = i + 1 := by omega
  have s6 : ¬ cap = i := by omega
  have s7 : (i : Int) ≤ (L.length : Int) + 1 := by omega
  go_region_law (refine step_copy_is rfl _ _ 35 35 rfl _ _ (by simp [Act.eval, Act.put]) (by simp [Act.eval, Act.put]) (hcp1 _ _ _) ?_)
  go_upto_region 16 with fail
  refine wp_forget (fun V => ∀ ty dc, (Builtin.copy_ #[35, 35] ty #[.slice (some ⟨g, i * 3, none⟩) (L.length + 1 - i) dc, .slice (some ⟨vb, 0, none⟩) 1 1]).run Tryz.prog V = .ok (goInt 1) (V.setCells g (i * 3) (flArr x).toList) ∧ Arr V g 68 (layL C ((i + 1) * 3) (flCells (L.drop i))).toArray ∧ W.grownBy V (some g)) (by exact HF.out) ?_
  intro V hV
  have hcp2 := fun ty dc => (hV ty dc).1
  obtain ⟨_, A2, k2⟩ := hV 0 0
  clear hV HF hcp1 hov
  go_wp2_with (at_builtin; refine wpList_copy_is _ rfl _ _ 35 35 rfl _ _ rfl rfl (hcp2 _ _) ?_)
  go_ret
  have A3 := arr_setCells (flArr x).toList (i * 3) _ _ A2 (by rw [HL.out]; show i * 3 + 3 ≤ _; omega)
  refine ⟨_, rfl, ⟨by rw [flCells_len], .inr ⟨g, cap, _, by rw [List.length_append, List.length_cons, List.length_take, List.length_drop, show min i L.length + (L.length - i + 1) = L.length + 1 from by omega]; rfl, hbg, A3, by rw [List.length_append, List.length_cons, List.length_take, List.length_drop]; omega, HM.out, ?_, ?_⟩⟩, gb_trans k2 (gb_setCells g _ _ _)⟩
  · rw [List.size_toArray, layL_len (by rw [HL.out]; show i * 3 + 3 ≤ _; omega), HL.out]
  · rw [ins_cells, List.toList_toArray, List.length_append, List.length_cons, List.length_take, List.length_drop, show min i L.length + (L.length - i + 1) = L.length + 1 from by omega, ← flCells_drop]
    exact lay_ins HT.out (flCells_len L) (by omega) rfl
end Go.Proofs.YtmikfmcgddmplaaGreatDoor

/- slices.Insert at files: a new row; whatever road. -/
namespace Go.Proofs.YtmikfmcgddmplaaGreatDoor
open Go.RowKit

theorem lay_grow {O Z xs R : List Value} {a m : Nat} (hO : O.length = a) (hx : xs.length = 3) (hm : m = a + 3 + R.length) (_ : 3 + R.length ≤ Z.length) : (layL (layL (O ++ Z) a xs) (a + 3) R).take m = O ++ xs ++ R := by
  have e1 : layL (O ++ Z) a xs = O ++ xs ++ Z.drop 3 := by
    unfold layL
    rw [← hO, List.take_left, hx, List.drop_append, List.drop_of_length_le (by omega), Nat.add_sub_cancel_left, List.nil_append]
  have e2 : (O ++ xs ++ Z.drop 3).take (a + 3) = O ++ xs := List.take_left' (by rw [List.length_append, hO, hx])
  rw [e1]
  unfold layL
  rw [e2, List.take_append_of_le_length (by simp only [List.length_append, hO, hx]; omega), List.take_of_length_le (by simp only [List.length_append, hO, hx]; omega)]
set_option maxRecDepth 100000 in
set_option maxHeartbeats 1000000 in
theorem insert_grow (L : List Fl) (i : Nat) (hi : i < L.length) (x : Fl) (hl : L.length ≤ 1000) (g cap : Nat) (C : List Value) (base : Nat) (W : World) (hb : base ≤ W.heap.size) (hg : Arr W g 68 C.toArray) (hnc : L.length ≤ cap) (hroom : cap < L.length + 1) (hcs : C.length = cap * 3) (htake : C.take (L.length * 3) = flCells L)
    (vb : Nat) (hv : Arr W vb 68 (flArr x)) :
    Calls Tryz.prog 135 #[.slice (some ⟨g, 0, none⟩) L.length cap, .int .i64 (i : Int), .slice (some ⟨vb, 0, none⟩) 1 1] W (InEnd base (L.take i ++ x :: L.drop i) (.slice (some ⟨g, 0, none⟩) L.length cap) W) := by
  obtain ⟨si, hsi, sz0, sz1, sz2⟩ := info_parts info_file
  have hsz := file_size
  have hcell : ∀ j, W.cell? ⟨g, j, none⟩ = C[j]? := fun j => by rw [hg.cell j, List.getElem?_toArray]
  have hol : (flCells (L.take i)).length = i * 3 := by rw [flCells_len, List.length_take, Nat.min_eq_left (by omega)]
  have hcl : (flCells (L.drop i)).length = (L.length - i) * 3 := by rw [flCells_len, List.length_drop]
  have hold : (Builtin.firstCells si.size i (.slice (some ⟨g, 0, none⟩) i cap)).run Tryz.prog W.drew = .ok (flCells (L.take i)).toArray W.drew := by
    rw [sz1]
    exact run_firstCells_some W.drew 3 i ⟨g, 0, none⟩ i cap (flCells (L.take i)) (by omega) (fun j v hj => by
      have hlt := (List.getElem?_eq_some_iff.1 hj).1
      rw [← flCells_take, List.getElem?_take_of_lt (by omega), ← htake, List.getElem?_take_of_lt (by omega)] at hj
      rw [Addr.add_lit, Nat.zero_add]
      exact (hcell j).trans hj)
  have hn1 : i + (L.length + 1 - i) = L.length + 1 := by omega
  have hrun : ∀ ty, (Builtin.append_ #[35, 3] ty #[.slice (some ⟨g, 0, none⟩) i cap, .int .i64 ((L.length : Int) + 1 - (i : Int))]).run Tryz.prog W = .ok (.slice (some ⟨W.heap.size, 0, none⟩) (L.length + 1) (grownCap W (L.length + 1) cap 68)) (W.drew.alloc (.cells ((flCells (L.take i)).toArray ++ Builtin.zeroCells flZero (L.length + 1 - i) ++ Builtin.zeroCells flZero (grownCap W (L.length + 1) cap 68 - (L.length + 1))) 68)) := fun ty => by
    have := run_append_zeros (P := Tryz.prog) W 35 3 ty 68 si _ .i64 .i64 Tryz.underlying35 Tryz.underlying3 hsi sz0 ⟨g, 0, none⟩ i cap (L.length + 1 - i) (flCells (L.take i)) hold (by omega) (by omega) (by omega) (by omega) (by rw [sz2]; omega) (by rw [sz2]; exact growslice_fits (by omega) (by omega))
    rw [hn1, show (((L.length + 1 - i : Nat)) : Int) = (L.length : Int) + 1 - (i : Int) from by omega] at this
    exact this
  have hgc := grownCap_ge W (L.length + 1) cap 68
  have hgm := grownCap_le_maxLen W (L.length + 1) cap 68 (by unfold maxLen; omega)
  generalize grownCap W (L.length + 1) cap 68 = cap' at *
  obtain ⟨Z, hZ⟩ : ∃ Z, Z = (Builtin.zeroCells flZero (L.length + 1 - i) ++ Builtin.zeroCells flZero (cap' - (L.length + 1))).toList := ⟨_, rfl⟩
  have hZl : Z.length = (cap' - i) * 3 := by
    rw [hZ, Array.length_toList, Array.size_append, size_zeroCells, size_zeroCells]
    show (L.length + 1 - i) * 3 + (cap' - (L.length + 1)) * 3 = _
    omega
  have hCe : (flCells (L.take i)).toArray ++ Builtin.zeroCells flZero (L.length + 1 - i) ++ Builtin.zeroCells flZero (cap' - (L.length + 1)) = (flCells (L.take i) ++ Z).toArray := by
    apply Array.ext'
    rw [hZ]
    simp
  rw [hCe] at hrun
  clear hZ hCe
  have A2 : Arr (W.drew.alloc (.cells (flCells (L.take i) ++ Z).toArray 68)) W.heap.size 68 (flCells (L.take i) ++ Z).toArray := Arr.new_at _ _ _ rfl
  have bel2 : Below W.heap.size W (W.drew.alloc (.cells (flCells (L.take i) ++ Z).toArray 68)) := ((Below.refl _ W).drew).alloc (Nat.le_refl _) _
  generalize W.drew.alloc (.cells (flCells (L.take i) ++ Z).toArray 68) = W2 at *
  have V2 := hv.below bel2 hv.lt
  have hcp1 : ∀ ty dc, (Builtin.copy_ #[35, 35] ty #[.slice (some ⟨W.heap.size, i * 3, none⟩) (L.length + 1 - i) dc, .slice (some ⟨vb, 0, none⟩) 1 1]).run Tryz.prog W2 = .ok (goInt 1) (W2.setCells W.heap.size (i * 3) (flArr x).toList) := fun ty dc => by
    have := run_copy_k (P := Tryz.prog) W2 35 35 ty 68 3 W.heap.size (i * 3) (L.length + 1 - i) dc ⟨vb, 0, none⟩ 1 1 (flArr x).toList Tryz.underlying35 hsz (by rw [show Nat.min 1 (L.length + 1 - i) = 1 from by simp only [Nat.min_def]; split <;> omega]; rfl)
      (fun j v hj => by rw [Addr.add_lit, Nat.zero_add, V2.cell j, ← Array.getElem?_toList]; exact hj)
      (fun j hj => by
        have hj3 : j < 3 := hj
        rw [A2.cell, List.getElem?_toArray, List.getElem?_eq_getElem (by rw [List.length_append]; omega)]
        rfl)
      (fun j _ => A2.free _) (flArr_ones x)
    rw [show Nat.min 1 (L.length + 1 - i) = 1 from by simp only [Nat.min_def]; split <;> omega] at this
    exact this
  have A3 := arr_setCells (flArr x).toList (i * 3) _ _ A2 (by rw [List.length_append]; show i * 3 + 3 ≤ _; omega)
  have bel3 := below_gb bel2 (gb_setCells W.heap.size (flArr x).toList (i * 3) W2) (Nat.le_refl _) bel2.size
  generalize W2.setCells W.heap.size (i * 3) (flArr x).toList = W3 at *
  have G3 := hg.below bel3 hg.lt
  have hl3 : (layL (flCells (L.take i) ++ Z) (i * 3) (flArr x).toList).length = cap' * 3 := by rw [layL_len (by rw [List.length_append]; show i * 3 + 3 ≤ _; omega), List.length_append]; omega
  have hcp2 : ∀ ty dc sc, (Builtin.copy_ #[35, 35] ty #[.slice (some ⟨W.heap.size, (i + 1) * 3, none⟩) (L.length - i) dc, .slice (some ⟨g, i * 3, none⟩) (L.length - i) sc]).run Tryz.prog W3.drew = .ok (goInt (Nat.min (L.length - i) (L.length - i))) (W3.drew.setCells W.heap.size ((i + 1) * 3) (flCells (L.drop i))) := fun ty dc sc =>
    run_copy_k W3.drew _ _ ty 68 3 W.heap.size ((i + 1) * 3) _ dc ⟨g, i * 3, none⟩ _ sc (flCells (L.drop i)) Tryz.underlying35 hsz (by rw [hcl]; simp only [Nat.min_def]; split <;> omega)
      (fun j v hj => by
        have hlt := (List.getElem?_eq_some_iff.1 hj).1
        rw [← flCells_drop, List.getElem?_drop, ← htake, List.getElem?_take_of_lt (by omega)] at hj
        rw [Addr.add_lit]
        show W3.cell? _ = _
        rw [G3.cell, List.getElem?_toArray]
        exact hj)
      (fun j hj => by
        show (W3.cell? _).isSome = true
        rw [A3.cell, List.getElem?_toArray, List.getElem?_eq_getElem (by rw [hl3]; omega)]
        rfl)
      (fun j _ => A3.free _) (flCells_one _)
  have A4 := arr_setCells (flCells (L.drop i)) ((i + 1) * 3) _ _ A3.drew (by rw [hl3]; omega)
  have bel4 := below_gb bel3.drew (gb_setCells W.heap.size (flCells (L.drop i)) ((i + 1) * 3) W3.drew) (Nat.le_refl _) bel3.size
  have HE : Hid (InEnd base (L.take i ++ x :: L.drop i) (.slice (some ⟨g, 0, none⟩) L.length cap) W (.returned (.slice (some ⟨W.heap.size, 0, none⟩) (L.length + 1) cap')) (W3.drew.setCells W.heap.size ((i + 1) * 3) (flCells (L.drop i)))) := by
    have hlen : (L.take i ++ x :: L.drop i).length = L.length + 1 := by rw [List.length_append, List.length_cons, List.length_take, List.length_drop]; omega
    refine ⟨_, rfl, ⟨by rw [flCells_len], .inr ⟨W.heap.size, cap', _, by rw [hlen], hb, A4, by omega, hgm, ?_, ?_⟩⟩, gb_below bel4⟩
    · rw [List.size_toArray, layL_len (by rw [hl3]; omega), hl3]
    · rw [ins_cells, List.toList_toArray, hlen, flCells_take, flCells_drop]
      rw [show (i + 1) * 3 = i * 3 + 3 from by omega]
      exact lay_grow (xs := (flArr x).toList) hol rfl (by rw [hcl]; omega) (by rw [hcl, hZl]; omega)
  have b1 : ¬ (i : Int) = L.length := by omega
  have b2 : (cap : Int) < L.length + 1 := by omega
  have b3 : (i : Int) ≤ L.length := by omega
  have b4 : (i : Int) ≤ cap := by omega
  have b5 : (i : Int) ≤ (L.length : Int) + 1 := by omega
  have b6 : (cap : Int) ≤ 1000 := by omega
  clear hold hcell hol hcl hZl A2 bel2 V2 A3 bel3 G3 hl3 A4 bel4 hn1 hsi sz0 sz1 sz2 htake
  go_enter Tryz.func135, Tryz.ntmps135
  go_wp2_with (first
    | (at_builtin; refine Lib.wpList_append_run _ rfl _ _ _ _ rfl _ _ rfl rfl _ _ (hrun _) ?_)
    | (at_builtin; refine wpList_copy_is _ rfl _ _ 35 35 rfl _ _ rfl rfl (hcp1 _ _) ?_))
  have s1 : IntKind.i64.wrap ((i : Int) + 1) = (i : Int) + 1 := IntWalk.i64_in _ (by omega)
  have s2 : (0 : Int) ≤ (i : Int) + 1 := by omega
  have s4 : ((i : Int) + 1).toNat = i + 1 := by omega
  have s5 : ¬ cap' = i + 1 := by omega
  have s6 : ¬ cap = i := by omega
  go_region_law (refine step_copy_is rfl _ _ 35 35 rfl _ _ (by simp [Act.eval, Act.put]) (by simp [Act.eval, Act.put]) (hcp2 _ _ _) ?_)
  go_wp2_with fail
  go_ret
  exact HE.out
theorem Insert_any (L : List Fl) (i : Nat) (hi : i ≤ L.length) (x : Fl) (hl : L.length ≤ 1000) (v : Value) (base : Nat) (W : World) (h : W.ownsRow base 68 3 v L.length (flCells L)) (vb : Nat) (hv : Arr W vb 68 (flArr x)) (hne : v.ownBlock ≠ some vb) (hb : base ≤ W.heap.size) :
    Calls Tryz.prog 135 #[v, .int .i64 (i : Int), .slice (some ⟨vb, 0, none⟩) 1 1] W (InEnd base (L.take i ++ x :: L.drop i) v W) := by
  by_cases e : i = L.length
  · subst e
    exact insert_end L x hl v base W h vb hv hb
  · rcases h.2 with ⟨_, hn0⟩ | ⟨g, cap, cur, rfl, hbg, hg, hnc, hcm, hcs, htake⟩
    · omega
    · have hA : Arr W g 68 cur.toList.toArray := Arr.toL hg
      by_cases hc : L.length + 1 ≤ cap
      · exact insert_shift L i (by omega) x hl g cap cur.toList base W hbg hA hc hcm (by rw [Array.length_toList, hcs]) htake vb hv (fun q => hne (by rw [q]; rfl))
      · exact insert_grow L i (by omega) x hl g cap cur.toList base W hb hA hnc (by omega) (by rw [Array.length_toList, hcs]) htake vb hv
end Go.Proofs.YtmikfmcgddmplaaGreatDoor

/- slices.Clone, slices.Delete at files: contracts. -/
namespace Go.Proofs.YtmikfmcgddmplaaGreatDoor
open Go.RowKit

theorem flCells_get (L : List Fl) (j : Nat) (u : Value) (hu : (flCells L)[j]? = some u) : ∃ x, L[j / 3]? = some x ∧ (j % 3 = 0 ∧ u = .string x.name ∨ j % 3 = 1 ∧ u = .string x.safe ∨ j % 3 = 2 ∧ u = .string x.tail) := by
  have hlt := (List.getElem?_eq_some_iff.1 hu).1
  rw [flCells_len] at hlt
  have hk : j / 3 < L.length := by omega
  have hx : L[j / 3]? = some L[j / 3] := List.getElem?_eq_getElem hk
  refine ⟨_, hx, ?_⟩
  have h1 := flCells_at L (j / 3) (j % 3) _ hx (by omega)
  rw [show j / 3 * 3 + j % 3 = j from by omega, hu] at h1
  have h3 : j % 3 = 0 ∨ j % 3 = 1 ∨ j % 3 = 2 := by omega
  rcases h3 with e | e | e
  · rw [e] at h1; exact .inl ⟨e, Option.some.inj h1⟩
  · rw [e] at h1; exact .inr (.inl ⟨e, Option.some.inj h1⟩)
  · rw [e] at h1; exact .inr (.inr ⟨e, Option.some.inj h1⟩)
theorem Fls.news {w : World} {B : Nat} {A : Option Addr} {L : List Fl} (h : Fls w B A L) : News w A L.length (flCells L) := by
  refine ⟨fun e => ?_, fun ad e j u hu => ?_⟩
  · cases L with
    | nil => rfl
    | cons x T =>
      obtain ⟨ad, e1, _⟩ := h 0 x rfl
      rw [e] at e1; cases e1
  · obtain ⟨x, h1, h2⟩ := flCells_get L j u hu
    obtain ⟨ad', e1, _, k0, k1, k2⟩ := h (j / 3) x h1
    rw [e] at e1; cases e1
    rcases h2 with ⟨hm, rfl⟩ | ⟨hm, rfl⟩ | ⟨hm, rfl⟩
    · rw [show j = j / 3 * 3 from by omega]; exact k0
    · rw [show j = j / 3 * 3 + 1 from by omega, add_add _ _ _ (by decide)]; exact k1
    · rw [show j = j / 3 * 3 + 2 from by omega, add_add _ _ _ (by decide)]; exact k2
set_option maxRecDepth 100000 in
set_option maxHeartbeats 1000000 in
theorem Clone_any (L : List Fl) (A : Option Addr) (c : Nat) (W : World) (hP : Fls W W.heap.size A L) (hl : L.length ≤ 1000) :
    Calls Tryz.prog 103 #[.slice A L.length c] W fun e w' => ∃ v', e = .returned v' ∧ w'.ownsRow W.heap.size 68 3 v' L.length (flCells L) ∧ Below W.heap.size W w' := by
  obtain ⟨si, hsi, sz0, sz1, sz2⟩ := info_parts info_file
  have Hsi := Lib.hid hsi
  have Sz0 := Lib.hid sz0
  have Sz1 := Lib.hid sz1
  have Sz2 := Lib.hid sz2
  clear hsi sz0 sz1 sz2
  cases A with
  | none =>
    obtain rfl : L = [] := by
      cases L with
      | nil => rfl
      | cons x T => obtain ⟨ad, e1, _⟩ := hP 0 x rfl; cases e1
    have hq : (binOp .eql 35 (.slice none ([] : List Fl).length c) (.slice none 0 0)).run Tryz.prog W = .ok (.bool true) W := Lib.run_eql_slice_nil W _ 68 none _ c 0 0 Tryz.underlying35
    simp only [List.length_nil] at hq ⊢
    go_enter Tryz.func103, Tryz.ntmps103
    go_wp2_with fail
    go_ret
    exact ⟨_, rfl, own_nil _ _ _ _, Below.refl _ _⟩
  | some ad =>
    have b1 : Below W.heap.size W (W.alloc (.cells #[] 68)) := (Below.refl _ _).alloc (Nat.le_refl _) _
    have n1 : News (W.alloc (.cells #[] 68)) (some ad) L.length (flCells L) := (hP.below b1).news
    have o1 : (W.alloc (.cells #[] 68)).ownsRow W.heap.size 68 3 (.slice (some ⟨W.heap.size, 0, none⟩) 0 0) 0 [] := ⟨rfl, .inr ⟨W.heap.size, 0, #[], rfl, Nat.le_refl _, Arr.new _ _ _, Nat.le_refl _, by decide, rfl, rfl⟩⟩
    have HN := Lib.hid n1
    have HO := Lib.hid o1
    clear n1 o1
    have hq : (binOp .eql 35 (.slice (some ad) L.length c) (.slice none 0 0)).run Tryz.prog W = .ok (.bool false) W := Lib.run_eql_slice_nil W _ 68 (some ad) _ c 0 0 Tryz.underlying35
    go_enter Tryz.func103, Tryz.ntmps103
    go_wp2_with (at_builtin; refine wpList_app _ rfl _ _ 35 rfl W.heap.size 68 si _ 3 48 Tryz.underlying35 Hsi.out Sz0.out Sz1.out Sz2.out rfl (by decide) _ _ _ rfl HO.out (some ad) L.length c (flCells L) rfl (flCells_len L) HN.out (flCells_one L) (by unfold maxLen; omega) (by omega) b1.size ?_)
    intro v' w' h1 h2
    try simp only [Nat.zero_add, List.nil_append] at h1
    go_wp2_with fail
    go_ret
    exact ⟨v', rfl, h1, b1.grown h2 b1.size (fun k hk => by cases hk; exact Nat.le_refl _)⟩
theorem del_lay {C F zs : List Value} {n i : Nat} (h : C.take (n * 3) = F) (hF : F.length = n * 3) (hi : i < n) (_ : zs.length = 3) :
    (layL (layL C (i * 3) (F.drop ((i + 1) * 3))) ((n - 1) * 3) zs).take ((n - 1) * 3) = F.take (i * 3) ++ F.drop ((i + 1) * 3) := by
  have hCn : n * 3 ≤ C.length := by rw [← h, List.length_take] at hF; omega
  have hR : (F.drop ((i + 1) * 3)).length = (n - 1) * 3 - i * 3 := by rw [List.length_drop, hF]; omega
  have e0 : C.take (i * 3) = F.take (i * 3) := by rw [← h, List.take_take, Nat.min_eq_left (by omega)]
  have e1 : (layL C (i * 3) (F.drop ((i + 1) * 3))).take ((n - 1) * 3) = F.take (i * 3) ++ F.drop ((i + 1) * 3) := by
    unfold layL
    rw [e0, List.take_append_of_le_length (by rw [List.length_append, List.length_take, hR, hF]; omega), List.take_of_length_le (by rw [List.length_append, List.length_take, hR, hF]; omega)]
  rw [show layL (layL C (i * 3) (F.drop ((i + 1) * 3))) ((n - 1) * 3) zs = (layL C (i * 3) (F.drop ((i + 1) * 3))).take ((n - 1) * 3) ++ zs ++ (layL C (i * 3) (F.drop ((i + 1) * 3))).drop ((n - 1) * 3 + zs.length) from rfl, e1, List.append_assoc, List.take_left' (by rw [List.length_append, List.length_take, hR, hF]; omega)]
section
variable {P : Program}
theorem wpList_clear_is (w : World) {ops : Array Oper} {rest : List Oper} {o : Oper} {a : Act} {Q : Exit → Act → World → Prop} (hgd : o.guard = none) (s : Operand) (t : TypeId)
    (ho : o.op = .call { callee := .builtin .clear, args := #[s], argTypes := #[t] }) (u : Value) (hs : a.eval s = u) {v' : Value} {w' : World}
    (hr : (Builtin.clear_ #[t] o.type #[u]).run P w = .ok v' w') (h : wpList P ops Q rest (a.put o.dst v') w') : wpList P ops Q (o :: rest) a w :=
  wpList_plain hgd fun _ hK => by
    unfold Oper.wp execOp
    simp only [ho, resolve, invoke, builtin, Sem.run_bind, Sem.run_pure, Result.andThen_ok, List.map_toArray, List.map_cons, List.map_nil, hs, hr]
    exact hK _ _ h
end
def z3 : List Value := [.string ⟨#[]⟩, .string ⟨#[]⟩, .string ⟨#[]⟩]
set_option maxRecDepth 100000 in
set_option maxHeartbeats 1000000 in
theorem Delete_any (L : List Fl) (i : Nat) (hi : i < L.length) (hl : L.length ≤ 1000) (v : Value) (base : Nat) (W : World) (h : W.ownsRow base 68 3 v L.length (flCells L)) :
    Calls Tryz.prog 64 #[v, .int .i64 (i : Int), .int .i64 ((i : Int) + 1)] W (InEnd base (L.take i ++ L.drop (i + 1)) v W) := by
  obtain ⟨si, hsi, sz0, sz1, sz2⟩ := info_parts info_file
  rcases h.2 with ⟨_, hn0⟩ | ⟨g, cap, cur, rfl, hbg, hg0, hnc, hcm, hcs0, htake⟩
  · omega
  have hg : Arr W g 68 cur.toList.toArray := Arr.toL hg0
  have hcs : cur.toList.length = cap * 3 := by rw [Array.length_toList, hcs0]
  clear hg0 hcs0 h
  generalize cur.toList = C at *
  have hcl : (flCells (L.drop (i + 1))).length = (L.length - (i + 1)) * 3 := by rw [flCells_len, List.length_drop]
  have hnews : ∀ j u, (flCells (L.drop (i + 1)))[j]? = some u → W.drew.cell? ((⟨g, (i + 1) * 3, none⟩ : Addr).add j) = some u := fun j u hj => by
    have hlt := (List.getElem?_eq_some_iff.1 hj).1
    rw [← flCells_drop, List.getElem?_drop, ← htake, List.getElem?_take_of_lt (by omega)] at hj
    rw [Addr.add_lit]
    show W.cell? _ = _
    rw [hg.cell, List.getElem?_toArray]
    exact hj
  have hspare : ∀ j, j < (flCells (L.drop (i + 1))).length → (W.drew.cell? ⟨g, 0 + i * 3 + j, none⟩).isSome = true ∧ W.drew.frozen? ⟨g, 0 + i * 3 + j, none⟩ = false := fun j hj => by
    refine ⟨?_, hg.free _⟩
    show (W.cell? _).isSome = true
    rw [hg.cell, List.getElem?_toArray, List.getElem?_eq_getElem (by omega)]
    rfl
  have A1 := arr_setCells (flCells (L.drop (i + 1))) (i * 3) C W.drew hg.drew (by omega)
  have k1 : W.grownBy (W.drew.setCells g (i * 3) (flCells (L.drop (i + 1)))) (some g) := gb_trans (gb_below ((Below.refl _ W).drew)) (gb_setCells g _ _ W.drew)
  have hl1 : (layL C (i * 3) (flCells (L.drop (i + 1)))).length = cap * 3 := by rw [layL_len (by omega), hcs]
  have hclr : ∀ ty c, (Builtin.clear_ #[35] ty #[.slice (some ⟨g, (L.length - 1) * 3, none⟩) 1 c]).run Tryz.prog (W.drew.setCells g (i * 3) (flCells (L.drop (i + 1)))) = .ok (.tuple #[]) ((W.drew.setCells g (i * 3) (flCells (L.drop (i + 1)))).setCells g ((L.length - 1) * 3) z3) := fun ty c =>
    run_clear_k _ 35 68 ty (.agg flZero) Tryz.underlying35 (fun w => by simp [zeroValue, typeInfo, hsi, sz0, flZero]) g _ 1 c (by omega) z3 (by kernel_rfl) (by intro v hv; simp [z3] at hv; rw [hv]; rfl)
      (fun j hj => by
        have hj3 : j < 3 := hj
        rw [A1.cell, List.getElem?_toArray, List.getElem?_eq_getElem (by rw [hl1]; omega)]
        rfl)
      (fun j _ => A1.free _)
  have A2 := arr_setCells z3 ((L.length - 1) * 3) _ _ A1 (by rw [hl1]; show _ + 3 ≤ _; omega)
  have HE : Hid (InEnd base (L.take i ++ L.drop (i + 1)) (.slice (some ⟨g, 0, none⟩) L.length cap) W (.returned (.slice (some ⟨g, 0, none⟩) (L.length - 1) cap)) ((W.drew.setCells g (i * 3) (flCells (L.drop (i + 1)))).setCells g ((L.length - 1) * 3) z3)) := by
    have hlen : (L.take i ++ L.drop (i + 1)).length = L.length - 1 := by rw [List.length_append, List.length_take, List.length_drop]; omega
    refine ⟨_, rfl, ⟨by rw [flCells_len], .inr ⟨g, cap, _, by rw [hlen], hbg, A2, by omega, hcm, ?_, ?_⟩⟩, gb_trans k1 (gb_setCells g _ _ _)⟩
    · rw [List.size_toArray, layL_len (by rw [hl1]; show _ + 3 ≤ _; omega), hl1]
    · rw [List.toList_toArray, hlen, flCells_app, ← flCells_take, ← flCells_drop]
      exact del_lay htake (flCells_len L) hi rfl
  have b1 : ¬ (i : Int) = (i : Int) + 1 := by omega
  have b2 : (i : Int) ≤ L.length := by omega
  have b3 : (i : Int) + 1 ≤ L.length := by omega
  have b4 : (L.length : Int) ≤ cap := by omega
  have b5 : (0 : Int) ≤ (i : Int) + 1 := by omega
  have b6 : (i : Int) ≤ (i : Int) + 1 := by omega
  have b7 : (i : Int) ≤ cap := by omega
  have b8 : ((i : Int) + 1).toNat = i + 1 := by omega
  have HSz1 := Lib.hid sz1
  have Hsi := Lib.hid hsi
  have Hn := Lib.hid hnews
  have Hs := Lib.hid hspare
  clear hsi sz0 sz1 sz2 hnews hspare A1 A2 k1 hl1 htake hcm
  go_enter Tryz.func64, Tryz.ntmps64
  go_wp2_with fail
  obtain ⟨m, hm⟩ : ∃ m, m = L.length - 1 := ⟨_, rfl⟩
  rw [← hm] at hclr HE
  have hm1 : i + (L.length - (i + 1)) = m := by omega
  have c1 : (m : Int) ≤ L.length := by omega
  have c2 : ¬ cap = m := by omega
  have c3 : L.length - m = 1 := by omega
  have c4 : (L.length : Int) ≤ 1000 := by omega
  by_cases hcap : cap = i + 1
  · have hmi : m = i := by omega
    have hln : L.length = i + 1 := by omega
    have hfl : flCells (L.drop (i + 1)) = [] := List.eq_nil_of_length_eq_zero (by omega)
    rw [hfl] at hclr HE Hs
    subst hcap
    rw [hmi] at hclr HE
    rw [hln] at *
    have d1 : ¬ i + 1 = i := by omega
    go_region_law (refine step_append_room rfl _ _ 35 rfl 68 si 3 Tryz.underlying35 Hsi.out HSz1.out g 0 i (i + 1) (by simp [Act.eval, Act.put]) ⟨g, 0, none⟩ 0 0 [] (by simp [Act.eval, Act.put]) rfl (fun j u hj => by cases hj) (fun u hu => by cases hu) (by omega) (fun j hj => by cases hj) ?_)
    go_wp2_with (at_builtin; refine wpList_clear_is _ rfl _ 35 rfl _ rfl (hclr _ _) ?_)
    go_ret
    exact HE.out
  · subst hm
    have hclr2 : ∀ ty c, (Builtin.clear_ #[35] ty #[.slice (some ⟨g, (L.length - 1) * 3, none⟩) (L.length - (L.length - 1)) c]).run Tryz.prog (W.drew.setCells g (i * 3) (flCells (L.drop (i + 1)))) = .ok (.tuple #[]) ((W.drew.setCells g (i * 3) (flCells (L.drop (i + 1)))).setCells g ((L.length - 1) * 3) z3) := fun ty c => by rw [c3]; exact hclr ty c
    clear c3 hclr
    go_region_law (refine step_append_room rfl _ _ 35 rfl 68 si 3 Tryz.underlying35 Hsi.out HSz1.out g 0 i cap (by simp [Act.eval, Act.put]) ⟨g, (i + 1) * 3, none⟩ (L.length - (i + 1)) (cap - (i + 1)) (flCells (L.drop (i + 1))) (by simp [Act.eval, Act.put]) (by rw [hcl]) Hn.out (flCells_one _) (by omega) Hs.out ?_)
    go_wp2_with (at_builtin; refine wpList_clear_is _ rfl _ 35 rfl _ rfl (hclr2 _ _) ?_)
    go_ret
    exact HE.out
end Go.Proofs.YtmikfmcgddmplaaGreatDoor

/- The changes that steps make: Sync and Remove. -/
namespace Go.Proofs.YtmikfmcgddmplaaGreatDoor
open Go.RowKit

/-- behind a change -/
def ChEnd (base : Nat) (r : Except Int (List Fl)) (V : World) (x : Ending) (w' : World) : Prop :=
  (match r with
  | .error e => (e != 0) = true ∧ x = .returned (.tuple #[.slice none 0 0, .int .i64 e])
  | .ok L => ∃ v, x = .returned (.tuple #[v, .int .i64 0]) ∧ w'.ownsRow base 68 3 v L.length (flCells L)) ∧ Below base V w'
theorem own_base {w : World} {base : Nat} {e : TypeId} {size : Nat} {v : Value} {n : Nat} {xs : List Value} (h : w.ownsRow base e size v n xs) : ∀ k, v.ownBlock = some k → base ≤ k := fun k hk => own_row_ge h k hk
theorem grown_base {w w' : World} {base : Nat} {e : TypeId} {size : Nat} {v : Value} {n : Nat} {xs : List Value} (h : w.ownsRow base e size v n xs) (hb : base ≤ w.heap.size) (k : w.grownBy w' v.ownBlock) : Below base w w' :=
  (Below.refl base w).grown k hb (own_base h)
theorem dk_own_below {w w' : World} {base : Nat} {e : TypeId} {size : Nat} {v : Value} {n : Nat} {xs : List Value} (h : w.ownsRow base e size v n xs) (k : Below w.heap.size w w') : w'.ownsRow base e size v n xs := own_kp h (Kp.bel k (X := fun _ => False)) (fun _ _ e => e)
/-- a file of a row, set anew -/
theorem own_set {w : World} {base g cap : Nat} {L : List Fl} {C : List Value} {i : Nat} {f f' : Fl} (hbg : base ≤ g) (hg : Arr w g 68 C.toArray) (hnc : L.length ≤ cap) (hcm : cap ≤ maxLen) (hcs : C.length = cap * 3)
    (hC : C.take (L.length * 3) = flCells (L.set i f')) (hi : L[i]? = some f) : w.ownsRow base 68 3 (.slice (some ⟨g, 0, none⟩) L.length cap) (L.set i f').length (flCells (L.set i f')) := by
  have _ := hi
  exact ⟨by rw [flCells_len], .inr ⟨g, cap, _, by rw [List.length_set], hbg, hg, by rw [List.length_set]; exact hnc, hcm, by rw [List.size_toArray, hcs], by rw [List.length_set, List.toList_toArray]; exact hC⟩⟩
theorem flCells_set (L : List Fl) (i : Nat) (f' : Fl) (hi : i < L.length) : flCells (L.set i f') = (flCells L).take (i * 3) ++ (flArr f').toList ++ (flCells L).drop ((i + 1) * 3) := by
  rw [List.set_eq_take_append_cons_drop, if_pos hi, flCells_app, flCells, ← flCells_take, ← flCells_drop, List.append_assoc]
/-- two cells of a file, set -/
theorem take_set2 {C : List Value} {L : List Fl} {i cap : Nat} {f f' : Fl} {u v : Value} (hC : C.take (L.length * 3) = flCells L) (_ : C.length = cap * 3) (_ : L.length ≤ cap) (hi : L[i]? = some f) (hn : f'.name = f.name) (hu : u = .string f'.safe) (hv : v = .string f'.tail) :
    ((C.set (i * 3 + 1) u).set (i * 3 + 2) v).take (L.length * 3) = flCells (L.set i f') := by
  obtain ⟨hlt, hfe⟩ := List.getElem?_eq_some_iff.1 hi
  apply List.ext_getElem?
  intro j
  rw [List.take_set, List.take_set, hC]
  by_cases hj : j < L.length * 3
  · have hk : j / 3 < L.length := by omega
    have h1 := flCells_at L (j / 3) (j % 3) L[j / 3] (List.getElem?_eq_getElem hk) (by omega)
    rw [show j / 3 * 3 + j % 3 = j from by omega] at h1
    by_cases e : j / 3 = i
    · have h2 := flCells_at (L.set i f') (j / 3) (j % 3) f' (by rw [e, List.getElem?_set_self hlt]) (by omega)
      rw [show j / 3 * 3 + j % 3 = j from by omega] at h2
      rw [h2]
      have hm : j % 3 = 0 ∨ j % 3 = 1 ∨ j % 3 = 2 := by omega
      have hl : (flCells L).length = L.length * 3 := flCells_len L
      rcases hm with m | m | m
      · rw [List.getElem?_set_ne (by omega), List.getElem?_set_ne (by omega), h1, m, show L[j / 3] = f from by rw [← hfe]; congr]
        show some (Value.string f.name) = some (.string f'.name)
        rw [hn]
      · rw [List.getElem?_set_ne (by omega), show j = i * 3 + 1 from by omega, List.getElem?_set_self (by rw [hl]; omega), hu]
        rw [show (i * 3 + 1) % 3 = 1 from by omega]
        rfl
      · rw [show j = i * 3 + 2 from by omega, List.getElem?_set_self (by rw [List.length_set, hl]; omega), hv, show (i * 3 + 2) % 3 = 2 from by omega]
        rfl
    · have h2 := flCells_at (L.set i f') (j / 3) (j % 3) L[j / 3] (by rw [List.getElem?_set_ne (fun q => e q.symm), List.getElem?_eq_getElem hk]) (by omega)
      rw [show j / 3 * 3 + j % 3 = j from by omega] at h2
      rw [h2, List.getElem?_set_ne (by omega), List.getElem?_set_ne (by omega), h1]
  · rw [List.getElem?_eq_none (by rw [List.length_set, List.length_set, flCells_len]; omega), List.getElem?_eq_none (by rw [flCells_len, List.length_set]; omega)]
set_option maxRecDepth 100000 in
set_option maxHeartbeats 1000000 in
theorem removeCh_any (L : List Fl) (n : ByteArray) (hG : goodD L = true) (v : Value) (base p : Nat) (V : World) (h : V.ownsRow base 68 3 v L.length (flCells L)) (hp : V.cell? ⟨p, 0, none⟩ = some (.string n)) (hb : base ≤ V.heap.size) :
    Calls Tryz.prog 62 #[v, .pointer (some ⟨p, 0, none⟩)] V (ChEnd base (rmP L n) V) := by
  obtain ⟨h4, hr, _⟩ := (goodD_iff L).1 hG
  obtain ⟨A, c, rfl, hc, hF⟩ := own_files h
  have C1 := Lib.hid (find_any L n A c V hF (by omega) hr)
  have hlo := low_le n L
  have hgl := getF_low n L _ hr
  have hdc := del_cut n L _ hr
  have hR : ∀ R, R = rmP L n → R = if hasN n L then .ok (del n L) else .error 7 := fun R e => by
    rw [e]; unfold rmP hasN; cases getF n L <;> rfl
  generalize rmP L n = R at *
  have HR := Lib.hid (hR R rfl)
  have hH : hasN n L = true → low n L < L.length ∧ del n L = L.take (low n L) ++ L.drop (low n L + 1) := fun e => by
    refine ⟨?_, hdc e⟩
    unfold hasN at e
    rcases Nat.lt_or_ge (low n L) L.length with q | q
    · exact q
    · rw [hgl, List.getElem?_eq_none q] at e; cases e
  have HH := Lib.hid hH
  clear hR hgl hdc hH
  have CD := fun W v' h1 h2 => Lib.hid (Delete_any L (low n L) h1 (by omega) v' base W h2)
  generalize hasN n L = b at *
  generalize low n L = i at *
  go_enter Tryz.func62, Tryz.ntmps62
  go_wp2_with fail
  (with_reducible refine C1.out.mono ?_)
  clear C1
  rintro _ V2 ⟨rfl, b2⟩
  cases b
  · go_wp2_with fail
    go_ret2
    rw [HR.out]
    exact ⟨⟨rfl, rfl⟩, b2.mono hb⟩
  · obtain ⟨hlt, hd⟩ := HH.out rfl
    have h2 := dk_own_below h b2
    have C2 := CD V2 _ hlt h2
    clear CD
    go_wp2_with fail
    (with_reducible refine C2.out.mono ?_)
    clear C2
    rintro _ V3 ⟨v', rfl, h3, k3⟩
    go_wp2_with fail
    go_ret2
    rw [HR.out]
    refine ⟨⟨v', rfl, ?_⟩, (b2.mono hb).trans (grown_base h2 (Nat.le_trans hb b2.size) k3)⟩
    rw [hd]
    exact h3
end Go.Proofs.YtmikfmcgddmplaaGreatDoor

/- The changes that steps make: Sync. -/
namespace Go.Proofs.YtmikfmcgddmplaaGreatDoor
open Go.RowKit

theorem has_some {n : ByteArray} {L : List Fl} {b : ByteArray} (hr : ris b L) (h : hasN n L = true) : ∃ f, getF n L = some f ∧ L[low n L]? = some f ∧ f.name = n ∧ low n L < L.length := by
  unfold hasN at h
  have hg := getF_low n L _ hr
  cases hx : L[low n L]? with
  | none => rw [hx] at hg; rw [hg] at h; cases h
  | some f =>
    rw [hx] at hg
    simp only at hg
    by_cases e : f.name = n
    · rw [if_pos e] at hg
      exact ⟨f, hg, rfl, e, (List.getElem?_eq_some_iff.1 hx).1⟩
    · rw [if_neg e] at hg; rw [hg] at h; cases h
theorem put_set {n : ByteArray} {L : List Fl} {b : ByteArray} (hr : ris b L) (h : hasN n L = true) {f' : Fl} (hf : f'.name = n) : putL f' L = L.set (low n L) f' := by
  obtain ⟨f, _, hx, _, hlt⟩ := has_some hr h
  rw [putL_cut f' L _ hr, hf, List.set_eq_take_append_cons_drop, if_pos hlt]
  unfold hasN at h
  rw [if_pos h]
theorem put_ins {n : ByteArray} {L : List Fl} {b : ByteArray} (hr : ris b L) (h : hasN n L = false) {f' : Fl} (hf : f'.name = n) : putL f' L = L.take (low n L) ++ f' :: L.drop (low n L) := by
  rw [putL_cut f' L _ hr, hf]
  unfold hasN at h
  rw [if_neg (by rw [h]; simp), Nat.add_zero]
set_option maxRecDepth 100000 in
set_option maxHeartbeats 1000000 in
theorem syncCh_any (L : List Fl) (n : ByteArray) (hG : goodD L = true) (v : Value) (base p : Nat) (V : World) (h : V.ownsRow base 68 3 v L.length (flCells L)) (hp : V.cell? ⟨p, 0, none⟩ = some (.string n)) (hb : base ≤ V.heap.size) :
    Calls Tryz.prog 136 #[v, .pointer (some ⟨p, 0, none⟩)] V (ChEnd base (syP L n) V) := by
  obtain ⟨h4, hr, hall⟩ := (goodD_iff L).1 hG
  obtain ⟨A, c, rfl, hc, hF⟩ := own_files h
  have C1 := Lib.hid (find_any L n A c V hF (by omega) hr)
  cases hbn : hasN n L with
  | false =>
    have HR : Hid (syP L n = .error 7) := by
      show _ = _
      unfold hasN at hbn
      unfold syP
      cases hg : getF n L with
      | none => rfl
      | some f => rw [hg] at hbn; cases hbn
    rw [hbn] at C1
    go_enter Tryz.func136, Tryz.ntmps136
    go_wp2_with fail
    (with_reducible refine C1.out.mono ?_)
    clear C1
    rintro _ V2 ⟨rfl, b2⟩
    go_wp2_with fail
    go_ret2
    rw [HR.out]
    exact ⟨⟨rfl, rfl⟩, b2.mono hb⟩
  | true =>
    obtain ⟨f, hgf, hx, hfn, hlt⟩ := has_some hr hbn
    have HR : Hid (syP L n = .ok (L.set (low n L) ⟨n, f.safe ++ f.tail, ⟨#[]⟩⟩)) := by
      show _ = _
      unfold syP
      rw [hgf]
      simp only
      rw [put_set hr hbn rfl]
    rw [hbn] at C1
    have hfit : f.safe.size + f.tail.size ≤ 1048576 := by
      have := (hall f (List.mem_of_getElem? hx)).2
      unfold fits at this
      exact of_decide_eq_true this
    have hlo : low n L ≤ 400 := by omega
    have hli : (low n L : Int) < L.length := by omega
    generalize low n L = i at *
    generalize syP L n = R at *
    have HFn := Lib.hid hfn
    clear hbn hgf hall hr hG hfn
    rcases h.2 with ⟨e0, hn0⟩ | ⟨g, cap, cur, e0, hbg, hg0, hnc, hcm, hcs0, htake⟩
    · omega
    simp only [Value.slice.injEq] at e0
    obtain ⟨rfl, _, rfl⟩ := e0
    have hgA : Arr V g 68 cur.toList.toArray := Arr.toL hg0
    have hcs : cur.toList.length = c * 3 := by rw [Array.length_toList, hcs0]
    clear hg0 hcs0 h hF
    generalize cur.toList = C at *
    have hcat : ∀ j, j < 3 → C[i * 3 + j]? = (flArr f).toList[j]? := fun j hj => by
      rw [← flCells_at L i j f hx hj, ← htake, List.getElem?_take_of_lt (by omega)]
    go_enter Tryz.func136, Tryz.ntmps136
    go_wp2_with fail
    (with_reducible refine C1.out.mono ?_)
    clear C1
    rintro _ V2 ⟨rfl, b2⟩
    have A2 := hgA.below b2 hgA.lt
    have bel2 := b2.mono hb
    have hb2 := Nat.le_trans hb b2.size
    clear hgA b2
    have c0 : V2.cell? ⟨g, i * 3, none⟩ = some (.string f.name) := by rw [A2.cell, List.getElem?_toArray]; exact hcat 0 (by omega)
    have c1 : V2.cell? ⟨g, i * 3 + 1, none⟩ = some (.string f.safe) := by rw [A2.cell, List.getElem?_toArray]; exact hcat 1 (by omega)
    have c2 : V2.cell? ⟨g, i * 3 + 2, none⟩ = some (.string f.tail) := by rw [A2.cell, List.getElem?_toArray]; exact hcat 2 (by omega)
    have CC : Hid (Calls Tryz.prog 99 #[.agg #[.string f.name, .string f.safe, .string f.tail]] V2 fun e w' => e = .returned (.string (f.safe ++ f.tail)) ∧ Below V2.heap.size V2 w') := content_any f (by omega) (by omega) V2
    go_wp2_with fail
    (with_reducible refine CC.out.mono ?_)
    clear CC c0 c1 c2
    rintro _ V3 ⟨rfl, b3⟩
    have A3 := A2.below b3 A2.lt
    have bel3 := bel2.trans (b3.mono hb2)
    have hb3 := Nat.le_trans hb2 b3.size
    clear A2 bel2 b3
    have c1 : V3.cell? ⟨g, i * 3 + 1, none⟩ = some (.string f.safe) := by rw [A3.cell, List.getElem?_toArray]; exact hcat 1 (by omega)
    have f1 := A3.free (i * 3 + 1)
    have A4 := A3.put (i * 3 + 1) (.string (f.safe ++ f.tail))
    rw [List.setIfInBounds_toArray] at A4
    have c2 : (V3.setCell ⟨g, i * 3 + 1, none⟩ (.string (f.safe ++ f.tail))).cell? ⟨g, i * 3 + 2, none⟩ = some (.string f.tail) := by
      rw [A4.cell, List.getElem?_toArray, List.getElem?_set_ne (by omega)]
      exact hcat 2 (by omega)
    have f2 := A4.free (i * 3 + 2)
    have A5 := A4.put (i * 3 + 2) (.string ⟨#[]⟩)
    rw [List.setIfInBounds_toArray] at A5
    have bel4 := below_gb bel3 (show V3.grownBy (V3.setCell ⟨g, i * 3 + 1, none⟩ (.string (f.safe ++ f.tail))) (some g) from gb_set _ _ _) hbg hb3
    have bel5 := below_gb bel4 (show (V3.setCell ⟨g, i * 3 + 1, none⟩ (.string (f.safe ++ f.tail))).grownBy ((V3.setCell ⟨g, i * 3 + 1, none⟩ (.string (f.safe ++ f.tail))).setCell ⟨g, i * 3 + 2, none⟩ (.string ⟨#[]⟩)) (some g) from gb_set _ _ _) hbg (by simp [World.setCell]; exact hb3)
    have HO := Lib.hid (own_set (f' := ⟨n, f.safe ++ f.tail, ⟨#[]⟩⟩) hbg A5 hnc hcm (by rw [List.length_set, List.length_set]; exact hcs) (take_set2 htake hcs hnc hx HFn.out.symm rfl rfl) hx)
    clear A3 A4 A5 bel3 bel4 htake hx hcat
    go_wp2_with fail
    go_ret2
    rw [HR.out]
    exact ⟨⟨_, rfl, HO.out⟩, bel5⟩
end Go.Proofs.YtmikfmcgddmplaaGreatDoor

/- disk.put; the change of Rename. -/
namespace Go.Proofs.YtmikfmcgddmplaaGreatDoor
open Go.RowKit

/-- a file's cells, set -/
theorem take_set3 {C : List Value} {L : List Fl} {i cap : Nat} {f' : Fl} (hC : C.take (L.length * 3) = flCells L) (hcs : C.length = cap * 3) (hnc : L.length ≤ cap) (hlt : i < L.length) :
    (((C.set (i * 3) (.string f'.name)).set (i * 3 + 1) (.string f'.safe)).set (i * 3 + 2) (.string f'.tail)).take (L.length * 3) = flCells (L.set i f') := by
  have h0 : (C.set (i * 3) (.string f'.name)).take (L.length * 3) = flCells (L.set i ⟨f'.name, L[i].safe, L[i].tail⟩) := by
    apply List.ext_getElem?
    intro j
    rw [List.take_set, hC]
    have hl : (flCells L).length = L.length * 3 := flCells_len L
    by_cases hj : j < L.length * 3
    · have hk : j / 3 < L.length := by omega
      have h1 := flCells_at L (j / 3) (j % 3) L[j / 3] (List.getElem?_eq_getElem hk) (by omega)
      rw [show j / 3 * 3 + j % 3 = j from by omega] at h1
      by_cases e : j / 3 = i
      · have h2 := flCells_at (L.set i ⟨f'.name, L[i].safe, L[i].tail⟩) (j / 3) (j % 3) ⟨f'.name, L[i].safe, L[i].tail⟩ (by rw [e, List.getElem?_set_self hlt]) (by omega)
        rw [show j / 3 * 3 + j % 3 = j from by omega] at h2
        rw [h2]
        have he : L[j / 3] = L[i] := by congr
        have hm : j % 3 = 0 ∨ j % 3 = 1 ∨ j % 3 = 2 := by omega
        rcases hm with m | m | m
        · rw [show j = i * 3 from by omega, List.getElem?_set_self (by rw [hl]; omega), show i * 3 % 3 = 0 from by omega]
          rfl
        · rw [List.getElem?_set_ne (by omega), h1, m, he]
          rfl
        · rw [List.getElem?_set_ne (by omega), h1, m, he]
          rfl
      · have h2 := flCells_at (L.set i ⟨f'.name, L[i].safe, L[i].tail⟩) (j / 3) (j % 3) L[j / 3] (by rw [List.getElem?_set_ne (fun q => e q.symm), List.getElem?_eq_getElem hk]) (by omega)
        rw [show j / 3 * 3 + j % 3 = j from by omega] at h2
        rw [h2, List.getElem?_set_ne (by omega), h1]
    · rw [List.getElem?_eq_none (by rw [List.length_set, flCells_len]; omega), List.getElem?_eq_none (by rw [flCells_len, List.length_set]; omega)]
  have h1 := take_set2 (C := C.set (i * 3) (.string f'.name)) (L := L.set i ⟨f'.name, L[i].safe, L[i].tail⟩) (i := i) (cap := cap) (f' := f') (u := .string f'.safe) (v := .string f'.tail) (by rw [List.length_set]; exact h0) (by rw [List.length_set]; exact hcs) (by rw [List.length_set]; exact hnc) (List.getElem?_set_self hlt) rfl rfl rfl
  rw [List.length_set, List.set_set] at h1
  exact h1
/-- behind put -/
def PtEnd (base : Nat) (L' : List Fl) (V : World) (e : Ending) (w' : World) : Prop :=
  ∃ v', e = .returned v' ∧ w'.ownsRow base 68 3 v' L'.length (flCells L') ∧ Below base V w'
set_option maxRecDepth 100000 in
set_option maxHeartbeats 1000000 in
theorem put_any (L : List Fl) (f : Fl) (hr : ris ⟨#[]⟩ L) (hl : L.length ≤ 500) (v : Value) (base : Nat) (V : World) (h : V.ownsRow base 68 3 v L.length (flCells L)) (hb : base ≤ V.heap.size) :
    Calls Tryz.prog 138 #[v, .agg #[.string f.name, .string f.safe, .string f.tail]] V (PtEnd base (putL f L) V) := by
  have A0 : Arr (V.alloc (.cells (flArr f) 68)) V.heap.size 68 (flArr f) := Arr.new _ _ _
  have b0 : Below V.heap.size V (V.alloc (.cells (flArr f) 68)) := (Below.refl _ _).alloc (Nat.le_refl _) _
  have h0 := dk_own_below h b0
  have hne0 : ∀ k, v.ownBlock = some k → k < V.heap.size := fun k hk => by
    rcases h.2 with ⟨e0, _⟩ | ⟨g, cap, cur, e0, _, hg, _⟩
    · rw [e0] at hk; cases hk
    · rw [e0] at hk; cases hk; exact (Array.getElem?_eq_some_iff.1 hg).1
  have HNe := Lib.hid hne0
  clear h hne0
  go_enter Tryz.func138, Tryz.ntmps138
  go_upto_region 1 with fail
  refine wp_forget (fun W => Arr W V.heap.size 68 (flArr f) ∧ Below V.heap.size V W ∧ W.ownsRow base 68 3 v L.length (flCells L)) (by exact ⟨A0, b0, h0⟩) ?_
  clear A0 b0 h0
  generalize hq : V.heap.size = q at *
  rintro W ⟨A0, b0, h0⟩
  obtain ⟨A, c, rfl, hc, hF⟩ := own_files h0
  have C1 := Lib.hid (find_any L f.name A c W hF (by omega) hr)
  have hlo := low_le f.name L
  have c0 : W.cell? ⟨q, 0, none⟩ = some (.string f.name) := A0.cell 0
  cases hbn : hasN f.name L with
  | false =>
    rw [hbn] at C1
    have HP := Lib.hid (put_ins hr hbn (f' := f) rfl)
    have CI := fun V1 vb h1 h2 h3 h4 => Lib.hid (Insert_any L (low f.name L) hlo f (by omega) (.slice A L.length c) base V1 h1 vb h2 h3 h4)
    generalize low f.name L = i at *
    clear hbn hF
    go_wp2_with fail
    (with_reducible refine C1.out.mono ?_)
    clear C1 c0
    rintro _ W2 ⟨rfl, b2⟩
    have A2 := A0.below b2 A0.lt
    have h2 := dk_own_below h0 b2
    have bel2 := b0.trans (b2.mono (Nat.le_trans (by rw [hq]; exact Nat.le_refl _) b0.size))
    have hb2 : base ≤ W2.heap.size := by have := bel2.size; omega
    clear A0 b0 h0 b2
    have c0 : W2.cell? ⟨q, 0, none⟩ = some (.string f.name) := A2.cell 0
    have c1 : W2.cell? ⟨q, 1, none⟩ = some (.string f.safe) := A2.cell 1
    have c2 : W2.cell? ⟨q, 2, none⟩ = some (.string f.tail) := A2.cell 2
    have b3 : Below W2.heap.size W2 (W2.alloc (.cells (flArr f) 68)) := (Below.refl _ _).alloc (Nat.le_refl _) _
    have C2 := CI (W2.alloc (.cells (flArr f) 68)) W2.heap.size (dk_own_below h2 b3) (Arr.new _ _ _) (fun e => by have := HNe.out _ e; have := bel2.size; omega) (Nat.le_trans hb2 b3.size)
    have hgb := fun w' k => grown_base (w' := w') (dk_own_below h2 b3) (Nat.le_trans hb2 b3.size) k
    have HG := Lib.hid hgb
    have belb : Below base V (W2.alloc (.cells (flArr f) 68)) := (bel2.mono hb).trans (b3.mono hb2)
    clear CI hgb
    unfold flArr at C2
    go_wp2_with fail
    (with_reducible refine C2.out.mono ?_)
    clear C2
    rintro _ W3 ⟨v', rfl, h3, k3⟩
    go_wp2_with fail
    go_ret
    refine ⟨v', rfl, by rw [HP.out]; exact h3, belb.trans (HG.out _ k3)⟩
  | true =>
    rw [hbn] at C1
    have HP := Lib.hid (put_set hr hbn (f' := f) rfl)
    obtain ⟨f0, _, hx, _, hlt⟩ := has_some hr hbn
    have hli : (low f.name L : Int) < L.length := by omega
    generalize low f.name L = i at *
    clear hbn hF hr
    rcases h0.2 with ⟨e0, hn0⟩ | ⟨g, cap, cur, e0, hbg, hg0, hnc, hcm, hcs0, htake⟩
    · omega
    simp only [Value.slice.injEq] at e0
    obtain ⟨rfl, _, rfl⟩ := e0
    have hgA : Arr W g 68 cur.toList.toArray := Arr.toL hg0
    have hcs : cur.toList.length = c * 3 := by rw [Array.length_toList, hcs0]
    clear hg0 hcs0 h0
    generalize cur.toList = C at *
    have hgq : g ≠ q := fun e => by have := HNe.out g rfl; omega
    go_wp2_with fail
    (with_reducible refine C1.out.mono ?_)
    clear C1 c0
    rintro _ W2 ⟨rfl, b2⟩
    have A2 := A0.below b2 A0.lt
    have G2 := hgA.below b2 hgA.lt
    have bel2 := (b0.trans (b2.mono (Nat.le_trans (by rw [hq]; exact Nat.le_refl _) b0.size))).mono hb
    have hb2 : base ≤ W2.heap.size := by have := bel2.size; omega
    clear A0 b0 hgA b2
    have c0 : W2.cell? ⟨q, 0, none⟩ = some (.string f.name) := A2.cell 0
    have c1 : W2.cell? ⟨q, 1, none⟩ = some (.string f.safe) := A2.cell 1
    have c2 : W2.cell? ⟨q, 2, none⟩ = some (.string f.tail) := A2.cell 2
    have hat : ∀ j, j < c * 3 → ∃ u, W2.cell? ⟨g, j, none⟩ = some u := fun j hj => ⟨_, by rw [G2.cell, List.getElem?_toArray]; exact List.getElem?_eq_getElem (by omega)⟩
    obtain ⟨u0, d0⟩ := hat (i * 3) (by omega)
    have e0 := G2.free (i * 3)
    have G3 := G2.put (i * 3) (.string f.name)
    rw [List.setIfInBounds_toArray] at G3
    have hat1 : ∃ u, (W2.setCell ⟨g, i * 3, none⟩ (.string f.name)).cell? ⟨g, i * 3 + 1, none⟩ = some u := ⟨_, by rw [G3.cell, List.getElem?_toArray]; exact List.getElem?_eq_getElem (by rw [List.length_set]; omega)⟩
    obtain ⟨u1, d1⟩ := hat1
    have e1 := G3.free (i * 3 + 1)
    have G4 := G3.put (i * 3 + 1) (.string f.safe)
    rw [List.setIfInBounds_toArray] at G4
    have hat2 : ∃ u, ((W2.setCell ⟨g, i * 3, none⟩ (.string f.name)).setCell ⟨g, i * 3 + 1, none⟩ (.string f.safe)).cell? ⟨g, i * 3 + 2, none⟩ = some u := ⟨_, by rw [G4.cell, List.getElem?_toArray]; exact List.getElem?_eq_getElem (by rw [List.length_set, List.length_set]; omega)⟩
    obtain ⟨u2, d2⟩ := hat2
    have e2 := G4.free (i * 3 + 2)
    have G5 := G4.put (i * 3 + 2) (.string f.tail)
    rw [List.setIfInBounds_toArray] at G5
    have k1 : W2.grownBy (((W2.setCell ⟨g, i * 3, none⟩ (.string f.name)).setCell ⟨g, i * 3 + 1, none⟩ (.string f.safe)).setCell ⟨g, i * 3 + 2, none⟩ (.string f.tail)) (some g) := gb_trans (gb_trans (gb_set _ _ _) (gb_set _ _ _)) (gb_set _ _ _)
    have bel3 := below_gb bel2 k1 hbg hb2
    have HO := Lib.hid (own_set (f' := f) hbg G5 hnc hcm (by rw [List.length_set, List.length_set, List.length_set]; exact hcs) (take_set3 htake hcs hnc hlt) hx)
    clear G2 G3 G4 G5 k1 bel2 htake hx hat
    go_wp2_with fail
    go_ret
    exact ⟨_, rfl, by rw [HP.out]; exact HO.out, bel3⟩
end Go.Proofs.YtmikfmcgddmplaaGreatDoor

/- The change of Rename. -/
namespace Go.Proofs.YtmikfmcgddmplaaGreatDoor
open Go.RowKit

set_option maxRecDepth 100000 in
set_option maxHeartbeats 1000000 in
theorem renameCh_any (L : List Fl) (n m : ByteArray) (hG : goodD L = true) (v : Value) (base p1 p2 : Nat) (V : World) (h : V.ownsRow base 68 3 v L.length (flCells L)) (hp1 : V.cell? ⟨p1, 0, none⟩ = some (.string m)) (hp2 : V.cell? ⟨p2, 0, none⟩ = some (.string n)) (hq1 : p1 < base) (_ : p2 < base) (hb : base ≤ V.heap.size) :
    Calls Tryz.prog 137 #[v, .pointer (some ⟨p1, 0, none⟩), .pointer (some ⟨p2, 0, none⟩)] V (ChEnd base (rnP L n m) V) := by
  obtain ⟨h4, hr, hall⟩ := (goodD_iff L).1 hG
  have CN := Lib.hid (Named_any m V)
  cases hnm : named m with
  | false =>
    have HR : Hid (rnP L n m = .error 2) := by show _ = _; unfold rnP; rw [hnm]; rfl
    rw [hnm] at CN
    go_enter Tryz.func137, Tryz.ntmps137
    go_wp2_with fail
    (with_reducible refine CN.out.mono ?_)
    rintro _ V ⟨rfl, rfl⟩
    go_wp2_with fail
    go_ret2
    rw [HR.out]
    exact ⟨⟨rfl, rfl⟩, Below.refl _ _⟩
  | true =>
    rw [hnm] at CN
    obtain ⟨A, c, rfl, hc, hF⟩ := own_files h
    have C1 := Lib.hid (find_any L n A c V hF (by omega) hr)
    cases hbn : hasN n L with
    | false =>
      have HR : Hid (rnP L n m = .error 7) := by
        show _ = _
        unfold hasN at hbn
        unfold rnP
        rw [hnm]
        cases hg : getF n L with
        | none => rfl
        | some f => rw [hg] at hbn; cases hbn
      rw [hbn] at C1
      clear hnm
      go_enter Tryz.func137, Tryz.ntmps137
      go_wp2_with fail
      (with_reducible refine CN.out.mono ?_)
      rintro _ V ⟨rfl, rfl⟩
      go_wp2_with fail
      (with_reducible refine C1.out.mono ?_)
      clear C1
      rintro _ V2 ⟨rfl, b2⟩
      go_wp2_with fail
      go_ret2
      rw [HR.out]
      exact ⟨⟨rfl, rfl⟩, b2.mono hb⟩
    | true =>
      obtain ⟨f, hgf, hx, hfn, hlt⟩ := has_some hr hbn
      have hdc := del_cut n L _ hr hbn
      have hdr := del_ris n L _ hr
      have hdl : (del n L).length ≤ 500 := by
        have : (del n L).length ≤ L.length := List.length_filter_le _ _
        omega
      have HR : Hid (rnP L n m = .ok (putL ⟨m, f.safe, f.tail⟩ (del n L))) := by
        show _ = _
        unfold rnP
        rw [hnm, hgf]
        rfl
      rw [hbn] at C1
      have CD := fun W v' h2 => Lib.hid (Delete_any L (low n L) hlt (by omega) v' base W h2)
      rw [← hdc] at CD
      have CP : ∀ W v' h2 h3, Hid (Calls Tryz.prog 138 #[v', .agg #[.string m, .string f.safe, .string f.tail]] W (PtEnd base (putL ⟨m, f.safe, f.tail⟩ (del n L)) W)) := fun W v' h2 h3 => put_any (del n L) ⟨m, f.safe, f.tail⟩ hdr hdl v' base W h2 h3
      have hlo : low n L ≤ 400 := by omega
      have hli : (low n L : Int) < L.length := by omega
      generalize low n L = i at *
      generalize rnP L n m = R at *
      have HX := Lib.hid hx
      clear hbn hgf hall hr hG hnm hdc hdr hdl hfn hx
      go_enter Tryz.func137, Tryz.ntmps137
      go_wp2_with fail
      (with_reducible refine CN.out.mono ?_)
      rintro _ V ⟨rfl, rfl⟩
      go_wp2_with fail
      (with_reducible refine C1.out.mono ?_)
      clear C1 CN
      rintro _ V2 ⟨rfl, b2⟩
      have h2 := dk_own_below h b2
      have bel2 := b2.mono hb
      have hb2 := Nat.le_trans hb b2.size
      have hF2 := hF.up b2
      obtain ⟨ad, rfl, hbk, c0, c1, c2⟩ := hF2 i f HX.out
      have g1 : V2.cell? ⟨p1, 0, none⟩ = some (.string m) := (bel2.cell (p := ⟨p1, 0, none⟩) hq1).trans hp1
      clear b2 h hF hp1 hp2 hF2
      have bb : Below V2.heap.size V2 ((V2.alloc (.cells flZero 68)).setRow V2.heap.size (flArr f)) := below_setRow ((Below.refl _ _).alloc (Nat.le_refl _) _) (Nat.le_refl _) _
      have AX : Arr ((V2.alloc (.cells flZero 68)).setRow V2.heap.size (flArr f)) V2.heap.size 68 (flArr f) := (Arr.new _ _ _).row _
      go_upto_region 7 with (refine wpList_store_row rfl 68 _ _ rfl V2.heap.size (flArr f) rfl rfl 68 flZero (Arr.new V2 _ _) (flInfo _) rfl (flArr_one _) ?_)
      refine wp_forget (fun W => Arr W V2.heap.size 68 (flArr f) ∧ Below V2.heap.size V2 W) (by exact ⟨AX, bb⟩) ?_
      clear bb AX c0 c1 c2 hbk
      rintro W ⟨AX, bW⟩
      have hW := dk_own_below h2 bW
      have bel3 := bel2.trans (bW.mono hb2)
      have hb3 := Nat.le_trans hb2 bW.size
      have g1' : W.cell? ⟨p1, 0, none⟩ = some (.string m) := (bW.cell (p := ⟨p1, 0, none⟩) (by show p1 < _; omega)).trans g1
      have hltq := AX.lt
      have hown : ∀ k, (Value.slice (some ad) L.length c).ownBlock = some k → k ≠ V2.heap.size := fun k hk e => by
        rcases h2.2 with ⟨e0, _⟩ | ⟨g, cap, cur, e0, _, hg, _⟩
        · cases e0
        · rw [e0] at hk
          have e1 : g = k := Option.some.inj hk
          have := (Array.getElem?_eq_some_iff.1 hg).1
          omega
      clear g1 bW h2 bel2
      generalize V2.heap.size = q at *
      have d0 : W.cell? ⟨q, 0, none⟩ = some (.string f.name) := AX.cell 0
      have e0 := AX.free 0
      have AY : Arr (W.setCell ⟨q, 0, none⟩ (.string m)) q 68 (flArr ⟨m, f.safe, f.tail⟩) := AX.put 0 (.string m)
      have kY : W.grownBy (W.setCell ⟨q, 0, none⟩ (.string m)) (some q) := gb_set _ _ _
      have hY := own_kp hW (Kp.gb kY) (fun k hk e => hown k hk (Option.some.inj e).symm)
      have bel4 := below_gb bel3 kY hb2 hb3
      have hb4 := Nat.le_trans hb3 kY.size
      go_upto_region 8 with fail
      refine wp_forget (fun W => Arr W q 68 (flArr ⟨m, f.safe, f.tail⟩) ∧ W.ownsRow base 68 3 (.slice (some ad) L.length c) L.length (flCells L) ∧ Below base V W ∧ base ≤ W.heap.size) (by exact ⟨AY, hY, bel4, hb4⟩) ?_
      clear AY hY bel4 hb4 kY AX hW d0 e0 g1' bel3 hltq hb3
      rintro W2 ⟨AY, hY, bel4, hb4⟩
      have C2 := CD W2 _ hY
      clear CD
      go_wp2_with fail
      (with_reducible refine C2.out.mono ?_)
      clear C2
      rintro _ W3 ⟨v', rfl, h3, k3⟩
      have bel5 := bel4.trans (grown_base hY hb4 k3)
      have AZ := AY.kept k3 (fun e => hown _ e.symm rfl)
      have hb5 := Nat.le_trans hb4 k3.size
      have c0 : W3.cell? ⟨q, 0, none⟩ = some (.string m) := AZ.cell 0
      have c1 : W3.cell? ⟨q, 1, none⟩ = some (.string f.safe) := AZ.cell 1
      have c2 : W3.cell? ⟨q, 2, none⟩ = some (.string f.tail) := AZ.cell 2
      have C3 := CP W3 v' h3 hb5
      clear CP AY hY AZ k3 bel4
      go_wp2_with fail
      (with_reducible refine C3.out.mono ?_)
      clear C3
      rintro _ W4 ⟨v4, rfl, h6, b6⟩
      go_wp2_with fail
      go_ret2
      rw [HR.out]
      exact ⟨⟨v4, rfl, h6⟩, bel5.trans b6⟩
end Go.Proofs.YtmikfmcgddmplaaGreatDoor
