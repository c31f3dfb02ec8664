/- Texts in one: SpApply, DkDel, DkCh, DkCh2, DkCh3, DkCh4. -/
import Derived.Test.YtbpmgpbmeganoaaDoorSpCheck
import Derived.Test.YtbpmgpbmeganoaaDoorSpPartP
import Derived.Test.YtbpmgpbmeganoaaDoorRfSets
import Derived.Test.YtbpmgpbmeganoaaDoorRfConcat
/- step.apply: its contract. -/
namespace Go.Proofs.YtbpmgpbmeganoaaDoor
open Go.RowKit

theorem Ck.start {k : Ky} {q : KyAt} {s : Sp} {p : SpAt} {w : World} (hK : KyIn w w.heap.size k q) (hP : SpIn w w.heap.size s p) (ht : Tab w) :
    Ck w k q s p ((w.alloc (.cells (kyArr k q) 41)).alloc (.cells (spArr s p) 25)) := by
  have A0 : Arr (w.alloc (.cells (kyArr k q) 41)) w.heap.size 41 (kyArr k q) := Arr.new _ _ _
  have b0 : Below w.heap.size w (w.alloc (.cells (kyArr k q) 41)) := (Below.refl _ _).alloc (Nat.le_refl _) _
  have hz : (w.alloc (.cells (kyArr k q) 41)).heap.size = w.heap.size + 1 := World.size_alloc _ _
  generalize w.alloc (.cells (kyArr k q) 41) = V at *
  have A1 : Arr (V.alloc (.cells (spArr s p) 25)) V.heap.size 25 (spArr s p) := Arr.new _ _ _
  have b1 : Below V.heap.size V (V.alloc (.cells (spArr s p) 25)) := (Below.refl _ _).alloc (Nat.le_refl _) _
  have bb := b0.trans (b1.mono b0.size)
  rw [hz] at A1
  exact ⟨A0.below b1 A0.lt, A1, hK.below bb, hP.below bb, bb, ht.below bb ht.1⟩
set_option maxRecDepth 100000 in
set_option maxHeartbeats 4000000 in
theorem apply_any (k : Ky) (q : KyAt) (L : List Rf) (A : Option Addr) (c : Nat) (i : Int) (s : Sp) (p : SpAt) (w : World) (hK : KyIn w w.heap.size k q) (hP : SpIn w w.heap.size s p) (hL : Rfs w w.heap.size A L) (hc : L.length ≤ c) (hl : L.length ≤ 140737488355328)
    (hks : k.sig.length ≤ 140737488351232) (hke : ∀ t ∈ k.sig, t.size ≤ 140737488355328) (hb : s.who.length ≤ 140737488355328) (hb2 : s.seals.length ≤ 140737488355328) (ht : Tab w) :
    Calls Tryd.prog 63 #[.agg (kyArr k q), .slice A L.length c, .int .i64 i, .agg (spArr s p)] w (SrEnd w (spApply k.sig k.need i L s)) := by
  have h1 := Lib.hid (Ck.start hK hP ht)
  have CC : Hid (∀ V, Ck w k q s p V → Calls Tryd.prog 26 #[.agg (kyArr k q), .int .i64 i, .agg (spArr s p)] V fun e w' => e = .returned (.int .i64 (spCheck k.sig k.need i s)) ∧ Below V.heap.size V w') :=
    fun V h => SpCheck_wide k q s p i V (hK.up h.2.2.2.2.1) (hP.up h.2.2.2.2.1) hks hke hb hb2 h.2.2.2.2.2
  have CS : Hid (∀ V, Below w.heap.size w V → Calls Tryd.prog 86 #[.slice A L.length c, .string s.ref, .string s.old, .string s.new] V (SrEnd V (setR L s.ref s.old s.new))) :=
    fun V b => SetR_any L s.ref s.old s.new A c V (hL.up b) hc hl
  have hE : spApply k.sig k.need i L s = if spCheck k.sig k.need i s ≠ 0 then ([], spCheck k.sig k.need i s) else setR L s.ref s.old s.new := rfl
  have HE := Lib.hid hE
  clear hE hK hP hL ht hke
  generalize spApply k.sig k.need i L s = R at *
  generalize spCheck k.sig k.need i s = z at *
  generalize setR L s.ref s.old s.new = G at *
  obtain ⟨wa, wc, sa, sc⟩ := p
  obtain ⟨ka, kc, ka2, kc2⟩ := q
  generalize hA : spArr s ⟨wa, wc, sa, sc⟩ = arr at *
  generalize hA2 : kyArr k ⟨ka, kc, ka2, kc2⟩ = arr2 at *
  have HA := Lib.hid hA
  have HA2 := Lib.hid hA2
  clear hA hA2
  go_enter Tryd.func63, Tryd.ntmps63
  go_upto_region 1 with fail
  refine wp_forget (Ck w k ⟨ka, kc, ka2, kc2⟩ s ⟨wa, wc, sa, sc⟩) h1.out ?_
  clear h1
  intro W hW
  have hA := HA.out
  have hA2 := HA2.out
  clear HA HA2
  subst hA hA2
  go_wp2_with (first
    | refine wpList_load_row rfl 41 _ rfl w.heap.size rfl 41 _ (0, 0) _ hW.1 Tryd.underlying41 rfl (kyInfo _ _) ?_
    | refine wpList_load_row rfl 25 _ rfl (w.heap.size + 1) rfl 25 _ (0, 0) _ hW.2.1 Tryd.underlying25 rfl (spInfo s _) ?_)
  (with_reducible refine (CC.out W hW).mono ?_)
  rintro _ W2 ⟨rfl, b2⟩
  have hW2 := hW.below b2
  clear hW b2 CC
  by_cases hz : z = 0
  · subst hz
    rw [if_neg (by simp)] at HE
    have c0 : W2.cell? ⟨w.heap.size + 1, 0, none⟩ = some (.string s.ref) := hW2.2.1.cell 0
    have c1 : W2.cell? ⟨w.heap.size + 1, 1, none⟩ = some (.string s.old) := hW2.2.1.cell 1
    have c2 : W2.cell? ⟨w.heap.size + 1, 2, none⟩ = some (.string s.new) := hW2.2.1.cell 2
    have C := Lib.hid (CS.out W2 hW2.2.2.2.2.1)
    have HW := Lib.hid hW2
    clear CS hW2
    go_wp2_with fail
    (with_reducible refine C.out.mono ?_)
    rintro _ W3 ⟨A3, c3, rfl, hR, hc3, b3⟩
    have H3 : Hid (SrEnd w R (.returned (.tuple #[.slice A3 G.1.length c3, .int .i64 G.2])) W3) := by
      show SrEnd _ _ _ _
      rw [HE.out]
      exact ⟨A3, c3, rfl, hR, hc3, HW.out.2.2.2.2.1.trans (b3.mono HW.out.2.2.2.2.1.size)⟩
    clear HW hR hc3 b3 c0 c1 c2 C
    go_wp2_with fail
    go_ret2
    exact H3.out
  · rw [if_pos hz] at HE
    have hz2 : (z != 0) = true := by rw [bne_iff_ne]; exact hz
    have H3 : Hid (SrEnd w R (.returned (.tuple #[.slice none 0 0, .int .i64 z])) W2) := by
      show SrEnd _ _ _ _
      rw [HE.out]
      exact sr_no w W2 z hW2.2.2.2.2.1
    clear hW2
    go_wp2_with fail
    go_ret2
    exact H3.out
end Go.Proofs.YtbpmgpbmeganoaaDoor

/- slices.Clone, slices.Delete at files: contracts. -/
namespace Go.Proofs.YtbpmgpbmeganoaaDoor
open Go.RowKit

theorem flCells_get (L : List Fl) (j : Nat) (u : Value) (hu : (flCells L)[j]? = some u) : ∃ x, L[j / 3]? = some x ∧ (j % 3 = 0 ∧ u = .string x.name ∨ j % 3 = 1 ∧ u = .string x.safe ∨ j % 3 = 2 ∧ u = .string x.tail) := by
  have hlt := (List.getElem?_eq_some_iff.1 hu).1
  rw [flCells_len] at hlt
  have hk : j / 3 < L.length := by omega
  have hx : L[j / 3]? = some L[j / 3] := List.getElem?_eq_getElem hk
  refine ⟨_, hx, ?_⟩
  have h1 := flCells_at L (j / 3) (j % 3) _ hx (by omega)
  rw [show j / 3 * 3 + j % 3 = j from by omega, hu] at h1
  have h3 : j % 3 = 0 ∨ j % 3 = 1 ∨ j % 3 = 2 := by omega
  rcases h3 with e | e | e
  · rw [e] at h1; exact .inl ⟨e, Option.some.inj h1⟩
  · rw [e] at h1; exact .inr (.inl ⟨e, Option.some.inj h1⟩)
  · rw [e] at h1; exact .inr (.inr ⟨e, Option.some.inj h1⟩)
theorem Fls.news {w : World} {B : Nat} {A : Option Addr} {L : List Fl} (h : Fls w B A L) : News w A L.length (flCells L) := by
  refine ⟨fun e => ?_, fun ad e j u hu => ?_⟩
  · cases L with
    | nil => rfl
    | cons x T =>
      obtain ⟨ad, e1, _⟩ := h 0 x rfl
      rw [e] at e1; cases e1
  · obtain ⟨x, h1, h2⟩ := flCells_get L j u hu
    obtain ⟨ad', e1, _, k0, k1, k2⟩ := h (j / 3) x h1
    rw [e] at e1; cases e1
    rcases h2 with ⟨hm, rfl⟩ | ⟨hm, rfl⟩ | ⟨hm, rfl⟩
    · rw [show j = j / 3 * 3 from by omega]; exact k0
    · rw [show j = j / 3 * 3 + 1 from by omega, add_add _ _ _ (by decide)]; exact k1
    · rw [show j = j / 3 * 3 + 2 from by omega, add_add _ _ _ (by decide)]; exact k2
theorem del_lay {C F zs : List Value} {n i : Nat} (h : C.take (n * 3) = F) (hF : F.length = n * 3) (hi : i < n) (_ : zs.length = 3) :
    (layL (layL C (i * 3) (F.drop ((i + 1) * 3))) ((n - 1) * 3) zs).take ((n - 1) * 3) = F.take (i * 3) ++ F.drop ((i + 1) * 3) := by
  have hCn : n * 3 ≤ C.length := by rw [← h, List.length_take] at hF; omega
  have hR : (F.drop ((i + 1) * 3)).length = (n - 1) * 3 - i * 3 := by rw [List.length_drop, hF]; omega
  have e0 : C.take (i * 3) = F.take (i * 3) := by rw [← h, List.take_take, Nat.min_eq_left (by omega)]
  have e1 : (layL C (i * 3) (F.drop ((i + 1) * 3))).take ((n - 1) * 3) = F.take (i * 3) ++ F.drop ((i + 1) * 3) := by
    unfold layL
    rw [e0, List.take_append_of_le_length (by rw [List.length_append, List.length_take, hR, hF]; omega), List.take_of_length_le (by rw [List.length_append, List.length_take, hR, hF]; omega)]
  rw [show layL (layL C (i * 3) (F.drop ((i + 1) * 3))) ((n - 1) * 3) zs = (layL C (i * 3) (F.drop ((i + 1) * 3))).take ((n - 1) * 3) ++ zs ++ (layL C (i * 3) (F.drop ((i + 1) * 3))).drop ((n - 1) * 3 + zs.length) from rfl, e1, List.append_assoc, List.take_left' (by rw [List.length_append, List.length_take, hR, hF]; omega)]
section
variable {P : Program}
theorem wpList_clear_is (w : World) {ops : Array Oper} {rest : List Oper} {o : Oper} {a : Act} {Q : Exit → Act → World → Prop} (hgd : o.guard = none) (s : Operand) (t : TypeId)
    (ho : o.op = .call { callee := .builtin .clear, args := #[s], argTypes := #[t] }) (u : Value) (hs : a.eval s = u) {v' : Value} {w' : World}
    (hr : (Builtin.clear_ #[t] o.type #[u]).run P w = .ok v' w') (h : wpList P ops Q rest (a.put o.dst v') w') : wpList P ops Q (o :: rest) a w :=
  wpList_plain hgd fun _ hK => by
    unfold Oper.wp execOp
    simp only [ho, resolve, invoke, builtin, Sem.run_bind, Sem.run_pure, Result.andThen_ok, List.map_toArray, List.map_cons, List.map_nil, hs, hr]
    exact hK _ _ h
end
def z3 : List Value := [.string ⟨#[]⟩, .string ⟨#[]⟩, .string ⟨#[]⟩]
end Go.Proofs.YtbpmgpbmeganoaaDoor

/- The changes that steps make: Sync and Remove. -/
namespace Go.Proofs.YtbpmgpbmeganoaaDoor
open Go.RowKit

theorem own_base {w : World} {base : Nat} {e : TypeId} {size : Nat} {v : Value} {n : Nat} {xs : List Value} (h : w.ownsRow base e size v n xs) : ∀ k, v.ownBlock = some k → base ≤ k := fun k hk => own_row_ge h k hk
theorem grown_base {w w' : World} {base : Nat} {e : TypeId} {size : Nat} {v : Value} {n : Nat} {xs : List Value} (h : w.ownsRow base e size v n xs) (hb : base ≤ w.heap.size) (k : w.grownBy w' v.ownBlock) : Below base w w' :=
  (Below.refl base w).grown k hb (own_base h)
theorem dk_own_below {w w' : World} {base : Nat} {e : TypeId} {size : Nat} {v : Value} {n : Nat} {xs : List Value} (h : w.ownsRow base e size v n xs) (k : Below w.heap.size w w') : w'.ownsRow base e size v n xs := own_kp h (Kp.bel k (X := fun _ => False)) (fun _ _ e => e)
theorem flCells_set (L : List Fl) (i : Nat) (f' : Fl) (hi : i < L.length) : flCells (L.set i f') = (flCells L).take (i * 3) ++ (flArr f').toList ++ (flCells L).drop ((i + 1) * 3) := by
  rw [List.set_eq_take_append_cons_drop, if_pos hi, flCells_app, flCells, ← flCells_take, ← flCells_drop, List.append_assoc]
/-- two cells of a file, set -/
theorem take_set2 {C : List Value} {L : List Fl} {i cap : Nat} {f f' : Fl} {u v : Value} (hC : C.take (L.length * 3) = flCells L) (_ : C.length = cap * 3) (_ : L.length ≤ cap) (hi : L[i]? = some f) (hn : f'.name = f.name) (hu : u = .string f'.safe) (hv : v = .string f'.tail) :
    ((C.set (i * 3 + 1) u).set (i * 3 + 2) v).take (L.length * 3) = flCells (L.set i f') := by
  obtain ⟨hlt, hfe⟩ := List.getElem?_eq_some_iff.1 hi
  apply List.ext_getElem?
  intro j
  rw [List.take_set, List.take_set, hC]
  by_cases hj : j < L.length * 3
  · have hk : j / 3 < L.length := by omega
    have h1 := flCells_at L (j / 3) (j % 3) L[j / 3] (List.getElem?_eq_getElem hk) (by omega)
    rw [show j / 3 * 3 + j % 3 = j from by omega] at h1
    by_cases e : j / 3 = i
    · have h2 := flCells_at (L.set i f') (j / 3) (j % 3) f' (by rw [e, List.getElem?_set_self hlt]) (by omega)
      rw [show j / 3 * 3 + j % 3 = j from by omega] at h2
      rw [h2]
      have hm : j % 3 = 0 ∨ j % 3 = 1 ∨ j % 3 = 2 := by omega
      have hl : (flCells L).length = L.length * 3 := flCells_len L
      rcases hm with m | m | m
      · rw [List.getElem?_set_ne (by omega), List.getElem?_set_ne (by omega), h1, m, show L[j / 3] = f from by rw [← hfe]; congr]
        show some (Value.string f.name) = some (.string f'.name)
        rw [hn]
      · rw [List.getElem?_set_ne (by omega), show j = i * 3 + 1 from by omega, List.getElem?_set_self (by rw [hl]; omega), hu]
        rw [show (i * 3 + 1) % 3 = 1 from by omega]
        rfl
      · rw [show j = i * 3 + 2 from by omega, List.getElem?_set_self (by rw [List.length_set, hl]; omega), hv, show (i * 3 + 2) % 3 = 2 from by omega]
        rfl
    · have h2 := flCells_at (L.set i f') (j / 3) (j % 3) L[j / 3] (by rw [List.getElem?_set_ne (fun q => e q.symm), List.getElem?_eq_getElem hk]) (by omega)
      rw [show j / 3 * 3 + j % 3 = j from by omega] at h2
      rw [h2, List.getElem?_set_ne (by omega), List.getElem?_set_ne (by omega), h1]
  · rw [List.getElem?_eq_none (by rw [List.length_set, List.length_set, flCells_len]; omega), List.getElem?_eq_none (by rw [flCells_len, List.length_set]; omega)]
end Go.Proofs.YtbpmgpbmeganoaaDoor

/- The changes that steps make: Sync. -/
namespace Go.Proofs.YtbpmgpbmeganoaaDoor
open Go.RowKit

theorem has_some {n : ByteArray} {L : List Fl} {b : ByteArray} (hr : ris b L) (h : hasN n L = true) : ∃ f, getF n L = some f ∧ L[low n L]? = some f ∧ f.name = n ∧ low n L < L.length := by
  unfold hasN at h
  have hg := getF_low n L _ hr
  cases hx : L[low n L]? with
  | none => rw [hx] at hg; rw [hg] at h; cases h
  | some f =>
    rw [hx] at hg
    simp only at hg
    by_cases e : f.name = n
    · rw [if_pos e] at hg
      exact ⟨f, hg, rfl, e, (List.getElem?_eq_some_iff.1 hx).1⟩
    · rw [if_neg e] at hg; rw [hg] at h; cases h
theorem put_set {n : ByteArray} {L : List Fl} {b : ByteArray} (hr : ris b L) (h : hasN n L = true) {f' : Fl} (hf : f'.name = n) : putL f' L = L.set (low n L) f' := by
  obtain ⟨f, _, hx, _, hlt⟩ := has_some hr h
  rw [putL_cut f' L _ hr, hf, List.set_eq_take_append_cons_drop, if_pos hlt]
  unfold hasN at h
  rw [if_pos h]
theorem put_ins {n : ByteArray} {L : List Fl} {b : ByteArray} (hr : ris b L) (h : hasN n L = false) {f' : Fl} (hf : f'.name = n) : putL f' L = L.take (low n L) ++ f' :: L.drop (low n L) := by
  rw [putL_cut f' L _ hr, hf]
  unfold hasN at h
  rw [if_neg (by rw [h]; simp), Nat.add_zero]
end Go.Proofs.YtbpmgpbmeganoaaDoor

/- disk.put; the change of Rename. -/
namespace Go.Proofs.YtbpmgpbmeganoaaDoor
open Go.RowKit

/-- a file's cells, set -/
theorem take_set3 {C : List Value} {L : List Fl} {i cap : Nat} {f' : Fl} (hC : C.take (L.length * 3) = flCells L) (hcs : C.length = cap * 3) (hnc : L.length ≤ cap) (hlt : i < L.length) :
    (((C.set (i * 3) (.string f'.name)).set (i * 3 + 1) (.string f'.safe)).set (i * 3 + 2) (.string f'.tail)).take (L.length * 3) = flCells (L.set i f') := by
  have h0 : (C.set (i * 3) (.string f'.name)).take (L.length * 3) = flCells (L.set i ⟨f'.name, L[i].safe, L[i].tail⟩) := by
    apply List.ext_getElem?
    intro j
    rw [List.take_set, hC]
    have hl : (flCells L).length = L.length * 3 := flCells_len L
    by_cases hj : j < L.length * 3
    · have hk : j / 3 < L.length := by omega
      have h1 := flCells_at L (j / 3) (j % 3) L[j / 3] (List.getElem?_eq_getElem hk) (by omega)
      rw [show j / 3 * 3 + j % 3 = j from by omega] at h1
      by_cases e : j / 3 = i
      · have h2 := flCells_at (L.set i ⟨f'.name, L[i].safe, L[i].tail⟩) (j / 3) (j % 3) ⟨f'.name, L[i].safe, L[i].tail⟩ (by rw [e, List.getElem?_set_self hlt]) (by omega)
        rw [show j / 3 * 3 + j % 3 = j from by omega] at h2
        rw [h2]
        have he : L[j / 3] = L[i] := by congr
        have hm : j % 3 = 0 ∨ j % 3 = 1 ∨ j % 3 = 2 := by omega
        rcases hm with m | m | m
        · rw [show j = i * 3 from by omega, List.getElem?_set_self (by rw [hl]; omega), show i * 3 % 3 = 0 from by omega]
          rfl
        · rw [List.getElem?_set_ne (by omega), h1, m, he]
          rfl
        · rw [List.getElem?_set_ne (by omega), h1, m, he]
          rfl
      · have h2 := flCells_at (L.set i ⟨f'.name, L[i].safe, L[i].tail⟩) (j / 3) (j % 3) L[j / 3] (by rw [List.getElem?_set_ne (fun q => e q.symm), List.getElem?_eq_getElem hk]) (by omega)
        rw [show j / 3 * 3 + j % 3 = j from by omega] at h2
        rw [h2, List.getElem?_set_ne (by omega), h1]
    · rw [List.getElem?_eq_none (by rw [List.length_set, flCells_len]; omega), List.getElem?_eq_none (by rw [flCells_len, List.length_set]; omega)]
  have h1 := take_set2 (C := C.set (i * 3) (.string f'.name)) (L := L.set i ⟨f'.name, L[i].safe, L[i].tail⟩) (i := i) (cap := cap) (f' := f') (u := .string f'.safe) (v := .string f'.tail) (by rw [List.length_set]; exact h0) (by rw [List.length_set]; exact hcs) (by rw [List.length_set]; exact hnc) (List.getElem?_set_self hlt) rfl rfl rfl
  rw [List.length_set, List.set_set] at h1
  exact h1
end Go.Proofs.YtbpmgpbmeganoaaDoor

/- The change of Rename. -/
namespace Go.Proofs.YtbpmgpbmeganoaaDoor
open Go.RowKit

end Go.Proofs.YtbpmgpbmeganoaaDoor
