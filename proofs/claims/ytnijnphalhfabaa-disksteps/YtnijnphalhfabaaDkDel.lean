/- slices.Clone, slices.Delete at files: contracts. -/
import Derived.Test.YtnijnphalhfabaaDkInsB
namespace Go.Proofs.Ytnijnphalhfabaa
open Go.RowKit

theorem flCells_get (L : List Fl) (j : Nat) (u : Value) (hu : (flCells L)[j]? = some u) : ∃ x, L[j / 3]? = some x ∧ (j % 3 = 0 ∧ u = .string x.name ∨ j % 3 = 1 ∧ u = .string x.safe ∨ j % 3 = 2 ∧ u = .string x.tail) := by
  have hlt := (List.getElem?_eq_some_iff.1 hu).1
  rw [flCells_len] at hlt
  have hk : j / 3 < L.length := by omega
  have hx : L[j / 3]? = some L[j / 3] := List.getElem?_eq_getElem hk
  refine ⟨_, hx, ?_⟩
  have h1 := flCells_at L (j / 3) (j % 3) _ hx (by omega)
  rw [show j / 3 * 3 + j % 3 = j from by omega, hu] at h1
  have h3 : j % 3 = 0 ∨ j % 3 = 1 ∨ j % 3 = 2 := by omega
  rcases h3 with e | e | e
  · rw [e] at h1; exact .inl ⟨e, Option.some.inj h1⟩
  · rw [e] at h1; exact .inr (.inl ⟨e, Option.some.inj h1⟩)
  · rw [e] at h1; exact .inr (.inr ⟨e, Option.some.inj h1⟩)
theorem Fls.news {w : World} {B : Nat} {A : Option Addr} {L : List Fl} (h : Fls w B A L) : News w A L.length (flCells L) := by
  refine ⟨fun e => ?_, fun ad e j u hu => ?_⟩
  · cases L with
    | nil => rfl
    | cons x T =>
      obtain ⟨ad, e1, _⟩ := h 0 x rfl
      rw [e] at e1; cases e1
  · obtain ⟨x, h1, h2⟩ := flCells_get L j u hu
    obtain ⟨ad', e1, _, k0, k1, k2⟩ := h (j / 3) x h1
    rw [e] at e1; cases e1
    rcases h2 with ⟨hm, rfl⟩ | ⟨hm, rfl⟩ | ⟨hm, rfl⟩
    · rw [show j = j / 3 * 3 from by omega]; exact k0
    · rw [show j = j / 3 * 3 + 1 from by omega, add_add _ _ _ (by decide)]; exact k1
    · rw [show j = j / 3 * 3 + 2 from by omega, add_add _ _ _ (by decide)]; exact k2
set_option maxRecDepth 100000 in
set_option maxHeartbeats 1000000 in
theorem Clone_any (L : List Fl) (A : Option Addr) (c : Nat) (W : World) (hP : Fls W W.heap.size A L) (hl : L.length ≤ 1000) :
    Calls Try.prog 45 #[.slice A L.length c] W fun e w' => ∃ v', e = .returned v' ∧ w'.ownsRow W.heap.size 50 3 v' L.length (flCells L) ∧ Below W.heap.size W w' := by
  obtain ⟨si, hsi, sz0, sz1, sz2⟩ := info_parts info_file
  have Hsi := Lib.hid hsi
  have Sz0 := Lib.hid sz0
  have Sz1 := Lib.hid sz1
  have Sz2 := Lib.hid sz2
  clear hsi sz0 sz1 sz2
  cases A with
  | none =>
    obtain rfl : L = [] := by
      cases L with
      | nil => rfl
      | cons x T => obtain ⟨ad, e1, _⟩ := hP 0 x rfl; cases e1
    have hq : (binOp .eql 22 (.slice none ([] : List Fl).length c) (.slice none 0 0)).run Try.prog W = .ok (.bool true) W := Lib.run_eql_slice_nil W _ 50 none _ c 0 0 Try.underlying22
    simp only [List.length_nil] at hq ⊢
    go_enter Try.func45, Try.ntmps45
    go_wp2_with fail
    go_ret
    exact ⟨_, rfl, own_nil _ _ _ _, Below.refl _ _⟩
  | some ad =>
    have b1 : Below W.heap.size W (W.alloc (.cells #[] 50)) := (Below.refl _ _).alloc (Nat.le_refl _) _
    have n1 : News (W.alloc (.cells #[] 50)) (some ad) L.length (flCells L) := (hP.below b1).news
    have o1 : (W.alloc (.cells #[] 50)).ownsRow W.heap.size 50 3 (.slice (some ⟨W.heap.size, 0, none⟩) 0 0) 0 [] := ⟨rfl, .inr ⟨W.heap.size, 0, #[], rfl, Nat.le_refl _, Arr.new _ _ _, Nat.le_refl _, by decide, rfl, rfl⟩⟩
    have HN := Lib.hid n1
    have HO := Lib.hid o1
    clear n1 o1
    have hq : (binOp .eql 22 (.slice (some ad) L.length c) (.slice none 0 0)).run Try.prog W = .ok (.bool false) W := Lib.run_eql_slice_nil W _ 50 (some ad) _ c 0 0 Try.underlying22
    go_enter Try.func45, Try.ntmps45
    go_wp2_with (at_builtin; refine wpList_app _ rfl _ _ 22 rfl W.heap.size 50 si _ 3 48 Try.underlying22 Hsi.out Sz0.out Sz1.out Sz2.out rfl (by decide) _ _ _ rfl HO.out (some ad) L.length c (flCells L) rfl (flCells_len L) HN.out (flCells_one L) (by unfold maxLen; omega) (by omega) b1.size ?_)
    intro v' w' h1 h2
    try simp only [Nat.zero_add, List.nil_append] at h1
    go_wp2_with fail
    go_ret
    exact ⟨v', rfl, h1, b1.grown h2 b1.size (fun k hk => by cases hk; exact Nat.le_refl _)⟩
theorem del_lay {C F zs : List Value} {n i : Nat} (h : C.take (n * 3) = F) (hF : F.length = n * 3) (hi : i < n) (_ : zs.length = 3) :
    (layL (layL C (i * 3) (F.drop ((i + 1) * 3))) ((n - 1) * 3) zs).take ((n - 1) * 3) = F.take (i * 3) ++ F.drop ((i + 1) * 3) := by
  have hCn : n * 3 ≤ C.length := by rw [← h, List.length_take] at hF; omega
  have hR : (F.drop ((i + 1) * 3)).length = (n - 1) * 3 - i * 3 := by rw [List.length_drop, hF]; omega
  have e0 : C.take (i * 3) = F.take (i * 3) := by rw [← h, List.take_take, Nat.min_eq_left (by omega)]
  have e1 : (layL C (i * 3) (F.drop ((i + 1) * 3))).take ((n - 1) * 3) = F.take (i * 3) ++ F.drop ((i + 1) * 3) := by
    unfold layL
    rw [e0, List.take_append_of_le_length (by rw [List.length_append, List.length_take, hR, hF]; omega), List.take_of_length_le (by rw [List.length_append, List.length_take, hR, hF]; omega)]
  rw [show layL (layL C (i * 3) (F.drop ((i + 1) * 3))) ((n - 1) * 3) zs = (layL C (i * 3) (F.drop ((i + 1) * 3))).take ((n - 1) * 3) ++ zs ++ (layL C (i * 3) (F.drop ((i + 1) * 3))).drop ((n - 1) * 3 + zs.length) from rfl, e1, List.append_assoc, List.take_left' (by rw [List.length_append, List.length_take, hR, hF]; omega)]
section
variable {P : Program}
theorem wpList_clear_is (w : World) {ops : Array Oper} {rest : List Oper} {o : Oper} {a : Act} {Q : Exit → Act → World → Prop} (hgd : o.guard = none) (s : Operand) (t : TypeId)
    (ho : o.op = .call { callee := .builtin .clear, args := #[s], argTypes := #[t] }) (u : Value) (hs : a.eval s = u) {v' : Value} {w' : World}
    (hr : (Builtin.clear_ #[t] o.type #[u]).run P w = .ok v' w') (h : wpList P ops Q rest (a.put o.dst v') w') : wpList P ops Q (o :: rest) a w :=
  wpList_plain hgd fun _ hK => by
    unfold Oper.wp execOp
    simp only [ho, resolve, invoke, builtin, Sem.run_bind, Sem.run_pure, Result.andThen_ok, List.map_toArray, List.map_cons, List.map_nil, hs, hr]
    exact hK _ _ h
end
def z3 : List Value := [.string ⟨#[]⟩, .string ⟨#[]⟩, .string ⟨#[]⟩]
set_option maxRecDepth 100000 in
set_option maxHeartbeats 1000000 in
theorem Delete_any (L : List Fl) (i : Nat) (hi : i < L.length) (hl : L.length ≤ 1000) (v : Value) (base : Nat) (W : World) (h : W.ownsRow base 50 3 v L.length (flCells L)) :
    Calls Try.prog 39 #[v, .int .i64 (i : Int), .int .i64 ((i : Int) + 1)] W (InEnd base (L.take i ++ L.drop (i + 1)) v W) := by
  obtain ⟨si, hsi, sz0, sz1, sz2⟩ := info_parts info_file
  rcases h.2 with ⟨_, hn0⟩ | ⟨g, cap, cur, rfl, hbg, hg0, hnc, hcm, hcs0, htake⟩
  · omega
  have hg : Arr W g 50 cur.toList.toArray := Arr.toL hg0
  have hcs : cur.toList.length = cap * 3 := by rw [Array.length_toList, hcs0]
  clear hg0 hcs0 h
  generalize cur.toList = C at *
  have hcl : (flCells (L.drop (i + 1))).length = (L.length - (i + 1)) * 3 := by rw [flCells_len, List.length_drop]
  have hnews : ∀ j u, (flCells (L.drop (i + 1)))[j]? = some u → W.drew.cell? ((⟨g, (i + 1) * 3, none⟩ : Addr).add j) = some u := fun j u hj => by
    have hlt := (List.getElem?_eq_some_iff.1 hj).1
    rw [← flCells_drop, List.getElem?_drop, ← htake, List.getElem?_take_of_lt (by omega)] at hj
    rw [Addr.add_lit]
    show W.cell? _ = _
    rw [hg.cell, List.getElem?_toArray]
    exact hj
  have hspare : ∀ j, j < (flCells (L.drop (i + 1))).length → (W.drew.cell? ⟨g, 0 + i * 3 + j, none⟩).isSome = true ∧ W.drew.frozen? ⟨g, 0 + i * 3 + j, none⟩ = false := fun j hj => by
    refine ⟨?_, hg.free _⟩
    show (W.cell? _).isSome = true
    rw [hg.cell, List.getElem?_toArray, List.getElem?_eq_getElem (by omega)]
    rfl
  have A1 := arr_setCells (flCells (L.drop (i + 1))) (i * 3) C W.drew hg.drew (by omega)
  have k1 : W.grownBy (W.drew.setCells g (i * 3) (flCells (L.drop (i + 1)))) (some g) := gb_trans (gb_below ((Below.refl _ W).drew)) (gb_setCells g _ _ W.drew)
  have hl1 : (layL C (i * 3) (flCells (L.drop (i + 1)))).length = cap * 3 := by rw [layL_len (by omega), hcs]
  have hclr : ∀ ty c, (Builtin.clear_ #[22] ty #[.slice (some ⟨g, (L.length - 1) * 3, none⟩) 1 c]).run Try.prog (W.drew.setCells g (i * 3) (flCells (L.drop (i + 1)))) = .ok (.tuple #[]) ((W.drew.setCells g (i * 3) (flCells (L.drop (i + 1)))).setCells g ((L.length - 1) * 3) z3) := fun ty c =>
    run_clear_k _ 22 50 ty (.agg flZero) Try.underlying22 (fun w => by simp [zeroValue, typeInfo, hsi, sz0, flZero]) g _ 1 c (by omega) z3 (by kernel_rfl) (by intro v hv; simp [z3] at hv; rw [hv]; rfl)
      (fun j hj => by
        have hj3 : j < 3 := hj
        rw [A1.cell, List.getElem?_toArray, List.getElem?_eq_getElem (by rw [hl1]; omega)]
        rfl)
      (fun j _ => A1.free _)
  have A2 := arr_setCells z3 ((L.length - 1) * 3) _ _ A1 (by rw [hl1]; show _ + 3 ≤ _; omega)
  have HE : Hid (InEnd base (L.take i ++ L.drop (i + 1)) (.slice (some ⟨g, 0, none⟩) L.length cap) W (.returned (.slice (some ⟨g, 0, none⟩) (L.length - 1) cap)) ((W.drew.setCells g (i * 3) (flCells (L.drop (i + 1)))).setCells g ((L.length - 1) * 3) z3)) := by
    have hlen : (L.take i ++ L.drop (i + 1)).length = L.length - 1 := by rw [List.length_append, List.length_take, List.length_drop]; omega
    refine ⟨_, rfl, ⟨by rw [flCells_len], .inr ⟨g, cap, _, by rw [hlen], hbg, A2, by omega, hcm, ?_, ?_⟩⟩, gb_trans k1 (gb_setCells g _ _ _)⟩
    · rw [List.size_toArray, layL_len (by rw [hl1]; show _ + 3 ≤ _; omega), hl1]
    · rw [List.toList_toArray, hlen, flCells_app, ← flCells_take, ← flCells_drop]
      exact del_lay htake (flCells_len L) hi rfl
  have b1 : ¬ (i : Int) = (i : Int) + 1 := by omega
  have b2 : (i : Int) ≤ L.length := by omega
  have b3 : (i : Int) + 1 ≤ L.length := by omega
  have b4 : (L.length : Int) ≤ cap := by omega
  have b5 : (0 : Int) ≤ (i : Int) + 1 := by omega
  have b6 : (i : Int) ≤ (i : Int) + 1 := by omega
  have b7 : (i : Int) ≤ cap := by omega
  have b8 : ((i : Int) + 1).toNat = i + 1 := by omega
  have HSz1 := Lib.hid sz1
  have Hsi := Lib.hid hsi
  have Hn := Lib.hid hnews
  have Hs := Lib.hid hspare
  clear hsi sz0 sz1 sz2 hnews hspare A1 A2 k1 hl1 htake hcm
  go_enter Try.func39, Try.ntmps39
  go_wp2_with fail
  obtain ⟨m, hm⟩ : ∃ m, m = L.length - 1 := ⟨_, rfl⟩
  rw [← hm] at hclr HE
  have hm1 : i + (L.length - (i + 1)) = m := by omega
  have c1 : (m : Int) ≤ L.length := by omega
  have c2 : ¬ cap = m := by omega
  have c3 : L.length - m = 1 := by omega
  have c4 : (L.length : Int) ≤ 1000 := by omega
  by_cases hcap : cap = i + 1
  · have hmi : m = i := by omega
    have hln : L.length = i + 1 := by omega
    have hfl : flCells (L.drop (i + 1)) = [] := List.eq_nil_of_length_eq_zero (by omega)
    rw [hfl] at hclr HE Hs
    subst hcap
    rw [hmi] at hclr HE
    rw [hln] at *
    have d1 : ¬ i + 1 = i := by omega
    go_region_law (refine step_append_room rfl _ _ 22 rfl 50 si 3 Try.underlying22 Hsi.out HSz1.out g 0 i (i + 1) (by simp [Act.eval, Act.put]) ⟨g, 0, none⟩ 0 0 [] (by simp [Act.eval, Act.put]) rfl (fun j u hj => by cases hj) (fun u hu => by cases hu) (by omega) (fun j hj => by cases hj) ?_)
    go_wp2_with (at_builtin; refine wpList_clear_is _ rfl _ 22 rfl _ rfl (hclr _ _) ?_)
    go_ret
    exact HE.out
  · subst hm
    have hclr2 : ∀ ty c, (Builtin.clear_ #[22] ty #[.slice (some ⟨g, (L.length - 1) * 3, none⟩) (L.length - (L.length - 1)) c]).run Try.prog (W.drew.setCells g (i * 3) (flCells (L.drop (i + 1)))) = .ok (.tuple #[]) ((W.drew.setCells g (i * 3) (flCells (L.drop (i + 1)))).setCells g ((L.length - 1) * 3) z3) := fun ty c => by rw [c3]; exact hclr ty c
    clear c3 hclr
    go_region_law (refine step_append_room rfl _ _ 22 rfl 50 si 3 Try.underlying22 Hsi.out HSz1.out g 0 i cap (by simp [Act.eval, Act.put]) ⟨g, (i + 1) * 3, none⟩ (L.length - (i + 1)) (cap - (i + 1)) (flCells (L.drop (i + 1))) (by simp [Act.eval, Act.put]) (by rw [hcl]) Hn.out (flCells_one _) (by omega) Hs.out ?_)
    go_wp2_with (at_builtin; refine wpList_clear_is _ rfl _ 22 rfl _ rfl (hclr2 _ _) ?_)
    go_ret
    exact HE.out
end Go.Proofs.Ytnijnphalhfabaa
