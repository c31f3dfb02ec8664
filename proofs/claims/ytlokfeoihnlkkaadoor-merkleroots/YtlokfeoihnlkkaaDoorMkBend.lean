/- Texts in one: MkFew, MkApp, MkBend. -/
import Derived.Test.YtlokfeoihnlkkaaDoorOPick
import Derived.Test.YtlokfeoihnlkkaaDoorOSame
import Derived.Deep.AppendLies
/- keep.few, keep.roots, law.roots: their contracts. -/
namespace Go.Proofs.YtlokfeoihnlkkaaDoor
open Go.RowKit

/-- what a call leaves that answers with a list of its own -/
def LsEnd (w : World) (T : List ByteArray) (e : Ending) (w' : World) : Prop := ∃ A c, e = .returned (.slice A T.length c) ∧ Txs w' w'.heap.size A T ∧ T.length ≤ c ∧ Below w.heap.size w w'
theorem short_a : Short [⟨#[97]⟩] := fun x hx => by rw [List.mem_singleton.1 hx]; decide
theorem txs_new (w : World) (x : ByteArray) : Txs (w.alloc (.cells #[.string x] 9)) (w.alloc (.cells #[.string x] 9)).heap.size (some ⟨w.heap.size, 0, none⟩) [x] := fun k y hy => by
  match k, hy with
  | 0, hy =>
    have e : x = y := by simpa using hy
    subst e
    refine ⟨_, rfl, ?_, (Arr.new w _ _).cell 0⟩
    rw [World.size_alloc]
    exact Nat.lt_succ_self _
  | k + 1, hy => simp at hy
theorem tab_new {w : World} (ht : Tab w) (x : ByteArray) : Tab (w.alloc (.cells #[.string x] 9)) := ht.alloc _
/-- Root of one new text -/
theorem Root_new (x : ByteArray) (hx : x.size ≤ 140737488355328) (w : World) (ht : Tab w) :
    Calls Tryd.prog 5 #[.slice (some ⟨w.heap.size, 0, none⟩) 1 1] (w.alloc (.cells #[.string x] 9)) (TEnd (w.alloc (.cells #[.string x] 9)) (leafD x)) := by
  have := Root_any 1 [x] (Nat.le_refl _) (by simp) (fun y hy => by rw [List.mem_singleton.1 hy]; exact hx) (some ⟨w.heap.size, 0, none⟩) 1 _ (txs_new w x) (Nat.le_refl _) (tab_new ht x)
  rw [rootL_one] at this
  exact this
set_option maxRecDepth 100000 in
theorem lroots_any (w : World) (ht : Tab w) : Calls Tryd.prog 4 #[] w (BEnd w true) := by
  have C1 := Lib.hid (Root_new ⟨#[97]⟩ (by decide) w ht)
  have b0 := new_below w ⟨#[97]⟩
  have B0 := Lib.hid b0
  clear b0 ht
  have C2 : ∀ W, Hid (Calls Tryd.prog 13 #[.string ⟨#[0, 97]⟩] W (TEnd W (leafD ⟨#[97]⟩))) := fun W => RefSum_any ⟨#[0, 97]⟩ (by decide) W
  generalize leafD ⟨#[97]⟩ = r at *
  go_enter Tryd.func4, Tryd.ntmps4
  go_wp2_with fail
  (with_reducible refine C1.out.mono ?_)
  rintro _ w1 ⟨rfl, b1⟩
  have B1 := Lib.hid (B0.out.trans (b1.mono B0.out.size))
  go_wp2_with fail
  (with_reducible refine (C2 _).out.mono ?_)
  rintro _ w2 ⟨rfl, b2⟩
  go_wp2_with fail
  go_ret
  exact ⟨rfl, B1.out.trans (b2.mono B1.out.size)⟩
end Go.Proofs.YtlokfeoihnlkkaaDoor

/- append of one text to a row of one's own, told of the old row as well: laws for the walk. -/
namespace Go.Proofs.YtlokfeoihnlkkaaDoor
open Go.RowKit

theorem run_app_keep (W : World) (base : Nat) (ty : TypeId) (v : Value) (T : List ByteArray) (h : TRow W base v T) (ad : Addr) (c : Nat) (x : ByteArray)
    (hc : W.cell? ad = some (.string x)) (hl : T.length ≤ 1000) (hb : base ≤ W.heap.size) :
    ∃ v' w', (Builtin.append_ #[22, 22] ty #[v, .slice (some ad) 1 c]).run Tryd.prog W = .ok v' w' ∧ TRow w' base v' (T ++ [x]) ∧ TRow w' base v T ∧ W.grownBy w' v.ownBlock := by
  obtain ⟨si, hsi, sz0, sz1, sz2⟩ := info_parts info_str
  have hn : ∀ j u, [Value.string x][j]? = some u → W.cell? (ad.add j) = some u := fun j u hj => by
    match j, hj with
    | 0, hj => simp at hj; subst hj; simpa [Addr.add] using hc
    | j + 1, hj => simp at hj
  have hlen : (T.map sv ++ [Value.string x]).length = (T.length + 1) * 1 := by simp
  have hll : (T.map sv).length = T.length := List.length_map _
  have key : ∀ {w' : World} {v' : Value}, w'.ownsRow base 9 1 v' (T.length + 1) (T.map sv ++ [.string x]) → TRow w' base v' (T ++ [x]) := fun q => TRow.more q
  rcases h.2 with ⟨rfl, h0⟩ | ⟨g, cap, cur, rfl, hbg, hg, hnc, hcm, hcs, htake⟩
  · obtain rfl : T = [] := List.eq_nil_of_length_eq_zero h0
    have hr := run_append_nil (P := Tryd.prog) W 22 ty 9 si _ Tryd.underlying22 hsi sz0 ad 1 c [.string x] (by rw [sz1]; rfl) hn (by decide) (by decide) (by rw [sz2]; decide)
    have hge := grownCap_ge W 1 0 9
    have hcm : grownCap W 1 0 9 ≤ maxLen := grownCap_le_maxLen W 1 0 9 (by unfold maxLen; omega)
    generalize grownCap W 1 0 9 = cap at *
    refine ⟨_, _, hr, key ⟨hlen, .inr ⟨W.heap.size, _, _, rfl, hb, heap_alloc_new W.drew _, by simpa using hge, hcm, ?_, ?_⟩⟩, TRow.nil _ _, gb_below (((Below.refl _ W).drew).alloc (Nat.le_refl _) _)⟩
    · rw [Array.size_append, size_zeroCells]
      show 1 + (cap - 1) * 1 = cap * 1
      omega
    · rw [Array.toList_append]
      exact List.take_left' rfl
  · by_cases hroom : T.length + 1 ≤ cap
    · have hfit : T.length * si.size + [Value.string x].length ≤ cur.size := by rw [sz1, hcs]; simp; omega
      have hr := run_append_room (P := Tryd.prog) W 22 ty 9 si Tryd.underlying22 hsi g T.length cap cur hg ad 1 c [.string x] (by rw [sz1]; rfl) hn (by simp [Value.oneCell']) hroom hfit
      rw [sz1] at hr hfit
      refine ⟨_, _, hr, key ⟨hlen, .inr ⟨g, cap, _, rfl, hbg, setRow_heap W g cur _ 9 _ hg, hroom, hcm, ?_, ?_⟩⟩, ⟨by simp, .inr ⟨g, cap, _, rfl, hbg, setRow_heap W g cur _ 9 _ hg, hnc, hcm, ?_, ?_⟩⟩, ⟨rfl, rfl, rfl, by simp, fun k _ hk => setRow_other W g k _ (fun e => hk (by simp [Value.ownBlock, e]))⟩⟩
      · simp only [List.size_toArray, List.length_append, List.length_take, List.length_drop, Array.length_toList]
        omega
      · rw [List.toList_toArray, htake, ← hlen]
        exact List.take_left
      · simp only [List.size_toArray, List.length_append, List.length_take, List.length_drop, Array.length_toList]
        omega
      · rw [List.toList_toArray, htake, List.append_assoc]
        exact List.take_left' (by simp)
    · have holds : ∀ j u, (T.map sv)[j]? = some u → W.cell? ((⟨g, 0, none⟩ : Addr).add j) = some u := World.ownsRow.cells (g := g) h rfl
      have hr := run_append_grow (P := Tryd.prog) W 22 ty 9 si _ Tryd.underlying22 hsi sz0 ⟨g, 0, none⟩ T.length cap (T.map sv) (by rw [sz1, hll, Nat.mul_one]) holds ad 1 c [.string x] (by rw [sz1]; rfl) hn (by omega) (by omega) (growslice_fits (by omega) (by rw [sz2]; omega))
      have hge := grownCap_ge W (T.length + 1) cap 9
      have hcm2 : grownCap W (T.length + 1) cap 9 ≤ maxLen := grownCap_le_maxLen W (T.length + 1) cap 9 (by unfold maxLen; omega)
      generalize grownCap W (T.length + 1) cap 9 = cap' at *
      refine ⟨_, _, hr, key ⟨hlen, .inr ⟨W.heap.size, _, _, rfl, hb, heap_alloc_new W.drew _, hge, hcm2, ?_, ?_⟩⟩, h.up (((Below.refl _ W).drew).alloc (Nat.le_refl _) _), gb_below (((Below.refl _ W).drew).alloc (Nat.le_refl _) _)⟩
      · rw [Array.size_append, Array.size_append, size_zeroCells]
        show (T.map sv).length + 1 + (cap' - (T.length + 1)) * 1 = cap' * 1
        rw [hll]
        omega
      · rw [Array.toList_append, Array.toList_append, ← hlen]
        exact List.take_left
section
variable {ops : Array Oper} {rest : List Oper} {o : Oper} {a : Act} {w : World} {Q : Exit → Act → World → Prop}
theorem wp_app_keep {K : Act → World → Prop} (s x : Operand) (ho : o.op = .call { callee := .builtin .append, args := #[s, x], argTypes := #[22, 22] })
    (base : Nat) (v : Value) (T : List ByteArray) (hs : a.eval s = v) (hown : TRow w base v T) (ad : Addr) (c : Nat) (t : ByteArray) (hx : a.eval x = .slice (some ad) 1 c) (hc : w.cell? ad = some (.string t))
    (hl : T.length ≤ 1000) (hbase : base ≤ w.heap.size)
    (h : ∀ v' w', TRow w' base v' (T ++ [t]) → TRow w' base v T → w.grownBy w' v.ownBlock → K (a.put o.dst v') w') : o.wp Tryd.prog a w K Q := by
  obtain ⟨v', w', hr, h2, h3, h4⟩ := run_app_keep w base o.type v T hown ad c t hc hl hbase
  unfold Oper.wp execOp
  simp only [ho, resolve, invoke, builtin, Sem.run_bind, Sem.run_pure, Result.andThen_ok, List.map_toArray, List.map_cons, List.map_nil, hs, hx, hr]
  exact h v' w' h2 h3 h4
theorem wpList_app_keep (hw : Region.wanted o (yielded ops a.tmps) = true) (s x : Operand) (ho : o.op = .call { callee := .builtin .append, args := #[s, x], argTypes := #[22, 22] })
    (base : Nat) (v : Value) (T : List ByteArray) (hs : a.eval s = v) (hown : TRow w base v T) (ad : Addr) (c : Nat) (t : ByteArray) (hx : a.eval x = .slice (some ad) 1 c) (hc : w.cell? ad = some (.string t))
    (hl : T.length ≤ 1000) (hbase : base ≤ w.heap.size)
    (h : ∀ v' w', TRow w' base v' (T ++ [t]) → TRow w' base v T → w.grownBy w' v.ownBlock → wpList Tryd.prog ops Q rest (a.put o.dst v') w') : wpList Tryd.prog ops Q (o :: rest) a w :=
  wpList_step fun K hK => by
    rw [if_pos hw]
    exact wp_app_keep s x ho base v T hs hown ad c t hx hc hl hbase fun v' w' h2 h3 h4 => hK _ _ (h v' w' h2 h3 h4)
theorem step_app_keep {K : Act → World → Prop} {E : Prop} (hw : Region.wanted o (yielded ops a.tmps) = true) (s x : Operand) (ho : o.op = .call { callee := .builtin .append, args := #[s, x], argTypes := #[22, 22] })
    (base : Nat) (v : Value) (T : List ByteArray) (hs : a.eval s = v) (hown : TRow w base v T) (ad : Addr) (c : Nat) (t : ByteArray) (hx : a.eval x = .slice (some ad) 1 c) (hc : w.cell? ad = some (.string t))
    (hl : T.length ≤ 1000) (hbase : base ≤ w.heap.size)
    (h : ∀ v' w', TRow w' base v' (T ++ [t]) → TRow w' base v T → w.grownBy w' v.ownBlock → K (a.put o.dst v') w') : if Region.wanted o (yielded ops a.tmps) = true then Oper.wp Tryd.prog o a w K Q else E := by
  rw [if_pos hw]
  exact wp_app_keep s x ho base v T hs hown ad c t hx hc hl hbase h
theorem new_cell (w : World) (x : ByteArray) : (w.alloc (.cells #[.string x] 9)).cell? ⟨w.heap.size, 0, none⟩ = some (.string x) := (Arr.new w _ _).cell 0
end
end Go.Proofs.YtlokfeoihnlkkaaDoor

/- a test's call, as a card wants it. -/
namespace Go.Proofs.YtlokfeoihnlkkaaDoor
open Go.RowKit

theorem bend {P : Program} {f : FuncId} {a : Array Value} {w : World} {b : Bool} (h : Calls P f a w (BEnd w b)) : Calls P f a w fun e w' => e = .returned (.bool b) ∧ Below w.heap.size w w' := h
end Go.Proofs.YtlokfeoihnlkkaaDoor
