/- Texts in one: MkFew, MkApp, MkGrows, MkBend, Take. -/
import Derived.Test.YtejapjmlofekfaaDoorOPick
import Derived.Test.YtejapjmlofekfaaDoorOSame
import Derived.Deep.AppendLies
import Derived.Test.YtejapjmlofekfaaDoorMem
import Derived.Deep.RegionHeld3
import Derived.Deep.RegionWith
/- keep.few, keep.roots, law.roots: their contracts. -/
namespace Go.Proofs.YtejapjmlofekfaaDoor
open Go.RowKit

/-- what a call leaves that answers with a list of its own -/
def LsEnd (w : World) (T : List ByteArray) (e : Ending) (w' : World) : Prop := ∃ A c, e = .returned (.slice A T.length c) ∧ Txs w' w'.heap.size A T ∧ T.length ≤ c ∧ Below w.heap.size w w'
set_option maxRecDepth 100000 in
theorem few_any (T : List ByteArray) (A : Option Addr) (c : Nat) (w : World) (hT : Txs w w.heap.size A T) (hc : T.length ≤ c) (hm : T.length ≤ 140737488355328) :
    Calls Tryd.prog 28 #[.slice A T.length c] w (LsEnd w (T.take 130)) := by
  obtain ⟨si, hsi, sz0, sz1, sz2⟩ := info_parts info_str
  have Hsi := Lib.hid hsi
  have Sz0 := Lib.hid sz0
  have Sz1 := Lib.hid sz1
  have Sz2 := Lib.hid sz2
  clear hsi sz0 sz1 sz2
  by_cases h : 130 < T.length
  · have hl : (T.take 130).length = 130 := by rw [List.length_take]; omega
    have hT2 := hT.take 130
    have h1 : (130 : Int) < T.length := by omega
    have h2 : 130 ≤ c := by omega
    unfold LsEnd
    rw [hl]
    have hn := hT2.news
    rw [hl] at hn
    have HN := Lib.hid hn
    clear hT hT2 hn
    go_enter Tryd.func28, Tryd.ntmps28
    go_wp2_with (at_builtin; refine wpList_app _ rfl _ _ 22 rfl w.heap.size 9 si _ 1 16 Tryd.underlying22 Hsi.out Sz0.out Sz1.out Sz2.out rfl (by decide) _ _ _ rfl (own_nil _ _ _ _) A 130 c ((T.take 130).map sv) rfl (by rw [List.length_map, hl]) HN.out (sv_one _) (by unfold maxLen; omega) (by omega) (Nat.le_refl _) ?_)
    intro v1 w1 hown hgrow
    have hown2 : w1.ownsRow w.heap.size 9 1 v1 (T.take 130).length ((T.take 130).map sv) := by rw [hl, List.map_take]; exact hown
    obtain ⟨A1, c1, rfl, hcc, hx, _⟩ := own_texts hown2
    rw [hl] at hcc ⊢
    clear hown hown2
    go_wp2_with fail
    go_ret
    exact ⟨A1, c1, rfl, hx, hcc, (Below.refl _ _).grown hgrow (Nat.le_refl _) (by intro k hk; cases hk)⟩
  · have e : T.take 130 = T := List.take_of_length_le (by omega)
    rw [e]
    have h1 : ¬ (130 : Int) < T.length := by omega
    go_enter Tryd.func28, Tryd.ntmps28
    go_wp2_with (at_builtin; refine wpList_app _ rfl _ _ 22 rfl w.heap.size 9 si _ 1 16 Tryd.underlying22 Hsi.out Sz0.out Sz1.out Sz2.out rfl (by decide) _ _ _ rfl (own_nil _ _ _ _) A T.length c (T.map sv) rfl (by rw [List.length_map]; omega) hT.news (sv_one _) (by unfold maxLen; omega) (by omega) (Nat.le_refl _) ?_)
    intro v1 w1 hown hgrow
    obtain ⟨A1, c1, rfl, hcc, hx, _⟩ := own_texts hown
    go_wp2_with fail
    go_ret
    exact ⟨A1, c1, rfl, hx, hcc, (Below.refl _ _).grown hgrow (Nat.le_refl _) (by intro k hk; cases hk)⟩
theorem short_a : Short [⟨#[97]⟩] := fun x hx => by rw [List.mem_singleton.1 hx]; decide
theorem txs_new (w : World) (x : ByteArray) : Txs (w.alloc (.cells #[.string x] 9)) (w.alloc (.cells #[.string x] 9)).heap.size (some ⟨w.heap.size, 0, none⟩) [x] := fun k y hy => by
  match k, hy with
  | 0, hy =>
    have e : x = y := by simpa using hy
    subst e
    refine ⟨_, rfl, ?_, (Arr.new w _ _).cell 0⟩
    rw [World.size_alloc]
    exact Nat.lt_succ_self _
  | k + 1, hy => simp at hy
theorem tab_new {w : World} (ht : Tab w) (x : ByteArray) : Tab (w.alloc (.cells #[.string x] 9)) := ht.alloc _
/-- Root of one new text -/
theorem Root_new (x : ByteArray) (hx : x.size ≤ 140737488355328) (w : World) (ht : Tab w) :
    Calls Tryd.prog 12 #[.slice (some ⟨w.heap.size, 0, none⟩) 1 1] (w.alloc (.cells #[.string x] 9)) (TEnd (w.alloc (.cells #[.string x] 9)) (leafD x)) := by
  have := Root_any 1 [x] (Nat.le_refl _) (by simp) (fun y hy => by rw [List.mem_singleton.1 hy]; exact hx) (some ⟨w.heap.size, 0, none⟩) 1 _ (txs_new w x) (Nat.le_refl _) (tab_new ht x)
  rw [rootL_one] at this
  exact this
set_option maxRecDepth 100000 in
theorem kroots_any (w : World) (ht : Tab w) : Calls Tryd.prog 29 #[] w (BEnd w true) := by
  have C1 := Lib.hid (Root_new ⟨#[97]⟩ (by decide) w ht)
  have hl : leafD ⟨#[97]⟩ = dg ⟨#[0, 97]⟩ := rfl
  have hz : (leafD ⟨#[97]⟩).size = 32 := dg_size _
  have b0 := new_below w ⟨#[97]⟩
  have B0 := Lib.hid b0
  have ht1 := Lib.hid (tab_new ht ⟨#[97]⟩)
  clear b0 ht
  have C2 : ∀ W, Hid (Tab W → Calls Tryd.prog 30 #[.string ⟨#[0, 97]⟩] W (TEnd W (leafD ⟨#[97]⟩))) := fun W q => Sum_any ⟨#[0, 97]⟩ (by decide) W q
  generalize leafD ⟨#[97]⟩ = r at *
  clear hl
  have hz2 : (r.size : Int) = 32 := by omega
  go_enter Tryd.func29, Tryd.ntmps29
  go_wp2_with fail
  (with_reducible refine C1.out.mono ?_)
  rintro _ w1 ⟨rfl, b1⟩
  have ht2 := Lib.hid (ht1.out.below b1 ht1.out.1)
  have B1 := Lib.hid (B0.out.trans (b1.mono B0.out.size))
  go_wp2_with fail
  (with_reducible refine ((C2 _).out ht2.out).mono ?_)
  rintro _ w2 ⟨rfl, b2⟩
  go_wp2_with fail
  go_ret
  exact ⟨rfl, B1.out.trans (b2.mono B1.out.size)⟩
set_option maxRecDepth 100000 in
theorem lroots_any (w : World) (ht : Tab w) : Calls Tryd.prog 11 #[] w (BEnd w true) := by
  have C1 := Lib.hid (Root_new ⟨#[97]⟩ (by decide) w ht)
  have b0 := new_below w ⟨#[97]⟩
  have B0 := Lib.hid b0
  clear b0 ht
  have C2 : ∀ W, Hid (Calls Tryd.prog 36 #[.string ⟨#[0, 97]⟩] W (TEnd W (leafD ⟨#[97]⟩))) := fun W => RefSum_any ⟨#[0, 97]⟩ (by decide) W
  generalize leafD ⟨#[97]⟩ = r at *
  go_enter Tryd.func11, Tryd.ntmps11
  go_wp2_with fail
  (with_reducible refine C1.out.mono ?_)
  rintro _ w1 ⟨rfl, b1⟩
  have B1 := Lib.hid (B0.out.trans (b1.mono B0.out.size))
  go_wp2_with fail
  (with_reducible refine (C2 _).out.mono ?_)
  rintro _ w2 ⟨rfl, b2⟩
  go_wp2_with fail
  go_ret
  exact ⟨rfl, B1.out.trans (b2.mono B1.out.size)⟩
end Go.Proofs.YtejapjmlofekfaaDoor

/- append of one text to a row of one's own, told of the old row as well: laws for the walk. -/
namespace Go.Proofs.YtejapjmlofekfaaDoor
open Go.RowKit

theorem run_app_keep (W : World) (base : Nat) (ty : TypeId) (v : Value) (T : List ByteArray) (h : TRow W base v T) (ad : Addr) (c : Nat) (x : ByteArray)
    (hc : W.cell? ad = some (.string x)) (hl : T.length ≤ 1000) (hb : base ≤ W.heap.size) :
    ∃ v' w', (Builtin.append_ #[22, 22] ty #[v, .slice (some ad) 1 c]).run Tryd.prog W = .ok v' w' ∧ TRow w' base v' (T ++ [x]) ∧ TRow w' base v T ∧ W.grownBy w' v.ownBlock := by
  obtain ⟨si, hsi, sz0, sz1, sz2⟩ := info_parts info_str
  have hn : ∀ j u, [Value.string x][j]? = some u → W.cell? (ad.add j) = some u := fun j u hj => by
    match j, hj with
    | 0, hj => simp at hj; subst hj; simpa [Addr.add] using hc
    | j + 1, hj => simp at hj
  have hlen : (T.map sv ++ [Value.string x]).length = (T.length + 1) * 1 := by simp
  have hll : (T.map sv).length = T.length := List.length_map _
  have key : ∀ {w' : World} {v' : Value}, w'.ownsRow base 9 1 v' (T.length + 1) (T.map sv ++ [.string x]) → TRow w' base v' (T ++ [x]) := fun q => TRow.more q
  rcases h.2 with ⟨rfl, h0⟩ | ⟨g, cap, cur, rfl, hbg, hg, hnc, hcm, hcs, htake⟩
  · obtain rfl : T = [] := List.eq_nil_of_length_eq_zero h0
    have hr := run_append_nil (P := Tryd.prog) W 22 ty 9 si _ Tryd.underlying22 hsi sz0 ad 1 c [.string x] (by rw [sz1]; rfl) hn (by decide) (by decide) (by rw [sz2]; decide)
    have hge := grownCap_ge W 1 0 9
    have hcm : grownCap W 1 0 9 ≤ maxLen := grownCap_le_maxLen W 1 0 9 (by unfold maxLen; omega)
    generalize grownCap W 1 0 9 = cap at *
    refine ⟨_, _, hr, key ⟨hlen, .inr ⟨W.heap.size, _, _, rfl, hb, heap_alloc_new W.drew _, by simpa using hge, hcm, ?_, ?_⟩⟩, TRow.nil _ _, gb_below (((Below.refl _ W).drew).alloc (Nat.le_refl _) _)⟩
    · rw [Array.size_append, size_zeroCells]
      show 1 + (cap - 1) * 1 = cap * 1
      omega
    · rw [Array.toList_append]
      exact List.take_left' rfl
  · by_cases hroom : T.length + 1 ≤ cap
    · have hfit : T.length * si.size + [Value.string x].length ≤ cur.size := by rw [sz1, hcs]; simp; omega
      have hr := run_append_room (P := Tryd.prog) W 22 ty 9 si Tryd.underlying22 hsi g T.length cap cur hg ad 1 c [.string x] (by rw [sz1]; rfl) hn (by simp [Value.oneCell']) hroom hfit
      rw [sz1] at hr hfit
      refine ⟨_, _, hr, key ⟨hlen, .inr ⟨g, cap, _, rfl, hbg, setRow_heap W g cur _ 9 _ hg, hroom, hcm, ?_, ?_⟩⟩, ⟨by simp, .inr ⟨g, cap, _, rfl, hbg, setRow_heap W g cur _ 9 _ hg, hnc, hcm, ?_, ?_⟩⟩, ⟨rfl, rfl, rfl, by simp, fun k _ hk => setRow_other W g k _ (fun e => hk (by simp [Value.ownBlock, e]))⟩⟩
      · simp only [List.size_toArray, List.length_append, List.length_take, List.length_drop, Array.length_toList]
        omega
      · rw [List.toList_toArray, htake, ← hlen]
        exact List.take_left
      · simp only [List.size_toArray, List.length_append, List.length_take, List.length_drop, Array.length_toList]
        omega
      · rw [List.toList_toArray, htake, List.append_assoc]
        exact List.take_left' (by simp)
    · have holds : ∀ j u, (T.map sv)[j]? = some u → W.cell? ((⟨g, 0, none⟩ : Addr).add j) = some u := World.ownsRow.cells (g := g) h rfl
      have hr := run_append_grow (P := Tryd.prog) W 22 ty 9 si _ Tryd.underlying22 hsi sz0 ⟨g, 0, none⟩ T.length cap (T.map sv) (by rw [sz1, hll, Nat.mul_one]) holds ad 1 c [.string x] (by rw [sz1]; rfl) hn (by omega) (by omega) (growslice_fits (by omega) (by rw [sz2]; omega))
      have hge := grownCap_ge W (T.length + 1) cap 9
      have hcm2 : grownCap W (T.length + 1) cap 9 ≤ maxLen := grownCap_le_maxLen W (T.length + 1) cap 9 (by unfold maxLen; omega)
      generalize grownCap W (T.length + 1) cap 9 = cap' at *
      refine ⟨_, _, hr, key ⟨hlen, .inr ⟨W.heap.size, _, _, rfl, hb, heap_alloc_new W.drew _, hge, hcm2, ?_, ?_⟩⟩, h.up (((Below.refl _ W).drew).alloc (Nat.le_refl _) _), gb_below (((Below.refl _ W).drew).alloc (Nat.le_refl _) _)⟩
      · rw [Array.size_append, Array.size_append, size_zeroCells]
        show (T.map sv).length + 1 + (cap' - (T.length + 1)) * 1 = cap' * 1
        rw [hll]
        omega
      · rw [Array.toList_append, Array.toList_append, ← hlen]
        exact List.take_left
section
variable {ops : Array Oper} {rest : List Oper} {o : Oper} {a : Act} {w : World} {Q : Exit → Act → World → Prop}
theorem wp_app_keep {K : Act → World → Prop} (s x : Operand) (ho : o.op = .call { callee := .builtin .append, args := #[s, x], argTypes := #[22, 22] })
    (base : Nat) (v : Value) (T : List ByteArray) (hs : a.eval s = v) (hown : TRow w base v T) (ad : Addr) (c : Nat) (t : ByteArray) (hx : a.eval x = .slice (some ad) 1 c) (hc : w.cell? ad = some (.string t))
    (hl : T.length ≤ 1000) (hbase : base ≤ w.heap.size)
    (h : ∀ v' w', TRow w' base v' (T ++ [t]) → TRow w' base v T → w.grownBy w' v.ownBlock → K (a.put o.dst v') w') : o.wp Tryd.prog a w K Q := by
  obtain ⟨v', w', hr, h2, h3, h4⟩ := run_app_keep w base o.type v T hown ad c t hc hl hbase
  unfold Oper.wp execOp
  simp only [ho, resolve, invoke, builtin, Sem.run_bind, Sem.run_pure, Result.andThen_ok, List.map_toArray, List.map_cons, List.map_nil, hs, hx, hr]
  exact h v' w' h2 h3 h4
theorem wpList_app_keep (hw : Region.wanted o (yielded ops a.tmps) = true) (s x : Operand) (ho : o.op = .call { callee := .builtin .append, args := #[s, x], argTypes := #[22, 22] })
    (base : Nat) (v : Value) (T : List ByteArray) (hs : a.eval s = v) (hown : TRow w base v T) (ad : Addr) (c : Nat) (t : ByteArray) (hx : a.eval x = .slice (some ad) 1 c) (hc : w.cell? ad = some (.string t))
    (hl : T.length ≤ 1000) (hbase : base ≤ w.heap.size)
    (h : ∀ v' w', TRow w' base v' (T ++ [t]) → TRow w' base v T → w.grownBy w' v.ownBlock → wpList Tryd.prog ops Q rest (a.put o.dst v') w') : wpList Tryd.prog ops Q (o :: rest) a w :=
  wpList_step fun K hK => by
    rw [if_pos hw]
    exact wp_app_keep s x ho base v T hs hown ad c t hx hc hl hbase fun v' w' h2 h3 h4 => hK _ _ (h v' w' h2 h3 h4)
theorem step_app_keep {K : Act → World → Prop} {E : Prop} (hw : Region.wanted o (yielded ops a.tmps) = true) (s x : Operand) (ho : o.op = .call { callee := .builtin .append, args := #[s, x], argTypes := #[22, 22] })
    (base : Nat) (v : Value) (T : List ByteArray) (hs : a.eval s = v) (hown : TRow w base v T) (ad : Addr) (c : Nat) (t : ByteArray) (hx : a.eval x = .slice (some ad) 1 c) (hc : w.cell? ad = some (.string t))
    (hl : T.length ≤ 1000) (hbase : base ≤ w.heap.size)
    (h : ∀ v' w', TRow w' base v' (T ++ [t]) → TRow w' base v T → w.grownBy w' v.ownBlock → K (a.put o.dst v') w') : if Region.wanted o (yielded ops a.tmps) = true then Oper.wp Tryd.prog o a w K Q else E := by
  rw [if_pos hw]
  exact wp_app_keep s x ho base v T hs hown ad c t hx hc hl hbase h
theorem new_cell (w : World) (x : ByteArray) : (w.alloc (.cells #[.string x] 9)).cell? ⟨w.heap.size, 0, none⟩ = some (.string x) := (Arr.new w _ _).cell 0
end
end Go.Proofs.YtejapjmlofekfaaDoor

/- keep.MerkleGrows, keep.MerkleSteps: the walks. -/
namespace Go.Proofs.YtejapjmlofekfaaDoor
open Go.RowKit

theorem LsEnd.take {w' : World} {T : List ByteArray} {A : Option Addr} (h : Txs w' w'.heap.size A T) (k : Nat) : Txs w' w'.heap.size A (T.take k) := Txs.take h k
/-- whatever a proof is, what a call to Proof answers -/
def prfL (T : List ByteArray) (m : Nat) : List ByteArray := if m = 0 then [] else proofL T m true
theorem Proof_all (T : List ByteArray) (m : Nat) (hm : T.length ≤ 140737488355328) (hs : Short T) (hi : m ≤ T.length) (A : Option Addr) (c : Nat) (w : World) (hT : Txs w w.heap.size A T) (hc : T.length ≤ c) (ht : Tab w) :
    Calls Tryd.prog 18 #[.slice A T.length c, .int .i64 (m : Int)] w (REnd w (prfL T m)) := by
  unfold prfL
  by_cases h0 : m = 0
  · rw [if_pos h0]
    exact Proof_no T m (.inl (by omega)) A c w
  · rw [if_neg h0]
    exact Proof_in T m hm hs (by omega) hi A c w hT hc ht
theorem proofN_9 {m n : Nat} (h0 : 0 < m) (hn : n ≤ 256) : proofN m n ≤ 9 := by
  unfold proofN
  have := sidesM_len 8 m n h0 (Nat.le_trans hn (by decide))
  split <;> omega
theorem prfL_len {T : List ByteArray} {m : Nat} (hi : m ≤ T.length) (hn : T.length ≤ 256) : (prfL T m).length ≤ 9 := by
  unfold prfL
  by_cases h0 : m = 0
  · rw [if_pos h0]; simp
  · rw [if_neg h0, proofL_proofN (by omega) hi]
    exact proofN_9 (by omega) hn
theorem prfL_short {T : List ByteArray} {m : Nat} : Short (prfL T m) := by
  have hr : ∀ l, (rootL l).size ≤ 140737488355328 := fun l => by rw [rootL_size]; decide
  have key : ∀ (N : Nat) (T : List ByteArray) (m : Nat) (f : Bool), T.length ≤ N → ∀ x ∈ proofL T m f, x.size ≤ 140737488355328 := by
    intro N
    induction N with
    | zero =>
      intro T m f h x hx
      rw [proofL_all (by omega)] at hx
      split at hx
      · cases hx
      · rw [List.mem_singleton.1 hx]; exact hr _
    | succ N ih =>
      intro T m f h x hx
      rw [proofL.eq_def] at hx
      have hx2 := hx
      by_cases hq : T.length ≤ m ∨ T.length < 2
      · rw [dif_pos hq] at hx
        split at hx
        · cases hx
        · rw [List.mem_singleton.1 hx]; exact hr _
      · rw [dif_neg hq] at hx
        have k1 := spl_lt (n := T.length) (by omega)
        have k0 := spl_pos T.length
        split at hx
        · rcases List.mem_append.1 hx with q | q
          · exact ih _ _ _ (by rw [List.length_take]; omega) x q
          · rw [List.mem_singleton.1 q]; exact hr _
        · rcases List.mem_append.1 hx with q | q
          · exact ih _ _ _ (by rw [List.length_drop]; omega) x q
          · rw [List.mem_singleton.1 q]; exact hr _
  unfold prfL
  split
  · intro x hx; cases hx
  · exact key _ T m true (Nat.le_refl _)
/-- a proof is accepted -/
theorem ext_yes (T : List ByteArray) (m : Nat) (hi : m ≤ T.length) (hn : T.length ≤ 1099511627776) : extendsD (rootL (T.take m)) (m : Int) (rootL T) (T.length : Int) (prfL T m) = true := by
  unfold extendsD prfL
  refine decide_eq_true ⟨by omega, by omega, by omega, ?_⟩
  by_cases h0 : m = 0
  · subst h0
    refine .inl ⟨rfl, rfl, by rw [List.take_zero, rootL_nil], fun h => ?_⟩
    have : T = [] := List.eq_nil_of_length_eq_zero (by omega)
    rw [this]; rfl
  · refine .inr ⟨by omega, ?_⟩
    rw [if_neg h0]
    simp only [Int.toNat_natCast]
    exact ⟨proofL_proofN (by omega) hi, proof_fold _ T m true _ (Nat.le_refl _) (by omega) hi (fun _ _ => rfl)⟩
/-- not with one more -/
theorem ext_more (T : List ByteArray) (m : Nat) (h0 : 0 < m) (hi : m ≤ T.length) (a b x : ByteArray) : extendsD a (m : Int) b (T.length : Int) (prfL T m ++ [x]) = false := by
  unfold extendsD
  refine decide_eq_false (fun ⟨_, _, _, h⟩ => ?_)
  rcases h with h | h
  · omega
  · have := h.2.1
    unfold prfL at this
    rw [if_neg (by omega), List.length_append, proofL_proofN h0 hi] at this
    simp at this
theorem ext_back (m n : Nat) (h : m < n) (a b : ByteArray) (P : List ByteArray) : extendsD a (n : Int) b (m : Int) P = false := by
  unfold extendsD
  exact decide_eq_false (fun ⟨_, h2, _⟩ => by omega)
theorem pk_nat (k : Int) (n : Nat) (hn : 0 < n) : ∃ j : Nat, pk k n = (j : Int) ∧ j < n := by
  obtain ⟨a, b⟩ := pk_in k n hn
  exact ⟨(pk k n).toNat, by omega, by omega⟩
set_option maxRecDepth 100000 in
set_option maxHeartbeats 1000000 in
theorem Grows_few (T : List ByteArray) (hl : T.length ≤ 130) (hs : Short T) (A0 : Option Addr) (c0 n0 : Nat) (k : Int) (w : World) (ht : Tab w) (CF : Calls Tryd.prog 28 #[.slice A0 n0 c0] w (LsEnd w T)) :
    Calls Tryd.prog 8 #[.slice A0 n0 c0, .int .i64 k] w (BEnd w true) := by
  obtain ⟨m, hm, hi'⟩ := pk_nat k (T.length + 1) (by omega)
  have hi : m ≤ T.length := by omega
  clear hi'
  have CPk : ∀ W, Hid (Calls Tryd.prog 31 #[.int .i64 k, .int .i64 ((T.length : Int) + 1)] W fun e w' => e = .returned (.int .i64 (m : Int)) ∧ W = w') := fun W => by
    have := pick_any k (T.length + 1) (by omega) (by omega) W
    rw [hm] at this
    exact this
  clear hm
  have C1 : ∀ W A c, Hid (Txs W W.heap.size A T → T.length ≤ c → Tab W → Calls Tryd.prog 18 #[.slice A T.length c, .int .i64 (m : Int)] W (REnd W (prfL T m))) := fun W A c p q r => Proof_all T m (by omega) hs hi A c W p q r
  have e1 : (T.take m).length = m := by rw [List.length_take]; omega
  have C2 : ∀ W A c, Hid (Txs W W.heap.size A T → m ≤ c → Tab W → Calls Tryd.prog 12 #[.slice A m c] W (TEnd W (rootL (T.take m)))) := fun W A c p q r => by
    have := Root_any _ (T.take m) (Nat.le_refl _) (by omega) (hs.take _) A c W (p.take _) (by omega) r
    rw [e1] at this
    exact this
  have C3 : ∀ W A c, Hid (Txs W W.heap.size A T → T.length ≤ c → Tab W → Calls Tryd.prog 12 #[.slice A T.length c] W (TEnd W (rootL T))) := fun W A c p q r => Root_any _ T (Nat.le_refl _) (by omega) hs A c W p q r
  have z1 : (rootL (T.take m)).size ≤ 140737488355328 := by rw [rootL_size]; decide
  have z2 : (rootL T).size ≤ 140737488355328 := by rw [rootL_size]; decide
  have hP9 := prfL_len hi (show T.length ≤ 256 by omega)
  have hPs : Short (prfL T m) := prfL_short
  have C4 : ∀ W A c, Hid (Txs W W.heap.size A (prfL T m) → (prfL T m).length ≤ c → Tab W → Calls Tryd.prog 26 #[.string (rootL (T.take m)), .int .i64 (m : Int), .string (rootL T), .int .i64 (T.length : Int), .slice A (prfL T m).length c] W (BEnd W true)) := fun W A c p q r => by
    have := Extends_any (rootL (T.take m)) (rootL T) (m : Int) (T.length : Int) (prfL T m) z1 hPs (by omega) A c W p q r
    rw [ext_yes T m hi (by omega)] at this
    exact this
  have C5 : 0 < m → ∀ W A c, Hid (Txs W W.heap.size A (prfL T m ++ [rootL (T.take m)]) → (prfL T m).length + 1 ≤ c → Tab W → Calls Tryd.prog 26 #[.string (rootL (T.take m)), .int .i64 (m : Int), .string (rootL T), .int .i64 (T.length : Int), .slice A ((prfL T m).length + 1) c] W (BEnd W false)) := fun h0 W A c p q r => by
    have := Extends_any (rootL (T.take m)) (rootL T) (m : Int) (T.length : Int) (prfL T m ++ [rootL (T.take m)]) z1 (fun x hx => by
      rcases List.mem_append.1 hx with h | h
      · exact hPs x h
      · rw [List.mem_singleton.1 h]; exact z1) (by simp; omega) A c W p (by simpa using q) r
    rw [ext_more T m h0 hi] at this
    simpa using this
  have C6 : m < T.length → ∀ W A c, Hid (Txs W W.heap.size A (prfL T m) → (prfL T m).length ≤ c → Tab W → Calls Tryd.prog 26 #[.string (rootL T), .int .i64 (T.length : Int), .string (rootL (T.take m)), .int .i64 (m : Int), .slice A (prfL T m).length c] W (BEnd W false)) := fun h W A c p q r => by
    have := Extends_any (rootL T) (rootL (T.take m)) (T.length : Int) (m : Int) (prfL T m) z2 hPs (by omega) A c W p q r
    rw [ext_back m T.length h] at this
    exact this
  have CR := fun W h => Lib.hid (kroots_any W h)
  clear e1 z1 z2 hPs
  generalize rootL (T.take m) = ra at *
  generalize rootL T = rb at *
  generalize prfL T m = P at *
  have CF1 := Lib.hid CF
  have ht1 := Lib.hid ht
  clear CF ht hs
  unfold LsEnd at CF1
  generalize hn : T.length = n at *
  have Hn := Lib.hid hn
  clear hn
  go_enter Tryd.func8, Tryd.ntmps8
  go_wp2_with fail
  (with_reducible refine CF1.out.mono ?_)
  rintro _ w1 ⟨A, c, rfl, hT, hc, b1⟩
  have HT1 := Lib.hid hT
  have B1 := Lib.hid b1
  have ht2 := Lib.hid (ht1.out.below b1 ht1.out.1)
  clear hT b1
  have hmc : m ≤ c := by omega
  go_wp2_with fail
  (with_reducible refine (CPk _).out.mono ?_)
  rintro _ _ ⟨rfl, rfl⟩
  go_wp2_with fail
  (with_reducible refine ((C1 _ _ _).out HT1.out hc ht2.out).mono ?_)
  rintro _ w2 ⟨pv, rfl, own, b2⟩
  have HT2 := Lib.hid ((HT1.out.below b2).mono b2.size)
  have B2 := Lib.hid (B1.out.trans (b2.mono B1.out.size))
  have ht3 := Lib.hid (ht2.out.below b2 ht2.out.1)
  have OW := Lib.hid (own.less B1.out.size)
  clear own b2
  go_wp2_with fail
  (with_reducible refine ((C2 _ _ _).out HT2.out hmc ht3.out).mono ?_)
  rintro _ w3 ⟨rfl, b3⟩
  have HT3 := Lib.hid ((HT2.out.below b3).mono b3.size)
  have B3 := Lib.hid (B2.out.trans (b3.mono B2.out.size))
  have ht4 := Lib.hid (ht3.out.below b3 ht3.out.1)
  have OW3 := Lib.hid (OW.out.up b3)
  clear b3
  go_wp2_with fail
  (with_reducible refine ((C3 _ _ _).out HT3.out hc ht4.out).mono ?_)
  rintro _ w4 ⟨rfl, b4⟩
  have B4 := Lib.hid (B3.out.trans (b4.mono B3.out.size))
  have ht5 := Lib.hid (ht4.out.below b4 ht4.out.1)
  have OW4 := Lib.hid (OW3.out.up b4)
  clear b4
  have own4 := OW4.out
  obtain ⟨PA, pc, rfl, hpc, hP4, _⟩ := own_texts own4
  have HP4 := Lib.hid hP4
  clear hP4 own4
  have hp9 : (P.length : Int) ≤ 9 := by omega
  by_cases h0 : m = 0
  · have hmb : ((m : Int) == 0) = true := by rw [beq_iff_eq]; omega
    by_cases hz : n = 0
    · have hnb : ((m : Int) == n) = true := by rw [beq_iff_eq]; omega
      clear C5 C6 h0 hz
      go_wp2_with fail
      (with_reducible refine ((C4 _ _ _).out HP4.out hpc ht5.out).mono ?_)
      rintro _ w5 ⟨rfl, b5⟩
      have B5 := Lib.hid (B4.out.trans (b5.mono B4.out.size))
      have ht6 := Lib.hid (ht5.out.below b5 ht5.out.1)
      clear b5
      go_wp2_with fail
      (with_reducible refine (CR _ ht6.out).out.mono ?_)
      rintro _ w6 ⟨rfl, b6⟩
      go_wp2_with fail
      go_ret
      exact ⟨rfl, B5.out.trans (b6.mono B5.out.size)⟩
    · have D6 := C6 (by omega)
      have hnb : ((m : Int) == n) = false := by rw [beq_eq_false_iff_ne]; omega
      clear C5 C6 h0 hz
      go_wp2_with fail
      (with_reducible refine ((C4 _ _ _).out HP4.out hpc ht5.out).mono ?_)
      rintro _ w5 ⟨rfl, b5⟩
      have B5 := Lib.hid (B4.out.trans (b5.mono B4.out.size))
      have ht6 := Lib.hid (ht5.out.below b5 ht5.out.1)
      have HP5 := Lib.hid ((HP4.out.below b5).mono b5.size)
      clear b5
      go_wp2_with fail
      (with_reducible refine ((D6 _ _ _).out HP5.out hpc ht6.out).mono ?_)
      rintro _ w6 ⟨rfl, b6⟩
      have B6 := Lib.hid (B5.out.trans (b6.mono B5.out.size))
      have ht7 := Lib.hid (ht6.out.below b6 ht6.out.1)
      clear b6
      go_wp2_with fail
      (with_reducible refine (CR _ ht7.out).out.mono ?_)
      rintro _ w7 ⟨rfl, b7⟩
      go_wp2_with fail
      go_ret
      exact ⟨rfl, B6.out.trans (b7.mono B6.out.size)⟩
  · have D5 := C5 (by omega)
    have hmb : ((m : Int) == 0) = false := by rw [beq_eq_false_iff_ne]; omega
    by_cases hz : m = n
    · have hzb : ((m : Int) == n) = true := by rw [beq_iff_eq]; omega
      clear C5 C6 hz
      go_wp2_with fail
      (with_reducible refine ((C4 _ _ _).out HP4.out hpc ht5.out).mono ?_)
      rintro _ w5 ⟨rfl, b5⟩
      have B5 := Lib.hid (B4.out.trans (b5.mono B4.out.size))
      have ht6 := Lib.hid (ht5.out.below b5 ht5.out.1)
      have OW5 := (OW4.out.up b5).new ra
      have N5 := new_below w5 ra
      have B6 := Lib.hid (B5.out.trans (N5.mono B5.out.size))
      have ht7 := Lib.hid (tab_new ht6.out ra)
      clear b5 N5
      go_wp2_with (at_builtin; refine wpList_app_keep rfl _ _ rfl w.heap.size _ P rfl OW5 ⟨w5.heap.size, 0, none⟩ 1 ra rfl (new_cell w5 ra) (by omega) B6.out.size ?_)
      intro v7 w7 hown7 hold7 g7
      have B7 := Lib.hid (row_below OW5 (Nat.le_refl _) B6.out g7)
      have ht8 := Lib.hid (ht1.out.below B7.out ht1.out.1)
      obtain ⟨QA, qc, rfl, hqc, hQ, _⟩ := own_texts hown7
      rw [List.length_append, List.length_singleton] at hqc ⊢
      have HQ := Lib.hid hQ
      clear hQ hown7 hold7 g7 OW5
      go_wp2_with fail
      (with_reducible refine ((D5 _ _ _).out HQ.out hqc ht8.out).mono ?_)
      rintro _ w8 ⟨rfl, b8⟩
      have B8 := Lib.hid (B7.out.trans (b8.mono B7.out.size))
      have ht9 := Lib.hid (ht8.out.below b8 ht8.out.1)
      clear b8
      go_wp2_with fail
      (with_reducible refine (CR _ ht9.out).out.mono ?_)
      rintro _ w9 ⟨rfl, b9⟩
      go_wp2_with fail
      go_ret
      exact ⟨rfl, B8.out.trans (b9.mono B8.out.size)⟩
    · have hzb : ((m : Int) == n) = false := by rw [beq_eq_false_iff_ne]; omega
      have D6 := C6 (by omega)
      clear C5 C6 hz
      go_wp2_with fail
      (with_reducible refine ((C4 _ _ _).out HP4.out hpc ht5.out).mono ?_)
      rintro _ w5 ⟨rfl, b5⟩
      have B5 := Lib.hid (B4.out.trans (b5.mono B4.out.size))
      have ht6 := Lib.hid (ht5.out.below b5 ht5.out.1)
      have OWe := OW4.out.up b5
      have HR5 := Lib.hid OWe
      have OW5 := OWe.new ra
      have N5 := new_below w5 ra
      have B6 := Lib.hid (B5.out.trans (N5.mono B5.out.size))
      clear b5 N5 OWe
      go_wp2_with (at_builtin; refine wpList_app_keep rfl _ _ rfl w.heap.size _ P rfl OW5 ⟨w5.heap.size, 0, none⟩ 1 ra rfl (new_cell w5 ra) (by omega) B6.out.size ?_)
      intro v7 w7 hown7 hold7 g7
      have B7 := Lib.hid (row_below OW5 (Nat.le_refl _) B6.out g7)
      have ht8 := Lib.hid (ht1.out.below B7.out ht1.out.1)
      obtain ⟨QA, qc, rfl, hqc, hQ, _⟩ := own_texts hown7
      obtain ⟨PA', pc', he', _, hP', _⟩ := own_texts hold7
      cases he'
      rw [List.length_append, List.length_singleton] at hqc ⊢
      have HQ := Lib.hid hQ
      have HP7 := Lib.hid hP'
      clear hQ hown7 hold7 g7 OW5 hP'
      go_wp2_with fail
      (with_reducible refine ((D5 _ _ _).out HQ.out hqc ht8.out).mono ?_)
      rintro _ w8 ⟨rfl, b8⟩
      have B8 := Lib.hid (B7.out.trans (b8.mono B7.out.size))
      have ht9 := Lib.hid (ht8.out.below b8 ht8.out.1)
      have HP8 := Lib.hid ((HP7.out.below b8).mono b8.size)
      clear b8
      go_wp2_with fail
      (with_reducible refine ((D6 _ _ _).out HP8.out hpc ht9.out).mono ?_)
      rintro _ w9 ⟨rfl, b9⟩
      have B9 := Lib.hid (B8.out.trans (b9.mono B8.out.size))
      have ht10 := Lib.hid (ht9.out.below b9 ht9.out.1)
      clear b9
      go_wp2_with fail
      (with_reducible refine (CR _ ht10.out).out.mono ?_)
      rintro _ w10 ⟨rfl, b10⟩
      go_wp2_with fail
      go_ret
      exact ⟨rfl, B9.out.trans (b10.mono B9.out.size)⟩
theorem MerkleGrows_any (T : List ByteArray) (k : Int) (A : Option Addr) (c : Nat) (w : World) (hT : Txs w w.heap.size A T) (hz : ∀ x ∈ T, x.size ≤ 140737488355328) (hl : T.length ≤ 140737488355328) (hc : T.length ≤ c) (ht : Tab w) :
    Calls Tryd.prog 8 #[.slice A T.length c, .int .i64 k] w (BEnd w true) :=
  Grows_few (T.take 130) (by rw [List.length_take]; omega) (Short.take hz 130) A c T.length k w ht (few_any T A c w hT hc hl)
end Go.Proofs.YtejapjmlofekfaaDoor

/- a test's call, as a card wants it. -/
namespace Go.Proofs.YtejapjmlofekfaaDoor
open Go.RowKit

theorem bend {P : Program} {f : FuncId} {a : Array Value} {w : World} {b : Bool} (h : Calls P f a w (BEnd w b)) : Calls P f a w fun e w' => e = .returned (.bool b) ∧ Below w.heap.size w w' := h
end Go.Proofs.YtejapjmlofekfaaDoor

/- Taking an operation of a region by hand. -/
namespace Go.Proofs.YtejapjmlofekfaaDoor
open Go.RowKit

section
variable {P : Program} {ops : Array Oper} {Q : Exit → Act → World → Prop} {md : Region.Mode} {S : World → Prop}
/-- an operation that yields is taken first -/
theorem takeY (i d : Nat) (v : Value) {oi : Oper} {fuel : Nat} {listed : Array Bool} {ts : Array Value} {df : List Deferred} {w : World} (hi : ops[i]? = some oi) (hd : oi.dst = some d)
    (hs : Region.noSelect ops = true) (hf : Region.free md ops listed i = true) (hr : (Region.ready md ops listed).contains i = true)
    (hQ : ∀ c a w, Q (.panic c) (a.put oi.dst v) w → Q (.panic c) a w) (hw : Region.wanted oi (yielded ops ts) = true)
    (hv : ∀ w, S w → (execOp (Act.eval ⟨ts, df⟩) oi).run P w = .ok (.value v) w) (hS : S w)
    (h : wpAnyH P md ops Q S fuel (listed.setIfInBounds i true) ⟨ts.setIfInBounds d v, df⟩ w) : wpAnyH P md ops Q S (fuel + 1) listed ⟨ts, df⟩ w :=
  wpAnyH_take hi hs hf hr hQ (Or.inl ⟨hw, hv⟩) hS (by rw [hd]; exact h)
/-- an operation that is not wanted is taken first -/
theorem takeN (i d : Nat) {oi : Oper} {fuel : Nat} {listed : Array Bool} {ts : Array Value} {df : List Deferred} {w : World} (hi : ops[i]? = some oi) (hd : oi.dst = some d)
    (hs : Region.noSelect ops = true) (hf : Region.free md ops listed i = true) (hr : (Region.ready md ops listed).contains i = true)
    (hQ : ∀ c a w, Q (.panic c) (a.put oi.dst undef) w → Q (.panic c) a w) (hw : Region.wanted oi (yielded ops ts) = false) (hS : S w)
    (h : wpAnyH P md ops Q S fuel (listed.setIfInBounds i true) ⟨ts.setIfInBounds d undef, df⟩ w) : wpAnyH P md ops Q S (fuel + 1) listed ⟨ts, df⟩ w :=
  wpAnyH_take hi hs hf hr hQ (Or.inr ⟨hw, rfl⟩) hS (by rw [hd]; exact h)
end
end Go.Proofs.YtejapjmlofekfaaDoor
