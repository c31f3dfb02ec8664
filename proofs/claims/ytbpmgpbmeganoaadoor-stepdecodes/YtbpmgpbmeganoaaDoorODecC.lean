/- Texts in one: SpGB, SpPlain, SpSearch, ODecC. -/
import Derived.Test.YtbpmgpbmeganoaaDoorSpCat
import Derived.Test.YtbpmgpbmeganoaaDoorSpMath
import Derived.Test.YtbpmgpbmeganoaaDoorSpMem
import Derived.Test.YtbpmgpbmeganoaaDoorODecB
/- A valid step's body; a region that draws its order. -/
namespace Go.Proofs.YtbpmgpbmeganoaaDoor
open Go.RowKit

theorem spGB_small (i : Int) (s : Sp) (_ : (spGB i s).2 = 0) : (spGB i s).1.size ≤ 20000 := by
  unfold spGB
  split
  · exact Nat.zero_le _
  · unfold spBody
    split
    · exact Nat.zero_le _
    · split
      · exact Nat.zero_le _
      · rename_i h2
        unfold spLong at h2
        have := num_len9 i.toNat (by omega)
        have := txt_len s.ref (by omega)
        have := txt_len s.old (by omega)
        have := txt_len s.new (by omega)
        simp only [bs_size, spBodyL, List.length_append]
        omega
theorem spGB_good {i : Int} {s : Sp} (h : (spGB i s).2 = 0) : spGood s = 0 := by
  unfold spGB at h
  by_cases hg : spGood s = 0
  · exact hg
  · rw [if_pos hg] at h
    exact h
/-- a region that draws its order: whatever the order, the same act and a world of this kind -/
theorem wp_met {P : Program} {c : Code} {K : Act → World → Prop} {Q : Exit → Act → World → Prop} {a : Act} {w : World} {act : Option Addr → Nat → World → Act} (R : Option Addr → Nat → World → Prop)
    (h : ∀ K' : Act → World → Prop, (∀ A c U V, R A c V → K' (act A c U) V) → c.wp P (Exit.then K' Q) a w) (k : ∀ A c U V, R A c V → Exit.then K Q .normal (act A c U) V) : c.wp P (Exit.then K Q) a w := h K k
theorem wp_meet {P : Program} {c : Code} {K : Act → World → Prop} {Q : Exit → Act → World → Prop} {a : Act} {w : World} {act : World → Act} (R : World → Prop)
    (h : ∀ K' : Act → World → Prop, (∀ U V, R V → K' (act U) V) → c.wp P (Exit.then K' Q) a w) (k : ∀ U V, R V → Exit.then K Q .normal (act U) V) : c.wp P (Exit.then K Q) a w := h K k
theorem below_cell {V : World} {p : Addr} {u : Value} (h : V.cell? p = some u) (hl : p.block < V.heap.size) {o : Obj} : (V.alloc o).drew.cell? p = some u := (((Below.refl V.heap.size V).alloc (Nat.le_refl _) o).cell hl).trans h
end Go.Proofs.YtbpmgpbmeganoaaDoor

/- What Sign and Check answer of valid steps: plain. -/
namespace Go.Proofs.YtbpmgpbmeganoaaDoor
open Go.RowKit

section
variable {s : Sp} {i x : Int} {key t : ByteArray} {K : List ByteArray} {need : Int}
theorem gb_ok (h : spGood s = 0) (h0 : 0 ≤ i) (h1 : i ≤ 199) : spGB i s = (bs (spBodyL i.toNat s), 0) := by
  unfold spGB spBody
  rw [if_neg (by simp [h]), if_neg (by omega), if_neg (spGood_long h)]
theorem gb_no (h : spGood s = 0) (h0 : i < 0 ∨ 199 < i) : spGB i s = (⟨#[]⟩, 3) := by
  unfold spGB spBody
  rw [if_neg (by simp [h]), if_pos h0]
theorem sign_ok (h : spGood s = 0) (h0 : 0 ≤ i) (h1 : i ≤ 199) (hx : 0 ≤ x) (hx7 : x ≤ 7) (hn : x ∉ s.who) : spSign s i x key = (spPut s x (sealB key (bs (spBodyL i.toNat s))), 0) := by
  unfold spSign
  rw [gb_ok h h0 h1, if_neg (by simp), if_neg (by omega), if_neg hn]
theorem sign_ok_iff : (spSign s i x key).2 = 0 → spGood s = 0 ∧ 0 ≤ i ∧ i ≤ 199 ∧ 0 ≤ x ∧ x ≤ 7 ∧ x ∉ s.who := by
  intro h
  unfold spSign at h
  by_cases hg : (spGB i s).2 = 0
  · rw [if_neg (by simp [hg])] at h
    by_cases hx : x < 0 ∨ 7 < x
    · rw [if_pos hx] at h; cases h
    · rw [if_neg hx] at h
      by_cases hm : x ∈ s.who
      · rw [if_pos hm] at h; cases h
      · have hgd := spGB_good hg
        by_cases hi : i < 0 ∨ 199 < i
        · rw [gb_no hgd hi] at hg; cases hg
        · exact ⟨hgd, by omega, by omega, by omega, by omega, hm⟩
  · rw [if_pos hg] at h
    exact absurd h hg
theorem check_eq (h : spGood s = 0) (h0 : 0 ≤ i) (h1 : i ≤ 199) : spCheck K need i s = if s.prs.all (okSg K (bs (spBodyL i.toNat s))) && decide (need ≤ s.seals.length) then 0 else 13 := by
  unfold spCheck
  rw [gb_ok h h0 h1, if_neg (by simp)]
theorem sealB_size (key b : ByteArray) : (sealB key b).size = 32 := by
  unfold sealB
  rw [bs_size]
  exact sha_length _
theorem put_body (j : Nat) : spBodyL j (spPut s x t) = spBodyL j s := rfl
/-- Sign keeps a step valid -/
theorem sign_good (h : spGood s = 0) (hx : 0 ≤ x) (hx7 : x ≤ 7) (hn : x ∉ s.who) (b : ByteArray) : spGood (spPut s x (sealB key b)) = 0 ∧ (spPut s x (sealB key b)).prs = putP x (sealB key b) s.prs ∧ (spPut s x (sealB key b)).who.length = s.who.length + 1 ∧ (spPut s x (sealB key b)).seals.length = s.who.length + 1 :=
  put_good h hx hx7 (sealB_size _ _) hn
end
/-- the step, the keys that steps() asks -/
def sp0 : Sp := ⟨⟨#[97]⟩, ⟨#[]⟩, ⟨#[48, 49, 50, 51, 52, 53, 54, 55, 56, 57, 97, 98, 99, 100, 101, 102, 48, 49, 50, 51, 52, 53, 54, 55, 56, 57, 97, 98, 99, 100, 101, 102]⟩, [], []⟩
theorem sp0_good : spGood sp0 = 0 := by decide +kernel
theorem steps_sign : spSign sp0 0 1 ⟨#[107]⟩ = (spPut sp0 1 (sealB ⟨#[107]⟩ (bs (spBodyL 0 sp0))), 0) := sign_ok sp0_good (by decide) (by decide) (by decide) (by decide) (by decide)
theorem steps_check : spCheck [⟨#[]⟩, ⟨#[107]⟩] 1 0 (spPut sp0 1 (sealB ⟨#[107]⟩ (bs (spBodyL 0 sp0)))) = 0 := by
  obtain ⟨h1, h2, _, h4⟩ := sign_good (key := ⟨#[107]⟩) sp0_good (x := 1) (by decide) (by decide) (by decide) (bs (spBodyL 0 sp0))
  rw [check_eq h1 (by decide) (by decide), h2, h4]
  rw [put_body]
  have e : sp0.prs = [] := rfl
  rw [e]
  show (if ([((1 : Int), sealB ⟨#[107]⟩ (bs (spBodyL 0 sp0)))].all (okSg [⟨#[]⟩, ⟨#[107]⟩] (bs (spBodyL (0 : Int).toNat sp0))) && decide ((1 : Int) ≤ ((0 + 1 : Nat) : Int))) = true then (0 : Int) else 13) = 0
  simp [okSg]
end Go.Proofs.YtbpmgpbmeganoaaDoor

/- slices.BinarySearch at rising numbers: its contract. -/
namespace Go.Proofs.YtbpmgpbmeganoaaDoor
open Go.RowKit

theorem cNaN_any (x : Int) (w : World) : Calls Tryd.prog 97 #[.int .i64 x] w fun e w' => e = .returned (.bool false) ∧ w' = w := by
  go_enter Tryd.func97, Tryd.ntmps97
  go_wp2_with fail
  go_ret
  exact ⟨by simp, rfl⟩
theorem sNaN_any (x : Int) (w : World) : Calls Tryd.prog 81 #[.int .i64 x] w fun e w' => e = .returned (.bool false) ∧ w' = w := by
  go_enter Tryd.func81, Tryd.ntmps81
  go_wp2_with fail
  go_ret
  exact ⟨by simp, rfl⟩
theorem lessI_any (x y : Int) (w : World) : Calls Tryd.prog 80 #[.int .i64 x, .int .i64 y] w fun e w' => e = .returned (.bool (decide (x < y))) ∧ w' = w := by
  go_enter Tryd.func80, Tryd.ntmps80
  go_wp2_with fail
  (with_reducible refine (cNaN_any x w).mono ?_)
  rintro _ _ ⟨rfl, rfl⟩
  go_wp2_with fail
  go_ret
  exact ⟨rfl, rfl⟩
def IbRel (N : List Int) (x : Int) (w : World) (i j : Value) (wr : World) : Prop :=
  ∃ a b : Nat, i = .int .i64 (a : Int) ∧ j = .int .i64 (b : Int) ∧ a ≤ lowI x N ∧ lowI x N ≤ b ∧ b ≤ N.length ∧ w = wr
set_option maxRecDepth 100000 in
set_option maxHeartbeats 1000000 in
theorem intSearch_any (N : List Int) (x : Int) (A : Option Addr) (c : Nat) (w : World) (hP : NumsA w w.heap.size A N) (hl : N.length ≤ 100000) (hr : risI (-1) N) :
    Calls Tryd.prog 58 #[.slice A N.length c, .int .i64 x] w fun e w' => e = .returned (.tuple #[.int .i64 (lowI x N : Int), .bool (decide (x ∈ N))]) ∧ w' = w := by
  have hle := lowI_le x N
  have HG := Lib.hid (lowI_mem x N _ hr)
  have HS := Lib.hid (lowI_split x N _ hr)
  have h1 : Hid (IbRel N x w (.int .i64 0) (.int .i64 (N.length : Int)) w) := ⟨0, N.length, rfl, rfl, Nat.zero_le _, hle, Nat.le_refl _, rfl⟩
  have hlw : lowI x N ≤ 100000 := by omega
  go_enter Tryd.func58, Tryd.ntmps58
  go_wp2_with fail
  go_loopw [7, 8] (fun i j wr => IbRel N x w i j wr) (fun i j _ => (intOf j - intOf i).toNat)
  case atStart => exact h1.out
  case round =>
    clear h1
    obtain ⟨a, b, rfl, rfl, ha, hb, hbl, rfl⟩ := hrel
    by_cases hlt : a < b
    · have hj : (a : Int) < b := by omega
      have hml : (a + b) / 2 < N.length := by omega
      have hmi : ((a : Int) + b) / 2 < N.length := by omega
      have hx : N[(a + b) / 2]? = some N[(a + b) / 2] := List.getElem?_eq_getElem hml
      obtain ⟨ad, rfl, hbk, h0⟩ := hP _ _ hx
      have hsx := HS.out _ _ hx
      clear hx
      generalize N[(a + b) / 2] = y at *
      have C := Lib.hid (lessI_any y x w)
      go_wp2_with fail
      (with_reducible refine C.out.mono ?_)
      clear C h0
      rintro _ w2 ⟨rfl, rfl⟩
      by_cases hz : y < x
      · have hlo := hsx.1 hz
        clear hsx
        go_wp2_with fail
        go_roundw
        case rel => exact ⟨(a + b) / 2 + 1, b, by congr 1, rfl, by omega, hb, hbl, rfl⟩
        case measure => simp [intOf]; omega
      · have hlo : ¬ (a + b) / 2 < lowI x N := fun h => hz (hsx.2 h)
        clear hsx
        go_wp2_with fail
        go_roundw
        case rel => exact ⟨a, (a + b) / 2, rfl, by congr 1, ha, by omega, by omega, rfl⟩
        case measure => simp [intOf]; omega
    · have ea : a = lowI x N := by omega
      have eb : b = lowI x N := by omega
      subst eb
      rw [ea]
      have hj : ¬ (lowI x N : Int) < lowI x N := by omega
      clear hlt ea ha hb hbl
      have CN := Lib.hid (fun z => sNaN_any z w)
      cases hx : N[lowI x N]? with
      | none =>
        have hge := List.getElem?_eq_none_iff.1 hx
        have hj2 : ¬ (lowI x N : Int) < N.length := by omega
        have HN : Hid (decide (x ∈ N) = false) := by show _ = _; rw [decide_eq_false_iff_not, HG.out, hx]; simp
        clear HG HS hx
        go_wp2_with fail
        go_ret2
        exact ⟨by rw [HN.out]; rfl, rfl⟩
      | some y =>
        obtain ⟨hlt, _⟩ := List.getElem?_eq_some_iff.1 hx
        have hj2 : (lowI x N : Int) < N.length := by omega
        obtain ⟨ad, rfl, hbk, h0⟩ := hP _ _ hx
        have HN : Hid (decide (x ∈ N) = (y == x)) := by
          show _ = _
          by_cases e : y = x
          · rw [decide_eq_true (HG.out.2 (by rw [hx, e])), e]; simp
          · rw [decide_eq_false (fun h => e (by have := HG.out.1 h; rw [hx] at this; exact Option.some.inj this))]
            symm
            rw [beq_eq_false_iff_ne]; exact e
        clear HG HS hx
        by_cases hz : y = x
        · subst hz
          go_wp2_with fail
          go_ret2
          exact ⟨by rw [HN.out, beq_self_eq_true]; rfl, rfl⟩
        · have hz' : (y == x) = false := by rw [beq_eq_false_iff_ne]; exact hz
          go_wp2_with fail
          (with_reducible refine (CN.out y).mono ?_)
          rintro _ _ ⟨rfl, rfl⟩
          go_wp2_with fail
          go_ret2
          exact ⟨by rw [HN.out, hz']; rfl, rfl⟩
end Go.Proofs.YtbpmgpbmeganoaaDoor

/- Reading entries. -/
namespace Go.Proofs.YtbpmgpbmeganoaaDoor
open Go.RowKit

theorem rdNum_len {l r : List UInt8} {n : Nat} (h : rdNum l = some (n, r)) : r.length ≤ l.length := by
  unfold rdNum at h
  cases hg : got l with
  | none => simp [hg] at h
  | some y =>
    simp [hg] at h
    rw [← h.2, List.length_drop]; omega
theorem rdText_len {l r : List UInt8} {t : ByteArray} (h : rdText l = some (t, r)) : r.length ≤ l.length := by
  unfold rdText at h
  cases hg : rdNum l with
  | none => simp [hg] at h
  | some y =>
    obtain ⟨n, r1⟩ := y
    simp only [hg] at h
    have := rdNum_len hg
    split at h
    · simp only [Option.some.injEq, Prod.mk.injEq] at h
      rw [← h.2, List.length_drop]; omega
    · cases h
theorem rdEnt_len {l r : List UInt8} {e : Ent} (h : rdEnt l = some (e, r)) : r.length + 32 ≤ l.length := by
  unfold rdEnt at h
  cases h1 : rdText l with
  | none => simp [h1] at h
  | some y1 =>
    obtain ⟨nm, l1⟩ := y1
    simp only [h1] at h
    cases h2 : rdNum l1 with
    | none => simp [h2] at h
    | some y2 =>
      obtain ⟨d, l2⟩ := y2
      simp only [h2] at h
      cases h3 : rdId l2 with
      | none => simp [h3] at h
      | some y3 =>
        obtain ⟨id, l3⟩ := y3
        simp only [h3] at h
        have a1 := rdText_len h1
        have a2 := rdNum_len h2
        have a3 := rdId_len h3
        split at h
        · cases h
        · simp only [Option.some.injEq, Prod.mk.injEq] at h
          rw [← h.2]; omega
/-- an entry by the reader's states -/
theorem ent_chain (lc : List UInt8) : rdEnt lc = match (stId (stNum (stTxt (some lc)).2).2).2 with
    | none => none
    | some r => if 1 < (stNum (stTxt (some lc)).2).1 then none else some (⟨(stTxt (some lc)).1, (stNum (stTxt (some lc)).2).1 == 1, (stId (stNum (stTxt (some lc)).2).2).1⟩, r) := by
  unfold rdEnt
  cases h1 : rdText lc with
  | none => simp [h1, stTxt, stNum, stId]
  | some y1 =>
    obtain ⟨nm, l1⟩ := y1
    cases h2 : rdNum l1 with
    | none => simp [h1, h2, stTxt, stNum, stId]
    | some y2 =>
      obtain ⟨d, l2⟩ := y2
      cases h3 : rdId l2 with
      | none => simp [h1, h2, h3, stTxt, stNum, stId]
      | some y3 =>
        obtain ⟨id, l3⟩ := y3
        simp [h1, h2, h3, stTxt, stNum, stId]
def rdEntsS (st : St) : Option (List Ent × List UInt8) :=
  match (stNum st).2 with
  | none => none
  | some l => rdEnts (stNum st).1 l
theorem ents_done {n : Nat} {l0 lc : List UInt8} {T : List Ent} (h : rdEnts n l0 = match rdEnts (n - T.length) lc with | none => none | some (T2, r) => some (T ++ T2, r)) (hn : ¬ T.length < n) : rdEnts n l0 = some (T, lc) := by
  rw [h, show n - T.length = 0 from by omega, rdEnts]
  simp
theorem ents_bad {n : Nat} {l0 lc : List UInt8} {T : List Ent} (h : rdEnts n l0 = match rdEnts (n - T.length) lc with | none => none | some (T2, r) => some (T ++ T2, r)) (hn : T.length < n) (hr : rdEnt lc = none) : rdEnts n l0 = none := by
  rw [h, show n - T.length = (n - T.length - 1) + 1 from by omega, rdEnts]
  simp [hr]
theorem ents_more {n : Nat} {l0 lc r : List UInt8} {p : Ent} {T : List Ent} (h : rdEnts n l0 = match rdEnts (n - T.length) lc with | none => none | some (T2, r) => some (T ++ T2, r)) (hn : T.length < n) (hr : rdEnt lc = some (p, r)) :
    rdEnts n l0 = match rdEnts (n - (T ++ [p]).length) r with | none => none | some (T2, r) => some ((T ++ [p]) ++ T2, r) := by
  rw [h, show n - T.length = (n - (T ++ [p]).length) + 1 from by rw [List.length_append]; simp; omega, rdEnts]
  simp only [hr]
  cases rdEnts (n - (T ++ [p]).length) r <;> simp
/-- behind readEntries: the entries, or an error -/
def EEnd (g : Nat) (w : World) (res : Option (List Ent × List UInt8)) (x : Ending) (w' : World) : Prop :=
  ∃ A c L ok, x = .returned (.tuple #[.slice A (List.length L) c, .bool ok]) ∧ (Ens w' w'.heap.size A L ∧ ∀ ad, A = some ad → w.heap.size ≤ ad.block) ∧ w.grownBy w' (some g) ∧
    ((∃ r, res = some (L, r) ∧ ok = true ∧ RS w' g (some r)) ∨ (res = none ∧ ∃ st', RS w' g st' ∧ (ok = false ∨ st' = none)))

end Go.Proofs.YtbpmgpbmeganoaaDoor
