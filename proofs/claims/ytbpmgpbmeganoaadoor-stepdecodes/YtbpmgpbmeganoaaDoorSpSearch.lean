/- Texts in one: SpSameR, SpPlain, SpSearch. -/
import Derived.Test.YtbpmgpbmeganoaaDoorDkCh4
import Derived.Test.YtbpmgpbmeganoaaDoorORefSame
import Derived.Test.YtbpmgpbmeganoaaDoorDSpec
import Derived.Test.YtbpmgpbmeganoaaDoorWStep
import Derived.Test.YtbpmgpbmeganoaaDoorSpMem
/- ref.SameStep of one step at two places: true (wip/tools/gensps.py). -/
namespace Go.Proofs.YtbpmgpbmeganoaaDoor
open Go.RowKit

/-- two boxes, of one step at two places -/
def TwR (w : World) (s : Sp) (p q : SpAt) (W : World) : Prop :=
  Arr W w.heap.size 25 (spArr s p) ∧ Arr W (w.heap.size + 1) 25 (spArr s q) ∧ SpIn W w.heap.size s p ∧ SpIn W w.heap.size s q ∧ Below w.heap.size w W
set_option maxRecDepth 100000 in
set_option maxHeartbeats 1000000 in
theorem RefSameStep (s : Sp) (p q : SpAt) (w : World) (hP : SpIn w w.heap.size s p) (hQ : SpIn w w.heap.size s q) (hb : s.who.length ≤ 140737488355328) (hb2 : s.seals.length ≤ 140737488355328) :
    Calls Tryd.prog 23 #[.agg (spArr s p), .agg (spArr s q)] w fun e w' => e = .returned (.bool true) ∧ Below w.heap.size w w' := by
  obtain ⟨wa, wc, sa, sc⟩ := p
  obtain ⟨wb, wd, sb, sd⟩ := q
  have h1 : Hid (TwR w s ⟨wa, wc, sa, sc⟩ ⟨wb, wd, sb, sd⟩ ((w.alloc (.cells (spArr s ⟨wa, wc, sa, sc⟩) 25)).alloc (.cells (spArr s ⟨wb, wd, sb, sd⟩) 25))) := by
    have A0 : Arr (w.alloc (.cells (spArr s ⟨wa, wc, sa, sc⟩) 25)) w.heap.size 25 (spArr s ⟨wa, wc, sa, sc⟩) := Arr.new _ _ _
    have b0 : Below w.heap.size w (w.alloc (.cells (spArr s ⟨wa, wc, sa, sc⟩) 25)) := (Below.refl _ _).alloc (Nat.le_refl _) _
    have hz : (w.alloc (.cells (spArr s ⟨wa, wc, sa, sc⟩) 25)).heap.size = w.heap.size + 1 := World.size_alloc _ _
    generalize w.alloc (.cells (spArr s ⟨wa, wc, sa, sc⟩) 25) = V at *
    have A1 : Arr (V.alloc (.cells (spArr s ⟨wb, wd, sb, sd⟩) 25)) V.heap.size 25 (spArr s ⟨wb, wd, sb, sd⟩) := Arr.new _ _ _
    have b1 : Below V.heap.size V (V.alloc (.cells (spArr s ⟨wb, wd, sb, sd⟩) 25)) := (Below.refl _ _).alloc (Nat.le_refl _) _
    have bb := b0.trans (b1.mono b0.size)
    rw [hz] at A1
    exact ⟨A0.below b1 A0.lt, A1, hP.below bb, hQ.below bb, bb⟩
  have CS : Hid (∀ V, Txs V V.heap.size sa s.seals → Txs V V.heap.size sb s.seals → Calls Tryd.prog 56 #[.slice sa s.seals.length sc, .slice sb s.seals.length sd] V fun e w' => e = .returned (.bool true) ∧ Below V.heap.size V w') := fun V h h' => by
    have q := RefStrings_any s.seals s.seals (by omega) (by omega) sa sb sc sd V h h'
    rw [decide_eq_true rfl] at q
    exact q
  have l1 : (s.ref.toList == s.ref.toList) = true := by simp
  have l2 : (s.old.toList == s.old.toList) = true := by simp
  have l3 : (s.new.toList == s.new.toList) = true := by simp
  clear hP hQ
  generalize hA : spArr s ⟨wa, wc, sa, sc⟩ = arr at *
  generalize hA2 : spArr s ⟨wb, wd, sb, sd⟩ = arr2 at *
  have HA := Lib.hid hA
  have HA2 := Lib.hid hA2
  clear hA hA2
  go_enter Tryd.func23, Tryd.ntmps23
  go_upto_region 1 with fail
  refine wp_forget (TwR w s ⟨wa, wc, sa, sc⟩ ⟨wb, wd, sb, sd⟩) h1.out ?_
  clear h1
  intro W hW
  have hA := HA.out
  have hA2 := HA2.out
  clear HA HA2
  subst hA hA2
  have c3 : W.cell? ⟨w.heap.size, 3, none⟩ = some (.slice wa s.who.length wc) := hW.1.cell 3
  have d3 : W.cell? ⟨w.heap.size + 1, 3, none⟩ = some (.slice wb s.who.length wd) := hW.2.1.cell 3
  have hne : ((s.who.length : Int) != s.who.length) = false := by simp
  have hst : Hid (∃ k : Nat, k ≤ s.who.length ∧ Value.int .i64 0 = .int .i64 (k : Int) ∧ ∃ n, W.drewN n = W.drewN n ∧ TwR w s ⟨wa, wc, sa, sc⟩ ⟨wb, wd, sb, sd⟩ W) := ⟨0, Nat.zero_le _, rfl, 0, rfl, hW⟩
  clear hW
  go_wp2_with fail
  clear c3 d3
  go_loopw [16] (fun i wr => ∃ k : Nat, k ≤ s.who.length ∧ i = .int .i64 (k : Int) ∧ TwR w s ⟨wa, wc, sa, sc⟩ ⟨wb, wd, sb, sd⟩ wr) (fun i _ => s.who.length - (intOf i).toNat)
  case atStart =>
    obtain ⟨k, h1, h2, _, _, h3⟩ := hst.out
    exact ⟨k, h1, h2, h3⟩
  case round =>
    clear hst
    obtain ⟨k, hk, rfl, hX⟩ := hrel
    by_cases hlt : k < s.who.length
    · have hj : (k : Int) < s.who.length := by omega
      obtain ⟨ad, rfl, hbl, g0⟩ := hX.2.2.1.nums k s.who[k] (List.getElem?_eq_getElem hlt)
      obtain ⟨ad2, rfl, hbl2, g1⟩ := hX.2.2.2.1.nums k s.who[k] (List.getElem?_eq_getElem hlt)
      generalize s.who[k] = x at *
      have c3 : wr.cell? ⟨w.heap.size, 3, none⟩ = some (.slice (some ad) s.who.length wc) := hX.1.cell 3
      have d3 : wr.cell? ⟨w.heap.size + 1, 3, none⟩ = some (.slice (some ad2) s.who.length wd) := hX.2.1.cell 3
      have hxx : (x != x) = false := by simp
      go_wp2_with fail
      go_quiet (fail)
      go_wp2_with fail
      go_roundw
      case rel => exact ⟨k + 1, hlt, by rw [Int.natCast_add]; rfl, hX.1.drewN _, hX.2.1.drewN _, hX.2.2.1.below (below_drewN (Below.refl _ _) _), hX.2.2.2.1.below (below_drewN (Below.refl _ _) _), below_drewN hX.2.2.2.2 _⟩
      case measure => simp [intOf]; omega
    · obtain rfl : k = s.who.length := by omega
      have hj : ¬ (s.who.length : Int) < s.who.length := by omega
      have c3 : wr.cell? ⟨w.heap.size, 3, none⟩ = some (.slice wa s.who.length wc) := hX.1.cell 3
      have d3 : wr.cell? ⟨w.heap.size + 1, 3, none⟩ = some (.slice wb s.who.length wd) := hX.2.1.cell 3
      have c0 : wr.cell? ⟨w.heap.size, 0, none⟩ = some (.string s.ref) := hX.1.cell 0
      have d0 : wr.cell? ⟨w.heap.size + 1, 0, none⟩ = some (.string s.ref) := hX.2.1.cell 0
      have c1 : wr.cell? ⟨w.heap.size, 1, none⟩ = some (.string s.old) := hX.1.cell 1
      have d1 : wr.cell? ⟨w.heap.size + 1, 1, none⟩ = some (.string s.old) := hX.2.1.cell 1
      have c2 : wr.cell? ⟨w.heap.size, 2, none⟩ = some (.string s.new) := hX.1.cell 2
      have d2 : wr.cell? ⟨w.heap.size + 1, 2, none⟩ = some (.string s.new) := hX.2.1.cell 2
      have c4 : wr.cell? ⟨w.heap.size, 4, none⟩ = some (.slice sa s.seals.length sc) := hX.1.cell 4
      have d4 : wr.cell? ⟨w.heap.size + 1, 4, none⟩ = some (.slice sb s.seals.length sd) := hX.2.1.cell 4
      have C := Lib.hid (CS.out wr (hX.2.2.1.txs.mono hX.2.2.2.2.size) (hX.2.2.2.1.txs.mono hX.2.2.2.2.size))
      go_wp2_with fail
      (with_reducible refine C.out.mono ?_)
      rintro _ W2 ⟨rfl, b2⟩
      go_wp2_with fail
      go_ret
      exact ⟨rfl, hX.2.2.2.2.trans (b2.mono hX.2.2.2.2.size)⟩
end Go.Proofs.YtbpmgpbmeganoaaDoor

/- What Sign and Check answer of valid steps: plain. -/
namespace Go.Proofs.YtbpmgpbmeganoaaDoor
open Go.RowKit

section
variable {s : Sp} {i x : Int} {key t : ByteArray} {K : List ByteArray} {need : Int}
theorem gb_ok (h : spGood s = 0) (h0 : 0 ≤ i) (h1 : i ≤ 199) : spGB i s = (bs (spBodyL i.toNat s), 0) := by
  unfold spGB spBody
  rw [if_neg (by simp [h]), if_neg (by omega), if_neg (spGood_long h)]
theorem gb_no (h : spGood s = 0) (h0 : i < 0 ∨ 199 < i) : spGB i s = (⟨#[]⟩, 3) := by
  unfold spGB spBody
  rw [if_neg (by simp [h]), if_pos h0]
theorem sign_ok (h : spGood s = 0) (h0 : 0 ≤ i) (h1 : i ≤ 199) (hx : 0 ≤ x) (hx7 : x ≤ 7) (hn : x ∉ s.who) : spSign s i x key = (spPut s x (sealB key (bs (spBodyL i.toNat s))), 0) := by
  unfold spSign
  rw [gb_ok h h0 h1, if_neg (by simp), if_neg (by omega), if_neg hn]
theorem sign_ok_iff : (spSign s i x key).2 = 0 → spGood s = 0 ∧ 0 ≤ i ∧ i ≤ 199 ∧ 0 ≤ x ∧ x ≤ 7 ∧ x ∉ s.who := by
  intro h
  unfold spSign at h
  by_cases hg : (spGB i s).2 = 0
  · rw [if_neg (by simp [hg])] at h
    by_cases hx : x < 0 ∨ 7 < x
    · rw [if_pos hx] at h; cases h
    · rw [if_neg hx] at h
      by_cases hm : x ∈ s.who
      · rw [if_pos hm] at h; cases h
      · have hgd := spGB_good hg
        by_cases hi : i < 0 ∨ 199 < i
        · rw [gb_no hgd hi] at hg; cases hg
        · exact ⟨hgd, by omega, by omega, by omega, by omega, hm⟩
  · rw [if_pos hg] at h
    exact absurd h hg
theorem check_eq (h : spGood s = 0) (h0 : 0 ≤ i) (h1 : i ≤ 199) : spCheck K need i s = if s.prs.all (okSg K (bs (spBodyL i.toNat s))) && decide (need ≤ s.seals.length) then 0 else 13 := by
  unfold spCheck
  rw [gb_ok h h0 h1, if_neg (by simp)]
theorem sealB_size (key b : ByteArray) : (sealB key b).size = 32 := by
  unfold sealB
  rw [bs_size]
  exact sha_length _
theorem put_body (j : Nat) : spBodyL j (spPut s x t) = spBodyL j s := rfl
/-- Sign keeps a step valid -/
theorem sign_good (h : spGood s = 0) (hx : 0 ≤ x) (hx7 : x ≤ 7) (hn : x ∉ s.who) (b : ByteArray) : spGood (spPut s x (sealB key b)) = 0 ∧ (spPut s x (sealB key b)).prs = putP x (sealB key b) s.prs ∧ (spPut s x (sealB key b)).who.length = s.who.length + 1 ∧ (spPut s x (sealB key b)).seals.length = s.who.length + 1 :=
  put_good h hx hx7 (sealB_size _ _) hn
end
/-- the step, the keys that steps() asks -/
def sp0 : Sp := ⟨⟨#[97]⟩, ⟨#[]⟩, ⟨#[48, 49, 50, 51, 52, 53, 54, 55, 56, 57, 97, 98, 99, 100, 101, 102, 48, 49, 50, 51, 52, 53, 54, 55, 56, 57, 97, 98, 99, 100, 101, 102]⟩, [], []⟩
theorem sp0_good : spGood sp0 = 0 := by decide +kernel
theorem steps_sign : spSign sp0 0 1 ⟨#[107]⟩ = (spPut sp0 1 (sealB ⟨#[107]⟩ (bs (spBodyL 0 sp0))), 0) := sign_ok sp0_good (by decide) (by decide) (by decide) (by decide) (by decide)
theorem steps_check : spCheck [⟨#[]⟩, ⟨#[107]⟩] 1 0 (spPut sp0 1 (sealB ⟨#[107]⟩ (bs (spBodyL 0 sp0)))) = 0 := by
  obtain ⟨h1, h2, _, h4⟩ := sign_good (key := ⟨#[107]⟩) sp0_good (x := 1) (by decide) (by decide) (by decide) (bs (spBodyL 0 sp0))
  rw [check_eq h1 (by decide) (by decide), h2, h4]
  rw [put_body]
  have e : sp0.prs = [] := rfl
  rw [e]
  show (if ([((1 : Int), sealB ⟨#[107]⟩ (bs (spBodyL 0 sp0)))].all (okSg [⟨#[]⟩, ⟨#[107]⟩] (bs (spBodyL (0 : Int).toNat sp0))) && decide ((1 : Int) ≤ ((0 + 1 : Nat) : Int))) = true then (0 : Int) else 13) = 0
  simp [okSg]
end Go.Proofs.YtbpmgpbmeganoaaDoor

/- slices.BinarySearch at rising numbers: its contract. -/
namespace Go.Proofs.YtbpmgpbmeganoaaDoor
open Go.RowKit

theorem cNaN_any (x : Int) (w : World) : Calls Tryd.prog 97 #[.int .i64 x] w fun e w' => e = .returned (.bool false) ∧ w' = w := by
  go_enter Tryd.func97, Tryd.ntmps97
  go_wp2_with fail
  go_ret
  exact ⟨by simp, rfl⟩
theorem sNaN_any (x : Int) (w : World) : Calls Tryd.prog 81 #[.int .i64 x] w fun e w' => e = .returned (.bool false) ∧ w' = w := by
  go_enter Tryd.func81, Tryd.ntmps81
  go_wp2_with fail
  go_ret
  exact ⟨by simp, rfl⟩
theorem lessI_any (x y : Int) (w : World) : Calls Tryd.prog 80 #[.int .i64 x, .int .i64 y] w fun e w' => e = .returned (.bool (decide (x < y))) ∧ w' = w := by
  go_enter Tryd.func80, Tryd.ntmps80
  go_wp2_with fail
  (with_reducible refine (cNaN_any x w).mono ?_)
  rintro _ _ ⟨rfl, rfl⟩
  go_wp2_with fail
  go_ret
  exact ⟨rfl, rfl⟩
def IbRel (N : List Int) (x : Int) (w : World) (i j : Value) (wr : World) : Prop :=
  ∃ a b : Nat, i = .int .i64 (a : Int) ∧ j = .int .i64 (b : Int) ∧ a ≤ lowI x N ∧ lowI x N ≤ b ∧ b ≤ N.length ∧ w = wr
set_option maxRecDepth 100000 in
set_option maxHeartbeats 1000000 in
theorem intSearch_any (N : List Int) (x : Int) (A : Option Addr) (c : Nat) (w : World) (hP : NumsA w w.heap.size A N) (hl : N.length ≤ 100000) (hr : risI (-1) N) :
    Calls Tryd.prog 58 #[.slice A N.length c, .int .i64 x] w fun e w' => e = .returned (.tuple #[.int .i64 (lowI x N : Int), .bool (decide (x ∈ N))]) ∧ w' = w := by
  have hle := lowI_le x N
  have HG := Lib.hid (lowI_mem x N _ hr)
  have HS := Lib.hid (lowI_split x N _ hr)
  have h1 : Hid (IbRel N x w (.int .i64 0) (.int .i64 (N.length : Int)) w) := ⟨0, N.length, rfl, rfl, Nat.zero_le _, hle, Nat.le_refl _, rfl⟩
  have hlw : lowI x N ≤ 100000 := by omega
  go_enter Tryd.func58, Tryd.ntmps58
  go_wp2_with fail
  go_loopw [7, 8] (fun i j wr => IbRel N x w i j wr) (fun i j _ => (intOf j - intOf i).toNat)
  case atStart => exact h1.out
  case round =>
    clear h1
    obtain ⟨a, b, rfl, rfl, ha, hb, hbl, rfl⟩ := hrel
    by_cases hlt : a < b
    · have hj : (a : Int) < b := by omega
      have hml : (a + b) / 2 < N.length := by omega
      have hmi : ((a : Int) + b) / 2 < N.length := by omega
      have hx : N[(a + b) / 2]? = some N[(a + b) / 2] := List.getElem?_eq_getElem hml
      obtain ⟨ad, rfl, hbk, h0⟩ := hP _ _ hx
      have hsx := HS.out _ _ hx
      clear hx
      generalize N[(a + b) / 2] = y at *
      have C := Lib.hid (lessI_any y x w)
      go_wp2_with fail
      (with_reducible refine C.out.mono ?_)
      clear C h0
      rintro _ w2 ⟨rfl, rfl⟩
      by_cases hz : y < x
      · have hlo := hsx.1 hz
        clear hsx
        go_wp2_with fail
        go_roundw
        case rel => exact ⟨(a + b) / 2 + 1, b, by congr 1, rfl, by omega, hb, hbl, rfl⟩
        case measure => simp [intOf]; omega
      · have hlo : ¬ (a + b) / 2 < lowI x N := fun h => hz (hsx.2 h)
        clear hsx
        go_wp2_with fail
        go_roundw
        case rel => exact ⟨a, (a + b) / 2, rfl, by congr 1, ha, by omega, by omega, rfl⟩
        case measure => simp [intOf]; omega
    · have ea : a = lowI x N := by omega
      have eb : b = lowI x N := by omega
      subst eb
      rw [ea]
      have hj : ¬ (lowI x N : Int) < lowI x N := by omega
      clear hlt ea ha hb hbl
      have CN := Lib.hid (fun z => sNaN_any z w)
      cases hx : N[lowI x N]? with
      | none =>
        have hge := List.getElem?_eq_none_iff.1 hx
        have hj2 : ¬ (lowI x N : Int) < N.length := by omega
        have HN : Hid (decide (x ∈ N) = false) := by show _ = _; rw [decide_eq_false_iff_not, HG.out, hx]; simp
        clear HG HS hx
        go_wp2_with fail
        go_ret2
        exact ⟨by rw [HN.out]; rfl, rfl⟩
      | some y =>
        obtain ⟨hlt, _⟩ := List.getElem?_eq_some_iff.1 hx
        have hj2 : (lowI x N : Int) < N.length := by omega
        obtain ⟨ad, rfl, hbk, h0⟩ := hP _ _ hx
        have HN : Hid (decide (x ∈ N) = (y == x)) := by
          show _ = _
          by_cases e : y = x
          · rw [decide_eq_true (HG.out.2 (by rw [hx, e])), e]; simp
          · rw [decide_eq_false (fun h => e (by have := HG.out.1 h; rw [hx] at this; exact Option.some.inj this))]
            symm
            rw [beq_eq_false_iff_ne]; exact e
        clear HG HS hx
        by_cases hz : y = x
        · subst hz
          go_wp2_with fail
          go_ret2
          exact ⟨by rw [HN.out, beq_self_eq_true]; rfl, rfl⟩
        · have hz' : (y == x) = false := by rw [beq_eq_false_iff_ne]; exact hz
          go_wp2_with fail
          (with_reducible refine (CN.out y).mono ?_)
          rintro _ _ ⟨rfl, rfl⟩
          go_wp2_with fail
          go_ret2
          exact ⟨by rw [HN.out, hz']; rfl, rfl⟩
end Go.Proofs.YtbpmgpbmeganoaaDoor
