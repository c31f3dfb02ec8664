/- Texts in one: SpSealP, SpOrdP, SpSearch. -/
import Derived.Test.YtchpgngphgjmnaaDoorODecC
import Derived.Test.YtchpgngphgjmnaaDoorOPure
import Derived.Test.YtchpgngphgjmnaaDoorSpMath
import Derived.Test.YtchpgngphgjmnaaDoorSpMem
/- What signers sealed for a place: plain. -/
namespace Go.Proofs.YtchpgngphgjmnaaDoor
open Go.RowKit

/-- a step with no seals -/
def bare (s : Sp) : Sp := ⟨s.ref, s.old, s.new, [], []⟩
/-- what the signing leaves: the bare step, sealed rightly -/
def Sealed1 (K : List ByteArray) (i : Int) (s S : Sp) : Prop := ∃ P : List Sg, S = ofP (bare s) P ∧ gdS (-1) P = 0 ∧ P.all (okSg K (bs (spBodyL i.toNat s))) = true
theorem sealed_start (K : List ByteArray) (i : Int) (s : Sp) : Sealed1 K i s (bare s) := ⟨[], rfl, rfl, rfl⟩
theorem bare_form {s S : Sp} {K : List ByteArray} {i : Int} (h : Sealed1 K i s S) : spForm S = spForm (bare s) ∧ S.ref = s.ref ∧ S.old = s.old ∧ S.new = s.new := by
  obtain ⟨P, rfl, _, _⟩ := h
  exact ⟨rfl, rfl, rfl, rfl⟩
theorem sealed_good {s S : Sp} {K : List ByteArray} {i : Int} (h : Sealed1 K i s S) (hg : spGood (bare s) = 0) : spGood S = 0 := by
  obtain ⟨P, rfl, h2, _⟩ := h
  exact ofP_good (spGood_ok hg).1 (gdS_len h2) h2
theorem sealed_lens {s S : Sp} {K : List ByteArray} {i : Int} (h : Sealed1 K i s S) : S.who.length ≤ 8 ∧ S.seals.length = S.who.length := by
  obtain ⟨P, rfl, h2, _⟩ := h
  have h8 := gdS_len h2
  have e1 : (ofP (bare s) P).who.length = P.length := List.length_map _
  have e2 : (ofP (bare s) P).seals.length = P.length := List.length_map _
  rw [e1, e2]
  exact ⟨h8, rfl⟩
theorem sealed_body {s S : Sp} {K : List ByteArray} {i : Int} (h : Sealed1 K i s S) (j : Nat) : spBodyL j S = spBodyL j s := by
  obtain ⟨P, rfl, _, _⟩ := h
  rfl
/-- one more seal -/
theorem sealed_more {s S : Sp} {K : List ByteArray} {i : Int} (h : Sealed1 K i s S) {x : Nat} {key : ByteArray} (hx : K[x]? = some key) (hs : (spSign S i (x : Int) key).2 = 0) : Sealed1 K i s (spSign S i (x : Int) key).1 := by
  obtain ⟨hg, i0, i1, x0, x7, hn⟩ := sign_ok_iff hs
  rw [sign_ok hg i0 i1 x0 x7 hn]
  have hl := (sealed_lens h).2
  have hb := sealed_body h i.toNat
  obtain ⟨P, rfl, h2, h3⟩ := h
  simp only
  have hgd := putP_good (x : Int) (sealB key (bs (spBodyL i.toNat s))) x7 (sealB_size _ _) P (-1) h2 (by omega) (fun y hy e => hn (List.mem_map.2 ⟨y, hy, e⟩))
  refine ⟨putP (x : Int) (sealB key (bs (spBodyL i.toNat s))) P, ?_, hgd, ?_⟩
  · rw [spPut_of hl, ofP_prs, hb]
    rfl
  · rw [List.all_eq_true]
    intro y hy
    rcases (putP_mem _ _ P y).1 hy with rfl | h
    · unfold okSg
      simp [hx]
    · exact List.all_eq_true.1 h3 y h
theorem sealed_check {s S : Sp} {K : List ByteArray} {i : Int} (h : Sealed1 K i s S) (hg : spGood (bare s) = 0) (i0 : 0 ≤ i) (i1 : i ≤ 199) (need : Int) :
    spCheck K need i S = if need ≤ S.seals.length then 0 else 13 := by
  have hgs := sealed_good h hg
  have hb := sealed_body h i.toNat
  rw [check_eq hgs i0 i1, hb]
  obtain ⟨P, rfl, h2, h3⟩ := h
  rw [ofP_prs, h3, Bool.true_and]
  by_cases hn : need ≤ (ofP (bare s) P).seals.length
  · rw [if_pos hn, decide_eq_true hn]; rfl
  · rw [if_neg hn, decide_eq_false hn]; rfl
/-- bodies for two places are unlike -/
theorem body_inj {s : Sp} {i j : Nat} (hi : i < 4611686018427387904) (hj : j < 4611686018427387904) (h : spBodyL i s = spBodyL j s) : i = j := by
  unfold spBodyL at h
  simp only [List.append_assoc] at h
  have h1 := rdNum_num i hi (txt s.ref ++ (txt s.old ++ txt s.new))
  rw [h, rdNum_num j hj] at h1
  simp only [Option.some.injEq, Prod.mk.injEq] at h1
  exact h1.1.symm
/-- at another place: the first seal is wrong, or two bodies have one seal -/
theorem sealed_other {s S : Sp} {K : List ByteArray} {i j : Int} (h : Sealed1 K i s S) (hg : spGood (bare s) = 0) (j0 : 0 ≤ j) (j1 : j ≤ 199) {x : Int} (hx : S.who[0]? = some x) :
    ∃ (m : Nat) (key : ByteArray), x = (m : Int) ∧ K[m]? = some key ∧ (spCheck K 0 j S = 13 ∨ sealB key (bs (spBodyL i.toNat S)) = sealB key (bs (spBodyL j.toNat S))) := by
  have hgs := sealed_good h hg
  have hb := sealed_body h
  rw [check_eq hgs j0 j1, hb i.toNat, hb j.toNat]
  obtain ⟨P, rfl, h2, h3⟩ := h
  cases P with
  | nil => simp [ofP] at hx
  | cons y P =>
    obtain ⟨a, t⟩ := y
    have e : x = a := by
      have : (ofP (bare s) ((a, t) :: P)).who[0]? = some a := rfl
      rw [this] at hx
      exact (Option.some.inj hx).symm
    subst e
    have hlow := gdS_low _ _ h2 (x, t) List.mem_cons_self
    have hok := List.all_eq_true.1 h3 (x, t) List.mem_cons_self
    unfold okSg at hok
    simp only at hok
    cases hk : K[x.toNat]? with
    | none => rw [hk] at hok; cases hok
    | some key =>
      rw [hk] at hok
      have hseal := of_decide_eq_true hok
      refine ⟨x.toNat, key, by omega, hk, ?_⟩
      rw [ofP_prs]
      by_cases hq : sealB key (bs (spBodyL j.toNat s)) = t
      · right; rw [hq, hseal]
      · left
        rw [if_neg]
        rw [List.all_cons]
        have : okSg K (bs (spBodyL j.toNat s)) (x, t) = false := by
          unfold okSg
          simp only [hk]
          exact decide_eq_false hq
        rw [this]
        simp
end Go.Proofs.YtchpgngphgjmnaaDoor

/- Two signers, in whichever order: plain. -/
namespace Go.Proofs.YtchpgngphgjmnaaDoor
open Go.RowKit

theorem order_plain {s : Sp} {i a b : Int} {k l : ByteArray} (h1 : (spSign s i a k).2 = 0) (h2 : (spSign s i b l).2 = 0) (hab : a ≠ b) :
    ∃ x : Sp, spSign (spSign s i a k).1 i b l = (x, 0) ∧ spSign (spSign s i b l).1 i a k = (x, 0) ∧ spSign x i a k = (spZ, 8) ∧ (x.who.length = s.who.length + 2 ∧ x.seals.length = s.who.length + 2) ∧
      (spSign s i a k).1.who.length = s.who.length + 1 ∧ (spSign s i a k).1.seals.length = s.who.length + 1 ∧ (spSign s i b l).1.who.length = s.who.length + 1 ∧ (spSign s i b l).1.seals.length = s.who.length + 1 ∧ s.who.length ≤ 8 := by
  obtain ⟨hg, i0, i1, a0, a7, ha⟩ := sign_ok_iff h1
  obtain ⟨_, _, _, b0, b7, hb⟩ := sign_ok_iff h2
  obtain ⟨hf, h8, hl, _⟩ := spGood_ok hg
  rw [sign_ok hg i0 i1 a0 a7 ha, sign_ok hg i0 i1 b0 b7 hb]
  simp only
  generalize hB : bs (spBodyL i.toNat s) = B at *
  obtain ⟨ga, pa, wa, sa⟩ := sign_good (key := k) hg a0 a7 ha B
  obtain ⟨gb, pb, wb, sb⟩ := sign_good (key := l) hg b0 b7 hb B
  have hb2 : b ∉ (spPut s a (sealB k B)).who := fun h => by
    rcases (put_who hl a _ b).1 h with h | h
    · exact hab h.symm
    · exact hb h
  have ha2 : a ∉ (spPut s b (sealB l B)).who := fun h => by
    rcases (put_who hl b _ a).1 h with h | h
    · exact hab h
    · exact ha h
  obtain ⟨gx, px, wx, sx⟩ := sign_good (key := l) ga b0 b7 hb2 B
  have e1 : spSign (spPut s a (sealB k B)) i b l = (spPut (spPut s a (sealB k B)) b (sealB l B), 0) := by
    rw [sign_ok ga i0 i1 b0 b7 hb2, put_body, hB]
  have e2 : spSign (spPut s b (sealB l B)) i a k = (spPut (spPut s b (sealB l B)) a (sealB k B), 0) := by
    rw [sign_ok gb i0 i1 a0 a7 ha2, put_body, hB]
  have hla : (spPut s a (sealB k B)).seals.length = (spPut s a (sealB k B)).who.length := by rw [wa, sa]
  have hlb : (spPut s b (sealB l B)).seals.length = (spPut s b (sealB l B)).who.length := by rw [wb, sb]
  have same : spPut (spPut s b (sealB l B)) a (sealB k B) = spPut (spPut s a (sealB k B)) b (sealB l B) := by
    rw [spPut_of hlb, spPut_of hla, pa, pb, putP_comm a b _ _ hab]
    rfl
  refine ⟨_, e1, by rw [e2, same], ?_, ⟨by rw [wx, wa], by rw [sx, wa]⟩, wa, sa, wb, sb, h8⟩
  have hm : a ∈ (spPut (spPut s a (sealB k B)) b (sealB l B)).who := (put_who hla b _ a).2 (.inr ((put_who hl a _ a).2 (.inl rfl)))
  unfold spSign
  rw [gb_ok gx i0 i1, if_neg (by simp), if_neg (by omega), if_pos hm]
end Go.Proofs.YtchpgngphgjmnaaDoor

/- slices.BinarySearch at rising numbers: its contract. -/
namespace Go.Proofs.YtchpgngphgjmnaaDoor
open Go.RowKit

theorem cNaN_any (x : Int) (w : World) : Calls Tryd.prog 57 #[.int .i64 x] w fun e w' => e = .returned (.bool false) ∧ w' = w := by
  go_enter Tryd.func57, Tryd.ntmps57
  go_wp2_with fail
  go_ret
  exact ⟨by simp, rfl⟩
theorem sNaN_any (x : Int) (w : World) : Calls Tryd.prog 46 #[.int .i64 x] w fun e w' => e = .returned (.bool false) ∧ w' = w := by
  go_enter Tryd.func46, Tryd.ntmps46
  go_wp2_with fail
  go_ret
  exact ⟨by simp, rfl⟩
theorem lessI_any (x y : Int) (w : World) : Calls Tryd.prog 45 #[.int .i64 x, .int .i64 y] w fun e w' => e = .returned (.bool (decide (x < y))) ∧ w' = w := by
  go_enter Tryd.func45, Tryd.ntmps45
  go_wp2_with fail
  (with_reducible refine (cNaN_any x w).mono ?_)
  rintro _ _ ⟨rfl, rfl⟩
  go_wp2_with fail
  go_ret
  exact ⟨rfl, rfl⟩
def IbRel (N : List Int) (x : Int) (w : World) (i j : Value) (wr : World) : Prop :=
  ∃ a b : Nat, i = .int .i64 (a : Int) ∧ j = .int .i64 (b : Int) ∧ a ≤ lowI x N ∧ lowI x N ≤ b ∧ b ≤ N.length ∧ w = wr
set_option maxRecDepth 100000 in
set_option maxHeartbeats 1000000 in
theorem intSearch_any (N : List Int) (x : Int) (A : Option Addr) (c : Nat) (w : World) (hP : NumsA w w.heap.size A N) (hl : N.length ≤ 100000) (hr : risI (-1) N) :
    Calls Tryd.prog 30 #[.slice A N.length c, .int .i64 x] w fun e w' => e = .returned (.tuple #[.int .i64 (lowI x N : Int), .bool (decide (x ∈ N))]) ∧ w' = w := by
  have hle := lowI_le x N
  have HG := Lib.hid (lowI_mem x N _ hr)
  have HS := Lib.hid (lowI_split x N _ hr)
  have h1 : Hid (IbRel N x w (.int .i64 0) (.int .i64 (N.length : Int)) w) := ⟨0, N.length, rfl, rfl, Nat.zero_le _, hle, Nat.le_refl _, rfl⟩
  have hlw : lowI x N ≤ 100000 := by omega
  go_enter Tryd.func30, Tryd.ntmps30
  go_wp2_with fail
  go_loopw [7, 8] (fun i j wr => IbRel N x w i j wr) (fun i j _ => (intOf j - intOf i).toNat)
  case atStart => exact h1.out
  case round =>
    clear h1
    obtain ⟨a, b, rfl, rfl, ha, hb, hbl, rfl⟩ := hrel
    by_cases hlt : a < b
    · have hj : (a : Int) < b := by omega
      have hml : (a + b) / 2 < N.length := by omega
      have hmi : ((a : Int) + b) / 2 < N.length := by omega
      have hx : N[(a + b) / 2]? = some N[(a + b) / 2] := List.getElem?_eq_getElem hml
      obtain ⟨ad, rfl, hbk, h0⟩ := hP _ _ hx
      have hsx := HS.out _ _ hx
      clear hx
      generalize N[(a + b) / 2] = y at *
      have C := Lib.hid (lessI_any y x w)
      go_wp2_with fail
      (with_reducible refine C.out.mono ?_)
      clear C h0
      rintro _ w2 ⟨rfl, rfl⟩
      by_cases hz : y < x
      · have hlo := hsx.1 hz
        clear hsx
        go_wp2_with fail
        go_roundw
        case rel => exact ⟨(a + b) / 2 + 1, b, by congr 1, rfl, by omega, hb, hbl, rfl⟩
        case measure => simp [intOf]; omega
      · have hlo : ¬ (a + b) / 2 < lowI x N := fun h => hz (hsx.2 h)
        clear hsx
        go_wp2_with fail
        go_roundw
        case rel => exact ⟨a, (a + b) / 2, rfl, by congr 1, ha, by omega, by omega, rfl⟩
        case measure => simp [intOf]; omega
    · have ea : a = lowI x N := by omega
      have eb : b = lowI x N := by omega
      subst eb
      rw [ea]
      have hj : ¬ (lowI x N : Int) < lowI x N := by omega
      clear hlt ea ha hb hbl
      have CN := Lib.hid (fun z => sNaN_any z w)
      cases hx : N[lowI x N]? with
      | none =>
        have hge := List.getElem?_eq_none_iff.1 hx
        have hj2 : ¬ (lowI x N : Int) < N.length := by omega
        have HN : Hid (decide (x ∈ N) = false) := by show _ = _; rw [decide_eq_false_iff_not, HG.out, hx]; simp
        clear HG HS hx
        go_wp2_with fail
        go_ret2
        exact ⟨by rw [HN.out]; rfl, rfl⟩
      | some y =>
        obtain ⟨hlt, _⟩ := List.getElem?_eq_some_iff.1 hx
        have hj2 : (lowI x N : Int) < N.length := by omega
        obtain ⟨ad, rfl, hbk, h0⟩ := hP _ _ hx
        have HN : Hid (decide (x ∈ N) = (y == x)) := by
          show _ = _
          by_cases e : y = x
          · rw [decide_eq_true (HG.out.2 (by rw [hx, e])), e]; simp
          · rw [decide_eq_false (fun h => e (by have := HG.out.1 h; rw [hx] at this; exact Option.some.inj this))]
            symm
            rw [beq_eq_false_iff_ne]; exact e
        clear HG HS hx
        by_cases hz : y = x
        · subst hz
          go_wp2_with fail
          go_ret2
          exact ⟨by rw [HN.out, beq_self_eq_true]; rfl, rfl⟩
        · have hz' : (y == x) = false := by rw [beq_eq_false_iff_ne]; exact hz
          go_wp2_with fail
          (with_reducible refine (CN.out y).mono ?_)
          rintro _ _ ⟨rfl, rfl⟩
          go_wp2_with fail
          go_ret2
          exact ⟨by rw [HN.out, hz']; rfl, rfl⟩
end Go.Proofs.YtchpgngphgjmnaaDoor
