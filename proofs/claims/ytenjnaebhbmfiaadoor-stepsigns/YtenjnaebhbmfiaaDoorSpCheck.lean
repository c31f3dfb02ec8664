/- step.Check: its contract. -/
import Derived.Test.YtenjnaebhbmfiaaDoorSpSearch
import Derived.Test.YtenjnaebhbmfiaaDoorSeal
import Derived.Test.YtenjnaebhbmfiaaDoorSpMath
namespace Go.Proofs.YtenjnaebhbmfiaaDoor
open Go.RowKit

theorem kyInfo (k : Ky) (q : KyAt) : (Tryd.prog.info? 45).map (·.size) = some (kyArr k q).size := by
  rw [show (kyArr k q).size = 3 from rfl]
  kernel_rfl
theorem kyArr_one (k : Ky) (q : KyAt) : (kyArr k q).all (·.oneCell') = true := by
  unfold kyArr
  rw [Array.all_eq_true_iff_forall_mem]
  intro v hv
  simp at hv
  rcases hv with rfl | rfl | rfl <;> rfl
/-- where Check stands: the keys' box, the step's -/
def Ck (w : World) (k : Ky) (q : KyAt) (s : Sp) (p : SpAt) (W : World) : Prop :=
  Arr W w.heap.size 45 (kyArr k q) ∧ Arr W (w.heap.size + 1) 25 (spArr s p) ∧ KyIn W w.heap.size k q ∧ SpIn W w.heap.size s p ∧ Below w.heap.size w W ∧ Tab W
theorem Ck.below {w W W' : World} {k : Ky} {q : KyAt} {s : Sp} {p : SpAt} (h : Ck w k q s p W) (b : Below W.heap.size W W') : Ck w k q s p W' :=
  ⟨h.1.below b h.1.lt, h.2.1.below b h.2.1.lt, h.2.2.1.below (b.mono h.2.2.2.2.1.size), h.2.2.2.1.below (b.mono h.2.2.2.2.1.size), h.2.2.2.2.1.trans (b.mono h.2.2.2.2.1.size), h.2.2.2.2.2.below b h.2.2.2.2.2.1⟩
def CkRel (w : World) (k : Ky) (q : KyAt) (s : Sp) (p : SpAt) (b : ByteArray) (i : Value) (wr : World) : Prop :=
  ∃ j : Nat, j ≤ s.who.length ∧ i = .int .i64 (j : Int) ∧ Ck w k q s p wr ∧ (s.prs.take j).all (okSg k.sig b) = true
theorem all_next {K : List ByteArray} {b : ByteArray} {s : Sp} (hl : s.seals.length = s.who.length) {j : Nat} (hj : j < s.who.length) (h : (s.prs.take j).all (okSg K b) = true) (h2 : okSg K b (s.who[j], s.seals[j]'(by omega)) = true) : (s.prs.take (j + 1)).all (okSg K b) = true := by
  have hk : j < s.prs.length := by rw [prs_len hl]; exact hj
  have h3 := prs_get (s := s) (List.getElem?_eq_getElem hj) (List.getElem?_eq_getElem (show j < s.seals.length by omega))
  rw [List.getElem?_eq_getElem hk] at h3
  rw [List.take_succ_eq_append_getElem hk, Option.some.inj h3, List.all_append, h]
  simp [h2]
theorem all_bad {K : List ByteArray} {b : ByteArray} {s : Sp} (hl : s.seals.length = s.who.length) {j : Nat} (hj : j < s.who.length) (h2 : okSg K b (s.who[j], s.seals[j]'(by omega)) = false) : s.prs.all (okSg K b) = false := by
  have h3 := prs_get (s := s) (List.getElem?_eq_getElem hj) (List.getElem?_eq_getElem (show j < s.seals.length by omega))
  rw [List.all_eq_false]
  exact ⟨_, List.mem_of_getElem? h3, by rw [h2]; simp⟩
set_option maxRecDepth 100000 in
set_option maxHeartbeats 20000000 in
theorem SpCheck_wide (k : Ky) (q : KyAt) (s : Sp) (p : SpAt) (i : Int) (w : World) (hK : KyIn w w.heap.size k q) (hP : SpIn w w.heap.size s p) (_ : k.sig.length ≤ 140737488351232) (hke : ∀ t ∈ k.sig, t.size ≤ 140737488355328) (hb : s.who.length ≤ 140737488355328) (hb2 : s.seals.length ≤ 140737488355328) (ht : Tab w) :
    Calls Tryd.prog 19 #[.agg (kyArr k q), .int .i64 i, .agg (spArr s p)] w fun e w' => e = .returned (.int .i64 (spCheck k.sig k.need i s)) ∧ Below w.heap.size w w' := by
  obtain ⟨wa, wc, sa, sc⟩ := p
  obtain ⟨ka, kc, ka2, kc2⟩ := q
  have h1 : Hid (Ck w k ⟨ka, kc, ka2, kc2⟩ s ⟨wa, wc, sa, sc⟩ ((w.alloc (.cells (kyArr k ⟨ka, kc, ka2, kc2⟩) 45)).alloc (.cells (spArr s ⟨wa, wc, sa, sc⟩) 25))) := by
    have A0 : Arr (w.alloc (.cells (kyArr k ⟨ka, kc, ka2, kc2⟩) 45)) w.heap.size 45 (kyArr k ⟨ka, kc, ka2, kc2⟩) := Arr.new _ _ _
    have b0 : Below w.heap.size w (w.alloc (.cells (kyArr k ⟨ka, kc, ka2, kc2⟩) 45)) := (Below.refl _ _).alloc (Nat.le_refl _) _
    have hz : (w.alloc (.cells (kyArr k ⟨ka, kc, ka2, kc2⟩) 45)).heap.size = w.heap.size + 1 := World.size_alloc _ _
    generalize w.alloc (.cells (kyArr k ⟨ka, kc, ka2, kc2⟩) 45) = V at *
    have A1 : Arr (V.alloc (.cells (spArr s ⟨wa, wc, sa, sc⟩) 25)) V.heap.size 25 (spArr s ⟨wa, wc, sa, sc⟩) := Arr.new _ _ _
    have b1 : Below V.heap.size V (V.alloc (.cells (spArr s ⟨wa, wc, sa, sc⟩) 25)) := (Below.refl _ _).alloc (Nat.le_refl _) _
    have bb := b0.trans (b1.mono b0.size)
    rw [hz] at A1
    exact ⟨A0.below b1 A0.lt, A1, hK.below bb, hP.below bb, bb, ht.below bb ht.1⟩
  have CG := Lib.hid (fun V h => goodBody_any i s ⟨wa, wc, sa, sc⟩ V h hb hb2)
  have hE : spCheck k.sig k.need i s = if (spGB i s).2 ≠ 0 then (spGB i s).2 else if s.prs.all (okSg k.sig (spGB i s).1) && decide (k.need ≤ s.seals.length) then 0 else 13 := rfl
  have HE := Lib.hid hE
  have HB := Lib.hid (spGB_small i s)
  have HGd : Hid ((spGB i s).2 = 0 → spGood s = 0) := spGB_good
  have HKz := Lib.hid hke
  clear hE hP hK ht hke
  generalize spCheck k.sig k.need i s = R at *
  generalize spGB i s = G at *
  obtain ⟨body, z⟩ := G
  simp only at HE HB HGd CG
  generalize hA : spArr s ⟨wa, wc, sa, sc⟩ = arr at *
  generalize hA2 : kyArr k ⟨ka, kc, ka2, kc2⟩ = arr2 at *
  have HA := Lib.hid hA
  have HA2 := Lib.hid hA2
  clear hA hA2
  go_enter Tryd.func19, Tryd.ntmps19
  go_upto_region 1 with fail
  refine wp_forget (Ck w k ⟨ka, kc, ka2, kc2⟩ s ⟨wa, wc, sa, sc⟩) h1.out ?_
  clear h1
  intro W hW
  have hA := HA.out
  have hA2 := HA2.out
  clear HA HA2
  subst hA hA2
  go_wp2_with (refine wpList_load_row rfl 25 _ rfl (w.heap.size + 1) rfl 25 _ (0, 0) _ hW.2.1 Tryd.underlying25 rfl (spInfo s _) ?_)
  have C := Lib.hid (CG.out W (hW.2.2.2.1.mono hW.2.2.2.2.1.size))
  clear CG
  (with_reducible refine C.out.mono ?_)
  rintro _ W2 ⟨rfl, b2⟩
  have hW2 := hW.below b2
  clear hW b2 C
  cases hG : z != 0
  case true =>
    have hG2 : z ≠ 0 := by simpa using hG
    rw [if_pos hG2] at HE
    go_wp2_with fail
    go_ret
    exact ⟨by rw [HE.out]; rfl, hW2.2.2.2.2.1⟩
  have hG2 : z = 0 := by simpa using hG
  subst hG2
  rw [if_neg (by simp)] at HE
  obtain ⟨_, hw8, hl, hgd⟩ := spGood_ok (HGd.out rfl)
  have hall := Lib.hid (gdS_low _ _ hgd)
  have hbs := HB.out rfl
  have HL := Lib.hid hl
  clear hG HB HGd hgd hl
  have c3 : W2.cell? ⟨w.heap.size + 1, 3, none⟩ = some (.slice wa s.who.length wc) := hW2.2.1.cell 3
  have hst : Hid (CkRel w k ⟨ka, kc, ka2, kc2⟩ s ⟨wa, wc, sa, sc⟩ body (.int .i64 0) W2) := ⟨0, Nat.zero_le _, rfl, hW2, rfl⟩
  clear hW2
  go_wp2_with fail
  clear c3
  go_loopw [23] (fun i wr => CkRel w k ⟨ka, kc, ka2, kc2⟩ s ⟨wa, wc, sa, sc⟩ body i wr) (fun i _ => s.who.length - (intOf i).toNat)
  case atStart => exact hst.out
  case round =>
    clear hst
    obtain ⟨j, hj, rfl, hX, hA⟩ := hrel
    by_cases hlt : j < s.who.length
    · have hji : (j : Int) < s.who.length := by omega
      have hlt2 : j < s.seals.length := by have := HL.out; omega
      have hji2 : (j : Int) < s.seals.length := by omega
      obtain ⟨ad, rfl, hbl, g0⟩ := hX.2.2.2.1.nums j s.who[j] (List.getElem?_eq_getElem hlt)
      obtain ⟨ad2, rfl, hbl2, g1⟩ := hX.2.2.2.1.txs j s.seals[j] (List.getElem?_eq_getElem hlt2)
      have hxm := hall.out (s.who[j], s.seals[j]) (List.mem_of_getElem? (prs_get (s := s) (List.getElem?_eq_getElem hlt) (List.getElem?_eq_getElem hlt2)))
      have HN := Lib.hid (fun h => all_next HL.out hlt hA h)
      have HNo := Lib.hid (fun h => all_bad (K := k.sig) (b := body) HL.out hlt h)
      simp only at hxm
      generalize s.who[j] = x at *
      generalize s.seals[j] = t at *
      obtain ⟨m, rfl⟩ := Int.eq_ofNat_of_zero_le (show 0 ≤ x by omega)
      have hok : okSg k.sig body ((m : Int), t) = match k.sig[m]? with | none => false | some y => decide (sealB y body = t) := rfl
      rw [hok] at HN HNo
      clear hok hA
      have c3 : wr.cell? ⟨w.heap.size + 1, 3, none⟩ = some (.slice (some ad) s.who.length wc) := hX.2.1.cell 3
      have c4 : wr.cell? ⟨w.heap.size + 1, 4, none⟩ = some (.slice (some ad2) s.seals.length sc) := hX.2.1.cell 4
      have k0 : wr.cell? ⟨w.heap.size, 0, none⟩ = some (.slice ka k.sig.length kc) := hX.1.cell 0
      by_cases hm : k.sig.length ≤ m
      · have hmi : (k.sig.length : Int) ≤ m := by omega
        have hno := HNo.out (by rw [List.getElem?_eq_none hm])
        have HR : Hid (R = 13) := by show _ = _; rw [HE.out, hno]; rfl
        clear HN HNo hno HE
        go_wp2_with fail
        go_quiet (fail)
        go_wp2_with fail
        go_ret
        exact ⟨by rw [HR.out]; rfl, below_drewN hX.2.2.2.2.1 _⟩
      · have hmi : ¬ (k.sig.length : Int) ≤ m := by omega
        have hmi2 : (m : Int) < k.sig.length := by omega
        have hmn : m < k.sig.length := by omega
        obtain ⟨ad3, rfl, hbl3, g3⟩ := hX.2.2.1.sig m k.sig[m] (List.getElem?_eq_getElem hmn)
        rw [List.getElem?_eq_getElem hmn] at HN HNo
        simp only at HN HNo
        have hyz := HKz.out _ (List.getElem_mem hmn)
        generalize k.sig[m] = y at *
        have CSl : Hid (∀ V, Tab V → Calls Tryd.prog 14 #[.string y, .string body] V fun e w' => e = .returned (.string (sealB y body)) ∧ Below V.heap.size V w') := fun V h => Seal_any y body (by omega) (by omega) V h
        generalize sealB y body = sl at *
        have HC : Hid ((t.toList == sl.toList) = decide (t = sl) ∧ (t.toList != sl.toList) = !decide (t = sl)) := ⟨same_lists t sl, by unfold bne; rw [same_lists t sl]⟩
        have HX := Lib.hid hX
        have CS1 := Lib.hid (CSl.out wr.drew (by have := hX.2.2.2.2.2; exact this))
        have d4 : wr.drew.cell? ⟨w.heap.size + 1, 4, none⟩ = some (.slice (some ad2) s.seals.length sc) := c4
        have dk0 : wr.drew.cell? ⟨w.heap.size, 0, none⟩ = some (.slice (some ad3) k.sig.length kc) := k0
        have dg1 : wr.drew.cell? (ad2.add j) = some (.string t) := g1
        have dg3 : wr.drew.cell? (ad3.add m) = some (.string y) := g3
        clear hX c3 c4 k0
        go_upto_region 7 with fail
        obtain ⟨e1, e2⟩ := HC.out
        obtain ⟨b, hb⟩ : ∃ b, b = decide (t = sl) := ⟨_, rfl⟩
        rw [← hb] at e1 e2
        have HBt := Lib.hid hb
        clear HC hb
        apply wp_meet (R := fun V => Ck w k ⟨some ad3, kc, ka2, kc2⟩ s ⟨some ad, wc, some ad2, sc⟩ V)
        case h =>
          intro K' hK'
          go_region_law (go_simp; go_at_call 14; (with_reducible refine CS1.out.mono ?_); rintro _ W4 ⟨rfl, b40⟩; have b4 : Below wr.heap.size wr W4 := (Below.refl _ wr).drew.trans b40; have hX4 := HX.out.below b4; have x4 : W4.cell? ⟨w.heap.size + 1, 4, none⟩ = some (.slice (some ad2) s.seals.length sc) := hX4.2.1.cell 4; have x5 : W4.cell? ⟨w.heap.size, 0, none⟩ = some (.slice (some ad3) k.sig.length kc) := hX4.1.cell 0; have x6 : W4.cell? (ad2.add j) = some (.string t) := (b4.cell (Nat.lt_of_lt_of_le hbl2 HX.out.2.2.2.2.1.size)).trans g1)
          all_goals (go_simp; exact hK' W4 _ hX4)
        case k =>
          intro _ W4 hX4
          clear d4 dk0 dg1 dg3 CS1 CSl HX g0 g1 g3 e1 e2
          cases b
          · have hno := HNo.out (decide_eq_false (fun e => by have := HBt.out; rw [decide_eq_true e.symm] at this; cases this))
            have HR : Hid (R = 13) := by show _ = _; rw [HE.out, hno]; rfl
            clear HN HNo HE hno HBt
            go_wp2_with fail
            go_ret
            exact ⟨by rw [HR.out]; rfl, hX4.2.2.2.2.1⟩
          · have hn := Lib.hid (HN.out (by rw [of_decide_eq_true HBt.out.symm]; exact decide_eq_true rfl))
            clear HN HNo HBt
            go_wp2_with fail
            go_roundw
            case rel => exact ⟨j + 1, hlt, by rw [Int.natCast_add]; rfl, hX4, hn.out⟩
            case measure => simp [intOf]; omega
    · obtain rfl : j = s.who.length := by omega
      have hji : ¬ (s.who.length : Int) < s.who.length := by omega
      rw [List.take_of_length_le (Nat.le_of_eq (prs_len HL.out))] at hA
      have c4 : wr.cell? ⟨w.heap.size + 1, 4, none⟩ = some (.slice sa s.seals.length sc) := hX.2.1.cell 4
      have k2 : wr.cell? ⟨w.heap.size, 2, none⟩ = some (.int .i64 k.need) := hX.1.cell 2
      rw [hA, Bool.true_and] at HE
      clear hA
      by_cases hn : k.need ≤ s.seals.length
      · have hn2 : ¬ (s.seals.length : Int) < k.need := by omega
        rw [decide_eq_true hn] at HE
        clear hn
        go_wp2_with fail
        go_ret
        exact ⟨by rw [HE.out]; rfl, hX.2.2.2.2.1⟩
      · have hn2 : (s.seals.length : Int) < k.need := by omega
        rw [decide_eq_false hn] at HE
        clear hn
        go_wp2_with fail
        go_ret
        exact ⟨by rw [HE.out]; rfl, hX.2.2.2.2.1⟩
theorem SpCheck_any (k : Ky) (q : KyAt) (s : Sp) (p : SpAt) (i : Int) (w : World) (hK : KyIn w w.heap.size k q) (hP : SpIn w w.heap.size s p) (hkz : KySz k) (hb : s.who.length ≤ 140737488355328) (hb2 : s.seals.length ≤ 140737488355328) (ht : Tab w) :
    Calls Tryd.prog 19 #[.agg (kyArr k q), .int .i64 i, .agg (spArr s p)] w fun e w' => e = .returned (.int .i64 (spCheck k.sig k.need i s)) ∧ Below w.heap.size w w' :=
  SpCheck_wide k q s p i w hK hP (by have := hkz.sig; omega) (fun t h => Nat.le_trans (hkz.each t h) (by decide)) hb hb2 ht
end Go.Proofs.YtenjnaebhbmfiaaDoor
