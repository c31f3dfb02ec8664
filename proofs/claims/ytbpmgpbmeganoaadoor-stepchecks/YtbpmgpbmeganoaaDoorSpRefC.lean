/- ref.CheckStep: its contract. -/
import Derived.Test.YtbpmgpbmeganoaaDoorSpCheck
import Derived.Test.YtbpmgpbmeganoaaDoorDkCh2
import Derived.Test.YtbpmgpbmeganoaaDoorSpCat
import Derived.Test.YtbpmgpbmeganoaaDoorRefSeal
import Derived.Deep.RegionHeld3
namespace Go.Proofs.YtbpmgpbmeganoaaDoor
open Go.RowKit

def CcRelS (w : World) (k : Ky) (q : KyAt) (s : Sp) (p : SpAt) (b : ByteArray) (v i : Value) (wr : World) : Prop :=
  ∃ j : Nat, j ≤ s.who.length ∧ v = .int .i64 (((s.prs.take j).filter (okSg k.sig b)).length : Int) ∧ i = .int .i64 (j : Int) ∧ Ck w k q s p wr
theorem count_next {K : List ByteArray} {b : ByteArray} {s : Sp} (hl : s.seals.length = s.who.length) {j : Nat} (hj : j < s.who.length) (c : Bool) (hc : okSg K b (s.who[j], s.seals[j]'(by omega)) = c) :
    ((s.prs.take (j + 1)).filter (okSg K b)).length = ((s.prs.take j).filter (okSg K b)).length + if c = true then 1 else 0 := by
  subst hc
  have hk : j < s.prs.length := by rw [prs_len hl]; exact hj
  have h3 := prs_get (s := s) (List.getElem?_eq_getElem hj) (List.getElem?_eq_getElem (show j < s.seals.length by omega))
  rw [List.getElem?_eq_getElem hk] at h3
  rw [List.take_succ_eq_append_getElem hk, Option.some.inj h3, List.filter_append, List.length_append]
  congr 1
  cases hq : okSg K b (s.who[j], s.seals[j]'(by omega)) <;> simp [hq]
theorem count_all {α : Type} {l : List α} {p : α → Bool} : (l.filter p).length = l.length ↔ l.all p = true := by
  rw [List.length_filter_eq_length_iff, List.all_eq_true]
set_option maxRecDepth 100000 in
set_option maxHeartbeats 20000000 in
theorem RefCheckStep_any (k : Ky) (q : KyAt) (s : Sp) (p : SpAt) (i : Int) (w : World) (hK : KyIn w w.heap.size k q) (hP : SpIn w w.heap.size s p) (hkz : KySz k) (hb : s.who.length ≤ 140737488355328) (hb2 : s.seals.length ≤ 140737488355328) (hr : s.ref.size ≤ 140737488355328) (ht : Tab w) :
    Calls Tryd.prog 28 #[.agg (kyArr k q), .int .i64 i, .agg (spArr s p)] w fun e w' => e = .returned (.int .i64 (spCheck k.sig k.need i s)) ∧ Below w.heap.size w w' := by
  obtain ⟨wa, wc, sa, sc⟩ := p
  obtain ⟨ka, kc, ka2, kc2⟩ := q
  have h1 : Hid (Ck w k ⟨ka, kc, ka2, kc2⟩ s ⟨wa, wc, sa, sc⟩ ((w.alloc (.cells (kyArr k ⟨ka, kc, ka2, kc2⟩) 41)).alloc (.cells (spArr s ⟨wa, wc, sa, sc⟩) 25))) := by
    have A0 : Arr (w.alloc (.cells (kyArr k ⟨ka, kc, ka2, kc2⟩) 41)) w.heap.size 41 (kyArr k ⟨ka, kc, ka2, kc2⟩) := Arr.new _ _ _
    have b0 : Below w.heap.size w (w.alloc (.cells (kyArr k ⟨ka, kc, ka2, kc2⟩) 41)) := (Below.refl _ _).alloc (Nat.le_refl _) _
    have hz : (w.alloc (.cells (kyArr k ⟨ka, kc, ka2, kc2⟩) 41)).heap.size = w.heap.size + 1 := World.size_alloc _ _
    generalize w.alloc (.cells (kyArr k ⟨ka, kc, ka2, kc2⟩) 41) = V at *
    have A1 : Arr (V.alloc (.cells (spArr s ⟨wa, wc, sa, sc⟩) 25)) V.heap.size 25 (spArr s ⟨wa, wc, sa, sc⟩) := Arr.new _ _ _
    have b1 : Below V.heap.size V (V.alloc (.cells (spArr s ⟨wa, wc, sa, sc⟩) 25)) := (Below.refl _ _).alloc (Nat.le_refl _) _
    have bb := b0.trans (b1.mono b0.size)
    rw [hz] at A1
    exact ⟨A0.below b1 A0.lt, A1, hK.below bb, hP.below bb, bb, ht.below bb ht.1⟩
  have CG := Lib.hid (fun V h => GoodStep_any s ⟨wa, wc, sa, sc⟩ V h hr hb hb2)
  have CB := Lib.hid (fun V => RefBody_any i s ⟨wa, wc, sa, sc⟩ V)
  have hgb : spGB i s = if spGood s ≠ 0 then (⟨#[]⟩, spGood s) else spBody i s := rfl
  have HGB := Lib.hid hgb
  have hE : spCheck k.sig k.need i s = if (spGB i s).2 ≠ 0 then (spGB i s).2 else if s.prs.all (okSg k.sig (spGB i s).1) && decide (k.need ≤ s.seals.length) then 0 else 13 := rfl
  have HE := Lib.hid hE
  have HB := Lib.hid (spGB_small i s)
  have HGd : Hid ((spGB i s).2 = 0 → spGood s = 0) := spGB_good
  have HKz := Lib.hid hkz.each
  have hsl : k.sig.length ≤ 140737488351232 := by have := hkz.sig; omega
  clear hE hP hK ht hkz hgb
  generalize spCheck k.sig k.need i s = R at *
  generalize spGB i s = G at *
  generalize hgs : spGood s = gs at *
  have HGS := Lib.hid hgs
  clear hgs
  generalize spBody i s = bd at *
  generalize hA : spArr s ⟨wa, wc, sa, sc⟩ = arr at *
  generalize hA2 : kyArr k ⟨ka, kc, ka2, kc2⟩ = arr2 at *
  have HA := Lib.hid hA
  have HA2 := Lib.hid hA2
  clear hA hA2
  go_enter Tryd.func28, Tryd.ntmps28
  go_upto_region 1 with fail
  refine wp_forget (Ck w k ⟨ka, kc, ka2, kc2⟩ s ⟨wa, wc, sa, sc⟩) h1.out ?_
  clear h1
  intro W hW
  have hA := HA.out
  have hA2 := HA2.out
  clear HA HA2
  subst hA hA2
  go_wp2_with (refine wpList_load_row rfl 25 _ rfl (w.heap.size + 1) rfl 25 _ (0, 0) _ hW.2.1 Tryd.underlying25 rfl (spInfo s _) ?_)
  have C := Lib.hid (CG.out W (hW.2.2.2.1.mono hW.2.2.2.2.1.size))
  clear CG
  (with_reducible refine C.out.mono ?_)
  rintro _ W1 ⟨rfl, b2⟩
  have hW1 := hW.below b2
  clear hW b2 C
  cases hG0 : gs != 0
  case true =>
    have hG2 : gs ≠ 0 := by simpa using hG0
    rw [if_pos hG2] at HGB
    have HR : Hid (R = gs) := by
      show _ = _
      rw [HE.out, HGB.out]
      simp only
      rw [if_pos hG2]
    go_wp2_with fail
    go_ret
    exact ⟨by rw [HR.out]; rfl, hW1.2.2.2.2.1⟩
  have hG2 : gs = 0 := by simpa using hG0
  subst hG2
  rw [if_neg (by simp)] at HGB
  have hGB := HGB.out
  subst hGB
  clear hG0 HGB
  go_wp2_with (refine wpList_load_row rfl 25 _ rfl (w.heap.size + 1) rfl 25 _ (0, 0) _ hW1.2.1 Tryd.underlying25 rfl (spInfo s _) ?_)
  have C := Lib.hid (CB.out W1)
  clear CB
  obtain ⟨body, z⟩ := G
  simp only at HE HB HGd C
  (with_reducible refine C.out.mono ?_)
  rintro _ W2 ⟨rfl, b2⟩
  have hW2 := hW1.below b2
  clear hW1 b2 C
  cases hG : z != 0
  case true =>
    have hG2 : z ≠ 0 := by simpa using hG
    rw [if_pos hG2] at HE
    go_wp2_with fail
    go_ret
    exact ⟨by rw [HE.out]; rfl, hW2.2.2.2.2.1⟩
  have hG2 : z = 0 := by simpa using hG
  subst hG2
  rw [if_neg (by simp)] at HE
  obtain ⟨_, hw8, hl, hgd⟩ := spGood_ok HGS.out
  have hall := Lib.hid (gdS_low _ _ hgd)
  have hbs := HB.out rfl
  have HL := Lib.hid hl
  clear hG HB HGd hgd hl
  have c3 : W2.cell? ⟨w.heap.size + 1, 3, none⟩ = some (.slice wa s.who.length wc) := hW2.2.1.cell 3
  have hst : Hid (CcRelS w k ⟨ka, kc, ka2, kc2⟩ s ⟨wa, wc, sa, sc⟩ body (.int .i64 0) (.int .i64 0) W2) := ⟨0, Nat.zero_le _, rfl, rfl, hW2⟩
  clear hW2
  go_wp2_with fail
  clear c3
  go_loopw [10, 30] (fun v i wr => CcRelS w k ⟨ka, kc, ka2, kc2⟩ s ⟨wa, wc, sa, sc⟩ body v i wr) (fun _ i _ => s.who.length - (intOf i).toNat)
  case atStart => exact hst.out
  case round =>
    clear hst
    obtain ⟨j, hj, rfl, rfl, hX⟩ := hrel
    have hcle : ((s.prs.take j).filter (okSg k.sig body)).length ≤ 8 := by
      have h1 := List.length_filter_le (okSg k.sig body) (s.prs.take j)
      have h2 : (s.prs.take j).length ≤ 8 := by rw [List.length_take, prs_len HL.out]; omega
      omega
    by_cases hlt : j < s.who.length
    · have hji : (j : Int) < s.who.length := by omega
      have hlt2 : j < s.seals.length := by have := HL.out; omega
      have hji2 : (j : Int) < s.seals.length := by omega
      obtain ⟨ad, rfl, hbl, g0⟩ := hX.2.2.2.1.nums j s.who[j] (List.getElem?_eq_getElem hlt)
      obtain ⟨ad2, rfl, hbl2, g1⟩ := hX.2.2.2.1.txs j s.seals[j] (List.getElem?_eq_getElem hlt2)
      have hxm := hall.out (s.who[j], s.seals[j]) (List.mem_of_getElem? (prs_get (s := s) (List.getElem?_eq_getElem hlt) (List.getElem?_eq_getElem hlt2)))
      have HN := Lib.hid (fun c h => count_next (K := k.sig) (b := body) HL.out hlt c h)
      simp only at hxm
      generalize s.who[j] = x at *
      generalize s.seals[j] = t at *
      obtain ⟨m, rfl⟩ := Int.eq_ofNat_of_zero_le (show 0 ≤ x by omega)
      have hok : okSg k.sig body ((m : Int), t) = match k.sig[m]? with | none => false | some y => decide (sealB y body = t) := rfl
      rw [hok] at HN
      clear hok
      generalize ((s.prs.take j).filter (okSg k.sig body)).length = cnt at *
      have hci : (cnt : Int) ≤ 8 := by omega
      have c3 : wr.cell? ⟨w.heap.size + 1, 3, none⟩ = some (.slice (some ad) s.who.length wc) := hX.2.1.cell 3
      have c4 : wr.cell? ⟨w.heap.size + 1, 4, none⟩ = some (.slice (some ad2) s.seals.length sc) := hX.2.1.cell 4
      have k0 : wr.cell? ⟨w.heap.size, 0, none⟩ = some (.slice ka k.sig.length kc) := hX.1.cell 0
      by_cases hm : k.sig.length ≤ m
      · have hmi : ¬ (m : Int) < k.sig.length := by omega
        have hmd : decide ((m : Int) < k.sig.length) = false := decide_eq_false hmi
        have hmd2 : decide (m < k.sig.length) = false := decide_eq_false (by omega)
        have hn := Lib.hid (by have := HN.out false (by rw [List.getElem?_eq_none hm]); rw [if_neg (by simp), Nat.add_zero] at this; exact this)
        clear HN
        clear hm hmi
        go_wp2_with fail
        go_quiet (fail)
        go_wp2_with fail
        go_roundw
        case rel => exact ⟨j + 1, hlt, by rw [hn.out]; rfl, by rw [Int.natCast_add]; rfl, hX.below (below_drewN (Below.refl _ _) _)⟩
        case measure => simp [intOf]; omega
      · have hmi2 : (m : Int) < k.sig.length := by omega
        have hmn : m < k.sig.length := by omega
        obtain ⟨ad3, rfl, hbl3, g3⟩ := hX.2.2.1.sig m k.sig[m] (List.getElem?_eq_getElem hmn)
        have hgm : k.sig[m]? = some k.sig[m] := List.getElem?_eq_getElem hmn
        rw [hgm] at HN
        simp only at HN
        clear hgm
        have hyz := HKz.out _ (List.getElem_mem hmn)
        generalize k.sig[m] = y at *
        have CSl : Hid (∀ V, Calls Tryd.prog 61 #[.string y, .string body] V fun e w' => e = .returned (.string (sealB y body)) ∧ Below V.heap.size V w') := fun V => RefSeal_any y body (by omega) (by omega) V
        generalize sealB y body = sl at *
        have e1 := same_lists sl t
        obtain ⟨b, hb⟩ : ∃ b, b = decide (sl = t) := ⟨_, rfl⟩
        rw [← hb] at e1
        have HN2 := Lib.hid (HN.out b hb.symm)
        clear HN
        have HX := Lib.hid hX
        have CS1 := Lib.hid (CSl.out wr.drew)
        have d4 : wr.drew.cell? ⟨w.heap.size + 1, 4, none⟩ = some (.slice (some ad2) s.seals.length sc) := c4
        have dk0 : wr.drew.cell? ⟨w.heap.size, 0, none⟩ = some (.slice (some ad3) k.sig.length kc) := k0
        have dg1 : wr.drew.cell? (ad2.add j) = some (.string t) := g1
        have dg3 : wr.drew.cell? (ad3.add m) = some (.string y) := g3
        clear hX c3 c4 k0 hb
        cases b
        · have hn := Lib.hid (by have := HN2.out; rw [if_neg (by simp), Nat.add_zero] at this; exact this)
          clear HN2
          go_upto_region 11 with fail
          go_region_held3 (fun w' => w'.cell? ⟨w.heap.size, 0, none⟩ = some (.slice (some ad3) k.sig.length kc) ∧ w'.cell? ⟨w.heap.size + 1, 4, none⟩ = some (.slice (some ad2) s.seals.length sc) ∧ w'.cell? (ad2.add j) = some (.string t) ∧ w'.cell? (ad3.add m) = some (.string y))
            (first | exact ⟨dk0, d4, dg1, dg3⟩ | exact hV4)
            (first
              | (go_at_call 61
                 (with_reducible refine CS1.out.mono ?_)
                 rintro _ W4 ⟨rfl, b40⟩
                 have b4 : Below wr.heap.size wr W4 := (Below.refl _ wr).drew.trans b40
                 have hX4 := HX.out.below b4
                 have hV4 : W4.cell? ⟨w.heap.size, 0, none⟩ = some (.slice (some ad3) k.sig.length kc) ∧ W4.cell? ⟨w.heap.size + 1, 4, none⟩ = some (.slice (some ad2) s.seals.length sc) ∧ W4.cell? (ad2.add j) = some (.string t) ∧ W4.cell? (ad3.add m) = some (.string y) :=
                   ⟨hX4.1.cell 0, hX4.2.1.cell 4, (b4.cell (Nat.lt_of_lt_of_le hbl2 HX.out.2.2.2.2.1.size)).trans g1, (b4.cell (Nat.lt_of_lt_of_le hbl3 HX.out.2.2.2.2.1.size)).trans g3⟩))
          all_goals
            clear d4 dk0 dg1 dg3 CS1 CSl HX g0 g1 g3 e1 hV4
            go_wp2_with fail
            go_roundw
            case rel => exact ⟨j + 1, hlt, by rw [hn.out]; rfl, by rw [Int.natCast_add]; rfl, hX4⟩
            case measure => simp [intOf]; omega
        · have hn := Lib.hid (by have := HN2.out; rw [if_pos rfl] at this; exact this)
          clear HN2
          go_upto_region 11 with fail
          go_region_held3 (fun w' => w'.cell? ⟨w.heap.size, 0, none⟩ = some (.slice (some ad3) k.sig.length kc) ∧ w'.cell? ⟨w.heap.size + 1, 4, none⟩ = some (.slice (some ad2) s.seals.length sc) ∧ w'.cell? (ad2.add j) = some (.string t) ∧ w'.cell? (ad3.add m) = some (.string y))
            (first | exact ⟨dk0, d4, dg1, dg3⟩ | exact hV4)
            (first
              | (go_at_call 61
                 (with_reducible refine CS1.out.mono ?_)
                 rintro _ W4 ⟨rfl, b40⟩
                 have b4 : Below wr.heap.size wr W4 := (Below.refl _ wr).drew.trans b40
                 have hX4 := HX.out.below b4
                 have hV4 : W4.cell? ⟨w.heap.size, 0, none⟩ = some (.slice (some ad3) k.sig.length kc) ∧ W4.cell? ⟨w.heap.size + 1, 4, none⟩ = some (.slice (some ad2) s.seals.length sc) ∧ W4.cell? (ad2.add j) = some (.string t) ∧ W4.cell? (ad3.add m) = some (.string y) :=
                   ⟨hX4.1.cell 0, hX4.2.1.cell 4, (b4.cell (Nat.lt_of_lt_of_le hbl2 HX.out.2.2.2.2.1.size)).trans g1, (b4.cell (Nat.lt_of_lt_of_le hbl3 HX.out.2.2.2.2.1.size)).trans g3⟩))
          all_goals
            clear d4 dk0 dg1 dg3 CS1 CSl HX g0 g1 g3 e1 hV4
            go_wp2_with fail
            go_roundw
            case rel => exact ⟨j + 1, hlt, by rw [hn.out, Int.natCast_add]; rfl, by rw [Int.natCast_add]; rfl, hX4⟩
            case measure => simp [intOf]; omega
    · obtain rfl : j = s.who.length := by omega
      have hji : ¬ (s.who.length : Int) < s.who.length := by omega
      rw [List.take_of_length_le (Nat.le_of_eq (prs_len HL.out))] at hcle ⊢
      have c3 : wr.cell? ⟨w.heap.size + 1, 3, none⟩ = some (.slice wa s.who.length wc) := hX.2.1.cell 3
      have k2 : wr.cell? ⟨w.heap.size, 2, none⟩ = some (.int .i64 k.need) := hX.1.cell 2
      have hall2 := count_all (l := s.prs) (p := okSg k.sig body)
      rw [prs_len HL.out] at hall2
      have hfl := List.length_filter_le (okSg k.sig body) s.prs
      rw [prs_len HL.out] at hfl
      generalize (s.prs.filter (okSg k.sig body)).length = cnt at *
      by_cases hc : cnt < s.who.length
      · have hci : (cnt : Int) < s.who.length := by omega
        have hno : s.prs.all (okSg k.sig body) = false := by
          cases hq : s.prs.all (okSg k.sig body) with
          | false => rfl
          | true => have := hall2.2 hq; omega
        rw [hno, Bool.false_and] at HE
        clear hno hall2
        go_wp2_with fail
        go_ret
        exact ⟨by rw [HE.out]; rfl, hX.2.2.2.2.1⟩
      · have hci : ¬ (cnt : Int) < s.who.length := by omega
        have hcn : cnt = s.who.length := by omega
        rw [hall2.1 hcn, Bool.true_and, HL.out] at HE
        subst hcn
        clear hall2
        by_cases hn : k.need ≤ s.who.length
        · have hn2 : ¬ (s.who.length : Int) < k.need := by omega
          rw [decide_eq_true hn] at HE
          clear hn
          go_wp2_with fail
          go_ret
          exact ⟨by rw [HE.out]; rfl, hX.2.2.2.2.1⟩
        · have hn2 : (s.who.length : Int) < k.need := by omega
          rw [decide_eq_false hn] at HE
          clear hn
          go_wp2_with fail
          go_ret
          exact ⟨by rw [HE.out]; rfl, hX.2.2.2.2.1⟩
end Go.Proofs.YtbpmgpbmeganoaaDoor
