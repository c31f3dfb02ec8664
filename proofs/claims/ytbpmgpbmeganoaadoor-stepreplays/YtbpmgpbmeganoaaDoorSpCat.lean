/- Texts in one: SpRefC, SpRepR, SpCcI, SpCcT, SpCat. -/
import Derived.Test.YtbpmgpbmeganoaaDoorSpCheck
import Derived.Test.YtbpmgpbmeganoaaDoorRefMath
import Derived.Test.YtbpmgpbmeganoaaDoorRefSeal
import Derived.Deep.RegionHeld3
import Derived.Test.YtbpmgpbmeganoaaDoorRfSame
import Derived.Test.YtbpmgpbmeganoaaDoorSpMem
import Derived.Test.YtbpmgpbmeganoaaDoorRfConcat
/- ref.CheckStep: its contract. -/
namespace Go.Proofs.YtbpmgpbmeganoaaDoor
open Go.RowKit

def CcRelS (w : World) (k : Ky) (q : KyAt) (s : Sp) (p : SpAt) (b : ByteArray) (v i : Value) (wr : World) : Prop :=
  ∃ j : Nat, j ≤ s.who.length ∧ v = .int .i64 (((s.prs.take j).filter (okSg k.sig b)).length : Int) ∧ i = .int .i64 (j : Int) ∧ Ck w k q s p wr
theorem count_next {K : List ByteArray} {b : ByteArray} {s : Sp} (hl : s.seals.length = s.who.length) {j : Nat} (hj : j < s.who.length) (c : Bool) (hc : okSg K b (s.who[j], s.seals[j]'(by omega)) = c) :
    ((s.prs.take (j + 1)).filter (okSg K b)).length = ((s.prs.take j).filter (okSg K b)).length + if c = true then 1 else 0 := by
  subst hc
  have hk : j < s.prs.length := by rw [prs_len hl]; exact hj
  have h3 := prs_get (s := s) (List.getElem?_eq_getElem hj) (List.getElem?_eq_getElem (show j < s.seals.length by omega))
  rw [List.getElem?_eq_getElem hk] at h3
  rw [List.take_succ_eq_append_getElem hk, Option.some.inj h3, List.filter_append, List.length_append]
  congr 1
  cases hq : okSg K b (s.who[j], s.seals[j]'(by omega)) <;> simp [hq]
theorem count_all {α : Type} {l : List α} {p : α → Bool} : (l.filter p).length = l.length ↔ l.all p = true := by
  rw [List.length_filter_eq_length_iff, List.all_eq_true]
set_option maxRecDepth 100000 in
set_option maxHeartbeats 20000000 in
theorem RefCheckStep_any (k : Ky) (q : KyAt) (s : Sp) (p : SpAt) (i : Int) (w : World) (hK : KyIn w w.heap.size k q) (hP : SpIn w w.heap.size s p) (hkz : KySz k) (hb : s.who.length ≤ 140737488355328) (hb2 : s.seals.length ≤ 140737488355328) (hr : s.ref.size ≤ 140737488355328) (ht : Tab w) :
    Calls Tryd.prog 28 #[.agg (kyArr k q), .int .i64 i, .agg (spArr s p)] w fun e w' => e = .returned (.int .i64 (spCheck k.sig k.need i s)) ∧ Below w.heap.size w w' := by
  obtain ⟨wa, wc, sa, sc⟩ := p
  obtain ⟨ka, kc, ka2, kc2⟩ := q
  have h1 : Hid (Ck w k ⟨ka, kc, ka2, kc2⟩ s ⟨wa, wc, sa, sc⟩ ((w.alloc (.cells (kyArr k ⟨ka, kc, ka2, kc2⟩) 41)).alloc (.cells (spArr s ⟨wa, wc, sa, sc⟩) 25))) := by
    have A0 : Arr (w.alloc (.cells (kyArr k ⟨ka, kc, ka2, kc2⟩) 41)) w.heap.size 41 (kyArr k ⟨ka, kc, ka2, kc2⟩) := Arr.new _ _ _
    have b0 : Below w.heap.size w (w.alloc (.cells (kyArr k ⟨ka, kc, ka2, kc2⟩) 41)) := (Below.refl _ _).alloc (Nat.le_refl _) _
    have hz : (w.alloc (.cells (kyArr k ⟨ka, kc, ka2, kc2⟩) 41)).heap.size = w.heap.size + 1 := World.size_alloc _ _
    generalize w.alloc (.cells (kyArr k ⟨ka, kc, ka2, kc2⟩) 41) = V at *
    have A1 : Arr (V.alloc (.cells (spArr s ⟨wa, wc, sa, sc⟩) 25)) V.heap.size 25 (spArr s ⟨wa, wc, sa, sc⟩) := Arr.new _ _ _
    have b1 : Below V.heap.size V (V.alloc (.cells (spArr s ⟨wa, wc, sa, sc⟩) 25)) := (Below.refl _ _).alloc (Nat.le_refl _) _
    have bb := b0.trans (b1.mono b0.size)
    rw [hz] at A1
    exact ⟨A0.below b1 A0.lt, A1, hK.below bb, hP.below bb, bb, ht.below bb ht.1⟩
  have CG := Lib.hid (fun V h => GoodStep_any s ⟨wa, wc, sa, sc⟩ V h hr hb hb2)
  have CB := Lib.hid (fun V => RefBody_any i s ⟨wa, wc, sa, sc⟩ V)
  have hgb : spGB i s = if spGood s ≠ 0 then (⟨#[]⟩, spGood s) else spBody i s := rfl
  have HGB := Lib.hid hgb
  have hE : spCheck k.sig k.need i s = if (spGB i s).2 ≠ 0 then (spGB i s).2 else if s.prs.all (okSg k.sig (spGB i s).1) && decide (k.need ≤ s.seals.length) then 0 else 13 := rfl
  have HE := Lib.hid hE
  have HB := Lib.hid (spGB_small i s)
  have HGd : Hid ((spGB i s).2 = 0 → spGood s = 0) := spGB_good
  have HKz := Lib.hid hkz.each
  have hsl : k.sig.length ≤ 140737488351232 := by have := hkz.sig; omega
  clear hE hP hK ht hkz hgb
  generalize spCheck k.sig k.need i s = R at *
  generalize spGB i s = G at *
  generalize hgs : spGood s = gs at *
  have HGS := Lib.hid hgs
  clear hgs
  generalize spBody i s = bd at *
  generalize hA : spArr s ⟨wa, wc, sa, sc⟩ = arr at *
  generalize hA2 : kyArr k ⟨ka, kc, ka2, kc2⟩ = arr2 at *
  have HA := Lib.hid hA
  have HA2 := Lib.hid hA2
  clear hA hA2
  go_enter Tryd.func28, Tryd.ntmps28
  go_upto_region 1 with fail
  refine wp_forget (Ck w k ⟨ka, kc, ka2, kc2⟩ s ⟨wa, wc, sa, sc⟩) h1.out ?_
  clear h1
  intro W hW
  have hA := HA.out
  have hA2 := HA2.out
  clear HA HA2
  subst hA hA2
  go_wp2_with (refine wpList_load_row rfl 25 _ rfl (w.heap.size + 1) rfl 25 _ (0, 0) _ hW.2.1 Tryd.underlying25 rfl (spInfo s _) ?_)
  have C := Lib.hid (CG.out W (hW.2.2.2.1.mono hW.2.2.2.2.1.size))
  clear CG
  (with_reducible refine C.out.mono ?_)
  rintro _ W1 ⟨rfl, b2⟩
  have hW1 := hW.below b2
  clear hW b2 C
  cases hG0 : gs != 0
  case true =>
    have hG2 : gs ≠ 0 := by simpa using hG0
    rw [if_pos hG2] at HGB
    have HR : Hid (R = gs) := by
      show _ = _
      rw [HE.out, HGB.out]
      simp only
      rw [if_pos hG2]
    go_wp2_with fail
    go_ret
    exact ⟨by rw [HR.out]; rfl, hW1.2.2.2.2.1⟩
  have hG2 : gs = 0 := by simpa using hG0
  subst hG2
  rw [if_neg (by simp)] at HGB
  have hGB := HGB.out
  subst hGB
  clear hG0 HGB
  go_wp2_with (refine wpList_load_row rfl 25 _ rfl (w.heap.size + 1) rfl 25 _ (0, 0) _ hW1.2.1 Tryd.underlying25 rfl (spInfo s _) ?_)
  have C := Lib.hid (CB.out W1)
  clear CB
  obtain ⟨body, z⟩ := G
  simp only at HE HB HGd C
  (with_reducible refine C.out.mono ?_)
  rintro _ W2 ⟨rfl, b2⟩
  have hW2 := hW1.below b2
  clear hW1 b2 C
  cases hG : z != 0
  case true =>
    have hG2 : z ≠ 0 := by simpa using hG
    rw [if_pos hG2] at HE
    go_wp2_with fail
    go_ret
    exact ⟨by rw [HE.out]; rfl, hW2.2.2.2.2.1⟩
  have hG2 : z = 0 := by simpa using hG
  subst hG2
  rw [if_neg (by simp)] at HE
  obtain ⟨_, hw8, hl, hgd⟩ := spGood_ok HGS.out
  have hall := Lib.hid (gdS_low _ _ hgd)
  have hbs := HB.out rfl
  have HL := Lib.hid hl
  clear hG HB HGd hgd hl
  have c3 : W2.cell? ⟨w.heap.size + 1, 3, none⟩ = some (.slice wa s.who.length wc) := hW2.2.1.cell 3
  have hst : Hid (CcRelS w k ⟨ka, kc, ka2, kc2⟩ s ⟨wa, wc, sa, sc⟩ body (.int .i64 0) (.int .i64 0) W2) := ⟨0, Nat.zero_le _, rfl, rfl, hW2⟩
  clear hW2
  go_wp2_with fail
  clear c3
  go_loopw [10, 30] (fun v i wr => CcRelS w k ⟨ka, kc, ka2, kc2⟩ s ⟨wa, wc, sa, sc⟩ body v i wr) (fun _ i _ => s.who.length - (intOf i).toNat)
  case atStart => exact hst.out
  case round =>
    clear hst
    obtain ⟨j, hj, rfl, rfl, hX⟩ := hrel
    have hcle : ((s.prs.take j).filter (okSg k.sig body)).length ≤ 8 := by
      have h1 := List.length_filter_le (okSg k.sig body) (s.prs.take j)
      have h2 : (s.prs.take j).length ≤ 8 := by rw [List.length_take, prs_len HL.out]; omega
      omega
    by_cases hlt : j < s.who.length
    · have hji : (j : Int) < s.who.length := by omega
      have hlt2 : j < s.seals.length := by have := HL.out; omega
      have hji2 : (j : Int) < s.seals.length := by omega
      obtain ⟨ad, rfl, hbl, g0⟩ := hX.2.2.2.1.nums j s.who[j] (List.getElem?_eq_getElem hlt)
      obtain ⟨ad2, rfl, hbl2, g1⟩ := hX.2.2.2.1.txs j s.seals[j] (List.getElem?_eq_getElem hlt2)
      have hxm := hall.out (s.who[j], s.seals[j]) (List.mem_of_getElem? (prs_get (s := s) (List.getElem?_eq_getElem hlt) (List.getElem?_eq_getElem hlt2)))
      have HN := Lib.hid (fun c h => count_next (K := k.sig) (b := body) HL.out hlt c h)
      simp only at hxm
      generalize s.who[j] = x at *
      generalize s.seals[j] = t at *
      obtain ⟨m, rfl⟩ := Int.eq_ofNat_of_zero_le (show 0 ≤ x by omega)
      have hok : okSg k.sig body ((m : Int), t) = match k.sig[m]? with | none => false | some y => decide (sealB y body = t) := rfl
      rw [hok] at HN
      clear hok
      generalize ((s.prs.take j).filter (okSg k.sig body)).length = cnt at *
      have hci : (cnt : Int) ≤ 8 := by omega
      have c3 : wr.cell? ⟨w.heap.size + 1, 3, none⟩ = some (.slice (some ad) s.who.length wc) := hX.2.1.cell 3
      have c4 : wr.cell? ⟨w.heap.size + 1, 4, none⟩ = some (.slice (some ad2) s.seals.length sc) := hX.2.1.cell 4
      have k0 : wr.cell? ⟨w.heap.size, 0, none⟩ = some (.slice ka k.sig.length kc) := hX.1.cell 0
      by_cases hm : k.sig.length ≤ m
      · have hmi : ¬ (m : Int) < k.sig.length := by omega
        have hmd : decide ((m : Int) < k.sig.length) = false := decide_eq_false hmi
        have hmd2 : decide (m < k.sig.length) = false := decide_eq_false (by omega)
        have hn := Lib.hid (by have := HN.out false (by rw [List.getElem?_eq_none hm]); rw [if_neg (by simp), Nat.add_zero] at this; exact this)
        clear HN
        clear hm hmi
        go_wp2_with fail
        go_quiet (fail)
        go_wp2_with fail
        go_roundw
        case rel => exact ⟨j + 1, hlt, by rw [hn.out]; rfl, by rw [Int.natCast_add]; rfl, hX.below (below_drewN (Below.refl _ _) _)⟩
        case measure => simp [intOf]; omega
      · have hmi2 : (m : Int) < k.sig.length := by omega
        have hmn : m < k.sig.length := by omega
        obtain ⟨ad3, rfl, hbl3, g3⟩ := hX.2.2.1.sig m k.sig[m] (List.getElem?_eq_getElem hmn)
        have hgm : k.sig[m]? = some k.sig[m] := List.getElem?_eq_getElem hmn
        rw [hgm] at HN
        simp only at HN
        clear hgm
        have hyz := HKz.out _ (List.getElem_mem hmn)
        generalize k.sig[m] = y at *
        have CSl : Hid (∀ V, Calls Tryd.prog 61 #[.string y, .string body] V fun e w' => e = .returned (.string (sealB y body)) ∧ Below V.heap.size V w') := fun V => RefSeal_any y body (by omega) (by omega) V
        generalize sealB y body = sl at *
        have e1 := same_lists sl t
        obtain ⟨b, hb⟩ : ∃ b, b = decide (sl = t) := ⟨_, rfl⟩
        rw [← hb] at e1
        have HN2 := Lib.hid (HN.out b hb.symm)
        clear HN
        have HX := Lib.hid hX
        have CS1 := Lib.hid (CSl.out wr.drew)
        have d4 : wr.drew.cell? ⟨w.heap.size + 1, 4, none⟩ = some (.slice (some ad2) s.seals.length sc) := c4
        have dk0 : wr.drew.cell? ⟨w.heap.size, 0, none⟩ = some (.slice (some ad3) k.sig.length kc) := k0
        have dg1 : wr.drew.cell? (ad2.add j) = some (.string t) := g1
        have dg3 : wr.drew.cell? (ad3.add m) = some (.string y) := g3
        clear hX c3 c4 k0 hb
        cases b
        · have hn := Lib.hid (by have := HN2.out; rw [if_neg (by simp), Nat.add_zero] at this; exact this)
          clear HN2
          go_upto_region 11 with fail
          go_region_held3 (fun w' => w'.cell? ⟨w.heap.size, 0, none⟩ = some (.slice (some ad3) k.sig.length kc) ∧ w'.cell? ⟨w.heap.size + 1, 4, none⟩ = some (.slice (some ad2) s.seals.length sc) ∧ w'.cell? (ad2.add j) = some (.string t) ∧ w'.cell? (ad3.add m) = some (.string y))
            (first | exact ⟨dk0, d4, dg1, dg3⟩ | exact hV4)
            (first
              | (go_at_call 61
                 (with_reducible refine CS1.out.mono ?_)
                 rintro _ W4 ⟨rfl, b40⟩
                 have b4 : Below wr.heap.size wr W4 := (Below.refl _ wr).drew.trans b40
                 have hX4 := HX.out.below b4
                 have hV4 : W4.cell? ⟨w.heap.size, 0, none⟩ = some (.slice (some ad3) k.sig.length kc) ∧ W4.cell? ⟨w.heap.size + 1, 4, none⟩ = some (.slice (some ad2) s.seals.length sc) ∧ W4.cell? (ad2.add j) = some (.string t) ∧ W4.cell? (ad3.add m) = some (.string y) :=
                   ⟨hX4.1.cell 0, hX4.2.1.cell 4, (b4.cell (Nat.lt_of_lt_of_le hbl2 HX.out.2.2.2.2.1.size)).trans g1, (b4.cell (Nat.lt_of_lt_of_le hbl3 HX.out.2.2.2.2.1.size)).trans g3⟩))
          all_goals
            clear d4 dk0 dg1 dg3 CS1 CSl HX g0 g1 g3 e1 hV4
            go_wp2_with fail
            go_roundw
            case rel => exact ⟨j + 1, hlt, by rw [hn.out]; rfl, by rw [Int.natCast_add]; rfl, hX4⟩
            case measure => simp [intOf]; omega
        · have hn := Lib.hid (by have := HN2.out; rw [if_pos rfl] at this; exact this)
          clear HN2
          go_upto_region 11 with fail
          go_region_held3 (fun w' => w'.cell? ⟨w.heap.size, 0, none⟩ = some (.slice (some ad3) k.sig.length kc) ∧ w'.cell? ⟨w.heap.size + 1, 4, none⟩ = some (.slice (some ad2) s.seals.length sc) ∧ w'.cell? (ad2.add j) = some (.string t) ∧ w'.cell? (ad3.add m) = some (.string y))
            (first | exact ⟨dk0, d4, dg1, dg3⟩ | exact hV4)
            (first
              | (go_at_call 61
                 (with_reducible refine CS1.out.mono ?_)
                 rintro _ W4 ⟨rfl, b40⟩
                 have b4 : Below wr.heap.size wr W4 := (Below.refl _ wr).drew.trans b40
                 have hX4 := HX.out.below b4
                 have hV4 : W4.cell? ⟨w.heap.size, 0, none⟩ = some (.slice (some ad3) k.sig.length kc) ∧ W4.cell? ⟨w.heap.size + 1, 4, none⟩ = some (.slice (some ad2) s.seals.length sc) ∧ W4.cell? (ad2.add j) = some (.string t) ∧ W4.cell? (ad3.add m) = some (.string y) :=
                   ⟨hX4.1.cell 0, hX4.2.1.cell 4, (b4.cell (Nat.lt_of_lt_of_le hbl2 HX.out.2.2.2.2.1.size)).trans g1, (b4.cell (Nat.lt_of_lt_of_le hbl3 HX.out.2.2.2.2.1.size)).trans g3⟩))
          all_goals
            clear d4 dk0 dg1 dg3 CS1 CSl HX g0 g1 g3 e1 hV4
            go_wp2_with fail
            go_roundw
            case rel => exact ⟨j + 1, hlt, by rw [hn.out, Int.natCast_add]; rfl, by rw [Int.natCast_add]; rfl, hX4⟩
            case measure => simp [intOf]; omega
    · obtain rfl : j = s.who.length := by omega
      have hji : ¬ (s.who.length : Int) < s.who.length := by omega
      rw [List.take_of_length_le (Nat.le_of_eq (prs_len HL.out))] at hcle ⊢
      have c3 : wr.cell? ⟨w.heap.size + 1, 3, none⟩ = some (.slice wa s.who.length wc) := hX.2.1.cell 3
      have k2 : wr.cell? ⟨w.heap.size, 2, none⟩ = some (.int .i64 k.need) := hX.1.cell 2
      have hall2 := count_all (l := s.prs) (p := okSg k.sig body)
      rw [prs_len HL.out] at hall2
      have hfl := List.length_filter_le (okSg k.sig body) s.prs
      rw [prs_len HL.out] at hfl
      generalize (s.prs.filter (okSg k.sig body)).length = cnt at *
      by_cases hc : cnt < s.who.length
      · have hci : (cnt : Int) < s.who.length := by omega
        have hno : s.prs.all (okSg k.sig body) = false := by
          cases hq : s.prs.all (okSg k.sig body) with
          | false => rfl
          | true => have := hall2.2 hq; omega
        rw [hno, Bool.false_and] at HE
        clear hno hall2
        go_wp2_with fail
        go_ret
        exact ⟨by rw [HE.out]; rfl, hX.2.2.2.2.1⟩
      · have hci : ¬ (cnt : Int) < s.who.length := by omega
        have hcn : cnt = s.who.length := by omega
        rw [hall2.1 hcn, Bool.true_and, HL.out] at HE
        subst hcn
        clear hall2
        by_cases hn : k.need ≤ s.who.length
        · have hn2 : ¬ (s.who.length : Int) < k.need := by omega
          rw [decide_eq_true hn] at HE
          clear hn
          go_wp2_with fail
          go_ret
          exact ⟨by rw [HE.out]; rfl, hX.2.2.2.2.1⟩
        · have hn2 : (s.who.length : Int) < k.need := by omega
          rw [decide_eq_false hn] at HE
          clear hn
          go_wp2_with fail
          go_ret
          exact ⟨by rw [HE.out]; rfl, hX.2.2.2.2.1⟩
end Go.Proofs.YtbpmgpbmeganoaaDoor

/- ref.Replay: its contract. -/
namespace Go.Proofs.YtbpmgpbmeganoaaDoor
open Go.RowKit

set_option maxRecDepth 100000 in
set_option maxHeartbeats 4000000 in
theorem RefReplay_any (k : Ky) (q : KyAt) (LL : List SpL) (A : Option Addr) (c : Nat) (w : World) (hK : KyIn w w.heap.size k q) (hP : Spx w w.heap.size A LL)
    (hkz : KySz k) (hz : SzL LL) (hl : LL.length ≤ 140737488355328) (ht : Tab w) :
    Calls Tryd.prog 31 #[.agg (kyArr k q), .slice A LL.length c] w (SqEnd w (spReplay k.sig k.need (plS LL))) := by
  have h1 := Lib.hid (Sq0.start w k q)
  have CK : Hid (∀ V (i : Int) (x : SpL), x ∈ LL → Below w.heap.size w V → SpIn w w.heap.size x.1 x.2 →
      Calls Tryd.prog 28 #[.agg (kyArr k q), .int .i64 i, .agg (spArr x.1 x.2)] V fun e w' => e = .returned (.int .i64 (spCheck k.sig k.need i x.1)) ∧ Below V.heap.size V w') := fun V i x hx b hI =>
    RefCheckStep_any k q x.1 x.2 i V (hK.up b) (hI.up b) hkz (by have := (hz x hx).who; omega) (by have := (hz x hx).seals; omega) (by have := (hz x hx).ref; omega) (ht.below b ht.1)
  have CS : Hid (∀ V (L : List Rf) (B : Option Addr) (d : Nat) (x : SpL), x ∈ LL → Rfs V V.heap.size B L → goodR L = true →
      Calls Tryd.prog 64 #[.slice B L.length d, .string x.1.ref, .string x.1.old, .string x.1.new] V (SrEnd V (setR L x.1.ref x.1.old x.1.new))) := fun V L B d x hx hR hg =>
    SetRef_any L x.1.ref x.1.old x.1.new B d V hR (goodR_small hg).2 (by have := (goodR_small hg).1; omega) (by have := (hz x hx).ref; omega)
  have hlen := plS_len LL
  have HP := Lib.hid hP
  have HLn := Lib.hid hlen
  obtain ⟨ka, kc, ka2, kc2⟩ := q
  generalize hA2 : kyArr k ⟨ka, kc, ka2, kc2⟩ = arr2 at *
  have HA2 := Lib.hid hA2
  clear hA2 hK hP hlen ht hkz hz
  by_cases hq : (200 : Int) < (LL.length : Int)
  · rw [spReplay_long (by rw [HLn.out]; omega)]
    go_enter Tryd.func31, Tryd.ntmps31
    go_wp2_with fail
    go_ret3
    rw [← HA2.out]
    exact sq_no _ _ _ _ (Sq0.start w k ⟨ka, kc, ka2, kc2⟩).2
  · rw [spReplay_go (by rw [HLn.out]; omega)]
    have hS := HLn.out
    generalize hG : spGo k.sig k.need 0 [] (plS LL) = R at *
    have h2 : Hid (SqRel w k ⟨ka, kc, ka2, kc2⟩ (plS LL) (.int .i64 0) (.slice none 0 0) (w.alloc (.cells arr2 41))) := by
      show SqRel _ _ _ _ _ _ _
      rw [← HA2.out]
      exact ⟨0, [], none, 0, Nat.zero_le _, rfl, rfl, Rfs.nil _ _ _, Nat.le_refl _, rfl, Sq0.start w k ⟨ka, kc, ka2, kc2⟩, rfl⟩
    have HG := Lib.hid hG
    clear h1 hS hG
    go_enter Tryd.func31, Tryd.ntmps31
    go_wp2_with fail
    go_loopw [16, 7] (fun i v wr => SqRel w k ⟨ka, kc, ka2, kc2⟩ (plS LL) i v wr) (fun i _ _ => LL.length - (intOf i).toNat)
    case atStart => exact h2.out
    case round =>
      clear h2
      obtain ⟨j, cur, B, d, hj, rfl, rfl, hR, hd, hg, hX, he⟩ := hrel
      rw [HLn.out] at hj
      by_cases hlt : j < LL.length
      · have hji : (j : Int) < LL.length := by omega
        have hx : LL[j]? = some LL[j] := List.getElem?_eq_getElem hlt
        have hm := Lib.hid (List.mem_of_getElem? hx)
        obtain ⟨ad, rfl, hb, g0, g1, g2, g3, g4, hI⟩ := HP.out j LL[j] hx
        replace g0 := (hX.2.cell hb).trans g0
        replace g1 := (hX.2.cell (p := ⟨(ad.add (j * 5)).block, (ad.add (j * 5)).off + 1, none⟩) hb).trans g1
        replace g2 := (hX.2.cell (p := ⟨(ad.add (j * 5)).block, (ad.add (j * 5)).off + 2, none⟩) hb).trans g2
        replace g3 := (hX.2.cell (p := ⟨(ad.add (j * 5)).block, (ad.add (j * 5)).off + 3, none⟩) hb).trans g3
        replace g4 := (hX.2.cell (p := ⟨(ad.add (j * 5)).block, (ad.add (j * 5)).off + 4, none⟩) hb).trans g4
        have hdr : (plS LL).drop j = LL[j].1 :: (plS LL).drop (j + 1) := by
          rw [← plS_drop, List.drop_eq_getElem_cons hlt, ← plS_drop]
          rfl
        rw [hdr, spGo_cons] at he
        have HEq := Lib.hid he
        clear he hx hdr
        generalize LL[j] = x at *
        have hAC : Hid (Sq0 w k ⟨ka, kc, ka2, kc2⟩ ((wr.alloc (.cells spZero 25)).setRow wr.heap.size (spArr x.1 x.2)) ∧ Arr ((wr.alloc (.cells spZero 25)).setRow wr.heap.size (spArr x.1 x.2)) wr.heap.size 25 (spArr x.1 x.2) ∧ Rfs ((wr.alloc (.cells spZero 25)).setRow wr.heap.size (spArr x.1 x.2)) ((wr.alloc (.cells spZero 25)).setRow wr.heap.size (spArr x.1 x.2)).heap.size B cur) := by
          have bb : Below wr.heap.size wr ((wr.alloc (.cells spZero 25)).setRow wr.heap.size (spArr x.1 x.2)) := below_setRow ((Below.refl _ _).alloc (Nat.le_refl _) _) (Nat.le_refl _) _
          exact ⟨hX.below bb, (Arr.new _ _ _).row _, hR.up bb⟩
        clear hR
        go_upto_region 7 with (refine wpList_store_row rfl 25 _ _ rfl wr.heap.size (spArr x.1 x.2) rfl rfl 25 spZero (Arr.new wr _ _) (spInfo _ _) rfl (spArr_one _ _) ?_)
        refine wp_forget (fun V => Sq0 w k ⟨ka, kc, ka2, kc2⟩ V ∧ Arr V wr.heap.size 25 (spArr x.1 x.2) ∧ Rfs V V.heap.size B cur) (by exact hAC.out) ?_
        clear hAC g0 g1 g2 g3 g4 hX
        generalize wr.heap.size = y
        rintro V ⟨hX, AX, hR⟩
        have C := Lib.hid (CK.out V (j : Int) x hm.out hX.2 hI)
        have C2 := Lib.hid (fun V (h : Rfs V V.heap.size B cur) => CS.out V cur B d x hm.out h hg)
        have hgd : Hid ((setR cur x.1.ref x.1.old x.1.new).2 = 0 → goodR (setR cur x.1.ref x.1.old x.1.new).1 = true) := fun h => by
          obtain ⟨h3, h4, _, h6, _, h7, h8⟩ := setR_ok h
          rw [h8]
          exact changed_good h3 h4 h6 h7
        have AK := hX.1
        rw [← HA2.out] at C
        clear hI hm
        generalize spCheck k.sig k.need (j : Int) x.1 = z1 at *
        generalize setR cur x.1.ref x.1.old x.1.new = G at *
        obtain ⟨nx, z⟩ := G
        simp only at HEq hgd
        obtain ⟨s, wa, wc, sa, sc⟩ := x
        go_wp2_with (first
          | refine wpList_load_row rfl 41 _ rfl w.heap.size rfl 41 _ (0, 0) _ AK Tryd.underlying41 rfl (kyInfo _ _) ?_
          | refine wpList_load_row rfl 25 _ rfl y rfl 25 _ (0, 0) _ AX Tryd.underlying25 rfl (spInfo _ _) ?_)
        (with_reducible refine C.out.mono ?_)
        clear C
        rintro _ V2 ⟨rfl, b2⟩
        replace hX := hX.below b2
        replace hR := hR.up b2
        replace AX := AX.below b2 AX.lt
        clear AK b2
        by_cases hz1 : z1 = 0
        · subst hz1
          rw [if_neg (by simp)] at HEq
          have c0 : V2.cell? ⟨y, 0, none⟩ = some (.string s.ref) := AX.cell 0
          have c1 : V2.cell? ⟨y, 1, none⟩ = some (.string s.old) := AX.cell 1
          have c2 : V2.cell? ⟨y, 2, none⟩ = some (.string s.new) := AX.cell 2
          have C3 := Lib.hid (C2.out V2 hR)
          clear C2 AX hR
          go_wp2_with fail
          (with_reducible refine C3.out.mono ?_)
          clear C3 c0 c1 c2
          rintro _ V3 ⟨A2, c2, rfl, hR2, hc2, b3⟩
          replace hX := hX.below b3
          clear b3
          by_cases hz : z = 0
          · subst hz
            rw [if_neg (by simp)] at HEq
            have hg2 := hgd.out rfl
            clear hgd
            go_wp2_with fail
            go_roundw
            case rel => exact ⟨j + 1, nx, A2, c2, by rw [HLn.out]; omega, by rw [Int.natCast_add]; rfl, rfl, hR2, hc2, hg2, hX, HEq.out⟩
            case measure => simp [intOf]; omega
          · rw [if_pos hz] at HEq
            have hz2 : (z != 0) = true := by rw [bne_iff_ne]; exact hz
            have HH : Hid (SqEnd w R (.returned (.tuple #[.slice none 0 0, .int .i64 (j : Int), .int .i64 z])) V3) := by
              show SqEnd _ _ _ _
              rw [← HG.out, HEq.out]
              exact sq_no _ _ _ _ hX.2
            clear hgd HEq hX hR2 hc2
            go_wp2_with fail
            go_ret3
            exact HH.out
        · rw [if_pos hz1] at HEq
          have hz2 : (z1 == 0) = false := by rw [beq_eq_false_iff_ne]; exact hz1
          have hz3 : (z1 != 0) = true := by rw [bne_iff_ne]; exact hz1
          have HH : Hid (SqEnd w R (.returned (.tuple #[.slice none 0 0, .int .i64 (j : Int), .int .i64 z1])) V2) := by
            show SqEnd _ _ _ _
            rw [← HG.out, HEq.out]
            exact sq_no _ _ _ _ hX.2
          clear hgd HEq hX hR C2 AX
          go_wp2_with fail
          go_ret3
          exact HH.out
      · obtain rfl : j = LL.length := by omega
        have hd0 : (plS LL).drop LL.length = [] := by rw [← HLn.out]; exact List.drop_length
        rw [hd0, spGo_nil] at he
        have HH : Hid (SqEnd w R (.returned (.tuple #[.slice B cur.length d, .int .i64 0, .int .i64 0])) wr) := by
          show SqEnd _ _ _ _
          rw [← HG.out, he]
          exact ⟨B, d, rfl, hR, hd, hX.2⟩
        clear hd0 he hR hX
        go_wp2_with fail
        go_ret3
        exact HH.out
end Go.Proofs.YtbpmgpbmeganoaaDoor

/- slices.Grow at nil, slices.Concat, of lists of numbers: contracts (wip/tools/genconc.py). -/
namespace Go.Proofs.YtbpmgpbmeganoaaDoor
open Go.RowKit

set_option maxRecDepth 100000 in
theorem Grow_anyI (n : Nat) (hn : n ≤ 1000) (W : World) :
    Calls Tryd.prog 82 #[.slice none 0 0, .int .i64 (n : Int)] W fun e W' => ∃ v, e = .returned v ∧ W'.ownsRow W.heap.size 3 1 v 0 [] ∧ Below W.heap.size W W' := by
  by_cases h0 : n = 0
  · subst h0
    go_enter Tryd.func82, Tryd.ntmps82
    go_wp2_with fail
    go_ret
    exact ⟨_, rfl, own_nil _ _ _ _, Below.refl _ _⟩
  obtain ⟨si, hsi, sz0, sz1, sz2⟩ := info_parts info_int
  have hrun : ∀ ty, (Builtin.append_ #[22, 3] ty #[.slice none 0 0, .int .i64 (n : Int)]).run Tryd.prog W = .ok (.slice (some ⟨W.heap.size, 0, none⟩) n (grownCap W n 0 3)) (W.drew.alloc (.cells (Builtin.zeroCells #[.int .i64 0] n ++ Builtin.zeroCells #[.int .i64 0] (grownCap W n 0 3 - n)) 3)) := fun ty =>
    run_append_zeros_nil (P := Tryd.prog) W 22 3 ty 3 si _ .i64 .i64 Tryd.underlying22 Tryd.underlying3 hsi sz0 0 n (by omega) (by omega) (by omega) (by omega) (by rw [sz2]; omega) (by rw [sz2]; exact growslice_fits (by omega) (by omega))
  have hgc := grownCap_ge W n 0 3
  have hgm := grownCap_le_maxLen W n 0 3 (by unfold maxLen; omega)
  generalize grownCap W n 0 3 = cap at *
  have hZ : (Builtin.zeroCells #[.int .i64 0] n ++ Builtin.zeroCells #[.int .i64 0] (cap - n)).size = cap * 1 := by
    rw [Array.size_append, size_zeroCells, size_zeroCells]
    show n * 1 + (cap - n) * 1 = _
    omega
  generalize Builtin.zeroCells #[.int .i64 0] n ++ Builtin.zeroCells #[.int .i64 0] (cap - n) = Z at *
  have A2 : Arr (W.drew.alloc (.cells Z 3)) W.heap.size 3 Z := Arr.new_at _ _ _ rfl
  have bel2 : Below W.heap.size W (W.drew.alloc (.cells Z 3)) := ((Below.refl _ W).drew).alloc (Nat.le_refl _) _
  generalize W.drew.alloc (.cells Z 3) = W2 at *
  have HE : Hid (∃ v, Ending.returned (.slice (some ⟨W.heap.size, 0, none⟩) 0 cap) = .returned v ∧ W2.ownsRow W.heap.size 3 1 v 0 [] ∧ Below W.heap.size W W2) :=
    ⟨_, rfl, ⟨rfl, .inr ⟨W.heap.size, cap, Z, rfl, Nat.le_refl _, A2, Nat.zero_le _, hgm, hZ, by simp⟩⟩, bel2⟩
  have b1 : (0 : Int) < n := by omega
  have b2 : ¬ (n : Int) < 0 := by omega
  have b3 : (n : Int) ≤ 1000 := by omega
  have b4 : (0 : Int) ≤ cap := by omega
  clear hsi sz0 sz1 sz2 hZ A2 bel2 hn
  go_enter Tryd.func82, Tryd.ntmps82
  go_wp2_with (at_builtin; refine Lib.wpList_append_run _ rfl _ _ _ _ rfl _ _ rfl rfl _ _ (hrun _) ?_)
  go_ret
  exact HE.out
/-- pieces: slices of refs, each where it lies -/
abbrev PcI := Option Addr × List Int × Nat
def catPI (Ps : List PcI) : List Int := (Ps.map (·.2.1)).flatten
theorem catP_nextI (Ps : List PcI) (k : Nat) (p : PcI) (h : Ps[k]? = some p) : catPI (Ps.take (k + 1)) = catPI (Ps.take k) ++ p.2.1 := by
  obtain ⟨hk, rfl⟩ := List.getElem?_eq_some_iff.1 h
  unfold catPI
  rw [List.take_succ_eq_append_getElem hk, List.map_append, List.flatten_append]
  simp
theorem catP_leI (Ps : List PcI) (k : Nat) : (catPI (Ps.take k)).length ≤ (catPI Ps).length := by
  have h : catPI Ps = catPI (Ps.take k) ++ catPI (Ps.drop k) := by
    unfold catPI
    rw [← List.flatten_append, ← List.map_append, List.take_append_drop]
  rw [h, List.length_append]
  omega
def PcsI (W : World) (B g : Nat) (Ps : List PcI) : Prop := ∀ k p, Ps[k]? = some p → W.cell? ⟨g, k, none⟩ = some (.slice p.1 p.2.1.length p.2.2) ∧ NumsA W B p.1 p.2.1
theorem PcsI.below {W W' : World} {B g : Nat} {Ps : List PcI} (h : PcsI W B g Ps) (hg : g < B) (b : Below B W W') : PcsI W' B g Ps := fun k p hp => by
  obtain ⟨h1, h2⟩ := h k p hp
  exact ⟨(b.cell (p := ⟨g, k, none⟩) hg).trans h1, h2.below b⟩
def CcRel1I (Ps : List PcI) (W : World) (z i : Value) (wr : World) : Prop :=
  ∃ k : Nat, k ≤ Ps.length ∧ z = .int .i64 ((catPI (Ps.take k)).length : Int) ∧ i = .int .i64 (k : Int) ∧ W = wr
def CcRel2I (Ps : List PcI) (W : World) (B : Nat) (v i : Value) (wr : World) : Prop :=
  ∃ k : Nat, k ≤ Ps.length ∧ wr.ownsRow B 3 1 v (catPI (Ps.take k)).length ((catPI (Ps.take k)).map iv) ∧ i = .int .i64 (k : Int) ∧ Below B W wr
set_option maxRecDepth 100000 in
set_option maxHeartbeats 1000000 in
theorem Concat_anyI (Ps : List PcI) (hm : Ps.length ≤ 100) (ht : (catPI Ps).length ≤ 1000) (g : Nat) (W : World) (hg : g < W.heap.size) (hP : PcsI W W.heap.size g Ps) :
    Calls Tryd.prog 59 #[.slice (some ⟨g, 0, none⟩) Ps.length Ps.length] W fun e W' => ∃ v, e = .returned v ∧ W'.ownsRow W.heap.size 3 1 v (catPI Ps).length ((catPI Ps).map iv) ∧ Below W.heap.size W W' := by
  have hle := fun k => catP_leI Ps k
  have HN := Lib.hid (fun k p h => catP_nextI Ps k p h)
  have hs1 : Hid (CcRel1I Ps W (.int .i64 0) (.int .i64 0) W) := ⟨0, Nat.zero_le _, rfl, rfl, rfl⟩
  go_enter Tryd.func59, Tryd.ntmps59
  go_wp2_with fail
  go_loopw [3, 11] (fun z i wr => CcRel1I Ps W z i wr) (fun _ i _ => Ps.length - (intOf i).toNat)
  case atStart => exact hs1.out
  case round =>
    clear hs1
    obtain ⟨k, hk, rfl, rfl, rfl⟩ := hrel
    by_cases hlt : k < Ps.length
    · have hj : (k : Int) < Ps.length := by omega
      have hx := List.getElem?_eq_getElem hlt
      obtain ⟨hc, _⟩ := hP _ _ hx
      have H1 : Hid (catPI (Ps.take (k + 1)) = catPI (Ps.take k) ++ Ps[k].2.1) := HN.out _ _ hx
      have l1 : (catPI (Ps.take k)).length + Ps[k].2.1.length ≤ 1000 := by
        have := hle (k + 1)
        rw [H1.out, List.length_append] at this
        omega
      have l2 : ((catPI (Ps.take k)).length : Int) + (Ps[k].2.1.length : Int) ≤ 1000 := by omega
      have l3 : ¬ ((catPI (Ps.take k)).length : Int) + (Ps[k].2.1.length : Int) < 0 := by omega
      clear hle hx
      go_wp2_with fail
      go_roundw
      case rel => exact ⟨k + 1, hlt, by rw [H1.out, List.length_append, Int.natCast_add], by rw [Int.natCast_add]; rfl, rfl⟩
      case measure => simp [intOf]; omega
    · obtain rfl : k = Ps.length := by omega
      have hj : ¬ (Ps.length : Int) < Ps.length := by omega
      rw [List.take_length]
      have C := Lib.hid (Grow_anyI (catPI Ps).length ht W)
      clear hle
      go_wp2_with fail
      (with_reducible refine C.out.mono ?_)
      clear C
      rintro _ w2 ⟨v, rfl, hown, b2⟩
      have hs2 : Hid (CcRel2I Ps W W.heap.size v (.int .i64 0) w2) := ⟨0, Nat.zero_le _, hown, rfl, b2⟩
      clear hown b2
      go_wp2_with fail
      go_loopw [6, 27] (fun v i w3 => CcRel2I Ps W W.heap.size v i w3) (fun _ i _ => Ps.length - (intOf i).toNat)
      case atStart => exact hs2.out
      case round =>
        clear hs2
        obtain ⟨k, hk, hown, rfl, b3⟩ := hrel
        by_cases hlt : k < Ps.length
        · have hj : (k : Int) < Ps.length := by omega
          have hx := List.getElem?_eq_getElem hlt
          obtain ⟨hc, hR⟩ := hP.below hg b3 _ _ hx
          have H1 : Hid (catPI (Ps.take (k + 1)) = catPI (Ps.take k) ++ Ps[k].2.1) := HN.out _ _ hx
          have l1 : (catPI (Ps.take k)).length + Ps[k].2.1.length ≤ 1000 := by
            have := catP_leI Ps (k + 1)
            rw [H1.out, List.length_append] at this
            omega
          obtain ⟨si, hsi, sz0, sz1, sz2⟩ := info_parts info_int
          have Hsi := Lib.hid hsi
          have Sz0 := Lib.hid sz0
          have Sz1 := Lib.hid sz1
          have Sz2 := Lib.hid sz2
          have HW := Lib.hid hR.news
          have HO := Lib.hid hown
          have HB := Lib.hid b3
          clear hsi sz0 sz1 sz2 hx hR hown
          go_wp2_with (at_builtin; refine wpList_app _ rfl _ _ 22 rfl W.heap.size 3 si _ 1 8 Tryd.underlying22 Hsi.out Sz0.out Sz1.out Sz2.out rfl (by decide) _ _ _ rfl HO.out Ps[k].1 Ps[k].2.1.length Ps[k].2.2 (Ps[k].2.1.map iv) rfl (by rw [List.length_map, Nat.mul_one]) HW.out (iv_one _) (by unfold maxLen; omega) (by omega) b3.size ?_)
          intro v' w' h1 h2
          have b4 : Below W.heap.size W w' := b3.grown h2 b3.size (fun q hq => own_at HO.out q hq)
          have h3 : Hid (w'.ownsRow W.heap.size 3 1 v' (catPI (Ps.take (k + 1))).length ((catPI (Ps.take (k + 1))).map iv)) := by
            show World.ownsRow _ _ _ _ _ _ _
            rw [H1.out, List.map_append, List.length_append]
            exact h1
          clear h1 h2 b3
          go_wp2_with fail
          go_roundw
          case rel => exact ⟨k + 1, hlt, h3.out, by rw [Int.natCast_add]; rfl, b4⟩
          case measure => simp [intOf]; omega
        · obtain rfl : k = Ps.length := by omega
          have hj : ¬ (Ps.length : Int) < Ps.length := by omega
          rw [List.take_length] at hown
          have HO := Lib.hid hown
          clear hown
          go_wp2_with fail
          go_ret
          exact ⟨_, rfl, HO.out, b3⟩
end Go.Proofs.YtbpmgpbmeganoaaDoor

/- slices.Grow at nil, slices.Concat, of lists of texts: contracts (wip/tools/genconc.py). -/
namespace Go.Proofs.YtbpmgpbmeganoaaDoor
open Go.RowKit

set_option maxRecDepth 100000 in
theorem Grow_anyT (n : Nat) (hn : n ≤ 1000) (W : World) :
    Calls Tryd.prog 83 #[.slice none 0 0, .int .i64 (n : Int)] W fun e W' => ∃ v, e = .returned v ∧ W'.ownsRow W.heap.size 9 1 v 0 [] ∧ Below W.heap.size W W' := by
  by_cases h0 : n = 0
  · subst h0
    go_enter Tryd.func83, Tryd.ntmps83
    go_wp2_with fail
    go_ret
    exact ⟨_, rfl, own_nil _ _ _ _, Below.refl _ _⟩
  obtain ⟨si, hsi, sz0, sz1, sz2⟩ := info_parts info_str
  have hrun : ∀ ty, (Builtin.append_ #[23, 3] ty #[.slice none 0 0, .int .i64 (n : Int)]).run Tryd.prog W = .ok (.slice (some ⟨W.heap.size, 0, none⟩) n (grownCap W n 0 9)) (W.drew.alloc (.cells (Builtin.zeroCells #[.string ⟨#[]⟩] n ++ Builtin.zeroCells #[.string ⟨#[]⟩] (grownCap W n 0 9 - n)) 9)) := fun ty =>
    run_append_zeros_nil (P := Tryd.prog) W 23 3 ty 9 si _ .i64 .i64 Tryd.underlying23 Tryd.underlying3 hsi sz0 0 n (by omega) (by omega) (by omega) (by omega) (by rw [sz2]; omega) (by rw [sz2]; exact growslice_fits (by omega) (by omega))
  have hgc := grownCap_ge W n 0 9
  have hgm := grownCap_le_maxLen W n 0 9 (by unfold maxLen; omega)
  generalize grownCap W n 0 9 = cap at *
  have hZ : (Builtin.zeroCells #[.string ⟨#[]⟩] n ++ Builtin.zeroCells #[.string ⟨#[]⟩] (cap - n)).size = cap * 1 := by
    rw [Array.size_append, size_zeroCells, size_zeroCells]
    show n * 1 + (cap - n) * 1 = _
    omega
  generalize Builtin.zeroCells #[.string ⟨#[]⟩] n ++ Builtin.zeroCells #[.string ⟨#[]⟩] (cap - n) = Z at *
  have A2 : Arr (W.drew.alloc (.cells Z 9)) W.heap.size 9 Z := Arr.new_at _ _ _ rfl
  have bel2 : Below W.heap.size W (W.drew.alloc (.cells Z 9)) := ((Below.refl _ W).drew).alloc (Nat.le_refl _) _
  generalize W.drew.alloc (.cells Z 9) = W2 at *
  have HE : Hid (∃ v, Ending.returned (.slice (some ⟨W.heap.size, 0, none⟩) 0 cap) = .returned v ∧ W2.ownsRow W.heap.size 9 1 v 0 [] ∧ Below W.heap.size W W2) :=
    ⟨_, rfl, ⟨rfl, .inr ⟨W.heap.size, cap, Z, rfl, Nat.le_refl _, A2, Nat.zero_le _, hgm, hZ, by simp⟩⟩, bel2⟩
  have b1 : (0 : Int) < n := by omega
  have b2 : ¬ (n : Int) < 0 := by omega
  have b3 : (n : Int) ≤ 1000 := by omega
  have b4 : (0 : Int) ≤ cap := by omega
  clear hsi sz0 sz1 sz2 hZ A2 bel2 hn
  go_enter Tryd.func83, Tryd.ntmps83
  go_wp2_with (at_builtin; refine Lib.wpList_append_run _ rfl _ _ _ _ rfl _ _ rfl rfl _ _ (hrun _) ?_)
  go_ret
  exact HE.out
/-- pieces: slices of refs, each where it lies -/
abbrev PcT := Option Addr × List ByteArray × Nat
def catPT (Ps : List PcT) : List ByteArray := (Ps.map (·.2.1)).flatten
theorem catP_nextT (Ps : List PcT) (k : Nat) (p : PcT) (h : Ps[k]? = some p) : catPT (Ps.take (k + 1)) = catPT (Ps.take k) ++ p.2.1 := by
  obtain ⟨hk, rfl⟩ := List.getElem?_eq_some_iff.1 h
  unfold catPT
  rw [List.take_succ_eq_append_getElem hk, List.map_append, List.flatten_append]
  simp
theorem catP_leT (Ps : List PcT) (k : Nat) : (catPT (Ps.take k)).length ≤ (catPT Ps).length := by
  have h : catPT Ps = catPT (Ps.take k) ++ catPT (Ps.drop k) := by
    unfold catPT
    rw [← List.flatten_append, ← List.map_append, List.take_append_drop]
  rw [h, List.length_append]
  omega
def PcsT (W : World) (B g : Nat) (Ps : List PcT) : Prop := ∀ k p, Ps[k]? = some p → W.cell? ⟨g, k, none⟩ = some (.slice p.1 p.2.1.length p.2.2) ∧ Txs W B p.1 p.2.1
theorem PcsT.below {W W' : World} {B g : Nat} {Ps : List PcT} (h : PcsT W B g Ps) (hg : g < B) (b : Below B W W') : PcsT W' B g Ps := fun k p hp => by
  obtain ⟨h1, h2⟩ := h k p hp
  exact ⟨(b.cell (p := ⟨g, k, none⟩) hg).trans h1, h2.below b⟩
def CcRel1T (Ps : List PcT) (W : World) (z i : Value) (wr : World) : Prop :=
  ∃ k : Nat, k ≤ Ps.length ∧ z = .int .i64 ((catPT (Ps.take k)).length : Int) ∧ i = .int .i64 (k : Int) ∧ W = wr
def CcRel2T (Ps : List PcT) (W : World) (B : Nat) (v i : Value) (wr : World) : Prop :=
  ∃ k : Nat, k ≤ Ps.length ∧ wr.ownsRow B 9 1 v (catPT (Ps.take k)).length ((catPT (Ps.take k)).map sv) ∧ i = .int .i64 (k : Int) ∧ Below B W wr
set_option maxRecDepth 100000 in
set_option maxHeartbeats 1000000 in
theorem Concat_anyT (Ps : List PcT) (hm : Ps.length ≤ 100) (ht : (catPT Ps).length ≤ 1000) (g : Nat) (W : World) (hg : g < W.heap.size) (hP : PcsT W W.heap.size g Ps) :
    Calls Tryd.prog 60 #[.slice (some ⟨g, 0, none⟩) Ps.length Ps.length] W fun e W' => ∃ v, e = .returned v ∧ W'.ownsRow W.heap.size 9 1 v (catPT Ps).length ((catPT Ps).map sv) ∧ Below W.heap.size W W' := by
  have hle := fun k => catP_leT Ps k
  have HN := Lib.hid (fun k p h => catP_nextT Ps k p h)
  have hs1 : Hid (CcRel1T Ps W (.int .i64 0) (.int .i64 0) W) := ⟨0, Nat.zero_le _, rfl, rfl, rfl⟩
  go_enter Tryd.func60, Tryd.ntmps60
  go_wp2_with fail
  go_loopw [3, 11] (fun z i wr => CcRel1T Ps W z i wr) (fun _ i _ => Ps.length - (intOf i).toNat)
  case atStart => exact hs1.out
  case round =>
    clear hs1
    obtain ⟨k, hk, rfl, rfl, rfl⟩ := hrel
    by_cases hlt : k < Ps.length
    · have hj : (k : Int) < Ps.length := by omega
      have hx := List.getElem?_eq_getElem hlt
      obtain ⟨hc, _⟩ := hP _ _ hx
      have H1 : Hid (catPT (Ps.take (k + 1)) = catPT (Ps.take k) ++ Ps[k].2.1) := HN.out _ _ hx
      have l1 : (catPT (Ps.take k)).length + Ps[k].2.1.length ≤ 1000 := by
        have := hle (k + 1)
        rw [H1.out, List.length_append] at this
        omega
      have l2 : ((catPT (Ps.take k)).length : Int) + (Ps[k].2.1.length : Int) ≤ 1000 := by omega
      have l3 : ¬ ((catPT (Ps.take k)).length : Int) + (Ps[k].2.1.length : Int) < 0 := by omega
      clear hle hx
      go_wp2_with fail
      go_roundw
      case rel => exact ⟨k + 1, hlt, by rw [H1.out, List.length_append, Int.natCast_add], by rw [Int.natCast_add]; rfl, rfl⟩
      case measure => simp [intOf]; omega
    · obtain rfl : k = Ps.length := by omega
      have hj : ¬ (Ps.length : Int) < Ps.length := by omega
      rw [List.take_length]
      have C := Lib.hid (Grow_anyT (catPT Ps).length ht W)
      clear hle
      go_wp2_with fail
      (with_reducible refine C.out.mono ?_)
      clear C
      rintro _ w2 ⟨v, rfl, hown, b2⟩
      have hs2 : Hid (CcRel2T Ps W W.heap.size v (.int .i64 0) w2) := ⟨0, Nat.zero_le _, hown, rfl, b2⟩
      clear hown b2
      go_wp2_with fail
      go_loopw [6, 27] (fun v i w3 => CcRel2T Ps W W.heap.size v i w3) (fun _ i _ => Ps.length - (intOf i).toNat)
      case atStart => exact hs2.out
      case round =>
        clear hs2
        obtain ⟨k, hk, hown, rfl, b3⟩ := hrel
        by_cases hlt : k < Ps.length
        · have hj : (k : Int) < Ps.length := by omega
          have hx := List.getElem?_eq_getElem hlt
          obtain ⟨hc, hR⟩ := hP.below hg b3 _ _ hx
          have H1 : Hid (catPT (Ps.take (k + 1)) = catPT (Ps.take k) ++ Ps[k].2.1) := HN.out _ _ hx
          have l1 : (catPT (Ps.take k)).length + Ps[k].2.1.length ≤ 1000 := by
            have := catP_leT Ps (k + 1)
            rw [H1.out, List.length_append] at this
            omega
          obtain ⟨si, hsi, sz0, sz1, sz2⟩ := info_parts info_str
          have Hsi := Lib.hid hsi
          have Sz0 := Lib.hid sz0
          have Sz1 := Lib.hid sz1
          have Sz2 := Lib.hid sz2
          have HW := Lib.hid hR.news
          have HO := Lib.hid hown
          have HB := Lib.hid b3
          clear hsi sz0 sz1 sz2 hx hR hown
          go_wp2_with (at_builtin; refine wpList_app _ rfl _ _ 23 rfl W.heap.size 9 si _ 1 16 Tryd.underlying23 Hsi.out Sz0.out Sz1.out Sz2.out rfl (by decide) _ _ _ rfl HO.out Ps[k].1 Ps[k].2.1.length Ps[k].2.2 (Ps[k].2.1.map sv) rfl (by rw [List.length_map, Nat.mul_one]) HW.out (sv_one _) (by unfold maxLen; omega) (by omega) b3.size ?_)
          intro v' w' h1 h2
          have b4 : Below W.heap.size W w' := b3.grown h2 b3.size (fun q hq => own_at HO.out q hq)
          have h3 : Hid (w'.ownsRow W.heap.size 9 1 v' (catPT (Ps.take (k + 1))).length ((catPT (Ps.take (k + 1))).map sv)) := by
            show World.ownsRow _ _ _ _ _ _ _
            rw [H1.out, List.map_append, List.length_append]
            exact h1
          clear h1 h2 b3
          go_wp2_with fail
          go_roundw
          case rel => exact ⟨k + 1, hlt, h3.out, by rw [Int.natCast_add]; rfl, b4⟩
          case measure => simp [intOf]; omega
        · obtain rfl : k = Ps.length := by omega
          have hj : ¬ (Ps.length : Int) < Ps.length := by omega
          rw [List.take_length] at hown
          have HO := Lib.hid hown
          clear hown
          go_wp2_with fail
          go_ret
          exact ⟨_, rfl, HO.out, b3⟩
end Go.Proofs.YtbpmgpbmeganoaaDoor

/- Lists of numbers, of texts: parts, and three pieces joined, the middle one new. -/
namespace Go.Proofs.YtbpmgpbmeganoaaDoor
open Go.RowKit

theorem own_lessS {w : World} {base B : Nat} {e : TypeId} {size : Nat} {v : Value} {n : Nat} {xs : List Value} (h : w.ownsRow base e size v n xs) (hb : B ≤ base) : w.ownsRow B e size v n xs := by
  refine ⟨h.1, ?_⟩
  rcases h.2 with hn | ⟨g, cap, cur, hv, hbs, rest⟩
  · exact .inl hn
  · exact .inr ⟨g, cap, cur, hv, Nat.le_trans hb hbs, rest⟩
theorem cat_threeI (w : World) (X Y : List Int) (r : Int) (A A' : Option Addr) (c c' x y : Nat) (hx : x = X.length) (hy : y = Y.length) (hl : X.length + Y.length ≤ 900) (W : World) (b : Below w.heap.size w W) (h : NumsA w w.heap.size A X) (h' : NumsA w w.heap.size A' Y) :
    Calls Tryd.prog 59 #[.slice (some ⟨W.heap.size + 1, 0, none⟩) 3 3] ((W.alloc (.cells #[.int .i64 r] 3)).alloc (.cells #[.slice A x c, .slice (some ⟨W.heap.size, 0, none⟩) 1 1, .slice A' y c'] 22)) fun e W' => ∃ v, e = .returned v ∧ W'.ownsRow w.heap.size 3 1 v (X ++ r :: Y).length ((X ++ r :: Y).map iv) ∧ Below w.heap.size w W' := by
  subst hx hy
  have A1 : Arr (W.alloc (.cells #[.int .i64 r] 3)) W.heap.size 3 #[.int .i64 r] := Arr.new _ _ _
  have b1 : Below w.heap.size w (W.alloc (.cells #[.int .i64 r] 3)) := b.alloc b.size _
  have hz : (W.alloc (.cells #[.int .i64 r] 3)).heap.size = W.heap.size + 1 := World.size_alloc _ _
  generalize W.alloc (.cells #[.int .i64 r] 3) = U at *
  have A0 : Arr (U.alloc (.cells #[.slice A X.length c, .slice (some ⟨W.heap.size, 0, none⟩) 1 1, .slice A' Y.length c'] 22)) U.heap.size 22 #[.slice A X.length c, .slice (some ⟨W.heap.size, 0, none⟩) 1 1, .slice A' Y.length c'] := Arr.new _ _ _
  have bu : Below U.heap.size U (U.alloc (.cells #[.slice A X.length c, .slice (some ⟨W.heap.size, 0, none⟩) 1 1, .slice A' Y.length c'] 22)) := (Below.refl _ _).alloc (Nat.le_refl _) _
  have bb := b1.trans (bu.mono b1.size)
  replace A1 := A1.below bu A1.lt
  have hlt := A0.lt
  rw [hz] at A0 hlt
  have hg : W.heap.size ≥ w.heap.size := b.size
  generalize U.alloc (.cells #[.slice A X.length c, .slice (some ⟨W.heap.size, 0, none⟩) 1 1, .slice A' Y.length c'] 22) = V at *
  have e : catPI [(A, X, c), (some ⟨W.heap.size, 0, none⟩, [r], 1), (A', Y, c')] = X ++ r :: Y := by simp [catPI]
  have q := Concat_anyI [(A, X, c), (some ⟨W.heap.size, 0, none⟩, [r], 1), (A', Y, c')] (by simp) (by rw [e, List.length_append, List.length_cons]; omega) (W.heap.size + 1) V hlt (fun k p hp => by
    match k, hp with
    | 0, hp => obtain rfl := Option.some.inj hp; exact ⟨A0.cell 0, (h.below bb).mono bb.size⟩
    | 1, hp =>
      obtain rfl := Option.some.inj hp
      refine ⟨A0.cell 1, fun k x hx => ?_⟩
      match k, hx with
      | 0, hx => obtain rfl := Option.some.inj hx; exact ⟨_, rfl, A1.lt, A1.cell 0⟩
      | k + 1, hx => simp at hx
    | 2, hp => obtain rfl := Option.some.inj hp; exact ⟨A0.cell 2, (h'.below bb).mono bb.size⟩
    | k + 3, hp => simp at hp)
  rw [e] at q
  refine q.mono ?_
  rintro e W' ⟨v, rfl, h1, h2⟩
  exact ⟨v, rfl, own_lessS h1 bb.size, bb.trans (h2.mono bb.size)⟩
/-- the same in a region that draws -/
theorem cat_drewI (w : World) (X Y : List Int) (r : Int) (A A' : Option Addr) (c c' x y : Nat) (hx : x = X.length) (hy : y = Y.length) (hl : X.length + Y.length ≤ 900) (W : World) (b : Below w.heap.size w W) (h : NumsA w w.heap.size A X) (h' : NumsA w w.heap.size A' Y) :
    Calls Tryd.prog 59 #[.slice (some ⟨W.heap.size + 1, 0, none⟩) 3 3] ((W.alloc (.cells #[.int .i64 r] 3)).alloc (.cells #[.slice A x c, .slice (some ⟨W.heap.size, 0, none⟩) 1 1, .slice A' y c'] 22)).drew fun e W' => ∃ v, e = .returned v ∧ W'.ownsRow w.heap.size 3 1 v (X ++ r :: Y).length ((X ++ r :: Y).map iv) ∧ Below w.heap.size w W' :=
  cat_threeI w X Y r A A' c c' x y hx hy hl W.drew b.drew h h'
theorem NumsA.drop' {w : World} {B : Nat} {ad : Addr} {L : List Int} (h : NumsA w B (some ad) L) (k : Nat) : NumsA w B (some (ad.add k)) (L.drop k) := fun j x hx => by
  rw [List.getElem?_drop] at hx
  obtain ⟨a, e, hb, h0⟩ := h (k + j) x hx
  cases e
  refine ⟨_, rfl, ?_⟩
  rw [Addr.add_add]
  exact ⟨hb, h0⟩
theorem NumsA.take' {w : World} {B : Nat} {A : Option Addr} {L : List Int} (h : NumsA w B A L) (k : Nat) : NumsA w B A (L.take k) := fun j x hx => by
  rw [List.getElem?_take] at hx
  split at hx
  · exact h j x hx
  · cases hx
theorem NumsA.rest' {w : World} {B : Nat} {ad : Addr} {L : List Int} (h : NumsA w B (some ad) L) (k c : Nat) (hc : L.length ≤ c) : NumsA w B (if c = k then some ad else some (ad.add k)) (L.drop k) := by
  by_cases e : c = k
  · rw [List.drop_of_length_le (by omega)]
    exact NumsA.nil _ _ _
  · rw [if_neg e]
    exact h.drop' k
theorem cat_threeT (w : World) (X Y : List ByteArray) (r : ByteArray) (A A' : Option Addr) (c c' x y : Nat) (hx : x = X.length) (hy : y = Y.length) (hl : X.length + Y.length ≤ 900) (W : World) (b : Below w.heap.size w W) (h : Txs w w.heap.size A X) (h' : Txs w w.heap.size A' Y) :
    Calls Tryd.prog 60 #[.slice (some ⟨W.heap.size + 1, 0, none⟩) 3 3] ((W.alloc (.cells #[.string r] 9)).alloc (.cells #[.slice A x c, .slice (some ⟨W.heap.size, 0, none⟩) 1 1, .slice A' y c'] 23)) fun e W' => ∃ v, e = .returned v ∧ W'.ownsRow w.heap.size 9 1 v (X ++ r :: Y).length ((X ++ r :: Y).map sv) ∧ Below w.heap.size w W' := by
  subst hx hy
  have A1 : Arr (W.alloc (.cells #[.string r] 9)) W.heap.size 9 #[.string r] := Arr.new _ _ _
  have b1 : Below w.heap.size w (W.alloc (.cells #[.string r] 9)) := b.alloc b.size _
  have hz : (W.alloc (.cells #[.string r] 9)).heap.size = W.heap.size + 1 := World.size_alloc _ _
  generalize W.alloc (.cells #[.string r] 9) = U at *
  have A0 : Arr (U.alloc (.cells #[.slice A X.length c, .slice (some ⟨W.heap.size, 0, none⟩) 1 1, .slice A' Y.length c'] 23)) U.heap.size 23 #[.slice A X.length c, .slice (some ⟨W.heap.size, 0, none⟩) 1 1, .slice A' Y.length c'] := Arr.new _ _ _
  have bu : Below U.heap.size U (U.alloc (.cells #[.slice A X.length c, .slice (some ⟨W.heap.size, 0, none⟩) 1 1, .slice A' Y.length c'] 23)) := (Below.refl _ _).alloc (Nat.le_refl _) _
  have bb := b1.trans (bu.mono b1.size)
  replace A1 := A1.below bu A1.lt
  have hlt := A0.lt
  rw [hz] at A0 hlt
  have hg : W.heap.size ≥ w.heap.size := b.size
  generalize U.alloc (.cells #[.slice A X.length c, .slice (some ⟨W.heap.size, 0, none⟩) 1 1, .slice A' Y.length c'] 23) = V at *
  have e : catPT [(A, X, c), (some ⟨W.heap.size, 0, none⟩, [r], 1), (A', Y, c')] = X ++ r :: Y := by simp [catPT]
  have q := Concat_anyT [(A, X, c), (some ⟨W.heap.size, 0, none⟩, [r], 1), (A', Y, c')] (by simp) (by rw [e, List.length_append, List.length_cons]; omega) (W.heap.size + 1) V hlt (fun k p hp => by
    match k, hp with
    | 0, hp => obtain rfl := Option.some.inj hp; exact ⟨A0.cell 0, (h.below bb).mono bb.size⟩
    | 1, hp =>
      obtain rfl := Option.some.inj hp
      refine ⟨A0.cell 1, fun k x hx => ?_⟩
      match k, hx with
      | 0, hx => obtain rfl := Option.some.inj hx; exact ⟨_, rfl, A1.lt, A1.cell 0⟩
      | k + 1, hx => simp at hx
    | 2, hp => obtain rfl := Option.some.inj hp; exact ⟨A0.cell 2, (h'.below bb).mono bb.size⟩
    | k + 3, hp => simp at hp)
  rw [e] at q
  refine q.mono ?_
  rintro e W' ⟨v, rfl, h1, h2⟩
  exact ⟨v, rfl, own_lessS h1 bb.size, bb.trans (h2.mono bb.size)⟩
/-- the same in a region that draws -/
theorem cat_drewT (w : World) (X Y : List ByteArray) (r : ByteArray) (A A' : Option Addr) (c c' x y : Nat) (hx : x = X.length) (hy : y = Y.length) (hl : X.length + Y.length ≤ 900) (W : World) (b : Below w.heap.size w W) (h : Txs w w.heap.size A X) (h' : Txs w w.heap.size A' Y) :
    Calls Tryd.prog 60 #[.slice (some ⟨W.heap.size + 1, 0, none⟩) 3 3] ((W.alloc (.cells #[.string r] 9)).alloc (.cells #[.slice A x c, .slice (some ⟨W.heap.size, 0, none⟩) 1 1, .slice A' y c'] 23)).drew fun e W' => ∃ v, e = .returned v ∧ W'.ownsRow w.heap.size 9 1 v (X ++ r :: Y).length ((X ++ r :: Y).map sv) ∧ Below w.heap.size w W' :=
  cat_threeT w X Y r A A' c c' x y hx hy hl W.drew b.drew h h'
theorem Txs.drop' {w : World} {B : Nat} {ad : Addr} {L : List ByteArray} (h : Txs w B (some ad) L) (k : Nat) : Txs w B (some (ad.add k)) (L.drop k) := fun j x hx => by
  rw [List.getElem?_drop] at hx
  obtain ⟨a, e, hb, h0⟩ := h (k + j) x hx
  cases e
  refine ⟨_, rfl, ?_⟩
  rw [Addr.add_add]
  exact ⟨hb, h0⟩
theorem Txs.take' {w : World} {B : Nat} {A : Option Addr} {L : List ByteArray} (h : Txs w B A L) (k : Nat) : Txs w B A (L.take k) := fun j x hx => by
  rw [List.getElem?_take] at hx
  split at hx
  · exact h j x hx
  · cases hx
theorem Txs.rest' {w : World} {B : Nat} {ad : Addr} {L : List ByteArray} (h : Txs w B (some ad) L) (k c : Nat) (hc : L.length ≤ c) : Txs w B (if c = k then some ad else some (ad.add k)) (L.drop k) := by
  by_cases e : c = k
  · rw [List.drop_of_length_le (by omega)]
    exact Txs.nil _ _ _
  · rw [if_neg e]
    exact h.drop' k
end Go.Proofs.YtbpmgpbmeganoaaDoor
