/- Texts in one: SpSgW, OSame, ORefSame. -/
import Derived.Test.YtenjnaebhbmfiaaDoorSpHeld
import Derived.Test.YtenjnaebhbmfiaaDoorRefMath
import Derived.Test.YtenjnaebhbmfiaaDoorRefSeal
import Derived.Test.YtenjnaebhbmfiaaDoorOMem
import Derived.Test.YtenjnaebhbmfiaaDoorWDone
import Derived.Deep.Cut
/- ref.SignStep: its contract. Written by tools/gensgw.py. -/
namespace Go.Proofs.YtenjnaebhbmfiaaDoor
open Go.RowKit

theorem one_iv (k : Int) : ∀ u ∈ [Value.int .i64 k], u.oneCell' = true := fun u hu => by
  obtain rfl := List.mem_singleton.1 hu
  rfl
theorem one_sv (t : ByteArray) : ∀ u ∈ [Value.string t], u.oneCell' = true := fun u hu => by
  obtain rfl := List.mem_singleton.1 hu
  rfl
theorem SpFar.end {w : World} {R : Sp × Int} {x : Ending} {w' : World} (h : SpFar w R x w') : SpEnd w R x w' := by
  obtain ⟨p, h1, h2, h3, _⟩ := h
  exact ⟨p, h1, h2, h3⟩
theorem Sg9.no {w W : World} {s : Sp} {p : SpAt} {q : Nat} {o1 o2 v1 v2 : Value} {N : List Int} {T : List ByteArray} (h : Sg9 w s p q o1 o2 v1 N v2 T W) (z : Int) : SpEnd w (spZ, z) (.returned (.tuple #[.agg (spArr spZ pZ), .int .i64 z])) (W.setRow (w.heap.size + 1) (spArr spZ pZ)) :=
  ⟨pZ, rfl, spZ_in _ _, below_setRow h.bel (by omega) _⟩
def S9Rel (w : World) (s : Sp) (p : SpAt) (q : Nat) (x : Int) (t : ByteArray) (v : Value) (wr : World) : Prop :=
  ∃ (k : Nat) (o1 o2 : Value), k ≤ 8 ∧ v = .int .i64 (k : Int) ∧ (x < (k : Int) → x ∉ s.who) ∧ Sg9 w s p q o1 o2 o1 ((outP s x t (k : Int)).map Prod.fst) o2 ((outP s x t (k : Int)).map Prod.snd) wr
def S9Inn (w : World) (s : Sp) (p : SpAt) (q : Nat) (x : Int) (t : ByteArray) (k : Nat) (v : Value) (wr : World) : Prop :=
  ∃ (j : Nat) (o1 o2 : Value), j ≤ s.who.length ∧ v = .int .i64 (j : Int) ∧ ((k : Int) = x → ∀ i, i < j → s.who[i]? ≠ some x) ∧
    Sg9 w s p q o1 o2 o1 ((outP s x t (k : Int) ++ hitP s (k : Int) j).map Prod.fst) o2 ((outP s x t (k : Int) ++ hitP s (k : Int) j).map Prod.snd) wr
theorem Sg9.start {w W : World} {s : Sp} {p : SpAt} (h : Sn w s p W) (x : Int) (t : ByteArray) (hg : spGood s = 0) (h0 : 0 ≤ x) :
    S9Rel w s p W.heap.size x t (.int .i64 0) ((W.alloc (.cells spZero 25)).setRow W.heap.size (spArr { s with who := [], seals := [] } pZ)) := by
  have hb : Below W.heap.size W ((W.alloc (.cells spZero 25)).setRow W.heap.size (spArr { s with who := [], seals := [] } pZ)) := below_setRow ((Below.refl _ _).alloc (Nat.le_refl _) _) (Nat.le_refl _) _
  have h2 := h.below hb
  have hlt := h.2.1.lt
  refine ⟨0, .slice none 0 0, .slice none 0 0, Nat.zero_le _, rfl, fun h => absurd h (by simp; omega), ?_⟩
  rw [show ((0 : Nat) : Int) = 0 from rfl, outP_start hg h0]
  exact ⟨h2.1, h2.2.1, (Arr.new _ _ _).row _, own_nil _ _ _ _, own_nil _ _ _ _, h2.2.2.1, h2.2.2.2.1, by omega⟩
theorem app_fst (P Q : List Sg) (k : Int) (b : ByteArray) (h : Q = P ++ [(k, b)]) : Q.map Prod.fst = P.map Prod.fst ++ [k] ∧ Q.map Prod.snd = P.map Prod.snd ++ [b] := by
  subst h
  simp
set_option maxRecDepth 100000 in
set_option maxHeartbeats 20000000 in
theorem RefSign_any (s : Sp) (p : SpAt) (i x : Int) (key : ByteArray) (w : World) (hP : SpIn w w.heap.size s p) (hr : s.ref.size ≤ 140737488355328) (hb : s.who.length ≤ 140737488355328) (hb2 : s.seals.length ≤ 140737488355328) (hk : key.size ≤ 140737488355328) (ht : Tab w) :
    Calls Tryd.prog 6 #[.agg (spArr s p), .int .i64 i, .int .i64 x, .string key] w (SpEnd w (spSign s i x key)) := by
  obtain ⟨wa, wc, sa, sc⟩ := p
  obtain ⟨si, hsi, sz0, sz1, sz2⟩ := info_parts info_str
  have Hsi := Lib.hid hsi
  have Sz0 := Lib.hid sz0
  have Sz1 := Lib.hid sz1
  have Sz2 := Lib.hid sz2
  obtain ⟨ii, hii, iz0, iz1, iz2⟩ := info_parts info_int
  have Hii := Lib.hid hii
  have Iz0 := Lib.hid iz0
  have Iz1 := Lib.hid iz1
  have Iz2 := Lib.hid iz2
  have h1 : Hid (Sn w s ⟨wa, wc, sa, sc⟩ ((w.alloc (.cells (spArr s ⟨wa, wc, sa, sc⟩) 25)).alloc (.cells spZero 25))) := by
    have A0 : Arr (w.alloc (.cells (spArr s ⟨wa, wc, sa, sc⟩) 25)) w.heap.size 25 (spArr s ⟨wa, wc, sa, sc⟩) := Arr.new _ _ _
    have b0 : Below w.heap.size w (w.alloc (.cells (spArr s ⟨wa, wc, sa, sc⟩) 25)) := (Below.refl _ _).alloc (Nat.le_refl _) _
    have hz : (w.alloc (.cells (spArr s ⟨wa, wc, sa, sc⟩) 25)).heap.size = w.heap.size + 1 := World.size_alloc _ _
    generalize w.alloc (.cells (spArr s ⟨wa, wc, sa, sc⟩) 25) = V at *
    have A1 : Arr (V.alloc (.cells spZero 25)) V.heap.size 25 spZero := Arr.new _ _ _
    have b1 : Below V.heap.size V (V.alloc (.cells spZero 25)) := (Below.refl _ _).alloc (Nat.le_refl _) _
    have bb := b0.trans (b1.mono b0.size)
    rw [hz] at A1
    exact ⟨A0.below b1 A0.lt, A1, hP.below bb, bb, ht.below bb ht.1⟩
  have CG := Lib.hid (fun V h => GoodStep_any s ⟨wa, wc, sa, sc⟩ V h hr hb hb2)
  have CB := Lib.hid (fun V => RefBody_any i s ⟨wa, wc, sa, sc⟩ V)
  have HGB : Hid (spGB i s = if spGood s ≠ 0 then (⟨#[]⟩, spGood s) else spBody i s) := rfl
  have HE : Hid (spSign s i x key = if (spGB i s).2 ≠ 0 then (spZ, (spGB i s).2) else if x < 0 ∨ 7 < x then (spZ, 3) else if x ∈ s.who then (spZ, 8) else (spPut s x (sealB key (spGB i s).1), 0)) := rfl
  have HB := Lib.hid (spGB_small i s)
  have HEq : Hid (∀ b, spGB i s = (b, 0) → spGood s = 0 → 0 ≤ x → x ≤ 7 → x ∉ s.who → spSign s i x key = (ofP s (outP s x (sealB key b) 8), 0)) := fun b h1 h2 h3 h4 h5 => sign_eq h1 h2 h3 h4 h5
  have HPi := Lib.hid hP
  clear hsi sz0 sz1 sz2 hii iz0 iz1 iz2 hP ht
  generalize spSign s i x key = R at *
  generalize spGB i s = G at *
  generalize hgs : spGood s = gs at *
  have HGS := Lib.hid hgs
  clear hgs
  generalize spBody i s = bd at *
  generalize hA : spArr s ⟨wa, wc, sa, sc⟩ = arr at *
  have HA := Lib.hid hA
  clear hA
  go_enter Tryd.func6, Tryd.ntmps6
  go_upto_region 1 with fail
  refine wp_forget (Sn w s ⟨wa, wc, sa, sc⟩) h1.out ?_
  clear h1
  intro W hW
  have hA := HA.out
  clear HA
  subst hA
  go_wp2_with (refine wpList_load_row rfl 25 _ rfl w.heap.size rfl 25 _ (0, 0) _ hW.1 Tryd.underlying25 rfl (spInfo _ _) ?_)
  have C := Lib.hid (CG.out W (hW.2.2.1.mono hW.2.2.2.1.size))
  clear CG
  (with_reducible refine C.out.mono ?_)
  rintro _ W1 ⟨rfl, b2⟩
  have hW1 := hW.below b2
  clear hW b2 C
  by_cases hG2 : gs ≠ 0
  · have hz : (gs != 0) = true := by rw [bne_iff_ne]; exact hG2
    have HR : Hid (R = (spZ, gs)) := by
      show _ = _
      rw [HE.out, HGB.out, if_pos hG2]
      exact if_pos hG2
    go_wp2_with (refine wpList_store_row rfl 25 _ _ rfl (w.heap.size + 1) (spArr spZ pZ) rfl rfl 25 spZero hW1.2.1 (spInfo _ _) rfl (spArr_one _ _) ?_)
    (try simp only [Exit.inBlock, Exit.then])
    refine bodyPost_ret (v := .tuple #[.agg (spArr spZ pZ), .int .i64 gs]) ?_ rfl (SpFar_eq HR.out (hW1.no gs)).end
    rw [results_cell_tmp Tryd.results6]
    have hld := run_loadVar_row (P := Tryd.prog) _ _ _ 25 _ _ _ (hW1.2.1.row (spArr spZ pZ)) Tryd.underlying25 rfl (spInfo spZ pZ)
    simp [asAddr, hld, Result.andThen]
  obtain rfl : gs = 0 := by simpa using hG2
  have hGB := HGB.out
  rw [if_neg (by simp)] at hGB
  subst hGB
  clear hG2 HGB
  go_wp2_with (refine wpList_load_row rfl 25 _ rfl w.heap.size rfl 25 _ (0, 0) _ hW1.1 Tryd.underlying25 rfl (spInfo _ _) ?_)
  have C := Lib.hid (CB.out W1)
  clear CB
  obtain ⟨body, z⟩ := G
  simp only at HE HB C
  (with_reducible refine C.out.mono ?_)
  rintro _ W2 ⟨rfl, b2⟩
  have hW2 := hW1.below b2
  clear hW1 b2 C
  by_cases hG2 : z ≠ 0
  · have hz : (z != 0) = true := by rw [bne_iff_ne]; exact hG2
    have HR : Hid (R = (spZ, z)) := by
      show _ = _
      rw [HE.out, if_pos hG2]
    go_wp2_with (refine wpList_store_row rfl 25 _ _ rfl (w.heap.size + 1) (spArr spZ pZ) rfl rfl 25 spZero hW2.2.1 (spInfo _ _) rfl (spArr_one _ _) ?_)
    (try simp only [Exit.inBlock, Exit.then])
    refine bodyPost_ret (v := .tuple #[.agg (spArr spZ pZ), .int .i64 z]) ?_ rfl (SpFar_eq HR.out (hW2.no z)).end
    rw [results_cell_tmp Tryd.results6]
    have hld := run_loadVar_row (P := Tryd.prog) _ _ _ 25 _ _ _ (hW2.2.1.row (spArr spZ pZ)) Tryd.underlying25 rfl (spInfo spZ pZ)
    simp [asAddr, hld, Result.andThen]
  obtain rfl : z = 0 := by simpa using hG2
  rw [if_neg (by simp)] at HE
  have hbs := HB.out rfl
  clear hG2 HB
  by_cases hx0 : x < 0
  · have HR : Hid (R = (spZ, 3)) := by
      show _ = _
      rw [HE.out, if_pos (Or.inl hx0)]
    go_wp2_with (refine wpList_store_row rfl 25 _ _ rfl (w.heap.size + 1) (spArr spZ pZ) rfl rfl 25 spZero hW2.2.1 (spInfo _ _) rfl (spArr_one _ _) ?_)
    (try simp only [Exit.inBlock, Exit.then])
    refine bodyPost_ret (v := .tuple #[.agg (spArr spZ pZ), .int .i64 3]) ?_ rfl (SpFar_eq HR.out (hW2.no 3)).end
    rw [results_cell_tmp Tryd.results6]
    have hld := run_loadVar_row (P := Tryd.prog) _ _ _ 25 _ _ _ (hW2.2.1.row (spArr spZ pZ)) Tryd.underlying25 rfl (spInfo spZ pZ)
    simp [asAddr, hld, Result.andThen]
  by_cases hx7 : 7 < x
  · have HR : Hid (R = (spZ, 3)) := by
      show _ = _
      rw [HE.out, if_pos (Or.inr hx7)]
    go_wp2_with (refine wpList_store_row rfl 25 _ _ rfl (w.heap.size + 1) (spArr spZ pZ) rfl rfl 25 spZero hW2.2.1 (spInfo _ _) rfl (spArr_one _ _) ?_)
    (try simp only [Exit.inBlock, Exit.then])
    refine bodyPost_ret (v := .tuple #[.agg (spArr spZ pZ), .int .i64 3]) ?_ rfl (SpFar_eq HR.out (hW2.no 3)).end
    rw [results_cell_tmp Tryd.results6]
    have hld := run_loadVar_row (P := Tryd.prog) _ _ _ 25 _ _ _ (hW2.2.1.row (spArr spZ pZ)) Tryd.underlying25 rfl (spInfo spZ pZ)
    simp [asAddr, hld, Result.andThen]
  rw [if_neg (by omega)] at HE
  have HEn := Lib.hid (fun h2 => HEq.out body rfl (by first | exact trivial | rfl | exact HGS.out) (by omega) (by omega) h2)
  have HTw : Hid (∀ h : x ∈ s.who, R = (spZ, 8)) := fun h => by rw [HE.out, if_pos h]
  have CSl : Hid (∀ V, Calls Tryd.prog 17 #[.string key, .string body] V fun e w' => e = .returned (.string (sealB key body)) ∧ Below V.heap.size V w') := fun V => RefSeal_any key body (by omega) (by omega) V
  have hst := Lib.hid (Sg9.start hW2 x (sealB key body) HGS.out (by omega))
  have c0 : W2.cell? ⟨w.heap.size, 0, none⟩ = some (.string s.ref) := hW2.1.cell 0
  have c1 : W2.cell? ⟨w.heap.size, 1, none⟩ = some (.string s.old) := hW2.1.cell 1
  have c2 : W2.cell? ⟨w.heap.size, 2, none⟩ = some (.string s.new) := hW2.1.cell 2
  obtain ⟨_, hw8, hl, _⟩ := spGood_ok HGS.out
  have HL := Lib.hid hl
  have HF1 : Hid (∀ w : Int, (outP s x (sealB key body) w).length ≤ 9) := fun w => outP_few HGS.out w
  have HF2 : Hid (∀ (w : Int) (j : Nat), (hitP s w j).length ≤ 8) := fun w j => hitP_few HGS.out w j
  have HNx : Hid (∀ k : Int, (x ≤ k → x ∉ s.who) → outP s x (sealB key body) (k + 1) = outP s x (sealB key body) k ++ hitP s k s.who.length ++ (if k = x then [(x, sealB key body)] else [])) := fun k hn => by
    rw [hitP_all HGS.out]
    exact outP_next HGS.out (by omega) (by omega) (sealB_size _ _) hn
  clear HE HEq hl hW2
  generalize sealB key body = t at *
  go_upto_region 10 with (refine wpList_store_row rfl 25 _ _ rfl W2.heap.size (spArr { s with who := [], seals := [] } pZ) rfl rfl 25 spZero (Arr.new W2 _ _) (spInfo _ _) rfl (spArr_one _ _) ?_)
  refine wp_forget (S9Rel w s ⟨wa, wc, sa, sc⟩ W2.heap.size x t (.int .i64 0)) (by exact hst.out) ?_
  clear hst c0 c1 c2
  generalize W2.heap.size = q
  intro V hV
  have hst := Lib.hid hV
  clear hV
  go_wp2_with fail
  go_loopw [46] (fun v wr => S9Rel w s ⟨wa, wc, sa, sc⟩ q x t v wr) (fun v _ => 8 - (intOf v).toNat)
  case atStart => exact hst.out
  case round =>
    clear hst
    obtain ⟨k, o1, o2, hk8, rfl, hno1, hX⟩ := hrel
    by_cases hlt8 : k < 8
    · have hk2 : (k : Int) < 8 := by omega
      have c3 : wr.cell? ⟨w.heap.size, 3, none⟩ = some (.slice wa s.who.length wc) := hX.box.cell 3
      have hst : Hid (S9Inn w s ⟨wa, wc, sa, sc⟩ q x t k (.int .i64 0) wr) := ⟨0, o1, o2, Nat.zero_le _, rfl, fun _ i hi => absurd hi (Nat.not_lt_zero i), by rw [hitP_zero, List.append_nil]; exact hX⟩
      have Hno1 := Lib.hid hno1
      clear hX hno1
      go_wp2_with fail
      clear c3
      go_loopw [52] (fun v wr => S9Inn w s ⟨wa, wc, sa, sc⟩ q x t k v wr) (fun v _ => s.who.length - (intOf v).toNat)
      case atStart => exact hst.out
      case round =>
        clear hst
        obtain ⟨j, o1, o2, hj, rfl, hno, hX⟩ := hrel
        by_cases hlt : j < s.who.length
        · have hji : (j : Int) < s.who.length := by omega
          have hlt2 : j < s.seals.length := by have := HL.out; omega
          have hji2 : (j : Int) < s.seals.length := by omega
          have e1 := List.getElem?_eq_getElem hlt
          have e2 := List.getElem?_eq_getElem hlt2
          have HN2 := Lib.hid (hitP_next e1 e2 (k : Int))
          have HW := Lib.hid e1
          obtain ⟨ad, rfl, hbl, h0⟩ := HPi.out.nums j s.who[j] e1
          obtain ⟨sad, rfl, hbl2, h1⟩ := HPi.out.txs j s.seals[j] e2
          have g0 := (hX.bel.cell hbl).trans h0
          have g1 := (hX.bel.cell hbl2).trans h1
          have c3 : wr.cell? ⟨w.heap.size, 3, none⟩ = some (.slice (some ad) s.who.length wc) := hX.box.cell 3
          clear h0 e1 e2
          generalize s.who[j] = y at *
          generalize s.seals[j] = b at *
          by_cases hy : y = (k : Int)
          · subst hy
            have hyy : ((k : Int) != (k : Int)) = false := by simp
            by_cases hkx : (k : Int) = x
            · have hR := HTw.out (by rw [← hkx]; exact List.mem_of_getElem? HW.out)
              subst hkx
              have HR := Lib.hid hR
              have hres := hX.res
              have HXn := Lib.hid (hX.no 8)
              clear hR h1
              go_wp2_with (refine wpList_store_row rfl 25 _ _ rfl (w.heap.size + 1) (spArr spZ pZ) rfl rfl 25 spZero hres (spInfo _ _) rfl (spArr_one _ _) ?_)
              (try simp only [Exit.inBlock, Exit.then])
              refine bodyPost_ret (v := .tuple #[.agg (spArr spZ pZ), .int .i64 8]) ?_ rfl (SpEnd_eq HR.out HXn.out)
              rw [results_cell_tmp Tryd.results6]
              have hld := run_loadVar_row (P := Tryd.prog) _ _ _ 25 _ _ _ (hres.row (spArr spZ pZ)) Tryd.underlying25 rfl (spInfo spZ pZ)
              simp [asAddr, hld, Result.andThen]
            · have hkx2 : ((k : Int) == x) = false := by rw [beq_eq_false_iff_ne]; exact hkx
              have hno : Hid ((k : Int) = x → ∀ i, i < j + 1 → s.who[i]? ≠ some x) := fun h => absurd h hkx
              have hle1 := HF1.out (k : Int)
              have hle2 := HF2.out (k : Int) j
              have hq1 : ((outP s x t (k : Int) ++ hitP s (k : Int) j).map Prod.fst).length ≤ 100 := by rw [List.length_map, List.length_append]; omega
              have hq2 : ((outP s x t (k : Int) ++ hitP s (k : Int) j).map Prod.snd).length ≤ 100 := by rw [List.length_map, List.length_append]; omega
              have hPn : Hid ((outP s x t (k : Int) ++ hitP s (k : Int) (j + 1)).map Prod.fst = (outP s x t (k : Int) ++ hitP s (k : Int) j).map Prod.fst ++ [(k : Int)] ∧ (outP s x t (k : Int) ++ hitP s (k : Int) (j + 1)).map Prod.snd = (outP s x t (k : Int) ++ hitP s (k : Int) j).map Prod.snd ++ [b]) := by
                refine app_fst _ _ _ _ ?_
                rw [HN2.out, if_pos rfl, List.append_assoc]
              have hst2 : True := trivial
              clear hle1 hle2 HN2
              generalize (outP s x t (k : Int) ++ hitP s (k : Int) j).map Prod.fst = N at *
              generalize (outP s x t (k : Int) ++ hitP s (k : Int) j).map Prod.snd = T at *
              obtain ⟨A1, c1, rfl⟩ := own_slice hX.own1
              obtain ⟨A2, c2, rfl⟩ := own_slice hX.own2
              go_wp2_with fail
              have bA := (Below.refl wr.heap.size wr).alloc (Nat.le_refl _) (.cells #[.int .i64 (k : Int)] 3)
              have bD := (Below.refl wr.heap.size wr).alloc (Nat.le_refl _) (.cells #[.string b] 9)
              have H0 := Lib.hid (hX.below (Below.refl _ wr).drew)
              have HA := Lib.hid (hX.below bA.drew)
              have HC0 := Lib.hid (hX.below bD.drew)
              have HB := Lib.hid (hX.below (bA.alloc bA.size (.cells #[.string b] 9)).drew)
              have HC := Lib.hid (hX.below (bD.alloc bD.size (.cells #[.int .i64 (k : Int)] 3)).drew)
              have aA : Arr ((wr.alloc (.cells #[.int .i64 (k : Int)] 3)).drew) wr.heap.size 3 #[.int .i64 (k : Int)] := (Arr.new wr _ _).drew
              have aB : Arr (((wr.alloc (.cells #[.int .i64 (k : Int)] 3)).alloc (.cells #[.string b] 9)).drew) wr.heap.size 3 #[.int .i64 (k : Int)] := ((Arr.new wr _ _).alloc _).drew
              have aB2 : Arr (((wr.alloc (.cells #[.int .i64 (k : Int)] 3)).alloc (.cells #[.string b] 9)).drew) (wr.heap.size + 1) 9 #[.string b] := (Arr.new_at (wr.alloc (.cells #[.int .i64 (k : Int)] 3)) _ _ (World.size_alloc _ _).symm).drew
              have aC : Arr (((wr.alloc (.cells #[.string b] 9)).alloc (.cells #[.int .i64 (k : Int)] 3)).drew) (wr.heap.size + 1) 3 #[.int .i64 (k : Int)] := (Arr.new_at (wr.alloc (.cells #[.string b] 9)) _ _ (World.size_alloc _ _).symm).drew
              have aC2 : Arr (((wr.alloc (.cells #[.string b] 9)).alloc (.cells #[.int .i64 (k : Int)] 3)).drew) wr.heap.size 9 #[.string b] := ((Arr.new wr _ _).alloc _).drew
              have nA := Lib.hid (news_one (aA.cell 0))
              have nB := Lib.hid (news_one (aB.cell 0))
              have nC := Lib.hid (news_one (aC.cell 0))
              have FB := Lib.hid aB2
              have FC := Lib.hid aC2
              have HO : Hid (some wr.heap.size ≠ Value.ownBlock (.slice A1 N.length c1) ∧ some (wr.heap.size + 1) ≠ Value.ownBlock (.slice A1 N.length c1)) := ⟨fun e => by have := own_top hX.own1 _ e.symm; omega, fun e => by have := own_top hX.own1 _ e.symm; omega⟩
              have y3 : wr.drew.cell? ⟨q, 3, none⟩ = some (.slice A1 N.length c1) := hX.out.cell 3
              have y4 : wr.drew.cell? ⟨q, 4, none⟩ = some (.slice A2 T.length c2) := hX.out.cell 4
              have y5 : wr.drew.cell? ⟨w.heap.size, 4, none⟩ = some (.slice (some sad) s.seals.length sc) := hX.box.cell 4
              have y6 : wr.drew.cell? (sad.add j) = some (.string b) := g1
              have yA3 : ((wr.alloc (.cells #[.int .i64 (k : Int)] 3)).drew).cell? ⟨q, 3, none⟩ = some (.slice A1 N.length c1) := HA.out.out.cell 3
              have yA4 : ((wr.alloc (.cells #[.int .i64 (k : Int)] 3)).drew).cell? ⟨q, 4, none⟩ = some (.slice A2 T.length c2) := HA.out.out.cell 4
              have yA5 : ((wr.alloc (.cells #[.int .i64 (k : Int)] 3)).drew).cell? ⟨w.heap.size, 4, none⟩ = some (.slice (some sad) s.seals.length sc) := HA.out.box.cell 4
              have yA6 : ((wr.alloc (.cells #[.int .i64 (k : Int)] 3)).drew).cell? (sad.add j) = some (.string b) := (HA.out.bel.cell hbl2).trans h1
              have yD3 : ((wr.alloc (.cells #[.string b] 9)).drew).cell? ⟨q, 3, none⟩ = some (.slice A1 N.length c1) := HC0.out.out.cell 3
              have yD4 : ((wr.alloc (.cells #[.string b] 9)).drew).cell? ⟨q, 4, none⟩ = some (.slice A2 T.length c2) := HC0.out.out.cell 4
              have yD5 : ((wr.alloc (.cells #[.string b] 9)).drew).cell? ⟨w.heap.size, 4, none⟩ = some (.slice (some sad) s.seals.length sc) := HC0.out.box.cell 4
              have yD6 : ((wr.alloc (.cells #[.string b] 9)).drew).cell? (sad.add j) = some (.string b) := (HC0.out.bel.cell hbl2).trans h1
              have yB3 : (((wr.alloc (.cells #[.int .i64 (k : Int)] 3)).alloc (.cells #[.string b] 9)).drew).cell? ⟨q, 3, none⟩ = some (.slice A1 N.length c1) := HB.out.out.cell 3
              have yB4 : (((wr.alloc (.cells #[.int .i64 (k : Int)] 3)).alloc (.cells #[.string b] 9)).drew).cell? ⟨q, 4, none⟩ = some (.slice A2 T.length c2) := HB.out.out.cell 4
              have yB5 : (((wr.alloc (.cells #[.int .i64 (k : Int)] 3)).alloc (.cells #[.string b] 9)).drew).cell? ⟨w.heap.size, 4, none⟩ = some (.slice (some sad) s.seals.length sc) := HB.out.box.cell 4
              have yB6 : (((wr.alloc (.cells #[.int .i64 (k : Int)] 3)).alloc (.cells #[.string b] 9)).drew).cell? (sad.add j) = some (.string b) := (HB.out.bel.cell hbl2).trans h1
              have yC3 : (((wr.alloc (.cells #[.string b] 9)).alloc (.cells #[.int .i64 (k : Int)] 3)).drew).cell? ⟨q, 3, none⟩ = some (.slice A1 N.length c1) := HC.out.out.cell 3
              have yC4 : (((wr.alloc (.cells #[.string b] 9)).alloc (.cells #[.int .i64 (k : Int)] 3)).drew).cell? ⟨q, 4, none⟩ = some (.slice A2 T.length c2) := HC.out.out.cell 4
              have yC5 : (((wr.alloc (.cells #[.string b] 9)).alloc (.cells #[.int .i64 (k : Int)] 3)).drew).cell? ⟨w.heap.size, 4, none⟩ = some (.slice (some sad) s.seals.length sc) := HC.out.box.cell 4
              have yC6 : (((wr.alloc (.cells #[.string b] 9)).alloc (.cells #[.int .i64 (k : Int)] 3)).drew).cell? (sad.add j) = some (.string b) := (HC.out.bel.cell hbl2).trans h1
              have yA3 : ((wr.alloc (.cells #[.int .i64 (k : Int)] 3)).drew).cell? ⟨q, 3, none⟩ = some (.slice A1 N.length c1) := HA.out.out.cell 3
              have yA4 : ((wr.alloc (.cells #[.int .i64 (k : Int)] 3)).drew).cell? ⟨q, 4, none⟩ = some (.slice A2 T.length c2) := HA.out.out.cell 4
              have yA5 : ((wr.alloc (.cells #[.int .i64 (k : Int)] 3)).drew).cell? ⟨w.heap.size, 4, none⟩ = some (.slice (some sad) s.seals.length sc) := HA.out.box.cell 4
              have yA6 : ((wr.alloc (.cells #[.int .i64 (k : Int)] 3)).drew).cell? (sad.add j) = some (.string b) := (HA.out.bel.cell hbl2).trans h1
              have yD3 : ((wr.alloc (.cells #[.string b] 9)).drew).cell? ⟨q, 3, none⟩ = some (.slice A1 N.length c1) := HC0.out.out.cell 3
              have yD4 : ((wr.alloc (.cells #[.string b] 9)).drew).cell? ⟨q, 4, none⟩ = some (.slice A2 T.length c2) := HC0.out.out.cell 4
              have yD5 : ((wr.alloc (.cells #[.string b] 9)).drew).cell? ⟨w.heap.size, 4, none⟩ = some (.slice (some sad) s.seals.length sc) := HC0.out.box.cell 4
              have yD6 : ((wr.alloc (.cells #[.string b] 9)).drew).cell? (sad.add j) = some (.string b) := (HC0.out.bel.cell hbl2).trans h1
              have yB3 : (((wr.alloc (.cells #[.int .i64 (k : Int)] 3)).alloc (.cells #[.string b] 9)).drew).cell? ⟨q, 3, none⟩ = some (.slice A1 N.length c1) := HB.out.out.cell 3
              have yB4 : (((wr.alloc (.cells #[.int .i64 (k : Int)] 3)).alloc (.cells #[.string b] 9)).drew).cell? ⟨q, 4, none⟩ = some (.slice A2 T.length c2) := HB.out.out.cell 4
              have yB5 : (((wr.alloc (.cells #[.int .i64 (k : Int)] 3)).alloc (.cells #[.string b] 9)).drew).cell? ⟨w.heap.size, 4, none⟩ = some (.slice (some sad) s.seals.length sc) := HB.out.box.cell 4
              have yB6 : (((wr.alloc (.cells #[.int .i64 (k : Int)] 3)).alloc (.cells #[.string b] 9)).drew).cell? (sad.add j) = some (.string b) := (HB.out.bel.cell hbl2).trans h1
              have yC3 : (((wr.alloc (.cells #[.string b] 9)).alloc (.cells #[.int .i64 (k : Int)] 3)).drew).cell? ⟨q, 3, none⟩ = some (.slice A1 N.length c1) := HC.out.out.cell 3
              have yC4 : (((wr.alloc (.cells #[.string b] 9)).alloc (.cells #[.int .i64 (k : Int)] 3)).drew).cell? ⟨q, 4, none⟩ = some (.slice A2 T.length c2) := HC.out.out.cell 4
              have yC5 : (((wr.alloc (.cells #[.string b] 9)).alloc (.cells #[.int .i64 (k : Int)] 3)).drew).cell? ⟨w.heap.size, 4, none⟩ = some (.slice (some sad) s.seals.length sc) := HC.out.box.cell 4
              have yC6 : (((wr.alloc (.cells #[.string b] 9)).alloc (.cells #[.int .i64 (k : Int)] 3)).drew).cell? (sad.add j) = some (.string b) := (HC.out.bel.cell hbl2).trans h1
              clear aA aB aB2 aC aC2 bA bD hX g0 g1 hst2
              apply wp_more1 (R := fun A c A2 c2 V => Sg9 w s ⟨some ad, wc, some sad, sc⟩ q (.slice A (N.length + 1) c) (.slice A2 (T.length + 1) c2) (.slice A (N.length + 1) c) (N ++ [(k : Int)]) (.slice A2 (T.length + 1) c2) (T ++ [b]) V)
              case h =>
                intro K' hK'
                refine beginL (fun w' => w'.cell? ⟨q, 3, none⟩ = some (.slice A1 N.length c1) ∧ w'.cell? ⟨q, 4, none⟩ = some (.slice A2 T.length c2) ∧ w'.cell? ⟨w.heap.size, 4, none⟩ = some (.slice (some sad) s.seals.length sc) ∧ w'.cell? (sad.add j) = some (.string b)) 15 (by kernel_rfl) ⟨y3, y4, y5, y6⟩ ?_
                refine takeL 0 66 (.pointer (some ⟨q, 3, none⟩)) [13, 4, 1, 0] rfl rfl (by kernel_rfl) (by kernel_rfl) (by kernel_rfl) (fun _ _ _ h => h) (by rfl) (by decide) (by kernel_rfl) rfl (fun w hSw => ?_) ?_
                · obtain ⟨e0, e1, e2, e3⟩ := hSw
                  first
                  | (go_simp; done)
                  | (go_simp; with_reducible rfl)
                simp only [List.setIfInBounds_toArray, List.set_cons_zero, List.set_cons_succ]
                refine takeL 1 67 (.slice A1 N.length c1) [13, 4, 1] rfl rfl (by kernel_rfl) (by kernel_rfl) (by kernel_rfl) (fun _ _ _ h => h) (by rfl) (by decide) (by kernel_rfl) rfl (fun w hSw => ?_) ?_
                · obtain ⟨e0, e1, e2, e3⟩ := hSw
                  first
                  | (go_simp; done)
                  | (go_simp; with_reducible rfl)
                simp only [List.setIfInBounds_toArray, List.set_cons_zero, List.set_cons_succ]
                refine takeL 2 68 (.int .i64 (k : Int)) [13, 4, 3, 2] rfl rfl (by kernel_rfl) (by kernel_rfl) (by kernel_rfl) (fun _ _ _ h => h) (by rfl) (by decide) (by kernel_rfl) rfl (fun w hSw => ?_) ?_
                · obtain ⟨e0, e1, e2, e3⟩ := hSw
                  first
                  | (go_simp; done)
                  | (go_simp; with_reducible rfl)
                simp only [List.setIfInBounds_toArray, List.set_cons_zero, List.set_cons_succ]
                refine takeL 5 71 (.pointer (some ⟨q, 4, none⟩)) [13, 6, 5] rfl rfl (by kernel_rfl) (by kernel_rfl) (by kernel_rfl) (fun _ _ _ h => h) (by rfl) (by decide) (by kernel_rfl) rfl (fun w hSw => ?_) ?_
                · obtain ⟨e0, e1, e2, e3⟩ := hSw
                  first
                  | (go_simp; done)
                  | (go_simp; with_reducible rfl)
                simp only [List.setIfInBounds_toArray, List.set_cons_zero, List.set_cons_succ]
                refine takeL 6 72 (.slice A2 T.length c2) [13, 6] rfl rfl (by kernel_rfl) (by kernel_rfl) (by kernel_rfl) (fun _ _ _ h => h) (by rfl) (by decide) (by kernel_rfl) rfl (fun w hSw => ?_) ?_
                · obtain ⟨e0, e1, e2, e3⟩ := hSw
                  first
                  | (go_simp; done)
                  | (go_simp; with_reducible rfl)
                simp only [List.setIfInBounds_toArray, List.set_cons_zero, List.set_cons_succ]
                refine takeL 7 73 (.pointer (some ⟨w.heap.size, 4, none⟩)) [13, 12, 11, 10, 8, 7] rfl rfl (by kernel_rfl) (by kernel_rfl) (by kernel_rfl) (fun _ _ _ h => h) (by rfl) (by decide) (by kernel_rfl) rfl (fun w hSw => ?_) ?_
                · obtain ⟨e0, e1, e2, e3⟩ := hSw
                  first
                  | (go_simp; done)
                  | (go_simp; with_reducible rfl)
                simp only [List.setIfInBounds_toArray, List.set_cons_zero, List.set_cons_succ]
                refine takeL 8 74 (.slice (some sad) s.seals.length sc) [13, 12, 11, 10, 8] rfl rfl (by kernel_rfl) (by kernel_rfl) (by kernel_rfl) (fun _ _ _ h => h) (by rfl) (by decide) (by kernel_rfl) rfl (fun w hSw => ?_) ?_
                · obtain ⟨e0, e1, e2, e3⟩ := hSw
                  first
                  | (go_simp; done)
                  | (go_simp; with_reducible rfl)
                simp only [List.setIfInBounds_toArray, List.set_cons_zero, List.set_cons_succ]
                refine takeL 9 75 (.int .i64 (j : Int)) [13, 12, 11, 10, 9] rfl rfl (by kernel_rfl) (by kernel_rfl) (by kernel_rfl) (fun _ _ _ h => h) (by rfl) (by decide) (by kernel_rfl) rfl (fun w hSw => ?_) ?_
                · obtain ⟨e0, e1, e2, e3⟩ := hSw
                  first
                  | (go_simp; done)
                  | (go_simp; with_reducible rfl)
                simp only [List.setIfInBounds_toArray, List.set_cons_zero, List.set_cons_succ]
                refine takeL 10 76 (.pointer (some (sad.add j))) [13, 12, 11, 10] rfl rfl (by kernel_rfl) (by kernel_rfl) (by kernel_rfl) (fun _ _ _ h => h) (by rfl) (by decide) (by kernel_rfl) rfl (fun w hSw => ?_) ?_
                · obtain ⟨e0, e1, e2, e3⟩ := hSw
                  first
                  | (go_simp; done)
                  | (go_simp; with_reducible rfl)
                simp only [List.setIfInBounds_toArray, List.set_cons_zero, List.set_cons_succ]
                refine takeL 11 77 (.string b) [13, 12, 11] rfl rfl (by kernel_rfl) (by kernel_rfl) (by kernel_rfl) (fun _ _ _ h => h) (by rfl) (by decide) (by kernel_rfl) rfl (fun w hSw => ?_) ?_
                · obtain ⟨e0, e1, e2, e3⟩ := hSw
                  first
                  | (go_simp; done)
                  | (go_simp; with_reducible rfl)
                simp only [List.setIfInBounds_toArray, List.set_cons_zero, List.set_cons_succ]
                refine readyL2 (i := 3) (j := 12) (by kernel_rfl) rfl rfl (fun K2 hK2 => ?_) (fun K2 hK2 => ?_)
                · go_simp
                  refine hK2.out _ _ (Or.inr ⟨yA3, yA4, yA5, yA6⟩) ?_
                  clear hK2 K2
                  (try simp only [Act.put, List.setIfInBounds_toArray, List.set_cons_zero, List.set_cons_succ])
                  refine readyL2 (i := 4) (j := 12) (by kernel_rfl) rfl rfl (fun K2 hK2 => ?_) (fun K2 hK2 => ?_)
                  · refine step_app _ rfl _ _ 22 rfl (q + 1) 3 ii _ 1 8 Tryd.underlying22 Hii.out Iz0.out Iz1.out Iz2.out rfl (by decide) (.slice A1 N.length c1) N.length (N.map iv) rfl (by exact HA.out.own1) (some ⟨wr.heap.size, 0, none⟩) 1 1 [.int .i64 (k : Int)] rfl rfl (by exact nA.out) (one_iv _) (by unfold maxLen; omega) (by omega) (by exact HA.out.out.lt) ?_
                    intro vI wI oI gI
                    have H1 := Lib.hid (HA.out.appI oI gI)
                    obtain ⟨A9, c9, rfl⟩ := own_slice oI
                    have x3 : wI.cell? ⟨q, 3, none⟩ = some (.slice A1 N.length c1) := H1.out.out.cell 3
                    have x4 : wI.cell? ⟨q, 4, none⟩ = some (.slice A2 T.length c2) := H1.out.out.cell 4
                    have x5 : wI.cell? ⟨w.heap.size, 4, none⟩ = some (.slice (some sad) s.seals.length sc) := H1.out.box.cell 4
                    have x6 : wI.cell? (sad.add j) = some (.string b) := (H1.out.bel.cell hbl2).trans h1
                    refine hK2.out _ _ (Or.inr ⟨x3, x4, x5, x6⟩) ?_
                    clear hK2 K2
                    (try simp only [Act.put, List.setIfInBounds_toArray])
                    refine takeL 14 80 (.pointer (some ⟨q, 3, none⟩)) [14] rfl rfl (by kernel_rfl) (by kernel_rfl) (by kernel_rfl) (fun _ _ _ h => h) (by rfl) (by decide) (by kernel_rfl) rfl (fun w hSw => ?_) ?_
                    · obtain ⟨e0, e1, e2, e3⟩ := hSw
                      first
                      | (go_simp; done)
                      | (go_simp; with_reducible rfl)
                    simp only [List.setIfInBounds_toArray, List.set_cons_zero, List.set_cons_succ]
                    have H2 := Lib.hid (H1.out.below ((Below.refl _ wI).alloc (Nat.le_refl _) (.cells #[.string b] 9)))
                    have nT := Lib.hid (news_one ((Arr.new wI 9 #[.string b]).cell 0))
                    have u3 : (wI.alloc (.cells #[.string b] 9)).cell? ⟨q, 3, none⟩ = some (.slice A1 N.length c1) := H2.out.out.cell 3
                    have u4 : (wI.alloc (.cells #[.string b] 9)).cell? ⟨q, 4, none⟩ = some (.slice A2 T.length c2) := H2.out.out.cell 4
                    have u5 : (wI.alloc (.cells #[.string b] 9)).cell? ⟨w.heap.size, 4, none⟩ = some (.slice (some sad) s.seals.length sc) := H2.out.box.cell 4
                    have u6 : (wI.alloc (.cells #[.string b] 9)).cell? (sad.add j) = some (.string b) := (H2.out.bel.cell hbl2).trans h1
                    refine readyL1 (i := 12) (by kernel_rfl) rfl (fun K2 hK2 => ?_)
                    go_simp
                    refine hK2.out _ _ (Or.inr ⟨u3, u4, u5, u6⟩) ?_
                    clear hK2 K2
                    (try simp only [Act.put, List.setIfInBounds_toArray, List.set_cons_zero, List.set_cons_succ])
                    refine readyL1 (i := 13) (by kernel_rfl) rfl (fun K2 hK2 => ?_)
                    refine step_app _ rfl _ _ 23 rfl (q + 1) 9 si _ 1 16 Tryd.underlying23 Hsi.out Sz0.out Sz1.out Sz2.out rfl (by decide) (.slice A2 T.length c2) T.length (T.map sv) rfl (by exact H2.out.own2) (some ⟨wI.heap.size, 0, none⟩) 1 1 [.string b] rfl rfl (by exact nT.out) (one_sv _) (by unfold maxLen; omega) (by omega) (by exact H2.out.out.lt) ?_
                    intro vT wT oT gT
                    have H3 := Lib.hid (H2.out.appT oT gT)
                    obtain ⟨A10, c10, rfl⟩ := own_slice oT
                    have hfin := Lib.hid H3.out.put
                    have hbx := H3.out.out
                    have z3 : wT.cell? ⟨q, 3, none⟩ = some (.slice A1 N.length c1) := hbx.cell 3
                    have z4 := hbx.free 3
                    have hbx2 := hbx.put 3 (.slice A9 (N.length + 1) c9)
                    have z5 : (wT.setCell ⟨q, 3, none⟩ (.slice A9 (N.length + 1) c9)).cell? ⟨q, 4, none⟩ = some (.slice A2 T.length c2) := hbx2.cell 4
                    have z6 := hbx2.free 4
                    have t4 : wT.cell? ⟨q, 4, none⟩ = some (.slice A2 T.length c2) := H3.out.out.cell 4
                    have t5 : wT.cell? ⟨w.heap.size, 4, none⟩ = some (.slice (some sad) s.seals.length sc) := H3.out.box.cell 4
                    have t6 : wT.cell? (sad.add j) = some (.string b) := (H3.out.bel.cell hbl2).trans h1
                    refine hK2.out _ _ (Or.inr ⟨z3, t4, t5, t6⟩) ?_
                    clear hK2 K2
                    (try simp only [Act.put, List.setIfInBounds_toArray])
                    refine readyL1 (i := 15) (by kernel_rfl) rfl (fun K2 hK2 => ?_)
                    go_simp
                    refine hK2.out _ _ (Or.inl (by kernel_rfl)) ?_
                    clear hK2 K2
                    (try simp only [Act.put, List.setIfInBounds_toArray])
                    refine readyL1 (i := 16) (by kernel_rfl) rfl (fun K2 hK2 => ?_)
                    go_simp
                    refine hK2.out _ _ (Or.inl (by kernel_rfl)) ?_
                    clear hK2 K2
                    (try simp only [Act.put, List.setIfInBounds_toArray, List.set_cons_zero, List.set_cons_succ])
                    refine readyL1 (i := 17) (by kernel_rfl) rfl (fun K2 hK2 => ?_)
                    go_simp
                    refine hK2.out _ _ (Or.inl (by kernel_rfl)) ?_
                    clear hK2 K2
                    (try simp only [Act.put, List.setIfInBounds_toArray])
                    refine doneL (by kernel_rfl) ?_
                    (try simp only [Exit.inBlock, Exit.then])
                    generalize wI.heap.size = n2
                    generalize wr.heap.size = n1
                    exact hK' A9 c9 A10 c10 n1 n2 _ hfin.out
                  · go_simp
                    refine hK2.out _ _ (Or.inr ⟨yB3, yB4, yB5, yB6⟩) ?_
                    clear hK2 K2
                    (try simp only [Act.put, List.setIfInBounds_toArray, List.set_cons_zero, List.set_cons_succ])
                    refine readyL1 (i := 4) (by kernel_rfl) rfl (fun K2 hK2 => ?_)
                    refine step_app _ rfl _ _ 22 rfl (q + 1) 3 ii _ 1 8 Tryd.underlying22 Hii.out Iz0.out Iz1.out Iz2.out rfl (by decide) (.slice A1 N.length c1) N.length (N.map iv) rfl (by exact HB.out.own1) (some ⟨wr.heap.size, 0, none⟩) 1 1 [.int .i64 (k : Int)] rfl rfl (by exact nB.out) (one_iv _) (by unfold maxLen; omega) (by omega) (by exact HB.out.out.lt) ?_
                    intro vI wI oI gI
                    have H1 := Lib.hid (HB.out.appI oI gI)
                    obtain ⟨A9, c9, rfl⟩ := own_slice oI
                    have x3 : wI.cell? ⟨q, 3, none⟩ = some (.slice A1 N.length c1) := H1.out.out.cell 3
                    have x4 : wI.cell? ⟨q, 4, none⟩ = some (.slice A2 T.length c2) := H1.out.out.cell 4
                    have x5 : wI.cell? ⟨w.heap.size, 4, none⟩ = some (.slice (some sad) s.seals.length sc) := H1.out.box.cell 4
                    have x6 : wI.cell? (sad.add j) = some (.string b) := (H1.out.bel.cell hbl2).trans h1
                    have nU := Lib.hid (news_one ((FB.out.kept gI HO.out.2).cell 0))
                    refine hK2.out _ _ (Or.inr ⟨x3, x4, x5, x6⟩) ?_
                    clear hK2 K2
                    (try simp only [Act.put, List.setIfInBounds_toArray])
                    refine takeL 14 80 (.pointer (some ⟨q, 3, none⟩)) [14] rfl rfl (by kernel_rfl) (by kernel_rfl) (by kernel_rfl) (fun _ _ _ h => h) (by rfl) (by decide) (by kernel_rfl) rfl (fun w hSw => ?_) ?_
                    · obtain ⟨e0, e1, e2, e3⟩ := hSw
                      first
                      | (go_simp; done)
                      | (go_simp; with_reducible rfl)
                    simp only [List.setIfInBounds_toArray, List.set_cons_zero, List.set_cons_succ]
                    refine readyL1 (i := 13) (by kernel_rfl) rfl (fun K2 hK2 => ?_)
                    refine step_app _ rfl _ _ 23 rfl (q + 1) 9 si _ 1 16 Tryd.underlying23 Hsi.out Sz0.out Sz1.out Sz2.out rfl (by decide) (.slice A2 T.length c2) T.length (T.map sv) rfl (by exact H1.out.own2) (some ⟨wr.heap.size + 1, 0, none⟩) 1 1 [.string b] rfl rfl (by exact nU.out) (one_sv _) (by unfold maxLen; omega) (by omega) (by exact H1.out.out.lt) ?_
                    intro vT wT oT gT
                    have H3 := Lib.hid (H1.out.appT oT gT)
                    obtain ⟨A10, c10, rfl⟩ := own_slice oT
                    have hfin := Lib.hid H3.out.put
                    have hbx := H3.out.out
                    have z3 : wT.cell? ⟨q, 3, none⟩ = some (.slice A1 N.length c1) := hbx.cell 3
                    have z4 := hbx.free 3
                    have hbx2 := hbx.put 3 (.slice A9 (N.length + 1) c9)
                    have z5 : (wT.setCell ⟨q, 3, none⟩ (.slice A9 (N.length + 1) c9)).cell? ⟨q, 4, none⟩ = some (.slice A2 T.length c2) := hbx2.cell 4
                    have z6 := hbx2.free 4
                    have t4 : wT.cell? ⟨q, 4, none⟩ = some (.slice A2 T.length c2) := H3.out.out.cell 4
                    have t5 : wT.cell? ⟨w.heap.size, 4, none⟩ = some (.slice (some sad) s.seals.length sc) := H3.out.box.cell 4
                    have t6 : wT.cell? (sad.add j) = some (.string b) := (H3.out.bel.cell hbl2).trans h1
                    refine hK2.out _ _ (Or.inr ⟨z3, t4, t5, t6⟩) ?_
                    clear hK2 K2
                    (try simp only [Act.put, List.setIfInBounds_toArray])
                    refine readyL1 (i := 15) (by kernel_rfl) rfl (fun K2 hK2 => ?_)
                    go_simp
                    refine hK2.out _ _ (Or.inl (by kernel_rfl)) ?_
                    clear hK2 K2
                    (try simp only [Act.put, List.setIfInBounds_toArray])
                    refine readyL1 (i := 16) (by kernel_rfl) rfl (fun K2 hK2 => ?_)
                    go_simp
                    refine hK2.out _ _ (Or.inl (by kernel_rfl)) ?_
                    clear hK2 K2
                    (try simp only [Act.put, List.setIfInBounds_toArray, List.set_cons_zero, List.set_cons_succ])
                    refine readyL1 (i := 17) (by kernel_rfl) rfl (fun K2 hK2 => ?_)
                    go_simp
                    refine hK2.out _ _ (Or.inl (by kernel_rfl)) ?_
                    clear hK2 K2
                    (try simp only [Act.put, List.setIfInBounds_toArray])
                    refine doneL (by kernel_rfl) ?_
                    (try simp only [Exit.inBlock, Exit.then])
                    generalize wr.heap.size + 1 = n2
                    generalize wr.heap.size = n1
                    exact hK' A9 c9 A10 c10 n1 n2 _ hfin.out
                · go_simp
                  refine hK2.out _ _ (Or.inr ⟨yD3, yD4, yD5, yD6⟩) ?_
                  clear hK2 K2
                  (try simp only [Act.put, List.setIfInBounds_toArray, List.set_cons_zero, List.set_cons_succ])
                  refine readyL1 (i := 3) (by kernel_rfl) rfl (fun K2 hK2 => ?_)
                  go_simp
                  refine hK2.out _ _ (Or.inr ⟨yC3, yC4, yC5, yC6⟩) ?_
                  clear hK2 K2
                  (try simp only [Act.put, List.setIfInBounds_toArray, List.set_cons_zero, List.set_cons_succ])
                  refine readyL1 (i := 4) (by kernel_rfl) rfl (fun K2 hK2 => ?_)
                  refine step_app _ rfl _ _ 22 rfl (q + 1) 3 ii _ 1 8 Tryd.underlying22 Hii.out Iz0.out Iz1.out Iz2.out rfl (by decide) (.slice A1 N.length c1) N.length (N.map iv) rfl (by exact HC.out.own1) (some ⟨wr.heap.size + 1, 0, none⟩) 1 1 [.int .i64 (k : Int)] rfl rfl (by exact nC.out) (one_iv _) (by unfold maxLen; omega) (by omega) (by exact HC.out.out.lt) ?_
                  intro vI wI oI gI
                  have H1 := Lib.hid (HC.out.appI oI gI)
                  obtain ⟨A9, c9, rfl⟩ := own_slice oI
                  have x3 : wI.cell? ⟨q, 3, none⟩ = some (.slice A1 N.length c1) := H1.out.out.cell 3
                  have x4 : wI.cell? ⟨q, 4, none⟩ = some (.slice A2 T.length c2) := H1.out.out.cell 4
                  have x5 : wI.cell? ⟨w.heap.size, 4, none⟩ = some (.slice (some sad) s.seals.length sc) := H1.out.box.cell 4
                  have x6 : wI.cell? (sad.add j) = some (.string b) := (H1.out.bel.cell hbl2).trans h1
                  have nV := Lib.hid (news_one ((FC.out.kept gI HO.out.1).cell 0))
                  refine hK2.out _ _ (Or.inr ⟨x3, x4, x5, x6⟩) ?_
                  clear hK2 K2
                  (try simp only [Act.put, List.setIfInBounds_toArray])
                  refine takeL 14 80 (.pointer (some ⟨q, 3, none⟩)) [14] rfl rfl (by kernel_rfl) (by kernel_rfl) (by kernel_rfl) (fun _ _ _ h => h) (by rfl) (by decide) (by kernel_rfl) rfl (fun w hSw => ?_) ?_
                  · obtain ⟨e0, e1, e2, e3⟩ := hSw
                    first
                    | (go_simp; done)
                    | (go_simp; with_reducible rfl)
                  simp only [List.setIfInBounds_toArray, List.set_cons_zero, List.set_cons_succ]
                  refine readyL1 (i := 13) (by kernel_rfl) rfl (fun K2 hK2 => ?_)
                  refine step_app _ rfl _ _ 23 rfl (q + 1) 9 si _ 1 16 Tryd.underlying23 Hsi.out Sz0.out Sz1.out Sz2.out rfl (by decide) (.slice A2 T.length c2) T.length (T.map sv) rfl (by exact H1.out.own2) (some ⟨wr.heap.size, 0, none⟩) 1 1 [.string b] rfl rfl (by exact nV.out) (one_sv _) (by unfold maxLen; omega) (by omega) (by exact H1.out.out.lt) ?_
                  intro vT wT oT gT
                  have H3 := Lib.hid (H1.out.appT oT gT)
                  obtain ⟨A10, c10, rfl⟩ := own_slice oT
                  have hfin := Lib.hid H3.out.put
                  have hbx := H3.out.out
                  have z3 : wT.cell? ⟨q, 3, none⟩ = some (.slice A1 N.length c1) := hbx.cell 3
                  have z4 := hbx.free 3
                  have hbx2 := hbx.put 3 (.slice A9 (N.length + 1) c9)
                  have z5 : (wT.setCell ⟨q, 3, none⟩ (.slice A9 (N.length + 1) c9)).cell? ⟨q, 4, none⟩ = some (.slice A2 T.length c2) := hbx2.cell 4
                  have z6 := hbx2.free 4
                  have t4 : wT.cell? ⟨q, 4, none⟩ = some (.slice A2 T.length c2) := H3.out.out.cell 4
                  have t5 : wT.cell? ⟨w.heap.size, 4, none⟩ = some (.slice (some sad) s.seals.length sc) := H3.out.box.cell 4
                  have t6 : wT.cell? (sad.add j) = some (.string b) := (H3.out.bel.cell hbl2).trans h1
                  refine hK2.out _ _ (Or.inr ⟨z3, t4, t5, t6⟩) ?_
                  clear hK2 K2
                  (try simp only [Act.put, List.setIfInBounds_toArray])
                  refine readyL1 (i := 15) (by kernel_rfl) rfl (fun K2 hK2 => ?_)
                  go_simp
                  refine hK2.out _ _ (Or.inl (by kernel_rfl)) ?_
                  clear hK2 K2
                  (try simp only [Act.put, List.setIfInBounds_toArray])
                  refine readyL1 (i := 16) (by kernel_rfl) rfl (fun K2 hK2 => ?_)
                  go_simp
                  refine hK2.out _ _ (Or.inl (by kernel_rfl)) ?_
                  clear hK2 K2
                  (try simp only [Act.put, List.setIfInBounds_toArray, List.set_cons_zero, List.set_cons_succ])
                  refine readyL1 (i := 17) (by kernel_rfl) rfl (fun K2 hK2 => ?_)
                  go_simp
                  refine hK2.out _ _ (Or.inl (by kernel_rfl)) ?_
                  clear hK2 K2
                  (try simp only [Act.put, List.setIfInBounds_toArray])
                  refine doneL (by kernel_rfl) ?_
                  (try simp only [Exit.inBlock, Exit.then])
                  generalize wr.heap.size + 1 = n2
                  generalize wr.heap.size = n1
                  exact hK' A9 c9 A10 c10 n2 n1 _ hfin.out
              case k =>
                intro A9 c9 A10 c10 n1 n2 V hV
                clear H0 HA HB HC HC0 nA nB nC FB FC HO
                go_wp2_with fail
                go_roundw
                case rel => exact ⟨j + 1, _, _, hlt, by rw [Int.natCast_add]; rfl, hno.out, by rw [hPn.out.1, hPn.out.2]; exact hV⟩
                case measure => simp [intOf]; omega
          · have hy2 : (y != (k : Int)) = true := by rw [bne_iff_ne]; exact hy
            have hPn : Hid (hitP s (k : Int) (j + 1) = hitP s (k : Int) j) := by
              show _ = _
              rw [HN2.out, if_neg hy, List.append_nil]
            have Hno : Hid ((k : Int) = x → ∀ i, i < j + 1 → s.who[i]? ≠ some x) := fun h i hi => by
              rcases Nat.lt_succ_iff_lt_or_eq.1 hi with h2 | rfl
              · exact hno h i h2
              · rw [HW.out, h.symm]
                exact fun e => hy (Option.some.inj e)
            clear HN2 hno h1 g1
            go_wp2_with fail
            go_roundw
            case rel => exact ⟨j + 1, o1, o2, hlt, by rw [Int.natCast_add]; rfl, Hno.out, by rw [hPn.out]; exact hX⟩
            case measure => simp [intOf]; omega
        · obtain rfl : j = s.who.length := by omega
          have hlast : (k : Int) = x → x ∉ s.who := fun h hm => by
            obtain ⟨i, hi, e⟩ := List.getElem_of_mem hm
            exact hno h i hi (by rw [List.getElem?_eq_getElem hi, e])
          have hnn : x ≤ (k : Int) → x ∉ s.who := fun h => by
            by_cases h2 : (k : Int) = x
            · exact hlast h2
            · exact Hno1.out (by omega)
          have hnext := HNx.out (k : Int) hnn
          have hle1 := HF1.out (k : Int)
          have hle2 := HF2.out (k : Int) s.who.length
          have hq1 : ((outP s x t (k : Int) ++ hitP s (k : Int) s.who.length).map Prod.fst).length ≤ 100 := by rw [List.length_map, List.length_append]; omega
          have hq2 : ((outP s x t (k : Int) ++ hitP s (k : Int) s.who.length).map Prod.snd).length ≤ 100 := by rw [List.length_map, List.length_append]; omega
          have hcast : ((k + 1 : Nat) : Int) = (k : Int) + 1 := by omega
          clear hno
          by_cases hkx : (k : Int) = x
          · subst hkx
            have hnx := Lib.hid (hlast rfl)
            rw [if_pos rfl, ← hcast] at hnext
            have hPn := Lib.hid (app_fst _ _ _ _ hnext)
            have hk9 : k + 1 ≤ 8 := hlt8
            clear hle1 hle2 hlast hnn hnext hcast
            generalize (outP s (k : Int) t (k : Int) ++ hitP s (k : Int) s.who.length).map Prod.fst = N at *
            generalize (outP s (k : Int) t (k : Int) ++ hitP s (k : Int) s.who.length).map Prod.snd = T at *
            obtain ⟨A1, c1, rfl⟩ := own_slice hX.own1
            obtain ⟨A2, c2, rfl⟩ := own_slice hX.own2
            go_wp2_with fail
            have H0 := Lib.hid (hX.below (Below.refl _ wr).drew)
            have HA := Lib.hid (hX.below ((Below.refl _ wr).alloc (Nat.le_refl _) (.cells #[.int .i64 (k : Int)] 3)).drew)
            have aA : Arr ((wr.alloc (.cells #[.int .i64 (k : Int)] 3)).drew) wr.heap.size 3 #[.int .i64 (k : Int)] := (Arr.new wr _ _).drew
            have nA := Lib.hid (news_one (aA.cell 0))
            have y3 : wr.drew.cell? ⟨q, 3, none⟩ = some (.slice A1 N.length c1) := hX.out.cell 3
            have y4 : wr.drew.cell? ⟨q, 4, none⟩ = some (.slice A2 T.length c2) := hX.out.cell 4
            have yA3 : ((wr.alloc (.cells #[.int .i64 (k : Int)] 3)).drew).cell? ⟨q, 3, none⟩ = some (.slice A1 N.length c1) := HA.out.out.cell 3
            have yA4 : ((wr.alloc (.cells #[.int .i64 (k : Int)] 3)).drew).cell? ⟨q, 4, none⟩ = some (.slice A2 T.length c2) := HA.out.out.cell 4
            clear aA hX
            apply wp_more1 (R := fun A c A2 c2 V => Sg9 w s ⟨wa, wc, sa, sc⟩ q (.slice A (N.length + 1) c) (.slice A2 (T.length + 1) c2) (.slice A (N.length + 1) c) (N ++ [(k : Int)]) (.slice A2 (T.length + 1) c2) (T ++ [t]) V)
            case h =>
              intro K' hK'
              refine beginL (fun w' => w'.cell? ⟨q, 3, none⟩ = some (.slice A1 N.length c1) ∧ w'.cell? ⟨q, 4, none⟩ = some (.slice A2 T.length c2)) 13 (by kernel_rfl) ⟨y3, y4⟩ ?_
              refine takeL 0 86 (.pointer (some ⟨q, 3, none⟩)) [4, 1, 0] rfl rfl (by kernel_rfl) (by kernel_rfl) (by kernel_rfl) (fun _ _ _ h => h) (by rfl) (by decide) (by kernel_rfl) rfl (fun w hSw => ?_) ?_
              · obtain ⟨e0, e1⟩ := hSw
                first
                | (go_simp; done)
                | (go_simp; with_reducible rfl)
              simp only [List.setIfInBounds_toArray, List.set_cons_zero, List.set_cons_succ]
              refine takeL 1 87 (.slice A1 N.length c1) [4, 1] rfl rfl (by kernel_rfl) (by kernel_rfl) (by kernel_rfl) (fun _ _ _ h => h) (by rfl) (by decide) (by kernel_rfl) rfl (fun w hSw => ?_) ?_
              · obtain ⟨e0, e1⟩ := hSw
                first
                | (go_simp; done)
                | (go_simp; with_reducible rfl)
              simp only [List.setIfInBounds_toArray, List.set_cons_zero, List.set_cons_succ]
              refine takeL 2 88 (.int .i64 (k : Int)) [4, 3, 2] rfl rfl (by kernel_rfl) (by kernel_rfl) (by kernel_rfl) (fun _ _ _ h => h) (by rfl) (by decide) (by kernel_rfl) rfl (fun w hSw => ?_) ?_
              · obtain ⟨e0, e1⟩ := hSw
                first
                | (go_simp; done)
                | (go_simp; with_reducible rfl)
              simp only [List.setIfInBounds_toArray, List.set_cons_zero, List.set_cons_succ]
              refine takeL 5 91 (.pointer (some ⟨q, 4, none⟩)) [11, 6, 5] rfl rfl (by kernel_rfl) (by kernel_rfl) (by kernel_rfl) (fun _ _ _ h => h) (by rfl) (by decide) (by kernel_rfl) rfl (fun w hSw => ?_) ?_
              · obtain ⟨e0, e1⟩ := hSw
                first
                | (go_simp; done)
                | (go_simp; with_reducible rfl)
              simp only [List.setIfInBounds_toArray, List.set_cons_zero, List.set_cons_succ]
              refine takeL 6 92 (.slice A2 T.length c2) [11, 6] rfl rfl (by kernel_rfl) (by kernel_rfl) (by kernel_rfl) (fun _ _ _ h => h) (by rfl) (by decide) (by kernel_rfl) rfl (fun w hSw => ?_) ?_
              · obtain ⟨e0, e1⟩ := hSw
                first
                | (go_simp; done)
                | (go_simp; with_reducible rfl)
              simp only [List.setIfInBounds_toArray, List.set_cons_zero, List.set_cons_succ]
              refine takeL 7 93 (.string key) [11, 9, 7] rfl rfl (by kernel_rfl) (by kernel_rfl) (by kernel_rfl) (fun _ _ _ h => h) (by rfl) (by decide) (by kernel_rfl) rfl (fun w hSw => ?_) ?_
              · obtain ⟨e0, e1⟩ := hSw
                first
                | (go_simp; done)
                | (go_simp; with_reducible rfl)
              simp only [List.setIfInBounds_toArray, List.set_cons_zero, List.set_cons_succ]
              refine takeL 8 94 (.string body) [11, 9, 8] rfl rfl (by kernel_rfl) (by kernel_rfl) (by kernel_rfl) (fun _ _ _ h => h) (by rfl) (by decide) (by kernel_rfl) rfl (fun w hSw => ?_) ?_
              · obtain ⟨e0, e1⟩ := hSw
                first
                | (go_simp; done)
                | (go_simp; with_reducible rfl)
              simp only [List.setIfInBounds_toArray, List.set_cons_zero, List.set_cons_succ]
              refine readyL1 (i := 3) (by kernel_rfl) rfl (fun K2 hK2 => ?_)
              go_simp
              refine hK2.out _ _ (Or.inr ⟨yA3, yA4⟩) ?_
              clear hK2 K2
              (try simp only [Act.put, List.setIfInBounds_toArray, List.set_cons_zero, List.set_cons_succ])
              refine readyL1 (i := 4) (by kernel_rfl) rfl (fun K2 hK2 => ?_)
              refine step_app _ rfl _ _ 22 rfl (q + 1) 3 ii _ 1 8 Tryd.underlying22 Hii.out Iz0.out Iz1.out Iz2.out rfl (by decide) (.slice A1 N.length c1) N.length (N.map iv) rfl (by exact HA.out.own1) (some ⟨wr.heap.size, 0, none⟩) 1 1 [.int .i64 (k : Int)] rfl rfl (by exact nA.out) (one_iv _) (by unfold maxLen; omega) (by omega) (by exact HA.out.out.lt) ?_
              intro vI wI oI gI
              have H1 := Lib.hid (HA.out.appI oI gI)
              obtain ⟨A9, c9, rfl⟩ := own_slice oI
              have x3 : wI.cell? ⟨q, 3, none⟩ = some (.slice A1 N.length c1) := H1.out.out.cell 3
              have x4 : wI.cell? ⟨q, 4, none⟩ = some (.slice A2 T.length c2) := H1.out.out.cell 4
              have x5 : wI.cell? ⟨w.heap.size, 4, none⟩ = some (.slice sa s.seals.length sc) := H1.out.box.cell 4
              refine hK2.out _ _ (Or.inr ⟨x3, x4⟩) ?_
              clear hK2 K2
              (try simp only [Act.put, List.setIfInBounds_toArray])
              refine takeL 12 98 (.pointer (some ⟨q, 3, none⟩)) [12] rfl rfl (by kernel_rfl) (by kernel_rfl) (by kernel_rfl) (fun _ _ _ h => h) (by rfl) (by decide) (by kernel_rfl) rfl (fun w hSw => ?_) ?_
              · obtain ⟨e0, e1⟩ := hSw
                first
                | (go_simp; done)
                | (go_simp; with_reducible rfl)
              simp only [List.setIfInBounds_toArray, List.set_cons_zero, List.set_cons_succ]
              refine readyL1 (i := 9) (by kernel_rfl) rfl (fun K2 hK2 => ?_)
              go_simp
              (with_reducible refine (CSl.out _).mono ?_)
              rintro _ wS ⟨rfl, bS⟩
              (try simp only [])
              have HS := Lib.hid (H1.out.below bS)
              have u3 : wS.cell? ⟨q, 3, none⟩ = some (.slice A1 N.length c1) := HS.out.out.cell 3
              have u4 : wS.cell? ⟨q, 4, none⟩ = some (.slice A2 T.length c2) := HS.out.out.cell 4
              have H2 := Lib.hid (HS.out.below ((Below.refl _ wS).alloc (Nat.le_refl _) (.cells #[.string t] 9)))
              have nT := Lib.hid (news_one ((Arr.new wS 9 #[.string t]).cell 0))
              have v3 : (wS.alloc (.cells #[.string t] 9)).cell? ⟨q, 3, none⟩ = some (.slice A1 N.length c1) := H2.out.out.cell 3
              have v4 : (wS.alloc (.cells #[.string t] 9)).cell? ⟨q, 4, none⟩ = some (.slice A2 T.length c2) := H2.out.out.cell 4
              refine hK2.out _ _ (Or.inr ⟨u3, u4⟩) ?_
              clear hK2 K2
              (try simp only [Act.put, List.setIfInBounds_toArray, List.set_cons_zero, List.set_cons_succ])
              refine readyL1 (i := 10) (by kernel_rfl) rfl (fun K2 hK2 => ?_)
              go_simp
              refine hK2.out _ _ (Or.inr ⟨v3, v4⟩) ?_
              clear hK2 K2
              (try simp only [Act.put, List.setIfInBounds_toArray, List.set_cons_zero, List.set_cons_succ])
              refine readyL1 (i := 11) (by kernel_rfl) rfl (fun K2 hK2 => ?_)
              refine step_app _ rfl _ _ 23 rfl (q + 1) 9 si _ 1 16 Tryd.underlying23 Hsi.out Sz0.out Sz1.out Sz2.out rfl (by decide) (.slice A2 T.length c2) T.length (T.map sv) rfl (by exact H2.out.own2) (some ⟨wS.heap.size, 0, none⟩) 1 1 [.string t] rfl rfl (by exact nT.out) (one_sv _) (by unfold maxLen; omega) (by omega) (by exact H2.out.out.lt) ?_
              intro vT wT oT gT
              have H3 := Lib.hid (H2.out.appT oT gT)
              obtain ⟨A10, c10, rfl⟩ := own_slice oT
              have hfin := Lib.hid H3.out.put
              have hbx := H3.out.out
              have z3 : wT.cell? ⟨q, 3, none⟩ = some (.slice A1 N.length c1) := hbx.cell 3
              have z4 := hbx.free 3
              have hbx2 := hbx.put 3 (.slice A9 (N.length + 1) c9)
              have z5 : (wT.setCell ⟨q, 3, none⟩ (.slice A9 (N.length + 1) c9)).cell? ⟨q, 4, none⟩ = some (.slice A2 T.length c2) := hbx2.cell 4
              have z6 := hbx2.free 4
              have t4 : wT.cell? ⟨q, 4, none⟩ = some (.slice A2 T.length c2) := H3.out.out.cell 4
              refine hK2.out _ _ (Or.inr ⟨z3, t4⟩) ?_
              clear hK2 K2
              (try simp only [Act.put, List.setIfInBounds_toArray])
              refine readyL1 (i := 13) (by kernel_rfl) rfl (fun K2 hK2 => ?_)
              go_simp
              refine hK2.out _ _ (Or.inl (by kernel_rfl)) ?_
              clear hK2 K2
              (try simp only [Act.put, List.setIfInBounds_toArray])
              refine readyL1 (i := 14) (by kernel_rfl) rfl (fun K2 hK2 => ?_)
              go_simp
              refine hK2.out _ _ (Or.inl (by kernel_rfl)) ?_
              clear hK2 K2
              (try simp only [Act.put, List.setIfInBounds_toArray, List.set_cons_zero, List.set_cons_succ])
              refine readyL1 (i := 15) (by kernel_rfl) rfl (fun K2 hK2 => ?_)
              go_simp
              refine hK2.out _ _ (Or.inl (by kernel_rfl)) ?_
              clear hK2 K2
              (try simp only [Act.put, List.setIfInBounds_toArray])
              refine doneL (by kernel_rfl) ?_
              (try simp only [Exit.inBlock, Exit.then])
              generalize wS.heap.size = n2
              generalize wr.heap.size = n1
              exact hK' A9 c9 A10 c10 n1 n2 _ hfin.out
            case k =>
              intro A9 c9 A10 c10 n1 n2 V hV
              clear H0 HA nA
              go_wp2_with fail
              go_roundw
              case rel => exact ⟨k + 1, _, _, hk9, by rw [Int.natCast_add]; rfl, fun _ => hnx.out, by rw [hPn.out.1, hPn.out.2]; exact hV⟩
              case measure => simp [intOf]; omega
          · have hkx2 : ((k : Int) == x) = false := by rw [beq_eq_false_iff_ne]; exact hkx
            rw [if_neg hkx, List.append_nil, ← hcast] at hnext
            have hPn := Lib.hid hnext
            have Hnn : Hid (x < ((k + 1 : Nat) : Int) → x ∉ s.who) := fun h => hnn (by omega)
            clear hle1 hle2 hlast hnn hnext hcast hq1 hq2
            go_wp2_with fail
            go_roundw
            case rel => exact ⟨k + 1, o1, o2, hlt8, by rw [Int.natCast_add]; rfl, Hnn.out, by rw [hPn.out]; exact hX⟩
            case measure => simp [intOf]; omega
    · obtain rfl : k = 8 := by omega
      have hnn := hno1 (by omega)
      have hfin := Lib.hid (HEn.out hnn)
      have c8 : ((8 : Nat) : Int) = 8 := rfl
      obtain ⟨p2, he, hd⟩ := hX.done
      have hbx := hX.out
      have hrs := hX.res
      rw [he] at hbx
      clear hX
      have HH : Hid (R = ({ s with who := (outP s x t ((8 : Nat) : Int)).map Prod.fst, seals := (outP s x t ((8 : Nat) : Int)).map Prod.snd }, 0)) := hfin.out
      generalize (outP s x t ((8 : Nat) : Int)).map Prod.fst = N at *
      generalize (outP s x t ((8 : Nat) : Int)).map Prod.snd = T at *
      have Hd := Lib.hid hd
      clear hd hfin hno1 hnn c8
      go_wp2_with (first
        | refine wpList_load_row rfl 25 _ rfl q rfl 25 _ (0, 0) _ hbx Tryd.underlying25 rfl (spInfo _ p2) ?_
        | refine wpList_store_row rfl 25 _ _ rfl (w.heap.size + 1) (spArr { s with who := N, seals := T } p2) rfl rfl 25 spZero hrs (spInfo _ p2) rfl (spArr_one _ p2) ?_)
      (try simp only [Exit.inBlock, Exit.then])
      refine bodyPost_ret (v := .tuple #[.agg (spArr { s with who := N, seals := T } p2), .int .i64 0]) ?_ rfl (SpEnd_eq HH.out ⟨p2, rfl, Hd.out _ rfl⟩)
      rw [results_cell_tmp Tryd.results6]
      have hld := run_loadVar_row (P := Tryd.prog) _ _ _ 25 _ _ _ (hrs.row (spArr { s with who := N, seals := T } p2)) Tryd.underlying25 rfl (spInfo _ p2)
      simp [asAddr, hld, Result.andThen]
end Go.Proofs.YtenjnaebhbmfiaaDoor

/- Objects compared. -/
namespace Go.Proofs.YtenjnaebhbmfiaaDoor
open Go.RowKit

def neE (x y : Ent) : Bool := !(eqB x.name y.name && x.dir == y.dir && eqB x.id y.id)
theorem neE_iff (x y : Ent) : neE x y = false ↔ x = y := by
  unfold neE
  obtain ⟨a, b, c⟩ := x
  obtain ⟨a', b', c'⟩ := y
  simp [eqB_iff, and_assoc]
theorem take_eq_step {α : Type} {T U : List α} {k : Nat} (h : T.take k = U.take k) (h1 : k < T.length) (h2 : k < U.length) (e : T[k] = U[k]) : T.take (k + 1) = U.take (k + 1) := by
  rw [List.take_succ_eq_append_getElem h1, List.take_succ_eq_append_getElem h2, h, e]
end Go.Proofs.YtenjnaebhbmfiaaDoor

/- ref.SameStrings: its contract. -/
namespace Go.Proofs.YtenjnaebhbmfiaaDoor
open Go.RowKit

set_option maxRecDepth 100000 in
set_option maxHeartbeats 1000000 in
theorem RefStrings_any (T U : List ByteArray) (hl : T.length ≤ 281474976710656) (hu : U.length ≤ 281474976710656) (A A' : Option Addr) (c c' : Nat) (w : World) (hP : Txs w w.heap.size A T) (hQ : Txs w w.heap.size A' U) :
    Calls Tryd.prog 18 #[.slice A T.length c, .slice A' U.length c'] w fun e w' => e = .returned (.bool (decide (T = U))) ∧ Below w.heap.size w w' := by
  by_cases hlen : T.length = U.length
  · have hlb : ((T.length : Int) != U.length) = false := by rw [hlen]; simp
    rw [hlen] at hlb ⊢
    go_enter Tryd.func18, Tryd.ntmps18
    go_wp2_with fail
    go_loopw [13] (fun i wr => ∃ k : Nat, k ≤ U.length ∧ i = .int .i64 (k : Int) ∧ T.take k = U.take k ∧ Below w.heap.size w wr) (fun i _ => U.length - (intOf i).toNat)
    case atStart => exact ⟨0, Nat.zero_le _, rfl, rfl, Below.refl _ _⟩
    case round =>
      obtain ⟨k, hk, rfl, ht, hB⟩ := hrel
      have HT := Lib.hid ht
      clear ht
      by_cases hlt : k < U.length
      · have hlt2 : k < T.length := by omega
        obtain ⟨ad, rfl, hbl, h0⟩ := hP k T[k] (List.getElem?_eq_getElem hlt2)
        obtain ⟨ad2, rfl, hbl2, h1⟩ := hQ k U[k] (List.getElem?_eq_getElem hlt)
        have g0 := (hB.cell hbl).trans h0
        have g1 := (hB.cell hbl2).trans h1
        have hi : (k : Int) < U.length := by omega
        have HS := Lib.hid (fun e => take_eq_step HT.out hlt2 hlt e)
        have HN : Hid (T[k] ≠ U[k] → T ≠ U) := fun h e => by subst e; exact h rfl
        clear h0 h1 hP hQ HT
        generalize T[k] = x at *
        generalize U[k] = y at *
        cases hq : x.toList == y.toList
        · have hne : Hid (decide (T = U) = false) := decide_eq_false (HN.out (fun e => by rw [e] at hq; simp at hq))
          clear HS HN hlb
          go_wp2_with fail
          go_quiet (fail)
          go_wp2_with fail
          go_ret
          exact ⟨by rw [hne.out]; rfl, below_drewN hB _⟩
        · have HS2 := Lib.hid (HS.out ((eqB_iff x y).1 hq))
          clear HS HN hlb
          go_wp2_with fail
          go_quiet (fail)
          go_wp2_with fail
          refine ⟨⟨k + 1, hlt, by go_num, HS2.out, below_drewN hB _⟩, by simp [intOf]; omega⟩
      · obtain rfl : k = U.length := by omega
        have hi : ¬ (U.length : Int) < U.length := by omega
        have heq : Hid (decide (T = U) = true) := decide_eq_true (by have := HT.out; rwa [List.take_length, List.take_of_length_le (by omega)] at this)
        clear hP hQ HT hlb
        go_wp2_with fail
        go_ret
        exact ⟨by rw [heq.out]; rfl, hB⟩
  · have hlb : ((T.length : Int) != U.length) = true := by rw [bne_iff_ne]; omega
    have hne : Hid (decide (T = U) = false) := decide_eq_false (fun e => hlen (by rw [e]))
    clear hP hQ hlen
    go_enter Tryd.func18, Tryd.ntmps18
    go_wp2_with fail
    go_ret
    exact ⟨by rw [hne.out]; rfl, Below.refl _ _⟩
end Go.Proofs.YtenjnaebhbmfiaaDoor
