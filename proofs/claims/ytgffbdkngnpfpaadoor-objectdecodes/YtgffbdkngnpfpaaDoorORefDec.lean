/- Texts in one: ORefDec3, ORefDec. -/
import Derived.Test.YtgffbdkngnpfpaaDoorORefDecB
import Derived.Test.YtgffbdkngnpfpaaDoorORefDec4
import Derived.Test.YtgffbdkngnpfpaaDoorORefDec2
/- ref.Decode of kind 3. -/
namespace Go.Proofs.YtgffbdkngnpfpaaDoor
open Go.RowKit


set_option maxRecDepth 100000 in
set_option maxHeartbeats 8000000 in
theorem RefDecode_3 (s : ByteArray) (r : List UInt8) (hlong : ¬ 8192 < s.data.toList.length) (hnum : rdNum s.data.toList = some (3, r)) (w : World) : Calls Tryd.prog 6 #[.string s] w (DEnd w (decO s.data.toList).1 (decO s.data.toList).2) := by
  obtain ⟨si, hsi, sz0, sz1, sz2⟩ := info_parts info_str
  obtain ⟨ei, hei, ez0, ez1, ez2⟩ := info_parts info_ent
  have Hsi := Lib.hid hsi
  have Sz0 := Lib.hid sz0
  have Sz1 := Lib.hid sz1
  have Sz2 := Lib.hid sz2
  have Hei := Lib.hid hei
  have Ez0 := Lib.hid ez0
  have Ez1 := Lib.hid ez1
  have Ez2 := Lib.hid ez2
  clear hsi sz0 sz1 sz2 hei ez0 ez1 ez2
  obtain ⟨R, hR⟩ : ∃ R, R = decO s.data.toList := ⟨_, rfl⟩
  rw [← hR]
  have HR := Lib.hid hR
  clear hR
  go_enter Tryd.func6, Tryd.ntmps6
  go_upto_region 2 with (refine wpList_store_row rfl 25 _ _ rfl (w.heap.size + 1) (obArr Ob.none atNil) rfl rfl 25 zeroO (Arr.new_at (w.alloc _) _ _ (by simp)) (obInfo _ _) rfl (obArr_one _ _) ?_)
  refine wp_forget (H0 w) (h0_start w) ?_
  intro W hW0
  have hlen : s.data.toList.length = s.size := rfl
  have hi : ¬ (8192 : Int) < s.size := by omega
  have hHd := Lib.hid (hd_start hW0 s.data.toList hlong)
  rw [bs_of] at hHd
  have hsz := hW0.2.2.1
  go_upto_region 5 with fail
  refine wp_forget (Hd w (some s.data.toList)) (by exact hHd.out) ?_
  clear hHd hW0 hsz W hi hlen
  generalize s.data.toList = l at *
  intro W hW
  have q1 := fun Wq h => cs_num (w.heap.size + 2) (some l) Wq h
  have hn62 := stNum_lt (some l)
  have hst : ∃ n1 s1, stNum (some l) = (n1, s1) := ⟨_, _, rfl⟩
  obtain ⟨n, s1, hst⟩ := hst
  rw [hst] at q1 hn62
  have Q1 := Lib.hid q1
  have HST := Lib.hid hst
  clear q1 hst
  simp only at hn62
  go_wp2_with fail
  (with_reducible refine (Q1.out W hW.cur).mono ?_)
  rintro _ W2 ⟨rfl, h2, k2⟩
  have hW2 := hW.read h2 k2
  clear hW h2 k2 Q1
  go_upto_region 7 with (refine wpList_store_row rfl 25 _ _ rfl W2.heap.size (obArr (kOb (n : Int)) atNil) rfl rfl 25 zeroO (Arr.new W2 _ _) (obInfo _ _) rfl (obArr_one _ _) ?_)
  refine wp_forget (Gd w W2.heap.size (kOb (n : Int)) atNil s1) (gd_start hW2 (n : Int)) ?_
  clear hW2
  generalize W2.heap.size = b at *
  clear W W2
  intro W hW
  obtain ⟨sc, ec, hC, he, he2, hsl⟩ := hW.cur.cells
  have d1 := hC.c1
  obtain ⟨rfl, rfl⟩ : n = 3 ∧ s1 = some r := by
    have h := HST.out
    simp [stNum, hnum] at h
    exact ⟨h.1.symm, h.2.symm⟩
  obtain ⟨_, rfl⟩ := hsl r rfl
  clear he he2 hsl hC HST
  have q1 := fun Wq h => cs_id (w.heap.size + 2) (some r) Wq h
  have hf : rdFields ((3 : Nat) : Int) r = match (stTxt (stNum (stTxt (stPars (stId (some r)).2).2).2).2).2 with | none => none | some rest => some (⟨3, ⟨#[]⟩, [], (stId (some r)).1, (stPars (stId (some r)).2).1, (stTxt (stPars (stId (some r)).2).2).1, (stTxt (stNum (stTxt (stPars (stId (some r)).2).2).2).2).1, ((stNum (stTxt (stPars (stId (some r)).2).2).2).1 : Int), ⟨#[]⟩⟩, rest) := by unfold rdFields; rw [if_neg (by decide), if_neg (by decide), if_pos (by decide)]; cases (stTxt (stNum (stTxt (stPars (stId (some r)).2).2).2).2).2 <;> rfl
  have HF0 : Hid (R = fin ⟨3, ⟨#[]⟩, [], (stId (some r)).1, (stPars (stId (some r)).2).1, (stTxt (stPars (stId (some r)).2).2).1, (stTxt (stNum (stTxt (stPars (stId (some r)).2).2).2).2).1, ((stNum (stTxt (stPars (stId (some r)).2).2).2).1 : Int), ⟨#[]⟩⟩ (stTxt (stNum (stTxt (stPars (stId (some r)).2).2).2).2).2) := by show _ = _; rw [HR.out]; exact dec_fin hlong hnum rfl hf
  clear hf HR
  generalize (stId (some r)).1 = t1 at *
  generalize (stId (some r)).2 = s1 at *
  have q2 := fun Wq h => cs_num (w.heap.size + 2) s1 Wq h
  have hn2 := stNum_lt s1
  have hp0 := stPars_res s1
  have hst0 := pres_start s1
  generalize parsRes s1 = res at *
  generalize (stNum s1).1 = n2 at *
  generalize (stNum s1).2 = s2 at *
  have HST := Lib.hid hst0
  have HP0 := Lib.hid hp0
  have Q1 := Lib.hid q1
  have Q2 := Lib.hid q2
  clear q1 q2 hst0 hp0
  have c0 : W.cell? ⟨b, 0, none⟩ = some (.int .i64 3) := hW.box.cell 0
  go_wp2_with fail
  (with_reducible refine (Q1.out W hW.cur).mono ?_)
  rintro _ W2 ⟨rfl, h2, k2⟩
  have hW2 := hW.read h2 k2
  clear hW h2 k2 Q1 c0 d1
  have c3 : W2.cell? ⟨b, 3, none⟩ = some (.string ⟨#[]⟩) := hW2.box.cell 3
  have f3 := hW2.box.free 3
  go_upto_region 26 with fail
  refine wp_forget (Gd w b ⟨3, ⟨#[]⟩, [], t1, [], ⟨#[]⟩, ⟨#[]⟩, 0, ⟨#[]⟩⟩ atNil s1) (by exact hW2.put 3 (.string t1) rfl rfl rfl) ?_
  clear hW2 c3 f3
  clear W W2
  intro W hW
  go_wp2_with fail
  (with_reducible refine (Q2.out W hW.cur).mono ?_)
  rintro _ W2 ⟨rfl, h2, k2⟩
  have hW2 := hW.read h2 k2
  clear hW h2 k2 Q2
  go_wp2_with fail
  go_loopw [12] (fun i wr => RdPRel n2 res t1 w b i wr) (fun i _ => n2 - (intOf i).toNat)
  case atStart =>
    refine ⟨[], none, 0, s2, Nat.zero_le _, rfl, hW2, ?_⟩
    rcases HST.out with h | ⟨l, e, h⟩
    · exact h
    · have hc := hW2.cur
      rw [e] at hc
      exact absurd hc.2 (by omega)
  case round =>
    clear hW2 W W2 HST
    obtain ⟨T, A, cc, st, hk, rfl, hW, hE⟩ := hrel
    have hlenT := pres_len hE
    have HE := Lib.hid hE
    clear hE
    obtain ⟨sc, ec, hC, he, he2, hsl⟩ := hW.cur.cells
    have d1 := hC.c1
    have hgo : (T.length < n2 ∧ ∃ lc, st = some lc) ∨ ¬ (T.length < n2 ∧ ∃ lc, st = some lc) := Classical.em _
    rcases hgo with ⟨hlt, lc, rfl⟩ | hno
    · have hi : (T.length : Int) < n2 := by omega
      rw [Option.isNone_some, Bool.not_false] at he2
      have HM := Lib.hid (pres_more HE.out hlt)
      have q3 := fun Wq h => cs_id (w.heap.size + 2) (some lc) Wq h
      generalize (stId (some lc)).1 = id at *
      generalize (stId (some lc)).2 = s3 at *
      have Q3 := Lib.hid q3
      clear q3 he hsl HE hC HP0 HF0
      have c4 : wr.cell? ⟨b, 4, none⟩ = some (.slice A T.length cc) := hW.box.cell 4
      have hWd := hW.drew
      go_upto_region 30 with fail
      go_region_law (first
        | (refine step_append_lies _ rfl _ _ 23 rfl (b + 1) 9 si _ 1 16 Tryd.underlying23 Hsi.out Sz0.out Sz1.out Sz2.out rfl (by decide) _ _ _ rfl (hW3.op.alloc _) ⟨W3.heap.size, 0, none⟩ 1 1 [.string id] rfl rfl (new_cells W3 [.string id] 9) (one_str id) (by decide) (by simp only; unfold maxLen; omega) (by simp only; omega) (by simp; omega) _ rfl ?_
           intro g5 cap5 w5 hown hgrow hat hg5
           have hge : ∀ q, (Value.slice A T.length cc).ownBlock = some q → b < q := fun q e1 => own_row_ge hW3.op q e1
           have hb5 := (hW3.alloc (.cells #[.string id] 9)).box.kept hgrow (fun e1 => by have := hge b e1.symm; omega)
           have e4 : w5.cell? ⟨b, 4, none⟩ = some (.slice A T.length cc) := hb5.cell 4
           have f4 := hb5.free 4)
        | (go_simp
           go_at_call 24
           (with_reducible refine (Q3.out _ hWd.cur).mono ?_)
           rintro _ W3 ⟨rfl, h2, k2⟩
           have hW3 := hWd.read h2 k2
           have e4 : W3.cell? ⟨b, 4, none⟩ = some (.slice A T.length cc) := hW3.box.cell 4
           have hlt3 := hW3.box.lt))
      all_goals
        have hfin := Gd.app (o' := ⟨3, ⟨#[]⟩, [], t1, T ++ [id], ⟨#[]⟩, ⟨#[]⟩, 0, ⟨#[]⟩⟩) (p' := ⟨none, 0, some ⟨g5, 0, none⟩, cap5⟩) (hW3.alloc (.cells #[.string id] 9)) hgrow hge 4 (.slice (some ⟨g5, 0, none⟩) (T ++ [id]).length cap5) rfl (own_nil _ _ _ _) (by simp only [List.length_append, List.map_append]; exact hown)
        have HFin := Lib.hid hfin
        clear hfin hown hgrow hat hb5 hW3 hWd hW h2 k2 c4
        go_wp2_with fail
        refine ⟨⟨T ++ [id], some ⟨g5, 0, none⟩, cap5, s3, by rw [List.length_append]; simp; omega, by rw [List.length_append]; simp, ?_, HM.out⟩, by simp [intOf]; omega⟩
        have hx := HFin.out
        rw [List.length_append] at hx
        exact hx
    · have hPX : Hid (stPars s1 = (T, st) ∨ (st = none ∧ (stPars s1).2 = none)) := by
        cases st with
        | none =>
          right
          rw [HP0.out, HE.out.1]
          exact ⟨rfl, rfl⟩
        | some lc =>
          left
          have hno2 : ¬ T.length < n2 := fun h => hno ⟨h, lc, rfl⟩
          rw [HP0.out, parsR_done HE.out.2 hno2]
      have HF1 : Hid (R = fin ⟨3, ⟨#[]⟩, [], t1, T, (stTxt st).1, (stTxt (stNum (stTxt st).2).2).1, ((stNum (stTxt st).2).1 : Int), ⟨#[]⟩⟩ (stTxt (stNum (stTxt st).2).2).2) := by
        show _ = _
        rcases hPX.out with e | ⟨rfl, e⟩
        · have := HF0.out
          rw [e] at this
          exact this
        · rw [HF0.out, e]
          rfl
      have q3 := fun Wq h => cs_txt (w.heap.size + 2) st Wq h
      have q4 := fun Wq h => cs_num (w.heap.size + 2) (stTxt st).2 Wq h
      have q5 := fun Wq h => cs_txt (w.heap.size + 2) (stNum (stTxt st).2).2 Wq h
      clear HF0 hPX HP0 HE
      generalize (stTxt (stNum (stTxt st).2).2).1 = t5 at *
      generalize (stTxt (stNum (stTxt st).2).2).2 = s5 at *
      generalize (stNum (stTxt st).2).1 = n4 at *
      generalize (stNum (stTxt st).2).2 = s4 at *
      generalize (stTxt st).1 = t3 at *
      generalize (stTxt st).2 = s3 at *
      have Q3 := Lib.hid q3
      have Q4 := Lib.hid q4
      have Q5 := Lib.hid q5
      clear q3 q4 q5 hsl hC
      have hcases : ((T.length : Int) < n2 ∧ (ec == 0) = false) ∨ ¬ (T.length : Int) < n2 := by
        by_cases h : T.length < n2
        · refine .inl ⟨by omega, ?_⟩
          cases st with
          | none => exact he2
          | some lc => exact absurd ⟨h, lc, rfl⟩ hno
        · exact .inr (by omega)
      clear hno he he2
      rcases hcases with ⟨hi, hec⟩ | hi
      · have HF := HF1
        clear HF1
        go_wp2_with fail
        clear d1
        (with_reducible refine (Q3.out wr hW.cur).mono ?_)
        rintro _ W2 ⟨rfl, h2, k2⟩
        have hW2 := hW.read h2 k2
        clear hW h2 k2 Q3
        go_wp2_with fail
        (with_reducible refine (Q4.out W2 hW2.cur).mono ?_)
        rintro _ W3 ⟨rfl, h2, k2⟩
        have hW3 := hW2.read h2 k2
        clear hW2 h2 k2 Q4
        go_wp2_with fail
        (with_reducible refine (Q5.out W3 hW3.cur).mono ?_)
        rintro _ W4 ⟨rfl, h2, k2⟩
        have hW4 := hW3.read h2 k2
        clear hW3 h2 k2 Q5
        have c5 : W4.cell? ⟨b, 5, none⟩ = some (.string ⟨#[]⟩) := hW4.box.cell 5
        have c7 : W4.cell? ⟨b, 7, none⟩ = some (.int .i64 0) := hW4.box.cell 7
        have c6 : W4.cell? ⟨b, 6, none⟩ = some (.string ⟨#[]⟩) := hW4.box.cell 6
        have f5 := hW4.box.free 5
        have f7 := hW4.box.free 7
        have f6 := hW4.box.free 6
        go_upto_region 32 with fail
        refine wp_forget (Gd w b ⟨3, ⟨#[]⟩, [], t1, T, t3, t5, (n4 : Int), ⟨#[]⟩⟩ ⟨none, 0, A, cc⟩ s5) (by exact ((hW4.put (o' := ⟨3, ⟨#[]⟩, [], t1, T, t3, ⟨#[]⟩, 0, ⟨#[]⟩⟩) 5 (.string t3) rfl rfl rfl).put (o' := ⟨3, ⟨#[]⟩, [], t1, T, t3, ⟨#[]⟩, (n4 : Int), ⟨#[]⟩⟩) 7 (.int .i64 (n4 : Int)) rfl rfl rfl).put 6 (.string t5) rfl rfl rfl) ?_
        clear hW4 c5 c7 c6 f5 f7 f6
        intro W hW
        clear st
        obtain ⟨sc, ec, hC, he, he2, hsl⟩ := hW.cur.cells
        have d0 := hC.c0
        have d1 := hC.c1
        cases s5 with
        | none =>
          rw [Option.isNone_none] at he
          have HX : Hid (R = (Ob.none, 2)) := HF.out
          clear HF he2 hsl hC
          go_wp2_with (first | (refine wpList_load_row rfl 25 _ rfl (w.heap.size + 1) rfl 25 _ (0, 0) _ hW.non Tryd.underlying25 rfl (obInfo _ _) ?_) | (refine wpList_store_row rfl 25 _ _ rfl w.heap.size (obArr Ob.none atNil) rfl rfl 25 zeroO hW.res (obInfo _ _) rfl (obArr_one _ _) ?_))
          refine bodyPost_ret (v := .tuple #[.agg (obArr Ob.none atNil), .int .i64 2]) ?_ rfl (DEnd_eq HX.out (hW.fail 2))
          rw [results_cell_tmp Tryd.results6]
          have hld := run_loadVar_row (P := Tryd.prog) _ _ _ 25 _ _ _ (hW.res.row (obArr Ob.none atNil)) Tryd.underlying25 rfl (obInfo Ob.none atNil)
          simp [asAddr, hld, Result.andThen]
        | some rest =>
          obtain ⟨rfl, rfl⟩ := hsl rest rfl
          clear he he2 hsl hC
          by_cases hrest : 0 < rest.length
          · have HX : Hid (R = (Ob.none, 2)) := by
              show _ = _
              rw [HF.out]
              exact fin_rest hrest
            have hne : (bs rest).toList.isEmpty = false := by
              rw [ByteArray.toList_eq, bs_list]
              cases rest with
              | nil => simp at hrest
              | cons => rfl
            clear HF
            go_wp2_with (first | (refine wpList_load_row rfl 25 _ rfl (w.heap.size + 1) rfl 25 _ (0, 0) _ hW.non Tryd.underlying25 rfl (obInfo _ _) ?_) | (refine wpList_store_row rfl 25 _ _ rfl w.heap.size (obArr Ob.none atNil) rfl rfl 25 zeroO hW.res (obInfo _ _) rfl (obArr_one _ _) ?_))
            refine bodyPost_ret (v := .tuple #[.agg (obArr Ob.none atNil), .int .i64 2]) ?_ rfl (DEnd_eq HX.out (hW.fail 2))
            rw [results_cell_tmp Tryd.results6]
            have hld := run_loadVar_row (P := Tryd.prog) _ _ _ 25 _ _ _ (hW.res.row (obArr Ob.none atNil)) Tryd.underlying25 rfl (obInfo Ob.none atNil)
            simp [asAddr, hld, Result.andThen]
          · obtain rfl : rest = [] := List.eq_nil_of_length_eq_zero (by omega)
            have hne : (bs []).toList = [] := by rw [ByteArray.toList_eq, bs_list]
            have hF : R = if good ⟨3, ⟨#[]⟩, [], t1, T, t3, t5, (n4 : Int), ⟨#[]⟩⟩ ≠ 0 then (Ob.none, good ⟨3, ⟨#[]⟩, [], t1, T, t3, t5, (n4 : Int), ⟨#[]⟩⟩) else (⟨3, ⟨#[]⟩, [], t1, T, t3, t5, (n4 : Int), ⟨#[]⟩⟩, 0) := HF.out
            have CG := Lib.hid (fun Wq h => GoodObject_any ⟨3, ⟨#[]⟩, [], t1, T, t3, t5, (n4 : Int), ⟨#[]⟩⟩ ⟨none, 0, A, cc⟩ Wq h (fun e he => by simp at he))
            generalize hgo : good ⟨3, ⟨#[]⟩, [], t1, T, t3, t5, (n4 : Int), ⟨#[]⟩⟩ = G at *
            clear hgo hrest HF
            have HF := Lib.hid hF
            clear hF
            go_wp2_with (refine wpList_load_row rfl 25 _ rfl b rfl 25 _ (0, 0) _ hW.box Tryd.underlying25 rfl (obInfo _ _) ?_)
            (with_reducible refine (CG.out W hW.ins.1).mono ?_)
            clear CG
            rintro _ W9 ⟨rfl, b9⟩
            have hW9 : Gd w b ⟨3, ⟨#[]⟩, [], t1, T, t3, t5, (n4 : Int), ⟨#[]⟩⟩ ⟨none, 0, A, cc⟩ (some []) W9 := hW.grow (r := none) (gb_below b9) (fun q e => by cases e) (hW.oe.kept (gb_below (r := none) b9) (by cases hq : Value.ownBlock _ <;> simp)) (hW.op.kept (gb_below (r := none) b9) (by cases hq : Value.ownBlock _ <;> simp))
            clear hW b9 d0 d1
            cases hG : G != 0
            case true =>
              have HX : Hid (R = (Ob.none, G)) := by
                show _ = _
                rw [HF.out, if_pos (by simpa using hG)]
              clear HF
              go_wp2_with (first | (refine wpList_load_row rfl 25 _ rfl (w.heap.size + 1) rfl 25 _ (0, 0) _ hW9.non Tryd.underlying25 rfl (obInfo _ _) ?_) | (refine wpList_store_row rfl 25 _ _ rfl w.heap.size (obArr Ob.none atNil) rfl rfl 25 zeroO hW9.res (obInfo _ _) rfl (obArr_one _ _) ?_))
              refine bodyPost_ret (v := .tuple #[.agg (obArr Ob.none atNil), .int .i64 G]) ?_ rfl (DEnd_eq HX.out (hW9.fail G))
              rw [results_cell_tmp Tryd.results6]
              have hld := run_loadVar_row (P := Tryd.prog) _ _ _ 25 _ _ _ (hW9.res.row (obArr Ob.none atNil)) Tryd.underlying25 rfl (obInfo Ob.none atNil)
              simp [asAddr, hld, Result.andThen]
            have hG2 : G = 0 := by simpa using hG
            subst hG2
            have HX : Hid (R = (⟨3, ⟨#[]⟩, [], t1, T, t3, t5, (n4 : Int), ⟨#[]⟩⟩, 0)) := by
              show _ = _
              rw [HF.out, if_neg (by simp)]
            clear HF hG
            go_wp2_with (first | (refine wpList_load_row rfl 25 _ rfl b rfl 25 _ (0, 0) _ hW9.box Tryd.underlying25 rfl (obInfo _ _) ?_) | (refine wpList_store_row rfl 25 _ _ rfl w.heap.size (obArr ⟨3, ⟨#[]⟩, [], t1, T, t3, t5, (n4 : Int), ⟨#[]⟩⟩ ⟨none, 0, A, cc⟩) rfl rfl 25 zeroO hW9.res (obInfo _ _) rfl (obArr_one _ _) ?_))
            refine bodyPost_ret (v := .tuple #[.agg (obArr ⟨3, ⟨#[]⟩, [], t1, T, t3, t5, (n4 : Int), ⟨#[]⟩⟩ ⟨none, 0, A, cc⟩), .int .i64 0]) ?_ rfl (DEnd_eq HX.out hW9.done)
            rw [results_cell_tmp Tryd.results6]
            have hld := run_loadVar_row (P := Tryd.prog) _ _ _ 25 _ _ _ (hW9.res.row (obArr ⟨3, ⟨#[]⟩, [], t1, T, t3, t5, (n4 : Int), ⟨#[]⟩⟩ ⟨none, 0, A, cc⟩)) Tryd.underlying25 rfl (obInfo ⟨3, ⟨#[]⟩, [], t1, T, t3, t5, (n4 : Int), ⟨#[]⟩⟩ ⟨none, 0, A, cc⟩)
            simp [asAddr, hld, Result.andThen]
      · have HF := HF1
        clear HF1
        go_wp2_with fail
        clear d1
        (with_reducible refine (Q3.out wr hW.cur).mono ?_)
        rintro _ W2 ⟨rfl, h2, k2⟩
        have hW2 := hW.read h2 k2
        clear hW h2 k2 Q3
        go_wp2_with fail
        (with_reducible refine (Q4.out W2 hW2.cur).mono ?_)
        rintro _ W3 ⟨rfl, h2, k2⟩
        have hW3 := hW2.read h2 k2
        clear hW2 h2 k2 Q4
        go_wp2_with fail
        (with_reducible refine (Q5.out W3 hW3.cur).mono ?_)
        rintro _ W4 ⟨rfl, h2, k2⟩
        have hW4 := hW3.read h2 k2
        clear hW3 h2 k2 Q5
        have c5 : W4.cell? ⟨b, 5, none⟩ = some (.string ⟨#[]⟩) := hW4.box.cell 5
        have c7 : W4.cell? ⟨b, 7, none⟩ = some (.int .i64 0) := hW4.box.cell 7
        have c6 : W4.cell? ⟨b, 6, none⟩ = some (.string ⟨#[]⟩) := hW4.box.cell 6
        have f5 := hW4.box.free 5
        have f7 := hW4.box.free 7
        have f6 := hW4.box.free 6
        go_upto_region 32 with fail
        refine wp_forget (Gd w b ⟨3, ⟨#[]⟩, [], t1, T, t3, t5, (n4 : Int), ⟨#[]⟩⟩ ⟨none, 0, A, cc⟩ s5) (by exact ((hW4.put (o' := ⟨3, ⟨#[]⟩, [], t1, T, t3, ⟨#[]⟩, 0, ⟨#[]⟩⟩) 5 (.string t3) rfl rfl rfl).put (o' := ⟨3, ⟨#[]⟩, [], t1, T, t3, ⟨#[]⟩, (n4 : Int), ⟨#[]⟩⟩) 7 (.int .i64 (n4 : Int)) rfl rfl rfl).put 6 (.string t5) rfl rfl rfl) ?_
        clear hW4 c5 c7 c6 f5 f7 f6
        intro W hW
        clear st
        obtain ⟨sc, ec, hC, he, he2, hsl⟩ := hW.cur.cells
        have d0 := hC.c0
        have d1 := hC.c1
        cases s5 with
        | none =>
          rw [Option.isNone_none] at he
          have HX : Hid (R = (Ob.none, 2)) := HF.out
          clear HF he2 hsl hC
          go_wp2_with (first | (refine wpList_load_row rfl 25 _ rfl (w.heap.size + 1) rfl 25 _ (0, 0) _ hW.non Tryd.underlying25 rfl (obInfo _ _) ?_) | (refine wpList_store_row rfl 25 _ _ rfl w.heap.size (obArr Ob.none atNil) rfl rfl 25 zeroO hW.res (obInfo _ _) rfl (obArr_one _ _) ?_))
          refine bodyPost_ret (v := .tuple #[.agg (obArr Ob.none atNil), .int .i64 2]) ?_ rfl (DEnd_eq HX.out (hW.fail 2))
          rw [results_cell_tmp Tryd.results6]
          have hld := run_loadVar_row (P := Tryd.prog) _ _ _ 25 _ _ _ (hW.res.row (obArr Ob.none atNil)) Tryd.underlying25 rfl (obInfo Ob.none atNil)
          simp [asAddr, hld, Result.andThen]
        | some rest =>
          obtain ⟨rfl, rfl⟩ := hsl rest rfl
          clear he he2 hsl hC
          by_cases hrest : 0 < rest.length
          · have HX : Hid (R = (Ob.none, 2)) := by
              show _ = _
              rw [HF.out]
              exact fin_rest hrest
            have hne : (bs rest).toList.isEmpty = false := by
              rw [ByteArray.toList_eq, bs_list]
              cases rest with
              | nil => simp at hrest
              | cons => rfl
            clear HF
            go_wp2_with (first | (refine wpList_load_row rfl 25 _ rfl (w.heap.size + 1) rfl 25 _ (0, 0) _ hW.non Tryd.underlying25 rfl (obInfo _ _) ?_) | (refine wpList_store_row rfl 25 _ _ rfl w.heap.size (obArr Ob.none atNil) rfl rfl 25 zeroO hW.res (obInfo _ _) rfl (obArr_one _ _) ?_))
            refine bodyPost_ret (v := .tuple #[.agg (obArr Ob.none atNil), .int .i64 2]) ?_ rfl (DEnd_eq HX.out (hW.fail 2))
            rw [results_cell_tmp Tryd.results6]
            have hld := run_loadVar_row (P := Tryd.prog) _ _ _ 25 _ _ _ (hW.res.row (obArr Ob.none atNil)) Tryd.underlying25 rfl (obInfo Ob.none atNil)
            simp [asAddr, hld, Result.andThen]
          · obtain rfl : rest = [] := List.eq_nil_of_length_eq_zero (by omega)
            have hne : (bs []).toList = [] := by rw [ByteArray.toList_eq, bs_list]
            have hF : R = if good ⟨3, ⟨#[]⟩, [], t1, T, t3, t5, (n4 : Int), ⟨#[]⟩⟩ ≠ 0 then (Ob.none, good ⟨3, ⟨#[]⟩, [], t1, T, t3, t5, (n4 : Int), ⟨#[]⟩⟩) else (⟨3, ⟨#[]⟩, [], t1, T, t3, t5, (n4 : Int), ⟨#[]⟩⟩, 0) := HF.out
            have CG := Lib.hid (fun Wq h => GoodObject_any ⟨3, ⟨#[]⟩, [], t1, T, t3, t5, (n4 : Int), ⟨#[]⟩⟩ ⟨none, 0, A, cc⟩ Wq h (fun e he => by simp at he))
            generalize hgo : good ⟨3, ⟨#[]⟩, [], t1, T, t3, t5, (n4 : Int), ⟨#[]⟩⟩ = G at *
            clear hgo hrest HF
            have HF := Lib.hid hF
            clear hF
            go_wp2_with (refine wpList_load_row rfl 25 _ rfl b rfl 25 _ (0, 0) _ hW.box Tryd.underlying25 rfl (obInfo _ _) ?_)
            (with_reducible refine (CG.out W hW.ins.1).mono ?_)
            clear CG
            rintro _ W9 ⟨rfl, b9⟩
            have hW9 : Gd w b ⟨3, ⟨#[]⟩, [], t1, T, t3, t5, (n4 : Int), ⟨#[]⟩⟩ ⟨none, 0, A, cc⟩ (some []) W9 := hW.grow (r := none) (gb_below b9) (fun q e => by cases e) (hW.oe.kept (gb_below (r := none) b9) (by cases hq : Value.ownBlock _ <;> simp)) (hW.op.kept (gb_below (r := none) b9) (by cases hq : Value.ownBlock _ <;> simp))
            clear hW b9 d0 d1
            cases hG : G != 0
            case true =>
              have HX : Hid (R = (Ob.none, G)) := by
                show _ = _
                rw [HF.out, if_pos (by simpa using hG)]
              clear HF
              go_wp2_with (first | (refine wpList_load_row rfl 25 _ rfl (w.heap.size + 1) rfl 25 _ (0, 0) _ hW9.non Tryd.underlying25 rfl (obInfo _ _) ?_) | (refine wpList_store_row rfl 25 _ _ rfl w.heap.size (obArr Ob.none atNil) rfl rfl 25 zeroO hW9.res (obInfo _ _) rfl (obArr_one _ _) ?_))
              refine bodyPost_ret (v := .tuple #[.agg (obArr Ob.none atNil), .int .i64 G]) ?_ rfl (DEnd_eq HX.out (hW9.fail G))
              rw [results_cell_tmp Tryd.results6]
              have hld := run_loadVar_row (P := Tryd.prog) _ _ _ 25 _ _ _ (hW9.res.row (obArr Ob.none atNil)) Tryd.underlying25 rfl (obInfo Ob.none atNil)
              simp [asAddr, hld, Result.andThen]
            have hG2 : G = 0 := by simpa using hG
            subst hG2
            have HX : Hid (R = (⟨3, ⟨#[]⟩, [], t1, T, t3, t5, (n4 : Int), ⟨#[]⟩⟩, 0)) := by
              show _ = _
              rw [HF.out, if_neg (by simp)]
            clear HF hG
            go_wp2_with (first | (refine wpList_load_row rfl 25 _ rfl b rfl 25 _ (0, 0) _ hW9.box Tryd.underlying25 rfl (obInfo _ _) ?_) | (refine wpList_store_row rfl 25 _ _ rfl w.heap.size (obArr ⟨3, ⟨#[]⟩, [], t1, T, t3, t5, (n4 : Int), ⟨#[]⟩⟩ ⟨none, 0, A, cc⟩) rfl rfl 25 zeroO hW9.res (obInfo _ _) rfl (obArr_one _ _) ?_))
            refine bodyPost_ret (v := .tuple #[.agg (obArr ⟨3, ⟨#[]⟩, [], t1, T, t3, t5, (n4 : Int), ⟨#[]⟩⟩ ⟨none, 0, A, cc⟩), .int .i64 0]) ?_ rfl (DEnd_eq HX.out hW9.done)
            rw [results_cell_tmp Tryd.results6]
            have hld := run_loadVar_row (P := Tryd.prog) _ _ _ 25 _ _ _ (hW9.res.row (obArr ⟨3, ⟨#[]⟩, [], t1, T, t3, t5, (n4 : Int), ⟨#[]⟩⟩ ⟨none, 0, A, cc⟩)) Tryd.underlying25 rfl (obInfo ⟨3, ⟨#[]⟩, [], t1, T, t3, t5, (n4 : Int), ⟨#[]⟩⟩ ⟨none, 0, A, cc⟩)
            simp [asAddr, hld, Result.andThen]
end Go.Proofs.YtgffbdkngnpfpaaDoor

/- ref.Decode: its contract. -/
namespace Go.Proofs.YtgffbdkngnpfpaaDoor
open Go.RowKit


theorem RefDecode_any (s : ByteArray) (w : World) : Calls Tryd.prog 6 #[.string s] w (DEnd w (decO s.data.toList).1 (decO s.data.toList).2) := by
  by_cases hlong : 8192 < s.data.toList.length
  · exact RefDecode_no s (fun h => absurd hlong h) w
  cases hnum : rdNum s.data.toList with
  | none => exact RefDecode_no s (fun _ n r h => by rw [hnum] at h; cases h) w
  | some y =>
    obtain ⟨n, r⟩ := y
    by_cases hk : n = 1 ∨ n = 2 ∨ n = 3 ∨ n = 4
    · rcases hk with rfl | rfl | rfl | rfl
      · exact RefDecode_1 s r hlong hnum w
      · exact RefDecode_2 s r hlong hnum w
      · exact RefDecode_3 s r hlong hnum w
      · exact RefDecode_4 s r hlong hnum w
    · exact RefDecode_no s (fun _ n' r' h => by rw [hnum] at h; cases h; exact hk) w
end Go.Proofs.YtgffbdkngnpfpaaDoor
