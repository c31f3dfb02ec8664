/- Texts in one: ORefDec0, ORefDec1, ORefDec4. -/
import Derived.Test.YtgffbdkngnpfpaaDoorORefDecB
/- ref.Decode where no object is read. -/
namespace Go.Proofs.YtgffbdkngnpfpaaDoor
open Go.RowKit


set_option maxRecDepth 100000 in
set_option maxHeartbeats 8000000 in
theorem RefDecode_no (s : ByteArray) (hno : ¬ 8192 < s.data.toList.length → ∀ n r, rdNum s.data.toList = some (n, r) → ¬ (n = 1 ∨ n = 2 ∨ n = 3 ∨ n = 4)) (w : World) : Calls Tryd.prog 6 #[.string s] w (DEnd w (decO s.data.toList).1 (decO s.data.toList).2) := by
  obtain ⟨si, hsi, sz0, sz1, sz2⟩ := info_parts info_str
  obtain ⟨ei, hei, ez0, ez1, ez2⟩ := info_parts info_ent
  have Hsi := Lib.hid hsi
  have Sz0 := Lib.hid sz0
  have Sz1 := Lib.hid sz1
  have Sz2 := Lib.hid sz2
  have Hei := Lib.hid hei
  have Ez0 := Lib.hid ez0
  have Ez1 := Lib.hid ez1
  have Ez2 := Lib.hid ez2
  clear hsi sz0 sz1 sz2 hei ez0 ez1 ez2
  obtain ⟨R, hR⟩ : ∃ R, R = decO s.data.toList := ⟨_, rfl⟩
  rw [← hR]
  have HR := Lib.hid hR
  clear hR
  go_enter Tryd.func6, Tryd.ntmps6
  go_upto_region 2 with (refine wpList_store_row rfl 25 _ _ rfl (w.heap.size + 1) (obArr Ob.none atNil) rfl rfl 25 zeroO (Arr.new_at (w.alloc _) _ _ (by simp)) (obInfo _ _) rfl (obArr_one _ _) ?_)
  refine wp_forget (H0 w) (h0_start w) ?_
  intro W hW0
  have hlen : s.data.toList.length = s.size := rfl
  by_cases hlong : 8192 < s.data.toList.length
  · have HX : Hid (R = (Ob.none, 1)) := by
      show _ = _
      rw [HR.out]
      unfold decO
      rw [if_pos hlong]
    have hi : (8192 : Int) < s.size := by omega
    clear HR hlong hlen
    go_wp2_with (first | (refine wpList_load_row rfl 25 _ rfl (w.heap.size + 1) rfl 25 _ (0, 0) _ hW0.2.1 Tryd.underlying25 rfl (obInfo _ _) ?_) | (refine wpList_store_row rfl 25 _ _ rfl w.heap.size (obArr Ob.none atNil) rfl rfl 25 zeroO hW0.1 (obInfo _ _) rfl (obArr_one _ _) ?_))
    refine bodyPost_ret (v := .tuple #[.agg (obArr Ob.none atNil), .int .i64 1]) ?_ rfl (DEnd_eq HX.out ⟨atNil, rfl, noneIn _ _, below_setRow hW0.2.2.2 (Nat.le_refl _) _⟩)
    rw [results_cell_tmp Tryd.results6]
    have hld := run_loadVar_row (P := Tryd.prog) _ _ _ 25 _ _ _ (hW0.1.row (obArr Ob.none atNil)) Tryd.underlying25 rfl (obInfo Ob.none atNil)
    simp [asAddr, hld, Result.andThen]
  have hi : ¬ (8192 : Int) < s.size := by omega
  have hHd := Lib.hid (hd_start hW0 s.data.toList hlong)
  rw [bs_of] at hHd
  have hsz := hW0.2.2.1
  go_upto_region 5 with fail
  refine wp_forget (Hd w (some s.data.toList)) (by exact hHd.out) ?_
  clear hHd hW0 hsz W hi hlen
  generalize s.data.toList = l at *
  intro W hW
  have q1 := fun Wq h => cs_num (w.heap.size + 2) (some l) Wq h
  have hn62 := stNum_lt (some l)
  have hst : ∃ n1 s1, stNum (some l) = (n1, s1) := ⟨_, _, rfl⟩
  obtain ⟨n, s1, hst⟩ := hst
  rw [hst] at q1 hn62
  have Q1 := Lib.hid q1
  have HST := Lib.hid hst
  clear q1 hst
  simp only at hn62
  go_wp2_with fail
  (with_reducible refine (Q1.out W hW.cur).mono ?_)
  rintro _ W2 ⟨rfl, h2, k2⟩
  have hW2 := hW.read h2 k2
  clear hW h2 k2 Q1
  go_upto_region 7 with (refine wpList_store_row rfl 25 _ _ rfl W2.heap.size (obArr (kOb (n : Int)) atNil) rfl rfl 25 zeroO (Arr.new W2 _ _) (obInfo _ _) rfl (obArr_one _ _) ?_)
  refine wp_forget (Gd w W2.heap.size (kOb (n : Int)) atNil s1) (gd_start hW2 (n : Int)) ?_
  clear hW2
  generalize W2.heap.size = b at *
  clear W W2
  intro W hW
  obtain ⟨sc, ec, hC, he, he2, hsl⟩ := hW.cur.cells
  have d1 := hC.c1
  cases hnum : rdNum l with
  | none =>
    obtain ⟨rfl, rfl⟩ : n = 0 ∧ s1 = none := by
      have h := HST.out
      simp [stNum, hnum] at h
      exact ⟨h.1.symm, h.2.symm⟩
    have HX : Hid (R = (Ob.none, 2)) := by
      show _ = _
      rw [HR.out]
      unfold decO
      rw [if_neg hlong, hnum]
    rw [Option.isNone_none] at he
    clear HR HST he2 hsl hC hlong
    go_wp2_with (first | (refine wpList_load_row rfl 25 _ rfl (w.heap.size + 1) rfl 25 _ (0, 0) _ hW.non Tryd.underlying25 rfl (obInfo _ _) ?_) | (refine wpList_store_row rfl 25 _ _ rfl w.heap.size (obArr Ob.none atNil) rfl rfl 25 zeroO hW.res (obInfo _ _) rfl (obArr_one _ _) ?_))
    refine bodyPost_ret (v := .tuple #[.agg (obArr Ob.none atNil), .int .i64 2]) ?_ rfl (DEnd_eq HX.out (hW.fail 2))
    rw [results_cell_tmp Tryd.results6]
    have hld := run_loadVar_row (P := Tryd.prog) _ _ _ 25 _ _ _ (hW.res.row (obArr Ob.none atNil)) Tryd.underlying25 rfl (obInfo Ob.none atNil)
    simp [asAddr, hld, Result.andThen]
  | some y =>
    obtain ⟨n', r⟩ := y
    obtain ⟨rfl, rfl⟩ : n' = n ∧ s1 = some r := by
      have h := HST.out
      simp [stNum, hnum] at h
      exact ⟨h.1, h.2.symm⟩
    obtain ⟨_, rfl⟩ := hsl r rfl
    clear he he2 hsl hC HST
    have hkind : ¬ (n' = 1 ∨ n' = 2 ∨ n' = 3 ∨ n' = 4) := hno hlong n' r hnum
    clear hno
    have hkb := kindB_no (k := (n' : Int)) (by omega)
    have HX : Hid (R = (Ob.none, 4)) := by
      show _ = _
      rw [HR.out]
      unfold decO
      rw [if_neg hlong, hnum]
      simp only
      rw [if_pos hkb]
    have c0 : W.cell? ⟨b, 0, none⟩ = some (.int .i64 (n' : Int)) := hW.box.cell 0
    have hor : (n' : Int) < 1 ∨ (¬ (n' : Int) < 1 ∧ (4 : Int) < n') := by omega
    clear HR hlong hkb hkind hnum
    rcases hor with hi | ⟨hi, hi2⟩
    · go_wp2_with (first | (refine wpList_load_row rfl 25 _ rfl (w.heap.size + 1) rfl 25 _ (0, 0) _ hW.non Tryd.underlying25 rfl (obInfo _ _) ?_) | (refine wpList_store_row rfl 25 _ _ rfl w.heap.size (obArr Ob.none atNil) rfl rfl 25 zeroO hW.res (obInfo _ _) rfl (obArr_one _ _) ?_))
      refine bodyPost_ret (v := .tuple #[.agg (obArr Ob.none atNil), .int .i64 4]) ?_ rfl (DEnd_eq HX.out (hW.fail 4))
      rw [results_cell_tmp Tryd.results6]
      have hld := run_loadVar_row (P := Tryd.prog) _ _ _ 25 _ _ _ (hW.res.row (obArr Ob.none atNil)) Tryd.underlying25 rfl (obInfo Ob.none atNil)
      simp [asAddr, hld, Result.andThen]
    · go_wp2_with (first | (refine wpList_load_row rfl 25 _ rfl (w.heap.size + 1) rfl 25 _ (0, 0) _ hW.non Tryd.underlying25 rfl (obInfo _ _) ?_) | (refine wpList_store_row rfl 25 _ _ rfl w.heap.size (obArr Ob.none atNil) rfl rfl 25 zeroO hW.res (obInfo _ _) rfl (obArr_one _ _) ?_))
      refine bodyPost_ret (v := .tuple #[.agg (obArr Ob.none atNil), .int .i64 4]) ?_ rfl (DEnd_eq HX.out (hW.fail 4))
      rw [results_cell_tmp Tryd.results6]
      have hld := run_loadVar_row (P := Tryd.prog) _ _ _ 25 _ _ _ (hW.res.row (obArr Ob.none atNil)) Tryd.underlying25 rfl (obInfo Ob.none atNil)
      simp [asAddr, hld, Result.andThen]
end Go.Proofs.YtgffbdkngnpfpaaDoor

/- ref.Decode of kind 1. -/
namespace Go.Proofs.YtgffbdkngnpfpaaDoor
open Go.RowKit


set_option maxRecDepth 100000 in
set_option maxHeartbeats 8000000 in
theorem RefDecode_1 (s : ByteArray) (r : List UInt8) (hlong : ¬ 8192 < s.data.toList.length) (hnum : rdNum s.data.toList = some (1, r)) (w : World) : Calls Tryd.prog 6 #[.string s] w (DEnd w (decO s.data.toList).1 (decO s.data.toList).2) := by
  obtain ⟨si, hsi, sz0, sz1, sz2⟩ := info_parts info_str
  obtain ⟨ei, hei, ez0, ez1, ez2⟩ := info_parts info_ent
  have Hsi := Lib.hid hsi
  have Sz0 := Lib.hid sz0
  have Sz1 := Lib.hid sz1
  have Sz2 := Lib.hid sz2
  have Hei := Lib.hid hei
  have Ez0 := Lib.hid ez0
  have Ez1 := Lib.hid ez1
  have Ez2 := Lib.hid ez2
  clear hsi sz0 sz1 sz2 hei ez0 ez1 ez2
  obtain ⟨R, hR⟩ : ∃ R, R = decO s.data.toList := ⟨_, rfl⟩
  rw [← hR]
  have HR := Lib.hid hR
  clear hR
  go_enter Tryd.func6, Tryd.ntmps6
  go_upto_region 2 with (refine wpList_store_row rfl 25 _ _ rfl (w.heap.size + 1) (obArr Ob.none atNil) rfl rfl 25 zeroO (Arr.new_at (w.alloc _) _ _ (by simp)) (obInfo _ _) rfl (obArr_one _ _) ?_)
  refine wp_forget (H0 w) (h0_start w) ?_
  intro W hW0
  have hlen : s.data.toList.length = s.size := rfl
  have hi : ¬ (8192 : Int) < s.size := by omega
  have hHd := Lib.hid (hd_start hW0 s.data.toList hlong)
  rw [bs_of] at hHd
  have hsz := hW0.2.2.1
  go_upto_region 5 with fail
  refine wp_forget (Hd w (some s.data.toList)) (by exact hHd.out) ?_
  clear hHd hW0 hsz W hi hlen
  generalize s.data.toList = l at *
  intro W hW
  have q1 := fun Wq h => cs_num (w.heap.size + 2) (some l) Wq h
  have hn62 := stNum_lt (some l)
  have hst : ∃ n1 s1, stNum (some l) = (n1, s1) := ⟨_, _, rfl⟩
  obtain ⟨n, s1, hst⟩ := hst
  rw [hst] at q1 hn62
  have Q1 := Lib.hid q1
  have HST := Lib.hid hst
  clear q1 hst
  simp only at hn62
  go_wp2_with fail
  (with_reducible refine (Q1.out W hW.cur).mono ?_)
  rintro _ W2 ⟨rfl, h2, k2⟩
  have hW2 := hW.read h2 k2
  clear hW h2 k2 Q1
  go_upto_region 7 with (refine wpList_store_row rfl 25 _ _ rfl W2.heap.size (obArr (kOb (n : Int)) atNil) rfl rfl 25 zeroO (Arr.new W2 _ _) (obInfo _ _) rfl (obArr_one _ _) ?_)
  refine wp_forget (Gd w W2.heap.size (kOb (n : Int)) atNil s1) (gd_start hW2 (n : Int)) ?_
  clear hW2
  generalize W2.heap.size = b at *
  clear W W2
  intro W hW
  obtain ⟨sc, ec, hC, he, he2, hsl⟩ := hW.cur.cells
  have d1 := hC.c1
  obtain ⟨rfl, rfl⟩ : n = 1 ∧ s1 = some r := by
    have h := HST.out
    simp [stNum, hnum] at h
    exact ⟨h.1.symm, h.2.symm⟩
  obtain ⟨_, rfl⟩ := hsl r rfl
  clear he he2 hsl hC HST
  have q1 := fun Wq h => cs_txt (w.heap.size + 2) (some r) Wq h
  have hf : rdFields ((1 : Nat) : Int) r = match (stTxt (some r)).2 with | none => none | some rest => some (⟨1, (stTxt (some r)).1, [], ⟨#[]⟩, [], ⟨#[]⟩, ⟨#[]⟩, 0, ⟨#[]⟩⟩, rest) := by unfold rdFields; rw [if_pos (by decide)]; cases (stTxt (some r)).2 <;> rfl
  have HF : Hid (R = fin ⟨1, (stTxt (some r)).1, [], ⟨#[]⟩, [], ⟨#[]⟩, ⟨#[]⟩, 0, ⟨#[]⟩⟩ (stTxt (some r)).2) := by show _ = _; rw [HR.out]; exact dec_fin hlong hnum rfl hf
  clear hf HR
  generalize (stTxt (some r)).1 = t1 at *
  generalize (stTxt (some r)).2 = st at *
  have Q1 := Lib.hid q1
  clear q1
  have c0 : W.cell? ⟨b, 0, none⟩ = some (.int .i64 1) := hW.box.cell 0
  go_wp2_with fail
  (with_reducible refine (Q1.out W hW.cur).mono ?_)
  rintro _ W2 ⟨rfl, h2, k2⟩
  have hW2 := hW.read h2 k2
  clear hW h2 k2 Q1 c0 d1
  have c1 : W2.cell? ⟨b, 1, none⟩ = some (.string ⟨#[]⟩) := hW2.box.cell 1
  have f1 := hW2.box.free 1
  go_upto_region 32 with fail
  refine wp_forget (Gd w b ⟨1, t1, [], ⟨#[]⟩, [], ⟨#[]⟩, ⟨#[]⟩, 0, ⟨#[]⟩⟩ atNil st) (by exact hW2.put 1 (.string t1) rfl rfl rfl) ?_
  clear hW2 c1 f1
  clear W W2
  intro W hW
  obtain ⟨sc, ec, hC, he, he2, hsl⟩ := hW.cur.cells
  have d0 := hC.c0
  have d1 := hC.c1
  cases st with
  | none =>
    rw [Option.isNone_none] at he
    have HX : Hid (R = (Ob.none, 2)) := HF.out
    clear HF he2 hsl hC
    go_wp2_with (first | (refine wpList_load_row rfl 25 _ rfl (w.heap.size + 1) rfl 25 _ (0, 0) _ hW.non Tryd.underlying25 rfl (obInfo _ _) ?_) | (refine wpList_store_row rfl 25 _ _ rfl w.heap.size (obArr Ob.none atNil) rfl rfl 25 zeroO hW.res (obInfo _ _) rfl (obArr_one _ _) ?_))
    refine bodyPost_ret (v := .tuple #[.agg (obArr Ob.none atNil), .int .i64 2]) ?_ rfl (DEnd_eq HX.out (hW.fail 2))
    rw [results_cell_tmp Tryd.results6]
    have hld := run_loadVar_row (P := Tryd.prog) _ _ _ 25 _ _ _ (hW.res.row (obArr Ob.none atNil)) Tryd.underlying25 rfl (obInfo Ob.none atNil)
    simp [asAddr, hld, Result.andThen]
  | some rest =>
    obtain ⟨rfl, rfl⟩ := hsl rest rfl
    clear he he2 hsl hC
    by_cases hrest : 0 < rest.length
    · have HX : Hid (R = (Ob.none, 2)) := by
        show _ = _
        rw [HF.out]
        exact fin_rest hrest
      have hne : (bs rest).toList.isEmpty = false := by
        rw [ByteArray.toList_eq, bs_list]
        cases rest with
        | nil => simp at hrest
        | cons => rfl
      clear HF
      go_wp2_with (first | (refine wpList_load_row rfl 25 _ rfl (w.heap.size + 1) rfl 25 _ (0, 0) _ hW.non Tryd.underlying25 rfl (obInfo _ _) ?_) | (refine wpList_store_row rfl 25 _ _ rfl w.heap.size (obArr Ob.none atNil) rfl rfl 25 zeroO hW.res (obInfo _ _) rfl (obArr_one _ _) ?_))
      refine bodyPost_ret (v := .tuple #[.agg (obArr Ob.none atNil), .int .i64 2]) ?_ rfl (DEnd_eq HX.out (hW.fail 2))
      rw [results_cell_tmp Tryd.results6]
      have hld := run_loadVar_row (P := Tryd.prog) _ _ _ 25 _ _ _ (hW.res.row (obArr Ob.none atNil)) Tryd.underlying25 rfl (obInfo Ob.none atNil)
      simp [asAddr, hld, Result.andThen]
    · obtain rfl : rest = [] := List.eq_nil_of_length_eq_zero (by omega)
      have hne : (bs []).toList = [] := by rw [ByteArray.toList_eq, bs_list]
      have hF : R = if good ⟨1, t1, [], ⟨#[]⟩, [], ⟨#[]⟩, ⟨#[]⟩, 0, ⟨#[]⟩⟩ ≠ 0 then (Ob.none, good ⟨1, t1, [], ⟨#[]⟩, [], ⟨#[]⟩, ⟨#[]⟩, 0, ⟨#[]⟩⟩) else (⟨1, t1, [], ⟨#[]⟩, [], ⟨#[]⟩, ⟨#[]⟩, 0, ⟨#[]⟩⟩, 0) := HF.out
      have CG := Lib.hid (fun Wq h => GoodObject_any ⟨1, t1, [], ⟨#[]⟩, [], ⟨#[]⟩, ⟨#[]⟩, 0, ⟨#[]⟩⟩ atNil Wq h (fun e he => by simp at he))
      generalize hgo : good ⟨1, t1, [], ⟨#[]⟩, [], ⟨#[]⟩, ⟨#[]⟩, 0, ⟨#[]⟩⟩ = G at *
      clear hgo hrest HF
      have HF := Lib.hid hF
      clear hF
      go_wp2_with (refine wpList_load_row rfl 25 _ rfl b rfl 25 _ (0, 0) _ hW.box Tryd.underlying25 rfl (obInfo _ _) ?_)
      (with_reducible refine (CG.out W hW.ins.1).mono ?_)
      clear CG
      rintro _ W9 ⟨rfl, b9⟩
      have hW9 : Gd w b ⟨1, t1, [], ⟨#[]⟩, [], ⟨#[]⟩, ⟨#[]⟩, 0, ⟨#[]⟩⟩ atNil (some []) W9 := hW.grow (r := none) (gb_below b9) (fun q e => by cases e) (hW.oe.kept (gb_below (r := none) b9) (by cases hq : Value.ownBlock _ <;> simp)) (hW.op.kept (gb_below (r := none) b9) (by cases hq : Value.ownBlock _ <;> simp))
      clear hW b9 d0 d1
      cases hG : G != 0
      case true =>
        have HX : Hid (R = (Ob.none, G)) := by
          show _ = _
          rw [HF.out, if_pos (by simpa using hG)]
        clear HF
        go_wp2_with (first | (refine wpList_load_row rfl 25 _ rfl (w.heap.size + 1) rfl 25 _ (0, 0) _ hW9.non Tryd.underlying25 rfl (obInfo _ _) ?_) | (refine wpList_store_row rfl 25 _ _ rfl w.heap.size (obArr Ob.none atNil) rfl rfl 25 zeroO hW9.res (obInfo _ _) rfl (obArr_one _ _) ?_))
        refine bodyPost_ret (v := .tuple #[.agg (obArr Ob.none atNil), .int .i64 G]) ?_ rfl (DEnd_eq HX.out (hW9.fail G))
        rw [results_cell_tmp Tryd.results6]
        have hld := run_loadVar_row (P := Tryd.prog) _ _ _ 25 _ _ _ (hW9.res.row (obArr Ob.none atNil)) Tryd.underlying25 rfl (obInfo Ob.none atNil)
        simp [asAddr, hld, Result.andThen]
      have hG2 : G = 0 := by simpa using hG
      subst hG2
      have HX : Hid (R = (⟨1, t1, [], ⟨#[]⟩, [], ⟨#[]⟩, ⟨#[]⟩, 0, ⟨#[]⟩⟩, 0)) := by
        show _ = _
        rw [HF.out, if_neg (by simp)]
      clear HF hG
      go_wp2_with (first | (refine wpList_load_row rfl 25 _ rfl b rfl 25 _ (0, 0) _ hW9.box Tryd.underlying25 rfl (obInfo _ _) ?_) | (refine wpList_store_row rfl 25 _ _ rfl w.heap.size (obArr ⟨1, t1, [], ⟨#[]⟩, [], ⟨#[]⟩, ⟨#[]⟩, 0, ⟨#[]⟩⟩ atNil) rfl rfl 25 zeroO hW9.res (obInfo _ _) rfl (obArr_one _ _) ?_))
      refine bodyPost_ret (v := .tuple #[.agg (obArr ⟨1, t1, [], ⟨#[]⟩, [], ⟨#[]⟩, ⟨#[]⟩, 0, ⟨#[]⟩⟩ atNil), .int .i64 0]) ?_ rfl (DEnd_eq HX.out hW9.done)
      rw [results_cell_tmp Tryd.results6]
      have hld := run_loadVar_row (P := Tryd.prog) _ _ _ 25 _ _ _ (hW9.res.row (obArr ⟨1, t1, [], ⟨#[]⟩, [], ⟨#[]⟩, ⟨#[]⟩, 0, ⟨#[]⟩⟩ atNil)) Tryd.underlying25 rfl (obInfo ⟨1, t1, [], ⟨#[]⟩, [], ⟨#[]⟩, ⟨#[]⟩, 0, ⟨#[]⟩⟩ atNil)
      simp [asAddr, hld, Result.andThen]
end Go.Proofs.YtgffbdkngnpfpaaDoor

/- ref.Decode of kind 4. -/
namespace Go.Proofs.YtgffbdkngnpfpaaDoor
open Go.RowKit


set_option maxRecDepth 100000 in
set_option maxHeartbeats 8000000 in
theorem RefDecode_4 (s : ByteArray) (r : List UInt8) (hlong : ¬ 8192 < s.data.toList.length) (hnum : rdNum s.data.toList = some (4, r)) (w : World) : Calls Tryd.prog 6 #[.string s] w (DEnd w (decO s.data.toList).1 (decO s.data.toList).2) := by
  obtain ⟨si, hsi, sz0, sz1, sz2⟩ := info_parts info_str
  obtain ⟨ei, hei, ez0, ez1, ez2⟩ := info_parts info_ent
  have Hsi := Lib.hid hsi
  have Sz0 := Lib.hid sz0
  have Sz1 := Lib.hid sz1
  have Sz2 := Lib.hid sz2
  have Hei := Lib.hid hei
  have Ez0 := Lib.hid ez0
  have Ez1 := Lib.hid ez1
  have Ez2 := Lib.hid ez2
  clear hsi sz0 sz1 sz2 hei ez0 ez1 ez2
  obtain ⟨R, hR⟩ : ∃ R, R = decO s.data.toList := ⟨_, rfl⟩
  rw [← hR]
  have HR := Lib.hid hR
  clear hR
  go_enter Tryd.func6, Tryd.ntmps6
  go_upto_region 2 with (refine wpList_store_row rfl 25 _ _ rfl (w.heap.size + 1) (obArr Ob.none atNil) rfl rfl 25 zeroO (Arr.new_at (w.alloc _) _ _ (by simp)) (obInfo _ _) rfl (obArr_one _ _) ?_)
  refine wp_forget (H0 w) (h0_start w) ?_
  intro W hW0
  have hlen : s.data.toList.length = s.size := rfl
  have hi : ¬ (8192 : Int) < s.size := by omega
  have hHd := Lib.hid (hd_start hW0 s.data.toList hlong)
  rw [bs_of] at hHd
  have hsz := hW0.2.2.1
  go_upto_region 5 with fail
  refine wp_forget (Hd w (some s.data.toList)) (by exact hHd.out) ?_
  clear hHd hW0 hsz W hi hlen
  generalize s.data.toList = l at *
  intro W hW
  have q1 := fun Wq h => cs_num (w.heap.size + 2) (some l) Wq h
  have hn62 := stNum_lt (some l)
  have hst : ∃ n1 s1, stNum (some l) = (n1, s1) := ⟨_, _, rfl⟩
  obtain ⟨n, s1, hst⟩ := hst
  rw [hst] at q1 hn62
  have Q1 := Lib.hid q1
  have HST := Lib.hid hst
  clear q1 hst
  simp only at hn62
  go_wp2_with fail
  (with_reducible refine (Q1.out W hW.cur).mono ?_)
  rintro _ W2 ⟨rfl, h2, k2⟩
  have hW2 := hW.read h2 k2
  clear hW h2 k2 Q1
  go_upto_region 7 with (refine wpList_store_row rfl 25 _ _ rfl W2.heap.size (obArr (kOb (n : Int)) atNil) rfl rfl 25 zeroO (Arr.new W2 _ _) (obInfo _ _) rfl (obArr_one _ _) ?_)
  refine wp_forget (Gd w W2.heap.size (kOb (n : Int)) atNil s1) (gd_start hW2 (n : Int)) ?_
  clear hW2
  generalize W2.heap.size = b at *
  clear W W2
  intro W hW
  obtain ⟨sc, ec, hC, he, he2, hsl⟩ := hW.cur.cells
  have d1 := hC.c1
  obtain ⟨rfl, rfl⟩ : n = 4 ∧ s1 = some r := by
    have h := HST.out
    simp [stNum, hnum] at h
    exact ⟨h.1.symm, h.2.symm⟩
  obtain ⟨_, rfl⟩ := hsl r rfl
  clear he he2 hsl hC HST
  have q1 := fun Wq h => cs_id (w.heap.size + 2) (some r) Wq h
  have q2 := fun Wq h => cs_txt (w.heap.size + 2) (stId (some r)).2 Wq h
  have q3 := fun Wq h => cs_txt (w.heap.size + 2) (stTxt (stId (some r)).2).2 Wq h
  have hf : rdFields ((4 : Nat) : Int) r = match (stTxt (stTxt (stId (some r)).2).2).2 with | none => none | some rest => some (⟨4, ⟨#[]⟩, [], ⟨#[]⟩, [], (stTxt (stId (some r)).2).1, (stTxt (stTxt (stId (some r)).2).2).1, 0, (stId (some r)).1⟩, rest) := by unfold rdFields; rw [if_neg (by decide), if_neg (by decide), if_neg (by decide)]; cases (stTxt (stTxt (stId (some r)).2).2).2 <;> rfl
  have HF : Hid (R = fin ⟨4, ⟨#[]⟩, [], ⟨#[]⟩, [], (stTxt (stId (some r)).2).1, (stTxt (stTxt (stId (some r)).2).2).1, 0, (stId (some r)).1⟩ (stTxt (stTxt (stId (some r)).2).2).2) := by show _ = _; rw [HR.out]; exact dec_fin hlong hnum rfl hf
  clear hf HR
  generalize (stTxt (stTxt (stId (some r)).2).2).1 = t3 at *
  generalize (stTxt (stTxt (stId (some r)).2).2).2 = st at *
  generalize (stTxt (stId (some r)).2).1 = t2 at *
  generalize (stTxt (stId (some r)).2).2 = s2 at *
  generalize (stId (some r)).1 = t1 at *
  generalize (stId (some r)).2 = s1 at *
  have Q1 := Lib.hid q1
  have Q2 := Lib.hid q2
  have Q3 := Lib.hid q3
  clear q1 q2 q3
  have c0 : W.cell? ⟨b, 0, none⟩ = some (.int .i64 4) := hW.box.cell 0
  go_wp2_with fail
  (with_reducible refine (Q1.out W hW.cur).mono ?_)
  rintro _ W2 ⟨rfl, h2, k2⟩
  have hW2 := hW.read h2 k2
  clear hW h2 k2 Q1 c0 d1
  go_wp2_with fail
  (with_reducible refine (Q2.out W2 hW2.cur).mono ?_)
  rintro _ W3 ⟨rfl, h2, k2⟩
  have hW3 := hW2.read h2 k2
  clear hW2 h2 k2 Q2
  go_wp2_with fail
  (with_reducible refine (Q3.out W3 hW3.cur).mono ?_)
  rintro _ W4 ⟨rfl, h2, k2⟩
  have hW4 := hW3.read h2 k2
  clear hW3 h2 k2 Q3
  have c8 : W4.cell? ⟨b, 8, none⟩ = some (.string ⟨#[]⟩) := hW4.box.cell 8
  have c5 : W4.cell? ⟨b, 5, none⟩ = some (.string ⟨#[]⟩) := hW4.box.cell 5
  have c6 : W4.cell? ⟨b, 6, none⟩ = some (.string ⟨#[]⟩) := hW4.box.cell 6
  have f8 := hW4.box.free 8
  have f5 := hW4.box.free 5
  have f6 := hW4.box.free 6
  go_upto_region 32 with fail
  refine wp_forget (Gd w b ⟨4, ⟨#[]⟩, [], ⟨#[]⟩, [], t2, t3, 0, t1⟩ atNil st) (by exact ((hW4.put (o' := ⟨4, ⟨#[]⟩, [], ⟨#[]⟩, [], ⟨#[]⟩, ⟨#[]⟩, 0, t1⟩) 8 (.string t1) rfl rfl rfl).put (o' := ⟨4, ⟨#[]⟩, [], ⟨#[]⟩, [], t2, ⟨#[]⟩, 0, t1⟩) 5 (.string t2) rfl rfl rfl).put 6 (.string t3) rfl rfl rfl) ?_
  clear hW4 c8 c5 c6 f8 f5 f6
  clear W W2 W3 W4
  intro W hW
  obtain ⟨sc, ec, hC, he, he2, hsl⟩ := hW.cur.cells
  have d0 := hC.c0
  have d1 := hC.c1
  cases st with
  | none =>
    rw [Option.isNone_none] at he
    have HX : Hid (R = (Ob.none, 2)) := HF.out
    clear HF he2 hsl hC
    go_wp2_with (first | (refine wpList_load_row rfl 25 _ rfl (w.heap.size + 1) rfl 25 _ (0, 0) _ hW.non Tryd.underlying25 rfl (obInfo _ _) ?_) | (refine wpList_store_row rfl 25 _ _ rfl w.heap.size (obArr Ob.none atNil) rfl rfl 25 zeroO hW.res (obInfo _ _) rfl (obArr_one _ _) ?_))
    refine bodyPost_ret (v := .tuple #[.agg (obArr Ob.none atNil), .int .i64 2]) ?_ rfl (DEnd_eq HX.out (hW.fail 2))
    rw [results_cell_tmp Tryd.results6]
    have hld := run_loadVar_row (P := Tryd.prog) _ _ _ 25 _ _ _ (hW.res.row (obArr Ob.none atNil)) Tryd.underlying25 rfl (obInfo Ob.none atNil)
    simp [asAddr, hld, Result.andThen]
  | some rest =>
    obtain ⟨rfl, rfl⟩ := hsl rest rfl
    clear he he2 hsl hC
    by_cases hrest : 0 < rest.length
    · have HX : Hid (R = (Ob.none, 2)) := by
        show _ = _
        rw [HF.out]
        exact fin_rest hrest
      have hne : (bs rest).toList.isEmpty = false := by
        rw [ByteArray.toList_eq, bs_list]
        cases rest with
        | nil => simp at hrest
        | cons => rfl
      clear HF
      go_wp2_with (first | (refine wpList_load_row rfl 25 _ rfl (w.heap.size + 1) rfl 25 _ (0, 0) _ hW.non Tryd.underlying25 rfl (obInfo _ _) ?_) | (refine wpList_store_row rfl 25 _ _ rfl w.heap.size (obArr Ob.none atNil) rfl rfl 25 zeroO hW.res (obInfo _ _) rfl (obArr_one _ _) ?_))
      refine bodyPost_ret (v := .tuple #[.agg (obArr Ob.none atNil), .int .i64 2]) ?_ rfl (DEnd_eq HX.out (hW.fail 2))
      rw [results_cell_tmp Tryd.results6]
      have hld := run_loadVar_row (P := Tryd.prog) _ _ _ 25 _ _ _ (hW.res.row (obArr Ob.none atNil)) Tryd.underlying25 rfl (obInfo Ob.none atNil)
      simp [asAddr, hld, Result.andThen]
    · obtain rfl : rest = [] := List.eq_nil_of_length_eq_zero (by omega)
      have hne : (bs []).toList = [] := by rw [ByteArray.toList_eq, bs_list]
      have hF : R = if good ⟨4, ⟨#[]⟩, [], ⟨#[]⟩, [], t2, t3, 0, t1⟩ ≠ 0 then (Ob.none, good ⟨4, ⟨#[]⟩, [], ⟨#[]⟩, [], t2, t3, 0, t1⟩) else (⟨4, ⟨#[]⟩, [], ⟨#[]⟩, [], t2, t3, 0, t1⟩, 0) := HF.out
      have CG := Lib.hid (fun Wq h => GoodObject_any ⟨4, ⟨#[]⟩, [], ⟨#[]⟩, [], t2, t3, 0, t1⟩ atNil Wq h (fun e he => by simp at he))
      generalize hgo : good ⟨4, ⟨#[]⟩, [], ⟨#[]⟩, [], t2, t3, 0, t1⟩ = G at *
      clear hgo hrest HF
      have HF := Lib.hid hF
      clear hF
      go_wp2_with (refine wpList_load_row rfl 25 _ rfl b rfl 25 _ (0, 0) _ hW.box Tryd.underlying25 rfl (obInfo _ _) ?_)
      (with_reducible refine (CG.out W hW.ins.1).mono ?_)
      clear CG
      rintro _ W9 ⟨rfl, b9⟩
      have hW9 : Gd w b ⟨4, ⟨#[]⟩, [], ⟨#[]⟩, [], t2, t3, 0, t1⟩ atNil (some []) W9 := hW.grow (r := none) (gb_below b9) (fun q e => by cases e) (hW.oe.kept (gb_below (r := none) b9) (by cases hq : Value.ownBlock _ <;> simp)) (hW.op.kept (gb_below (r := none) b9) (by cases hq : Value.ownBlock _ <;> simp))
      clear hW b9 d0 d1
      cases hG : G != 0
      case true =>
        have HX : Hid (R = (Ob.none, G)) := by
          show _ = _
          rw [HF.out, if_pos (by simpa using hG)]
        clear HF
        go_wp2_with (first | (refine wpList_load_row rfl 25 _ rfl (w.heap.size + 1) rfl 25 _ (0, 0) _ hW9.non Tryd.underlying25 rfl (obInfo _ _) ?_) | (refine wpList_store_row rfl 25 _ _ rfl w.heap.size (obArr Ob.none atNil) rfl rfl 25 zeroO hW9.res (obInfo _ _) rfl (obArr_one _ _) ?_))
        refine bodyPost_ret (v := .tuple #[.agg (obArr Ob.none atNil), .int .i64 G]) ?_ rfl (DEnd_eq HX.out (hW9.fail G))
        rw [results_cell_tmp Tryd.results6]
        have hld := run_loadVar_row (P := Tryd.prog) _ _ _ 25 _ _ _ (hW9.res.row (obArr Ob.none atNil)) Tryd.underlying25 rfl (obInfo Ob.none atNil)
        simp [asAddr, hld, Result.andThen]
      have hG2 : G = 0 := by simpa using hG
      subst hG2
      have HX : Hid (R = (⟨4, ⟨#[]⟩, [], ⟨#[]⟩, [], t2, t3, 0, t1⟩, 0)) := by
        show _ = _
        rw [HF.out, if_neg (by simp)]
      clear HF hG
      go_wp2_with (first | (refine wpList_load_row rfl 25 _ rfl b rfl 25 _ (0, 0) _ hW9.box Tryd.underlying25 rfl (obInfo _ _) ?_) | (refine wpList_store_row rfl 25 _ _ rfl w.heap.size (obArr ⟨4, ⟨#[]⟩, [], ⟨#[]⟩, [], t2, t3, 0, t1⟩ atNil) rfl rfl 25 zeroO hW9.res (obInfo _ _) rfl (obArr_one _ _) ?_))
      refine bodyPost_ret (v := .tuple #[.agg (obArr ⟨4, ⟨#[]⟩, [], ⟨#[]⟩, [], t2, t3, 0, t1⟩ atNil), .int .i64 0]) ?_ rfl (DEnd_eq HX.out hW9.done)
      rw [results_cell_tmp Tryd.results6]
      have hld := run_loadVar_row (P := Tryd.prog) _ _ _ 25 _ _ _ (hW9.res.row (obArr ⟨4, ⟨#[]⟩, [], ⟨#[]⟩, [], t2, t3, 0, t1⟩ atNil)) Tryd.underlying25 rfl (obInfo ⟨4, ⟨#[]⟩, [], ⟨#[]⟩, [], t2, t3, 0, t1⟩ atNil)
      simp [asAddr, hld, Result.andThen]
end Go.Proofs.YtgffbdkngnpfpaaDoor
