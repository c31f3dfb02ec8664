/- object.readFields: its contract. -/
import Derived.Test.YtgffbdkngnpfpaaODecD
namespace Go.Proofs.Ytgffbdkngnpfpaa
open Go.RowKit

set_option maxRecDepth 100000 in
set_option maxHeartbeats 4000000 in
theorem readFields_any (g : Nat) (l : List UInt8) (k : Int) (hk : k = 1 ∨ k = 2 ∨ k = 3 ∨ k = 4) (w : World) (h : RS w g (some l)) :
    Calls Try.prog 37 #[.pointer (some ⟨g, 0, none⟩), .int .i64 k] w (FEnd g w (rdFields k l)) := by
  have hF := Lib.hid (fd_start h k)
  obtain ⟨res, hres⟩ : ∃ res, res = rdFields k l := ⟨_, rfl⟩
  rw [← hres]
  unfold rdFields at hres
  clear h
  go_enter Try.func37, Try.ntmps37
  go_upto_region 2 with (refine wpList_store_row rfl 25 _ _ rfl (w.heap.size + 1) (obArr ⟨k, ⟨#[]⟩, [], ⟨#[]⟩, [], ⟨#[]⟩, ⟨#[]⟩, 0, ⟨#[]⟩⟩ atNil) rfl rfl 25 zeroO (Arr.new_at (w.alloc _) _ _ (by simp)) (obInfo _ _) rfl (obArr_one _ _) ?_)
  refine wp_forget (Fd w g w.heap.size (w.heap.size + 1) ⟨k, ⟨#[]⟩, [], ⟨#[]⟩, [], ⟨#[]⟩, ⟨#[]⟩, 0, ⟨#[]⟩⟩ atNil (some l)) hF.out ?_
  clear hF
  intro W hW
  rcases hk with rfl | rfl | rfl | rfl
  · rw [if_pos rfl] at hres
    have q1 := fun w h => rs_txt g (some l) w h
    generalize stTxt (some l) = x1 at *
    obtain ⟨t1, s1⟩ := x1
    simp only at hres q1
    have HR := Lib.hid hres
    have Q1 := Lib.hid q1
    clear hres q1
    go_wp2_with fail
    (with_reducible refine (Q1.out W hW.rd).mono ?_)
    rintro _ W2 ⟨rfl, h2, k2⟩
    have hW2 := hW.read h2 k2
    clear hW h2 k2
    have c := hW2.box.cell 1
    have f := hW2.box.free 1
    simp only [obArr, List.getElem?_toArray, List.getElem?_cons_zero, List.getElem?_cons_succ] at c
    go_upto_region 17 with fail
    refine wp_forget (Fd w g w.heap.size (w.heap.size + 1) ⟨1, t1, [], ⟨#[]⟩, [], ⟨#[]⟩, ⟨#[]⟩, 0, ⟨#[]⟩⟩ atNil s1) (by exact hW2.put 1 (.string t1) rfl hW2.ents hW2.pars hW2.room hW2.fe hW2.fp) ?_
    clear hW2 c f
    clear W W2
    intro W hW
    go_wp2_with (first | (refine wpList_load_row rfl 25 _ rfl (w.heap.size + 1) rfl 25 _ (0, 0) _ hW.box Try.underlying25 rfl (obInfo _ _) ?_) | (refine wpList_store_row rfl 25 _ _ rfl w.heap.size (obArr ⟨1, t1, [], ⟨#[]⟩, [], ⟨#[]⟩, ⟨#[]⟩, 0, ⟨#[]⟩⟩ atNil) rfl rfl 25 zeroO hW.res (obInfo _ _) rfl (obArr_one _ _) ?_))
    refine bodyPost_ret (v := .tuple #[.agg (obArr ⟨1, t1, [], ⟨#[]⟩, [], ⟨#[]⟩, ⟨#[]⟩, 0, ⟨#[]⟩⟩ atNil), .bool true]) ?_ rfl ?_
    · rw [results_cell_tmp Try.results37]
      have hld := run_loadVar_row (P := Try.prog) _ _ _ 25 _ _ _ (hW.res.row (obArr ⟨1, t1, [], ⟨#[]⟩, [], ⟨#[]⟩, ⟨#[]⟩, 0, ⟨#[]⟩⟩ atNil)) Try.underlying25 rfl (obInfo ⟨1, t1, [], ⟨#[]⟩, [], ⟨#[]⟩, ⟨#[]⟩, 0, ⟨#[]⟩⟩ atNil)
      simp [asAddr, hld, Result.andThen]
    obtain ⟨_, d2, d3, d4⟩ := hW.done
    cases s1 with
    | none => exact ⟨_, _, _, rfl, d2, .inr ⟨HR.out, none, d3, .inr rfl⟩⟩
    | some r => exact ⟨_, _, _, rfl, d2, .inl ⟨r, HR.out, rfl, d3, d4⟩⟩
  · rw [if_neg (by decide), if_pos rfl] at hres
    have Q1 := Lib.hid (fun w h => readEntries_any g (some l) w h)
    generalize rdEntsS (some l) = x1 at *
    have HR := Lib.hid hres
    clear hres
    go_wp2_with fail
    (with_reducible refine (Q1.out W hW.rd).mono ?_)
    rintro _ W2 ⟨A, cc, L, ok, rfl, ⟨hx, hy⟩, k2, hz⟩
    have hbW := hW.box.lt
    obtain ⟨st2, h2, HZ⟩ : ∃ st2, RS W2 g st2 ∧ Hid ((∃ r, x1 = some (L, r) ∧ ok = true ∧ st2 = some r) ∨ (x1 = none ∧ (ok = false ∨ st2 = none))) := by
      rcases hz with ⟨r, e1, e2, h2⟩ | ⟨e1, st2, h2, e2⟩
      · exact ⟨some r, h2, .inl ⟨r, e1, e2, rfl⟩⟩
      · exact ⟨st2, h2, .inr ⟨e1, e2⟩⟩
    have hW2 := hW.read h2 k2
    clear hW h2 k2 hz
    have c := hW2.box.cell 2
    have f := hW2.box.free 2
    simp only [obArr, List.getElem?_toArray, List.getElem?_cons_zero, List.getElem?_cons_succ] at c
    go_upto_region 17 with fail
    refine wp_forget (Fd w g w.heap.size (w.heap.size + 1) ⟨2, ⟨#[]⟩, L, ⟨#[]⟩, [], ⟨#[]⟩, ⟨#[]⟩, 0, ⟨#[]⟩⟩ ⟨A, cc, none, 0⟩ st2) (by exact hW2.put 2 (.slice A (List.length L) cc) rfl hx hW2.pars hW2.room (fun ad e => by have := hy ad e; omega) hW2.fp) ?_
    clear hW2 c f hx hy hbW
    clear W W2
    intro W hW
    go_wp2_with (first | (refine wpList_load_row rfl 25 _ rfl (w.heap.size + 1) rfl 25 _ (0, 0) _ hW.box Try.underlying25 rfl (obInfo _ _) ?_) | (refine wpList_store_row rfl 25 _ _ rfl w.heap.size (obArr ⟨2, ⟨#[]⟩, L, ⟨#[]⟩, [], ⟨#[]⟩, ⟨#[]⟩, 0, ⟨#[]⟩⟩ ⟨A, cc, none, 0⟩) rfl rfl 25 zeroO hW.res (obInfo _ _) rfl (obArr_one _ _) ?_))
    refine bodyPost_ret (v := .tuple #[.agg (obArr ⟨2, ⟨#[]⟩, L, ⟨#[]⟩, [], ⟨#[]⟩, ⟨#[]⟩, 0, ⟨#[]⟩⟩ ⟨A, cc, none, 0⟩), .bool ok]) ?_ rfl ?_
    · rw [results_cell_tmp Try.results37]
      have hld := run_loadVar_row (P := Try.prog) _ _ _ 25 _ _ _ (hW.res.row (obArr ⟨2, ⟨#[]⟩, L, ⟨#[]⟩, [], ⟨#[]⟩, ⟨#[]⟩, 0, ⟨#[]⟩⟩ ⟨A, cc, none, 0⟩)) Try.underlying25 rfl (obInfo ⟨2, ⟨#[]⟩, L, ⟨#[]⟩, [], ⟨#[]⟩, ⟨#[]⟩, 0, ⟨#[]⟩⟩ ⟨A, cc, none, 0⟩)
      simp [asAddr, hld, Result.andThen]
    obtain ⟨_, d2, d3, d4⟩ := hW.done
    have hz := HZ.out
    clear HZ
    rcases hz with ⟨r, rfl, rfl, rfl⟩ | ⟨rfl, hz⟩
    · exact ⟨_, _, _, rfl, d2, .inl ⟨r, HR.out, rfl, d3, d4⟩⟩
    · exact ⟨_, _, _, rfl, d2, .inr ⟨HR.out, st2, d3, hz⟩⟩
  · rw [if_neg (by decide), if_neg (by decide), if_pos rfl] at hres
    have q1 := fun w h => rs_id g (some l) w h
    generalize stId (some l) = x1 at *
    obtain ⟨t1, s1⟩ := x1
    simp only at hres q1
    have q2 := fun w h => readParents_any g s1 w h
    generalize stPars s1 = x2 at *
    obtain ⟨P, s2⟩ := x2
    simp only at hres q2
    have q3 := fun w h => rs_txt g s2 w h
    generalize stTxt s2 = x3 at *
    obtain ⟨t3, s3⟩ := x3
    simp only at hres q3
    have q4 := fun w h => rs_num g s3 w h
    generalize stNum s3 = x4 at *
    obtain ⟨n4, s4⟩ := x4
    simp only at hres q4
    have q5 := fun w h => rs_txt g s4 w h
    generalize stTxt s4 = x5 at *
    obtain ⟨t5, s5⟩ := x5
    simp only at hres q5
    have HR := Lib.hid hres
    have Q1 := Lib.hid q1
    have Q2 := Lib.hid q2
    have Q3 := Lib.hid q3
    have Q4 := Lib.hid q4
    have Q5 := Lib.hid q5
    clear hres q1 q2 q3 q4 q5
    go_wp2_with fail
    (with_reducible refine (Q1.out W hW.rd).mono ?_)
    rintro _ W2 ⟨rfl, h2, k2⟩
    have hW2 := hW.read h2 k2
    clear hW h2 k2
    have c := hW2.box.cell 3
    have f := hW2.box.free 3
    simp only [obArr, List.getElem?_toArray, List.getElem?_cons_zero, List.getElem?_cons_succ] at c
    go_upto_region 9 with fail
    refine wp_forget (Fd w g w.heap.size (w.heap.size + 1) ⟨3, ⟨#[]⟩, [], t1, [], ⟨#[]⟩, ⟨#[]⟩, 0, ⟨#[]⟩⟩ atNil s1) (by exact hW2.put 3 (.string t1) rfl hW2.ents hW2.pars hW2.room hW2.fe hW2.fp) ?_
    clear hW2 c f
    clear W W2
    intro W hW
    go_wp2_with fail
    (with_reducible refine (Q2.out W hW.rd).mono ?_)
    rintro _ W2 ⟨A, cc, rfl, hm, ⟨hx, hy⟩, h2, k2⟩
    have hbW := hW.box.lt
    have hW2 := hW.read h2 k2
    clear hW h2 k2
    have c := hW2.box.cell 4
    have f := hW2.box.free 4
    simp only [obArr, List.getElem?_toArray, List.getElem?_cons_zero, List.getElem?_cons_succ] at c
    go_upto_region 10 with fail
    refine wp_forget (Fd w g w.heap.size (w.heap.size + 1) ⟨3, ⟨#[]⟩, [], t1, P, ⟨#[]⟩, ⟨#[]⟩, 0, ⟨#[]⟩⟩ ⟨none, 0, A, cc⟩ s2) (by exact hW2.put 4 (.slice A (List.length P) cc) rfl hW2.ents hx hm hW2.fe (fun ad e => by have := hy ad e; omega)) ?_
    clear hW2 c f hx hy hbW hm
    clear W W2
    intro W hW
    go_wp2_with fail
    (with_reducible refine (Q3.out W hW.rd).mono ?_)
    rintro _ W2 ⟨rfl, h2, k2⟩
    have hW2 := hW.read h2 k2
    clear hW h2 k2
    have c := hW2.box.cell 5
    have f := hW2.box.free 5
    simp only [obArr, List.getElem?_toArray, List.getElem?_cons_zero, List.getElem?_cons_succ] at c
    go_upto_region 11 with fail
    refine wp_forget (Fd w g w.heap.size (w.heap.size + 1) ⟨3, ⟨#[]⟩, [], t1, P, t3, ⟨#[]⟩, 0, ⟨#[]⟩⟩ ⟨none, 0, A, cc⟩ s3) (by exact hW2.put 5 (.string t3) rfl hW2.ents hW2.pars hW2.room hW2.fe hW2.fp) ?_
    clear hW2 c f
    clear W W2
    intro W hW
    go_wp2_with fail
    (with_reducible refine (Q4.out W hW.rd).mono ?_)
    rintro _ W2 ⟨rfl, h2, k2⟩
    have hW2 := hW.read h2 k2
    clear hW h2 k2
    have c := hW2.box.cell 7
    have f := hW2.box.free 7
    simp only [obArr, List.getElem?_toArray, List.getElem?_cons_zero, List.getElem?_cons_succ] at c
    go_upto_region 12 with fail
    refine wp_forget (Fd w g w.heap.size (w.heap.size + 1) ⟨3, ⟨#[]⟩, [], t1, P, t3, ⟨#[]⟩, (n4 : Int), ⟨#[]⟩⟩ ⟨none, 0, A, cc⟩ s4) (by exact hW2.put 7 (.int .i64 (n4 : Int)) rfl hW2.ents hW2.pars hW2.room hW2.fe hW2.fp) ?_
    clear hW2 c f
    clear W W2
    intro W hW
    go_wp2_with fail
    (with_reducible refine (Q5.out W hW.rd).mono ?_)
    rintro _ W2 ⟨rfl, h2, k2⟩
    have hW2 := hW.read h2 k2
    clear hW h2 k2
    have c := hW2.box.cell 6
    have f := hW2.box.free 6
    simp only [obArr, List.getElem?_toArray, List.getElem?_cons_zero, List.getElem?_cons_succ] at c
    go_upto_region 17 with fail
    refine wp_forget (Fd w g w.heap.size (w.heap.size + 1) ⟨3, ⟨#[]⟩, [], t1, P, t3, t5, (n4 : Int), ⟨#[]⟩⟩ ⟨none, 0, A, cc⟩ s5) (by exact hW2.put 6 (.string t5) rfl hW2.ents hW2.pars hW2.room hW2.fe hW2.fp) ?_
    clear hW2 c f
    clear W W2
    intro W hW
    go_wp2_with (first | (refine wpList_load_row rfl 25 _ rfl (w.heap.size + 1) rfl 25 _ (0, 0) _ hW.box Try.underlying25 rfl (obInfo _ _) ?_) | (refine wpList_store_row rfl 25 _ _ rfl w.heap.size (obArr ⟨3, ⟨#[]⟩, [], t1, P, t3, t5, (n4 : Int), ⟨#[]⟩⟩ ⟨none, 0, A, cc⟩) rfl rfl 25 zeroO hW.res (obInfo _ _) rfl (obArr_one _ _) ?_))
    refine bodyPost_ret (v := .tuple #[.agg (obArr ⟨3, ⟨#[]⟩, [], t1, P, t3, t5, (n4 : Int), ⟨#[]⟩⟩ ⟨none, 0, A, cc⟩), .bool true]) ?_ rfl ?_
    · rw [results_cell_tmp Try.results37]
      have hld := run_loadVar_row (P := Try.prog) _ _ _ 25 _ _ _ (hW.res.row (obArr ⟨3, ⟨#[]⟩, [], t1, P, t3, t5, (n4 : Int), ⟨#[]⟩⟩ ⟨none, 0, A, cc⟩)) Try.underlying25 rfl (obInfo ⟨3, ⟨#[]⟩, [], t1, P, t3, t5, (n4 : Int), ⟨#[]⟩⟩ ⟨none, 0, A, cc⟩)
      simp [asAddr, hld, Result.andThen]
    obtain ⟨_, d2, d3, d4⟩ := hW.done
    cases s5 with
    | none => exact ⟨_, _, _, rfl, d2, .inr ⟨HR.out, none, d3, .inr rfl⟩⟩
    | some r => exact ⟨_, _, _, rfl, d2, .inl ⟨r, HR.out, rfl, d3, d4⟩⟩
  · rw [if_neg (by decide), if_neg (by decide), if_neg (by decide)] at hres
    have q1 := fun w h => rs_id g (some l) w h
    generalize stId (some l) = x1 at *
    obtain ⟨t1, s1⟩ := x1
    simp only at hres q1
    have q3 := fun w h => rs_txt g s1 w h
    generalize stTxt s1 = x3 at *
    obtain ⟨t3, s3⟩ := x3
    simp only at hres q3
    have q5 := fun w h => rs_txt g s3 w h
    generalize stTxt s3 = x5 at *
    obtain ⟨t5, s5⟩ := x5
    simp only at hres q5
    have HR := Lib.hid hres
    have Q1 := Lib.hid q1
    have Q3 := Lib.hid q3
    have Q5 := Lib.hid q5
    clear hres q1 q3 q5
    go_wp2_with fail
    (with_reducible refine (Q1.out W hW.rd).mono ?_)
    rintro _ W2 ⟨rfl, h2, k2⟩
    have hW2 := hW.read h2 k2
    clear hW h2 k2
    have c := hW2.box.cell 8
    have f := hW2.box.free 8
    simp only [obArr, List.getElem?_toArray, List.getElem?_cons_zero, List.getElem?_cons_succ] at c
    go_upto_region 15 with fail
    refine wp_forget (Fd w g w.heap.size (w.heap.size + 1) ⟨4, ⟨#[]⟩, [], ⟨#[]⟩, [], ⟨#[]⟩, ⟨#[]⟩, 0, t1⟩ atNil s1) (by exact hW2.put 8 (.string t1) rfl hW2.ents hW2.pars hW2.room hW2.fe hW2.fp) ?_
    clear hW2 c f
    clear W W2
    intro W hW
    go_wp2_with fail
    (with_reducible refine (Q3.out W hW.rd).mono ?_)
    rintro _ W2 ⟨rfl, h2, k2⟩
    have hW2 := hW.read h2 k2
    clear hW h2 k2
    have c := hW2.box.cell 5
    have f := hW2.box.free 5
    simp only [obArr, List.getElem?_toArray, List.getElem?_cons_zero, List.getElem?_cons_succ] at c
    go_upto_region 16 with fail
    refine wp_forget (Fd w g w.heap.size (w.heap.size + 1) ⟨4, ⟨#[]⟩, [], ⟨#[]⟩, [], t3, ⟨#[]⟩, 0, t1⟩ atNil s3) (by exact hW2.put 5 (.string t3) rfl hW2.ents hW2.pars hW2.room hW2.fe hW2.fp) ?_
    clear hW2 c f
    clear W W2
    intro W hW
    go_wp2_with fail
    (with_reducible refine (Q5.out W hW.rd).mono ?_)
    rintro _ W2 ⟨rfl, h2, k2⟩
    have hW2 := hW.read h2 k2
    clear hW h2 k2
    have c := hW2.box.cell 6
    have f := hW2.box.free 6
    simp only [obArr, List.getElem?_toArray, List.getElem?_cons_zero, List.getElem?_cons_succ] at c
    go_upto_region 17 with fail
    refine wp_forget (Fd w g w.heap.size (w.heap.size + 1) ⟨4, ⟨#[]⟩, [], ⟨#[]⟩, [], t3, t5, 0, t1⟩ atNil s5) (by exact hW2.put 6 (.string t5) rfl hW2.ents hW2.pars hW2.room hW2.fe hW2.fp) ?_
    clear hW2 c f
    clear W W2
    intro W hW
    go_wp2_with (first | (refine wpList_load_row rfl 25 _ rfl (w.heap.size + 1) rfl 25 _ (0, 0) _ hW.box Try.underlying25 rfl (obInfo _ _) ?_) | (refine wpList_store_row rfl 25 _ _ rfl w.heap.size (obArr ⟨4, ⟨#[]⟩, [], ⟨#[]⟩, [], t3, t5, 0, t1⟩ atNil) rfl rfl 25 zeroO hW.res (obInfo _ _) rfl (obArr_one _ _) ?_))
    refine bodyPost_ret (v := .tuple #[.agg (obArr ⟨4, ⟨#[]⟩, [], ⟨#[]⟩, [], t3, t5, 0, t1⟩ atNil), .bool true]) ?_ rfl ?_
    · rw [results_cell_tmp Try.results37]
      have hld := run_loadVar_row (P := Try.prog) _ _ _ 25 _ _ _ (hW.res.row (obArr ⟨4, ⟨#[]⟩, [], ⟨#[]⟩, [], t3, t5, 0, t1⟩ atNil)) Try.underlying25 rfl (obInfo ⟨4, ⟨#[]⟩, [], ⟨#[]⟩, [], t3, t5, 0, t1⟩ atNil)
      simp [asAddr, hld, Result.andThen]
    obtain ⟨_, d2, d3, d4⟩ := hW.done
    cases s5 with
    | none => exact ⟨_, _, _, rfl, d2, .inr ⟨HR.out, none, d3, .inr rfl⟩⟩
    | some r => exact ⟨_, _, _, rfl, d2, .inl ⟨r, HR.out, rfl, d3, d4⟩⟩
end Go.Proofs.Ytgffbdkngnpfpaa
