/- ref.Decode of kind 2. -/
import Derived.Test.YtgffbdkngnpfpaaDoorORefDecB
namespace Go.Proofs.YtgffbdkngnpfpaaDoor
open Go.RowKit


set_option maxRecDepth 100000 in
set_option maxHeartbeats 8000000 in
theorem RefDecode_2 (s : ByteArray) (r : List UInt8) (hlong : ¬ 8192 < s.data.toList.length) (hnum : rdNum s.data.toList = some (2, r)) (w : World) : Calls Tryd.prog 6 #[.string s] w (DEnd w (decO s.data.toList).1 (decO s.data.toList).2) := by
  obtain ⟨si, hsi, sz0, sz1, sz2⟩ := info_parts info_str
  obtain ⟨ei, hei, ez0, ez1, ez2⟩ := info_parts info_ent
  have Hsi := Lib.hid hsi
  have Sz0 := Lib.hid sz0
  have Sz1 := Lib.hid sz1
  have Sz2 := Lib.hid sz2
  have Hei := Lib.hid hei
  have Ez0 := Lib.hid ez0
  have Ez1 := Lib.hid ez1
  have Ez2 := Lib.hid ez2
  clear hsi sz0 sz1 sz2 hei ez0 ez1 ez2
  obtain ⟨R, hR⟩ : ∃ R, R = decO s.data.toList := ⟨_, rfl⟩
  rw [← hR]
  have HR := Lib.hid hR
  clear hR
  go_enter Tryd.func6, Tryd.ntmps6
  go_upto_region 2 with (refine wpList_store_row rfl 25 _ _ rfl (w.heap.size + 1) (obArr Ob.none atNil) rfl rfl 25 zeroO (Arr.new_at (w.alloc _) _ _ (by simp)) (obInfo _ _) rfl (obArr_one _ _) ?_)
  refine wp_forget (H0 w) (h0_start w) ?_
  intro W hW0
  have hlen : s.data.toList.length = s.size := rfl
  have hi : ¬ (8192 : Int) < s.size := by omega
  have hHd := Lib.hid (hd_start hW0 s.data.toList hlong)
  rw [bs_of] at hHd
  have hsz := hW0.2.2.1
  go_upto_region 5 with fail
  refine wp_forget (Hd w (some s.data.toList)) (by exact hHd.out) ?_
  clear hHd hW0 hsz W hi hlen
  generalize s.data.toList = l at *
  intro W hW
  have q1 := fun Wq h => cs_num (w.heap.size + 2) (some l) Wq h
  have hn62 := stNum_lt (some l)
  have hst : ∃ n1 s1, stNum (some l) = (n1, s1) := ⟨_, _, rfl⟩
  obtain ⟨n, s1, hst⟩ := hst
  rw [hst] at q1 hn62
  have Q1 := Lib.hid q1
  have HST := Lib.hid hst
  clear q1 hst
  simp only at hn62
  go_wp2_with fail
  (with_reducible refine (Q1.out W hW.cur).mono ?_)
  rintro _ W2 ⟨rfl, h2, k2⟩
  have hW2 := hW.read h2 k2
  clear hW h2 k2 Q1
  go_upto_region 7 with (refine wpList_store_row rfl 25 _ _ rfl W2.heap.size (obArr (kOb (n : Int)) atNil) rfl rfl 25 zeroO (Arr.new W2 _ _) (obInfo _ _) rfl (obArr_one _ _) ?_)
  refine wp_forget (Gd w W2.heap.size (kOb (n : Int)) atNil s1) (gd_start hW2 (n : Int)) ?_
  clear hW2
  generalize W2.heap.size = b at *
  clear W W2
  intro W hW
  obtain ⟨sc, ec, hC, he, he2, hsl⟩ := hW.cur.cells
  have d1 := hC.c1
  obtain ⟨rfl, rfl⟩ : n = 2 ∧ s1 = some r := by
    have h := HST.out
    simp [stNum, hnum] at h
    exact ⟨h.1.symm, h.2.symm⟩
  obtain ⟨_, rfl⟩ := hsl r rfl
  clear he he2 hsl hC HST
  have hf : rdFields ((2 : Nat) : Int) r = match rdEntsS (some r) with | none => none | some (L, rest) => some (⟨2, ⟨#[]⟩, L, ⟨#[]⟩, [], ⟨#[]⟩, ⟨#[]⟩, 0, ⟨#[]⟩⟩, rest) := by unfold rdFields; rw [if_neg (by decide), if_pos (by decide)]; cases rdEntsS (some r) <;> rfl
  have HD : Hid (∀ (L : List Ent) (st : St), rdFields ((2 : Nat) : Int) r = (match st with | none => none | some rest => some (⟨2, ⟨#[]⟩, L, ⟨#[]⟩, [], ⟨#[]⟩, ⟨#[]⟩, 0, ⟨#[]⟩⟩, rest)) → R = fin ⟨2, ⟨#[]⟩, L, ⟨#[]⟩, [], ⟨#[]⟩, ⟨#[]⟩, 0, ⟨#[]⟩⟩ st) := fun L st h => by rw [HR.out]; exact dec_fin hlong hnum rfl h
  have q2 := fun Wq h => cs_num (w.heap.size + 2) (some r) Wq h
  have hn2 := stNum_lt (some r)
  have hst0 := eres_start (some r)
  generalize rdEntsS (some r) = res at *
  generalize (stNum (some r)).1 = n2 at *
  generalize (stNum (some r)).2 = s2 at *
  have HF0 := Lib.hid hf
  have HST := Lib.hid hst0
  have Q2 := Lib.hid q2
  clear q2 hst0 hf HR
  have c0 : W.cell? ⟨b, 0, none⟩ = some (.int .i64 2) := hW.box.cell 0
  go_wp2_with fail
  (with_reducible refine (Q2.out W hW.cur).mono ?_)
  rintro _ W2 ⟨rfl, h2, k2⟩
  have hW2 := hW.read h2 k2
  clear hW h2 k2 Q2 c0 d1
  go_wp2_with fail
  go_loopw [8] (fun i wr => RdERel n2 res w b i wr) (fun i _ => n2 - (intOf i).toNat)
  case atStart =>
    refine ⟨[], none, 0, s2, Nat.zero_le _, rfl, hW2, (fun e he => by simp at he), ?_⟩
    rcases HST.out with h | ⟨l, e, h⟩
    · exact h
    · have hc := hW2.cur
      rw [e] at hc
      exact absurd hc.2 (by omega)
  case round =>
    clear hW2 W W2 HST
    obtain ⟨T, A, cc, st, hk, rfl, hW, hnm, hE⟩ := hrel
    have hlenT := eres_len hE
    have HE := Lib.hid hE
    have HN := Lib.hid hnm
    clear hE hnm
    obtain ⟨sc, ec, hC, he, he2, hsl⟩ := hW.cur.cells
    have d1 := hC.c1
    have hgo : (T.length < n2 ∧ ∃ lc, st = some lc) ∨ ¬ (T.length < n2 ∧ ∃ lc, st = some lc) := Classical.em _
    rcases hgo with ⟨hlt, lc, rfl⟩ | hno
    · have hi : (T.length : Int) < n2 := by omega
      rw [Option.isNone_some, Bool.not_false] at he2
      have q3 := fun Wq h => cs_txt (w.heap.size + 2) (some lc) Wq h
      have q4 := fun Wq h => cs_num (w.heap.size + 2) (stTxt (some lc)).2 Wq h
      have q5 := fun Wq h => cs_id (w.heap.size + 2) (stD (stNum (stTxt (some lc)).2).1 (stNum (stTxt (some lc)).2).2) Wq h
      have hsm := txt_small (some lc)
      have HC0 := Lib.hid (ent_chainD lc)
      have HDef : Hid (∀ d st, stD d st = if 1 < d then none else st) := fun d st => rfl
      generalize (stId (stD (stNum (stTxt (some lc)).2).1 (stNum (stTxt (some lc)).2).2)).1 = id at *
      generalize (stId (stD (stNum (stTxt (some lc)).2).1 (stNum (stTxt (some lc)).2).2)).2 = s5 at *
      generalize (stNum (stTxt (some lc)).2).1 = d at *
      generalize (stNum (stTxt (some lc)).2).2 = s4 at *
      generalize (stTxt (some lc)).1 = nm at *
      generalize (stTxt (some lc)).2 = s3 at *
      have hD : Hid ((d == 1) = ((d : Int) == 1)) := (cast_eq d 1).symm
      have HM0 : Hid (ERes n2 res (T ++ [⟨nm, (d : Int) == 1, id⟩]) s5) := by
        have h := HC0.out
        rw [hD.out] at h
        exact eres_more HE.out hlt _ _ h
      have HN2 : Hid (∀ e ∈ T ++ [(⟨nm, (d : Int) == 1, id⟩ : Ent)], e.name.size ≤ 4096) := fun e he => by
        rcases List.mem_append.1 he with he | he
        · exact HN.out e he
        · simp at he
          subst he
          exact hsm
      have Q3 := Lib.hid q3
      have Q4 := Lib.hid q4
      have Q5 := Lib.hid q5
      clear q3 q4 q5 he hsl HE hC HF0 HD HC0 HN hD hsm
      go_wp2_with fail
      clear d1 he2
      (with_reducible refine (Q3.out wr hW.cur).mono ?_)
      rintro _ W2 ⟨rfl, h2, k2⟩
      have hW2 := hW.read h2 k2
      clear hW h2 k2 Q3
      have hlt2 := hW2.box.lt
      have hqX : ∀ q, (Value.slice A T.length cc).ownBlock = some q → q < W2.heap.size := fun q e => own_in hW2.oe q e
      go_upto_region 19 with fail
      refine wp_forget (fun Wq => Gd w b ⟨2, ⟨#[]⟩, T, ⟨#[]⟩, [], ⟨#[]⟩, ⟨#[]⟩, 0, ⟨#[]⟩⟩ ⟨A, cc, none, 0⟩ s3 Wq ∧ Arr Wq W2.heap.size 48 #[.string nm, .bool false, .string ⟨#[]⟩]) (by exact ⟨hW2.alloc _, Arr.new _ _ _⟩) ?_
      clear hW2
      generalize W2.heap.size = X at *
      clear W2
      rintro W3 ⟨hW3, hX3⟩
      go_wp2_with fail
      (with_reducible refine (Q4.out W3 hW3.cur).mono ?_)
      rintro _ W4 ⟨rfl, h2, k2⟩
      have hbb := hW3.hb
      have hX4 := hX3.kept k2 (fun e => by simp at e; omega)
      have hW4 := hW3.read h2 k2
      clear hW3 h2 k2 Q4 hX3
      by_cases h1d : 1 < d
      · have hdi : (1 : Int) < d := by omega
        have hst : stD d s4 = none := by rw [HDef.out, if_pos h1d]
        rw [hst] at Q5
        obtain ⟨sd, ed, hCd, _, _, _⟩ := hW4.cur.cells
        have e1 := hCd.c1
        have fe := Arr.free hCd 1
        have hW5 := hW4.read (st' := none) (show CS (W4.setCell ⟨w.heap.size + 2, 1, none⟩ (.int .i64 2)) (w.heap.size + 2) none from ⟨sd, 2, rfl, hCd.err 2⟩) (gb_set _ _ _)
        have hX5 := hX4.kept (gb_set (w.heap.size + 2) 1 (.int .i64 2)) (fun e => by simp at e; omega)
        clear hCd hW4 hX4
        go_upto_region 22 with fail
        refine wp_forget (fun Wq => Gd w b ⟨2, ⟨#[]⟩, T, ⟨#[]⟩, [], ⟨#[]⟩, ⟨#[]⟩, 0, ⟨#[]⟩⟩ ⟨A, cc, none, 0⟩ none Wq ∧ Arr Wq X 48 #[.string nm, .bool false, .string ⟨#[]⟩]) (by exact ⟨hW5, hX5⟩) ?_
        clear hW5 hX5 e1 fe W4
        rintro W4 ⟨hW4, hX4⟩
        go_wp2_with fail
        (with_reducible refine (Q5.out W4 hW4.cur).mono ?_)
        rintro _ W6 ⟨rfl, h2, k2⟩
        have hX6 := hX4.kept k2 (fun e => by simp at e; omega)
        have hW6 := hW4.read h2 k2
        clear hW4 h2 k2 Q5 hX4
        have x1 : W6.cell? ⟨X, 1, none⟩ = some (.bool false) := hX6.cell 1
        have x2 : W6.cell? ⟨X, 2, none⟩ = some (.string ⟨#[]⟩) := hX6.cell 2
        have y1 := hX6.free 1
        have y2 := hX6.free 2
        have hXb : b < X := hlt2
        have g1 : W6.grownBy (W6.setCell ⟨X, 1, none⟩ (.bool ((d : Int) == 1))) (some X) := gb_set _ _ _
        have g2 : (W6.setCell ⟨X, 1, none⟩ (.bool ((d : Int) == 1))).grownBy ((W6.setCell ⟨X, 1, none⟩ (.bool ((d : Int) == 1))).setCell ⟨X, 2, none⟩ (.string id)) (some X) := gb_set _ _ _
        have hoX : (Value.slice A T.length cc).ownBlock = none ∨ (Value.slice A T.length cc).ownBlock ≠ some X := .inr (fun e => Nat.lt_irrefl _ (hqX X e))
        have hpX := own_apartS hW6.op hX6
        have hW7 := (hW6.grow g1 (fun q e => by cases e; exact hXb) (hW6.oe.kept g1 hoX) (hW6.op.kept g1 hpX)).grow g2 (fun q e => by cases e; exact hXb) ((hW6.oe.kept g1 hoX).kept g2 hoX) ((hW6.op.kept g1 hpX).kept g2 hpX)
        have hX7 : Arr ((W6.setCell ⟨X, 1, none⟩ (.bool ((d : Int) == 1))).setCell ⟨X, 2, none⟩ (.string id)) X 48 #[.string nm, .bool ((d : Int) == 1), .string id] := (hX6.put 1 _).put 2 _
        clear hW6 hX6 g1 g2 hoX hpX
        go_upto_region 23 with fail
        refine wp_forget (fun Wq => Gd w b ⟨2, ⟨#[]⟩, T, ⟨#[]⟩, [], ⟨#[]⟩, ⟨#[]⟩, 0, ⟨#[]⟩⟩ ⟨A, cc, none, 0⟩ s5 Wq ∧ Arr Wq X 48 #[.string nm, .bool ((d : Int) == 1), .string id]) (by exact ⟨hW7, hX7⟩) ?_
        clear hW7 hX7 x1 x2 y1 y2 W6
        rintro W6 ⟨hW6, hX6⟩
        have x0 : W6.cell? ⟨X, 0, none⟩ = some (.string nm) := hX6.cell 0
        have x1 : W6.cell? ⟨X, 1, none⟩ = some (.bool ((d : Int) == 1)) := hX6.cell 1
        have x2 : W6.cell? ⟨X, 2, none⟩ = some (.string id) := hX6.cell 2
        have c2 : W6.cell? ⟨b, 2, none⟩ = some (.slice A T.length cc) := hW6.box.cell 2
        have hlt6 := hW6.box.lt
        generalize hdb : ((d : Int) == 1) = db at *
        clear hdb
        go_wp2_with (at_builtin; refine wpList_append_lies _ rfl _ _ 22 rfl (b + 1) 48 ei _ 3 40 Tryd.underlying22 Hei.out Ez0.out Ez1.out Ez2.out rfl (by decide) _ _ _ rfl (hW6.oe.alloc _) ⟨W6.heap.size, 0, none⟩ 1 1 [.string nm, .bool db, .string id] rfl rfl (new_cells W6 [.string nm, .bool db, .string id] 48) (by intro u hu; simp at hu; rcases hu with rfl | rfl | rfl <;> rfl) (by decide) (by simp only; unfold maxLen; omega) (by simp only; omega) (by simp; omega) _ rfl ?_)
        intro g7 cap7 w7 hown hgrow hat hg7
        have hge : ∀ q, (Value.slice A T.length cc).ownBlock = some q → b < q := fun q e1 => own_row_ge hW6.oe q e1
        have hb7 := (hW6.alloc (.cells #[.string nm, .bool db, .string id] 48)).box.kept hgrow (fun e1 => by have := hge b e1.symm; omega)
        have e2 : w7.cell? ⟨b, 2, none⟩ = some (.slice A T.length cc) := hb7.cell 2
        have f2 := hb7.free 2
        have hfin := Gd.app (o' := ⟨2, ⟨#[]⟩, T ++ [⟨nm, db, id⟩], ⟨#[]⟩, [], ⟨#[]⟩, ⟨#[]⟩, 0, ⟨#[]⟩⟩) (p' := ⟨some ⟨g7, 0, none⟩, cap7, none, 0⟩) (hW6.alloc (.cells #[.string nm, .bool db, .string id] 48)) hgrow hge 2 (.slice (some ⟨g7, 0, none⟩) (T ++ [(⟨nm, db, id⟩ : Ent)]).length cap7) rfl (by simp only [List.length_append, entCells_app]; exact hown) (own_nil _ _ _ _)
        have HFin := Lib.hid hfin
        clear hfin hown hgrow hat hb7 hW6 hX6 x0 x1 x2 c2
        go_wp2_with fail
        refine ⟨⟨T ++ [⟨nm, db, id⟩], some ⟨g7, 0, none⟩, cap7, s5, by rw [List.length_append]; simp; omega, by rw [List.length_append]; simp, ?_, HN2.out, HM0.out⟩, by simp [intOf]; omega⟩
        have hx := HFin.out
        rw [List.length_append] at hx
        exact hx
      · have hdi : ¬ (1 : Int) < d := by omega
        have hst : stD d s4 = s4 := by rw [HDef.out, if_neg h1d]
        rw [hst] at Q5
        go_wp2_with fail
        (with_reducible refine (Q5.out W4 hW4.cur).mono ?_)
        rintro _ W6 ⟨rfl, h2, k2⟩
        have hX6 := hX4.kept k2 (fun e => by simp at e; omega)
        have hW6 := hW4.read h2 k2
        clear hW4 h2 k2 Q5 hX4
        have x1 : W6.cell? ⟨X, 1, none⟩ = some (.bool false) := hX6.cell 1
        have x2 : W6.cell? ⟨X, 2, none⟩ = some (.string ⟨#[]⟩) := hX6.cell 2
        have y1 := hX6.free 1
        have y2 := hX6.free 2
        have hXb : b < X := hlt2
        have g1 : W6.grownBy (W6.setCell ⟨X, 1, none⟩ (.bool ((d : Int) == 1))) (some X) := gb_set _ _ _
        have g2 : (W6.setCell ⟨X, 1, none⟩ (.bool ((d : Int) == 1))).grownBy ((W6.setCell ⟨X, 1, none⟩ (.bool ((d : Int) == 1))).setCell ⟨X, 2, none⟩ (.string id)) (some X) := gb_set _ _ _
        have hoX : (Value.slice A T.length cc).ownBlock = none ∨ (Value.slice A T.length cc).ownBlock ≠ some X := .inr (fun e => Nat.lt_irrefl _ (hqX X e))
        have hpX := own_apartS hW6.op hX6
        have hW7 := (hW6.grow g1 (fun q e => by cases e; exact hXb) (hW6.oe.kept g1 hoX) (hW6.op.kept g1 hpX)).grow g2 (fun q e => by cases e; exact hXb) ((hW6.oe.kept g1 hoX).kept g2 hoX) ((hW6.op.kept g1 hpX).kept g2 hpX)
        have hX7 : Arr ((W6.setCell ⟨X, 1, none⟩ (.bool ((d : Int) == 1))).setCell ⟨X, 2, none⟩ (.string id)) X 48 #[.string nm, .bool ((d : Int) == 1), .string id] := (hX6.put 1 _).put 2 _
        clear hW6 hX6 g1 g2 hoX hpX
        go_upto_region 23 with fail
        refine wp_forget (fun Wq => Gd w b ⟨2, ⟨#[]⟩, T, ⟨#[]⟩, [], ⟨#[]⟩, ⟨#[]⟩, 0, ⟨#[]⟩⟩ ⟨A, cc, none, 0⟩ s5 Wq ∧ Arr Wq X 48 #[.string nm, .bool ((d : Int) == 1), .string id]) (by exact ⟨hW7, hX7⟩) ?_
        clear hW7 hX7 x1 x2 y1 y2 W6
        rintro W6 ⟨hW6, hX6⟩
        have x0 : W6.cell? ⟨X, 0, none⟩ = some (.string nm) := hX6.cell 0
        have x1 : W6.cell? ⟨X, 1, none⟩ = some (.bool ((d : Int) == 1)) := hX6.cell 1
        have x2 : W6.cell? ⟨X, 2, none⟩ = some (.string id) := hX6.cell 2
        have c2 : W6.cell? ⟨b, 2, none⟩ = some (.slice A T.length cc) := hW6.box.cell 2
        have hlt6 := hW6.box.lt
        generalize hdb : ((d : Int) == 1) = db at *
        clear hdb
        go_wp2_with (at_builtin; refine wpList_append_lies _ rfl _ _ 22 rfl (b + 1) 48 ei _ 3 40 Tryd.underlying22 Hei.out Ez0.out Ez1.out Ez2.out rfl (by decide) _ _ _ rfl (hW6.oe.alloc _) ⟨W6.heap.size, 0, none⟩ 1 1 [.string nm, .bool db, .string id] rfl rfl (new_cells W6 [.string nm, .bool db, .string id] 48) (by intro u hu; simp at hu; rcases hu with rfl | rfl | rfl <;> rfl) (by decide) (by simp only; unfold maxLen; omega) (by simp only; omega) (by simp; omega) _ rfl ?_)
        intro g7 cap7 w7 hown hgrow hat hg7
        have hge : ∀ q, (Value.slice A T.length cc).ownBlock = some q → b < q := fun q e1 => own_row_ge hW6.oe q e1
        have hb7 := (hW6.alloc (.cells #[.string nm, .bool db, .string id] 48)).box.kept hgrow (fun e1 => by have := hge b e1.symm; omega)
        have e2 : w7.cell? ⟨b, 2, none⟩ = some (.slice A T.length cc) := hb7.cell 2
        have f2 := hb7.free 2
        have hfin := Gd.app (o' := ⟨2, ⟨#[]⟩, T ++ [⟨nm, db, id⟩], ⟨#[]⟩, [], ⟨#[]⟩, ⟨#[]⟩, 0, ⟨#[]⟩⟩) (p' := ⟨some ⟨g7, 0, none⟩, cap7, none, 0⟩) (hW6.alloc (.cells #[.string nm, .bool db, .string id] 48)) hgrow hge 2 (.slice (some ⟨g7, 0, none⟩) (T ++ [(⟨nm, db, id⟩ : Ent)]).length cap7) rfl (by simp only [List.length_append, entCells_app]; exact hown) (own_nil _ _ _ _)
        have HFin := Lib.hid hfin
        clear hfin hown hgrow hat hb7 hW6 hX6 x0 x1 x2 c2
        go_wp2_with fail
        refine ⟨⟨T ++ [⟨nm, db, id⟩], some ⟨g7, 0, none⟩, cap7, s5, by rw [List.length_append]; simp; omega, by rw [List.length_append]; simp, ?_, HN2.out, HM0.out⟩, by simp [intOf]; omega⟩
        have hx := HFin.out
        rw [List.length_append] at hx
        exact hx
    · have HF : Hid (R = fin ⟨2, ⟨#[]⟩, T, ⟨#[]⟩, [], ⟨#[]⟩, ⟨#[]⟩, 0, ⟨#[]⟩⟩ st) := by
        show _ = _
        refine HD.out T st ?_
        cases st with
        | none => rw [HF0.out, HE.out.1]
        | some lc =>
          have hno2 : ¬ T.length < n2 := fun h => hno ⟨h, lc, rfl⟩
          rw [HF0.out, entsR_done HE.out.2 hno2]
      have hcases : ((T.length : Int) < n2 ∧ (ec == 0) = false) ∨ ¬ (T.length : Int) < n2 := by
        by_cases h : T.length < n2
        · refine .inl ⟨by omega, ?_⟩
          cases st with
          | none => exact he2
          | some lc => exact absurd ⟨h, lc, rfl⟩ hno
        · exact .inr (by omega)
      clear hno he he2 hsl hC HF0 HD HE
      rcases hcases with ⟨hi, hec⟩ | hi
      · go_upto_region 32 with fail
        clear d1 hi
        refine wp_forget (Gd w b ⟨2, ⟨#[]⟩, T, ⟨#[]⟩, [], ⟨#[]⟩, ⟨#[]⟩, 0, ⟨#[]⟩⟩ ⟨A, cc, none, 0⟩ st) hW ?_
        clear hW
        intro W hW
        obtain ⟨sc, ec, hC, he, he2, hsl⟩ := hW.cur.cells
        have d0 := hC.c0
        have d1 := hC.c1
        cases st with
        | none =>
          rw [Option.isNone_none] at he
          have HX : Hid (R = (Ob.none, 2)) := HF.out
          clear HF he2 hsl hC
          go_wp2_with (first | (refine wpList_load_row rfl 25 _ rfl (w.heap.size + 1) rfl 25 _ (0, 0) _ hW.non Tryd.underlying25 rfl (obInfo _ _) ?_) | (refine wpList_store_row rfl 25 _ _ rfl w.heap.size (obArr Ob.none atNil) rfl rfl 25 zeroO hW.res (obInfo _ _) rfl (obArr_one _ _) ?_))
          refine bodyPost_ret (v := .tuple #[.agg (obArr Ob.none atNil), .int .i64 2]) ?_ rfl (DEnd_eq HX.out (hW.fail 2))
          rw [results_cell_tmp Tryd.results6]
          have hld := run_loadVar_row (P := Tryd.prog) _ _ _ 25 _ _ _ (hW.res.row (obArr Ob.none atNil)) Tryd.underlying25 rfl (obInfo Ob.none atNil)
          simp [asAddr, hld, Result.andThen]
        | some rest =>
          obtain ⟨rfl, rfl⟩ := hsl rest rfl
          clear he he2 hsl hC
          by_cases hrest : 0 < rest.length
          · have HX : Hid (R = (Ob.none, 2)) := by
              show _ = _
              rw [HF.out]
              exact fin_rest hrest
            have hne : (bs rest).toList.isEmpty = false := by
              rw [ByteArray.toList_eq, bs_list]
              cases rest with
              | nil => simp at hrest
              | cons => rfl
            clear HF
            go_wp2_with (first | (refine wpList_load_row rfl 25 _ rfl (w.heap.size + 1) rfl 25 _ (0, 0) _ hW.non Tryd.underlying25 rfl (obInfo _ _) ?_) | (refine wpList_store_row rfl 25 _ _ rfl w.heap.size (obArr Ob.none atNil) rfl rfl 25 zeroO hW.res (obInfo _ _) rfl (obArr_one _ _) ?_))
            refine bodyPost_ret (v := .tuple #[.agg (obArr Ob.none atNil), .int .i64 2]) ?_ rfl (DEnd_eq HX.out (hW.fail 2))
            rw [results_cell_tmp Tryd.results6]
            have hld := run_loadVar_row (P := Tryd.prog) _ _ _ 25 _ _ _ (hW.res.row (obArr Ob.none atNil)) Tryd.underlying25 rfl (obInfo Ob.none atNil)
            simp [asAddr, hld, Result.andThen]
          · obtain rfl : rest = [] := List.eq_nil_of_length_eq_zero (by omega)
            have hne : (bs []).toList = [] := by rw [ByteArray.toList_eq, bs_list]
            have hF : R = if good ⟨2, ⟨#[]⟩, T, ⟨#[]⟩, [], ⟨#[]⟩, ⟨#[]⟩, 0, ⟨#[]⟩⟩ ≠ 0 then (Ob.none, good ⟨2, ⟨#[]⟩, T, ⟨#[]⟩, [], ⟨#[]⟩, ⟨#[]⟩, 0, ⟨#[]⟩⟩) else (⟨2, ⟨#[]⟩, T, ⟨#[]⟩, [], ⟨#[]⟩, ⟨#[]⟩, 0, ⟨#[]⟩⟩, 0) := HF.out
            have CG := Lib.hid (fun Wq h => GoodObject_any ⟨2, ⟨#[]⟩, T, ⟨#[]⟩, [], ⟨#[]⟩, ⟨#[]⟩, 0, ⟨#[]⟩⟩ ⟨A, cc, none, 0⟩ Wq h (fun e he => Nat.le_trans (HN.out e he) (by decide)))
            generalize hgo : good ⟨2, ⟨#[]⟩, T, ⟨#[]⟩, [], ⟨#[]⟩, ⟨#[]⟩, 0, ⟨#[]⟩⟩ = G at *
            clear hgo hrest HF
            have HF := Lib.hid hF
            clear hF
            go_wp2_with (refine wpList_load_row rfl 25 _ rfl b rfl 25 _ (0, 0) _ hW.box Tryd.underlying25 rfl (obInfo _ _) ?_)
            (with_reducible refine (CG.out W hW.ins.1).mono ?_)
            clear CG
            rintro _ W9 ⟨rfl, b9⟩
            have hW9 : Gd w b ⟨2, ⟨#[]⟩, T, ⟨#[]⟩, [], ⟨#[]⟩, ⟨#[]⟩, 0, ⟨#[]⟩⟩ ⟨A, cc, none, 0⟩ (some []) W9 := hW.grow (r := none) (gb_below b9) (fun q e => by cases e) (hW.oe.kept (gb_below (r := none) b9) (by cases hq : Value.ownBlock _ <;> simp)) (hW.op.kept (gb_below (r := none) b9) (by cases hq : Value.ownBlock _ <;> simp))
            clear hW b9 d0 d1
            cases hG : G != 0
            case true =>
              have HX : Hid (R = (Ob.none, G)) := by
                show _ = _
                rw [HF.out, if_pos (by simpa using hG)]
              clear HF
              go_wp2_with (first | (refine wpList_load_row rfl 25 _ rfl (w.heap.size + 1) rfl 25 _ (0, 0) _ hW9.non Tryd.underlying25 rfl (obInfo _ _) ?_) | (refine wpList_store_row rfl 25 _ _ rfl w.heap.size (obArr Ob.none atNil) rfl rfl 25 zeroO hW9.res (obInfo _ _) rfl (obArr_one _ _) ?_))
              refine bodyPost_ret (v := .tuple #[.agg (obArr Ob.none atNil), .int .i64 G]) ?_ rfl (DEnd_eq HX.out (hW9.fail G))
              rw [results_cell_tmp Tryd.results6]
              have hld := run_loadVar_row (P := Tryd.prog) _ _ _ 25 _ _ _ (hW9.res.row (obArr Ob.none atNil)) Tryd.underlying25 rfl (obInfo Ob.none atNil)
              simp [asAddr, hld, Result.andThen]
            have hG2 : G = 0 := by simpa using hG
            subst hG2
            have HX : Hid (R = (⟨2, ⟨#[]⟩, T, ⟨#[]⟩, [], ⟨#[]⟩, ⟨#[]⟩, 0, ⟨#[]⟩⟩, 0)) := by
              show _ = _
              rw [HF.out, if_neg (by simp)]
            clear HF hG
            go_wp2_with (first | (refine wpList_load_row rfl 25 _ rfl b rfl 25 _ (0, 0) _ hW9.box Tryd.underlying25 rfl (obInfo _ _) ?_) | (refine wpList_store_row rfl 25 _ _ rfl w.heap.size (obArr ⟨2, ⟨#[]⟩, T, ⟨#[]⟩, [], ⟨#[]⟩, ⟨#[]⟩, 0, ⟨#[]⟩⟩ ⟨A, cc, none, 0⟩) rfl rfl 25 zeroO hW9.res (obInfo _ _) rfl (obArr_one _ _) ?_))
            refine bodyPost_ret (v := .tuple #[.agg (obArr ⟨2, ⟨#[]⟩, T, ⟨#[]⟩, [], ⟨#[]⟩, ⟨#[]⟩, 0, ⟨#[]⟩⟩ ⟨A, cc, none, 0⟩), .int .i64 0]) ?_ rfl (DEnd_eq HX.out hW9.done)
            rw [results_cell_tmp Tryd.results6]
            have hld := run_loadVar_row (P := Tryd.prog) _ _ _ 25 _ _ _ (hW9.res.row (obArr ⟨2, ⟨#[]⟩, T, ⟨#[]⟩, [], ⟨#[]⟩, ⟨#[]⟩, 0, ⟨#[]⟩⟩ ⟨A, cc, none, 0⟩)) Tryd.underlying25 rfl (obInfo ⟨2, ⟨#[]⟩, T, ⟨#[]⟩, [], ⟨#[]⟩, ⟨#[]⟩, 0, ⟨#[]⟩⟩ ⟨A, cc, none, 0⟩)
            simp [asAddr, hld, Result.andThen]
      · go_upto_region 32 with fail
        clear d1 hi
        refine wp_forget (Gd w b ⟨2, ⟨#[]⟩, T, ⟨#[]⟩, [], ⟨#[]⟩, ⟨#[]⟩, 0, ⟨#[]⟩⟩ ⟨A, cc, none, 0⟩ st) hW ?_
        clear hW
        intro W hW
        obtain ⟨sc, ec, hC, he, he2, hsl⟩ := hW.cur.cells
        have d0 := hC.c0
        have d1 := hC.c1
        cases st with
        | none =>
          rw [Option.isNone_none] at he
          have HX : Hid (R = (Ob.none, 2)) := HF.out
          clear HF he2 hsl hC
          go_wp2_with (first | (refine wpList_load_row rfl 25 _ rfl (w.heap.size + 1) rfl 25 _ (0, 0) _ hW.non Tryd.underlying25 rfl (obInfo _ _) ?_) | (refine wpList_store_row rfl 25 _ _ rfl w.heap.size (obArr Ob.none atNil) rfl rfl 25 zeroO hW.res (obInfo _ _) rfl (obArr_one _ _) ?_))
          refine bodyPost_ret (v := .tuple #[.agg (obArr Ob.none atNil), .int .i64 2]) ?_ rfl (DEnd_eq HX.out (hW.fail 2))
          rw [results_cell_tmp Tryd.results6]
          have hld := run_loadVar_row (P := Tryd.prog) _ _ _ 25 _ _ _ (hW.res.row (obArr Ob.none atNil)) Tryd.underlying25 rfl (obInfo Ob.none atNil)
          simp [asAddr, hld, Result.andThen]
        | some rest =>
          obtain ⟨rfl, rfl⟩ := hsl rest rfl
          clear he he2 hsl hC
          by_cases hrest : 0 < rest.length
          · have HX : Hid (R = (Ob.none, 2)) := by
              show _ = _
              rw [HF.out]
              exact fin_rest hrest
            have hne : (bs rest).toList.isEmpty = false := by
              rw [ByteArray.toList_eq, bs_list]
              cases rest with
              | nil => simp at hrest
              | cons => rfl
            clear HF
            go_wp2_with (first | (refine wpList_load_row rfl 25 _ rfl (w.heap.size + 1) rfl 25 _ (0, 0) _ hW.non Tryd.underlying25 rfl (obInfo _ _) ?_) | (refine wpList_store_row rfl 25 _ _ rfl w.heap.size (obArr Ob.none atNil) rfl rfl 25 zeroO hW.res (obInfo _ _) rfl (obArr_one _ _) ?_))
            refine bodyPost_ret (v := .tuple #[.agg (obArr Ob.none atNil), .int .i64 2]) ?_ rfl (DEnd_eq HX.out (hW.fail 2))
            rw [results_cell_tmp Tryd.results6]
            have hld := run_loadVar_row (P := Tryd.prog) _ _ _ 25 _ _ _ (hW.res.row (obArr Ob.none atNil)) Tryd.underlying25 rfl (obInfo Ob.none atNil)
            simp [asAddr, hld, Result.andThen]
          · obtain rfl : rest = [] := List.eq_nil_of_length_eq_zero (by omega)
            have hne : (bs []).toList = [] := by rw [ByteArray.toList_eq, bs_list]
            have hF : R = if good ⟨2, ⟨#[]⟩, T, ⟨#[]⟩, [], ⟨#[]⟩, ⟨#[]⟩, 0, ⟨#[]⟩⟩ ≠ 0 then (Ob.none, good ⟨2, ⟨#[]⟩, T, ⟨#[]⟩, [], ⟨#[]⟩, ⟨#[]⟩, 0, ⟨#[]⟩⟩) else (⟨2, ⟨#[]⟩, T, ⟨#[]⟩, [], ⟨#[]⟩, ⟨#[]⟩, 0, ⟨#[]⟩⟩, 0) := HF.out
            have CG := Lib.hid (fun Wq h => GoodObject_any ⟨2, ⟨#[]⟩, T, ⟨#[]⟩, [], ⟨#[]⟩, ⟨#[]⟩, 0, ⟨#[]⟩⟩ ⟨A, cc, none, 0⟩ Wq h (fun e he => Nat.le_trans (HN.out e he) (by decide)))
            generalize hgo : good ⟨2, ⟨#[]⟩, T, ⟨#[]⟩, [], ⟨#[]⟩, ⟨#[]⟩, 0, ⟨#[]⟩⟩ = G at *
            clear hgo hrest HF
            have HF := Lib.hid hF
            clear hF
            go_wp2_with (refine wpList_load_row rfl 25 _ rfl b rfl 25 _ (0, 0) _ hW.box Tryd.underlying25 rfl (obInfo _ _) ?_)
            (with_reducible refine (CG.out W hW.ins.1).mono ?_)
            clear CG
            rintro _ W9 ⟨rfl, b9⟩
            have hW9 : Gd w b ⟨2, ⟨#[]⟩, T, ⟨#[]⟩, [], ⟨#[]⟩, ⟨#[]⟩, 0, ⟨#[]⟩⟩ ⟨A, cc, none, 0⟩ (some []) W9 := hW.grow (r := none) (gb_below b9) (fun q e => by cases e) (hW.oe.kept (gb_below (r := none) b9) (by cases hq : Value.ownBlock _ <;> simp)) (hW.op.kept (gb_below (r := none) b9) (by cases hq : Value.ownBlock _ <;> simp))
            clear hW b9 d0 d1
            cases hG : G != 0
            case true =>
              have HX : Hid (R = (Ob.none, G)) := by
                show _ = _
                rw [HF.out, if_pos (by simpa using hG)]
              clear HF
              go_wp2_with (first | (refine wpList_load_row rfl 25 _ rfl (w.heap.size + 1) rfl 25 _ (0, 0) _ hW9.non Tryd.underlying25 rfl (obInfo _ _) ?_) | (refine wpList_store_row rfl 25 _ _ rfl w.heap.size (obArr Ob.none atNil) rfl rfl 25 zeroO hW9.res (obInfo _ _) rfl (obArr_one _ _) ?_))
              refine bodyPost_ret (v := .tuple #[.agg (obArr Ob.none atNil), .int .i64 G]) ?_ rfl (DEnd_eq HX.out (hW9.fail G))
              rw [results_cell_tmp Tryd.results6]
              have hld := run_loadVar_row (P := Tryd.prog) _ _ _ 25 _ _ _ (hW9.res.row (obArr Ob.none atNil)) Tryd.underlying25 rfl (obInfo Ob.none atNil)
              simp [asAddr, hld, Result.andThen]
            have hG2 : G = 0 := by simpa using hG
            subst hG2
            have HX : Hid (R = (⟨2, ⟨#[]⟩, T, ⟨#[]⟩, [], ⟨#[]⟩, ⟨#[]⟩, 0, ⟨#[]⟩⟩, 0)) := by
              show _ = _
              rw [HF.out, if_neg (by simp)]
            clear HF hG
            go_wp2_with (first | (refine wpList_load_row rfl 25 _ rfl b rfl 25 _ (0, 0) _ hW9.box Tryd.underlying25 rfl (obInfo _ _) ?_) | (refine wpList_store_row rfl 25 _ _ rfl w.heap.size (obArr ⟨2, ⟨#[]⟩, T, ⟨#[]⟩, [], ⟨#[]⟩, ⟨#[]⟩, 0, ⟨#[]⟩⟩ ⟨A, cc, none, 0⟩) rfl rfl 25 zeroO hW9.res (obInfo _ _) rfl (obArr_one _ _) ?_))
            refine bodyPost_ret (v := .tuple #[.agg (obArr ⟨2, ⟨#[]⟩, T, ⟨#[]⟩, [], ⟨#[]⟩, ⟨#[]⟩, 0, ⟨#[]⟩⟩ ⟨A, cc, none, 0⟩), .int .i64 0]) ?_ rfl (DEnd_eq HX.out hW9.done)
            rw [results_cell_tmp Tryd.results6]
            have hld := run_loadVar_row (P := Tryd.prog) _ _ _ 25 _ _ _ (hW9.res.row (obArr ⟨2, ⟨#[]⟩, T, ⟨#[]⟩, [], ⟨#[]⟩, ⟨#[]⟩, 0, ⟨#[]⟩⟩ ⟨A, cc, none, 0⟩)) Tryd.underlying25 rfl (obInfo ⟨2, ⟨#[]⟩, T, ⟨#[]⟩, [], ⟨#[]⟩, ⟨#[]⟩, 0, ⟨#[]⟩⟩ ⟨A, cc, none, 0⟩)
            simp [asAddr, hld, Result.andThen]
end Go.Proofs.YtgffbdkngnpfpaaDoor
