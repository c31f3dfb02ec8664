/- object.Decode: its contract. -/
import Derived.Test.YtgffbdkngnpfpaaODecE
import Derived.Test.YtgffbdkngnpfpaaOGoodC
namespace Go.Proofs.Ytgffbdkngnpfpaa
open Go.RowKit

/-- what Decode answers -/
def decO (l : List UInt8) : Ob × Int :=
  if 8192 < l.length then (Ob.none, 1) else match rdNum l with
    | none => (Ob.none, 2)
    | some (n, r) => if kindB (n : Int) = false then (Ob.none, 4) else match rdFields (n : Int) r with
      | none => (Ob.none, 2)
      | some (o, rest) => if 0 < rest.length then (Ob.none, 2) else if good o ≠ 0 then (Ob.none, good o) else (o, 0)
def DEnd (w : World) (o : Ob) (e : Int) (x : Ending) (w' : World) : Prop := ∃ p, x = .returned (.tuple #[.agg (obArr o p), .int .i64 e]) ∧ ObIn w' w'.heap.size o p ∧ Below w.heap.size w w'
/-- the result's block, still empty -/
def Dx (w W : World) : Prop := Arr W w.heap.size 25 zeroO ∧ Below w.heap.size w W
theorem Dx.below {w W W' : World} (h : Dx w W) (b : Below W.heap.size W W') : Dx w W' := ⟨h.1.below b h.1.lt, h.2.trans (b.mono h.2.size)⟩
theorem Dx.kept {w W W' : World} {g : Nat} (h : Dx w W) (k : W.grownBy W' (some g)) (hg : w.heap.size < g) : Dx w W' :=
  ⟨h.1.kept k (fun e => by cases e; omega), below_gb h.2 k (Nat.le_of_lt hg) h.2.size⟩
theorem noneIn (W : World) (B : Nat) : ObIn W B Ob.none atNil := ⟨Ens.nil _ _ _, Txs.nil _ _ _, Nat.le_refl _⟩
theorem Dx.none {w W : World} (h : Dx w W) (e : Int) : DEnd w Ob.none e (.returned (.tuple #[.agg (obArr Ob.none atNil), .int .i64 e])) (W.setRow w.heap.size (obArr Ob.none atNil)) :=
  ⟨atNil, rfl, noneIn _ _, below_setRow h.2 (Nat.le_refl _) _⟩
theorem DEnd_eq {w : World} {a : Ob × Int} {o : Ob} {e : Int} (h : a = (o, e)) {x : Ending} {w' : World} (k : DEnd w o e x w') : DEnd w a.1 a.2 x w' := by rw [h]; exact k

set_option maxRecDepth 100000 in
set_option maxHeartbeats 4000000 in
theorem Decode_any (s : ByteArray) (w : World) : Calls Try.prog 17 #[.string s] w (DEnd w (decO s.data.toList).1 (decO s.data.toList).2) := by
  obtain ⟨R, hR⟩ : ∃ R, R = decO s.data.toList := ⟨_, rfl⟩
  rw [← hR]
  unfold decO at hR
  have hl : s.data.toList.length = s.size := rfl
  rw [hl] at hR
  go_enter Try.func17, Try.ntmps17
  go_upto_region 1 with fail
  refine wp_forget (Dx w) ⟨Arr.new _ _ _, (Below.refl _ _).alloc (Nat.le_refl _) _⟩ ?_
  intro W hW
  by_cases hlong : 8192 < s.size
  · rw [if_pos hlong] at hR
    have hi : (8192 : Int) < s.size := by omega
    have HR := Lib.hid hR
    clear hR hlong
    go_wp2_with (refine wpList_store_row rfl 25 _ _ rfl w.heap.size (obArr Ob.none atNil) rfl rfl 25 zeroO hW.1 (obInfo _ _) rfl (obArr_one _ _) ?_)
    refine bodyPost_ret (v := .tuple #[.agg (obArr Ob.none atNil), .int .i64 1]) ?_ rfl (DEnd_eq HR.out (hW.none 1))
    rw [results_cell_tmp Try.results17]
    have hld := run_loadVar_row (P := Try.prog) _ _ _ 25 _ _ _ (hW.1.row (obArr Ob.none atNil)) Try.underlying25 rfl (obInfo Ob.none atNil)
    simp [asAddr, hld, Result.andThen]
  rw [if_neg hlong] at hR
  have hi : ¬ (8192 : Int) < s.size := by omega
  have HR0 := Lib.hid hR
  clear hR
  go_wp2_with fail
  (with_reducible refine (Read_any s W).mono ?_)
  rintro _ W1 ⟨rfl, hRd, b1⟩
  have hW1 := hW.below b1
  have hgr : w.heap.size < W.heap.size := hW.1.lt
  have hRS : RS W1 W.heap.size (some s.data.toList) := ⟨by rw [bs_of]; exact hRd, by omega⟩
  generalize W.heap.size = g at *
  clear hW b1 hRd W
  generalize s.data.toList = l at *
  clear hl
  have q := rs_num g (some l) W1 hRS
  have hn62 := stNum_lt (some l)
  cases hnum : rdNum l with
  | none =>
    have e1 : stNum (some l) = (0, none) := by simp [stNum, hnum]
    rw [e1] at q
    have hR := HR0.out
    rw [hnum] at hR
    have HR := Lib.hid hR
    clear hR HR0 e1 hnum hn62 hlong
    go_wp2_with fail
    (with_reducible refine q.mono ?_)
    clear q
    rintro _ W2 ⟨rfl, h2, k2⟩
    have hW2 := hW1.kept k2 hgr
    clear hW1 hRS k2
    go_wp2_with fail
    (with_reducible refine (rs_bad g none W2 h2).mono ?_)
    rintro _ _ ⟨⟨e, rfl, he⟩, rfl⟩
    rw [Option.isNone_none] at he
    go_wp2_with (refine wpList_store_row rfl 25 _ _ rfl w.heap.size (obArr Ob.none atNil) rfl rfl 25 zeroO hW2.1 (obInfo _ _) rfl (obArr_one _ _) ?_)
    refine bodyPost_ret (v := .tuple #[.agg (obArr Ob.none atNil), .int .i64 2]) ?_ rfl (DEnd_eq HR.out (hW2.none 2))
    rw [results_cell_tmp Try.results17]
    have hld := run_loadVar_row (P := Try.prog) _ _ _ 25 _ _ _ (hW2.1.row (obArr Ob.none atNil)) Try.underlying25 rfl (obInfo Ob.none atNil)
    simp [asAddr, hld, Result.andThen]
  | some y =>
    obtain ⟨n, r⟩ := y
    have e1 : stNum (some l) = (n, some r) := by simp [stNum, hnum]
    rw [e1] at q hn62
    have hR := HR0.out
    rw [hnum] at hR
    simp only at hR hn62
    clear HR0
    have CK := Lib.hid (isKind_any (n : Int))
    have HKc := Lib.hid (kindB_cases (k := (n : Int)))
    generalize hkb : kindB (n : Int) = kb at *
    have HR1 := Lib.hid hR
    clear e1 hnum hlong hkb hR
    go_wp2_with fail
    (with_reducible refine q.mono ?_)
    clear q
    rintro _ W2 ⟨rfl, h2, k2⟩
    have hW2 := hW1.kept k2 hgr
    clear hW1 hRS k2
    go_wp2_with fail
    (with_reducible refine (rs_bad g (some r) W2 h2).mono ?_)
    rintro _ _ ⟨⟨e, rfl, he⟩, rfl⟩
    rw [Option.isNone_some] at he
    go_wp2_with fail
    (with_reducible refine (CK.out W2).mono ?_)
    rintro _ _ ⟨rfl, rfl⟩
    clear CK
    cases kb with
    | false =>
      have hR := HR1.out
      rw [if_pos rfl] at hR
      clear HR1
      have HR := Lib.hid hR
      clear hR
      go_wp2_with (refine wpList_store_row rfl 25 _ _ rfl w.heap.size (obArr Ob.none atNil) rfl rfl 25 zeroO hW2.1 (obInfo _ _) rfl (obArr_one _ _) ?_)
      refine bodyPost_ret (v := .tuple #[.agg (obArr Ob.none atNil), .int .i64 4]) ?_ rfl (DEnd_eq HR.out (hW2.none 4))
      rw [results_cell_tmp Try.results17]
      have hld := run_loadVar_row (P := Try.prog) _ _ _ 25 _ _ _ (hW2.1.row (obArr Ob.none atNil)) Try.underlying25 rfl (obInfo Ob.none atNil)
      simp [asAddr, hld, Result.andThen]
    | true =>
      have hR := HR1.out
      rw [if_neg (by decide)] at hR
      clear HR1
      have CF := Lib.hid (readFields_any g r (n : Int) (HKc.out rfl) W2 h2)
      generalize rdFields (n : Int) r = res at *
      have HR := Lib.hid hR
      clear hR h2 HKc
      go_wp2_with fail
      (with_reducible refine CF.out.mono ?_)
      clear CF
      rintro _ W3 ⟨o, p, ok, rfl, k3, hres⟩
      have hW3 := hW2.kept k3 hgr
      obtain ⟨st, hst, HC⟩ : ∃ st, RS W3 g st ∧ Hid ((∃ r, res = some (o, r) ∧ ok = true ∧ st = some r ∧ ObIn W3 W3.heap.size o p ∧ Above w.heap.size p) ∨ (res = none ∧ (ok = false ∨ st = none))) := by
        rcases hres with ⟨r, e1, e2, h2, h3, h4⟩ | ⟨e1, st2, h2, e2⟩
        · exact ⟨some r, h2, .inl ⟨r, e1, e2, rfl, h3, h4.mono (by have := hW2.1.lt; omega)⟩⟩
        · exact ⟨st2, h2, .inr ⟨e1, e2⟩⟩
      clear hres hW2 k3
      have hlt3 := hW3.1.lt
      have hglt := hst.lt
      go_upto_region 10 with (refine wpList_store_row rfl 25 _ _ rfl W3.heap.size (obArr o p) rfl rfl 25 zeroO (Arr.new W3 _ _) (obInfo _ _) rfl (obArr_one _ _) ?_)
      have bel : Below W3.heap.size W3 ((W3.alloc (.cells zeroO 25)).setRow W3.heap.size (obArr o p)) := below_setRow ((Below.refl _ _).alloc (Nat.le_refl _) _) (Nat.le_refl _) _
      refine wp_forget (fun W => Dx w W ∧ Arr W W3.heap.size 25 (obArr o p) ∧ RS W g st ∧ Hid ((∃ r, res = some (o, r) ∧ ok = true ∧ st = some r ∧ ObIn W W.heap.size o p ∧ Above w.heap.size p) ∨ (res = none ∧ (ok = false ∨ st = none)))) ⟨hW3.below bel, (Arr.new W3 _ _).row _, hst.below bel, ?_⟩ ?_
      · rcases HC.out with ⟨r, e1, e2, e3, h4, h5⟩ | h4
        · exact .inl ⟨r, e1, e2, e3, (h4.below bel).mono bel.size, h5⟩
        · exact .inr h4
      clear bel HC hst hW3
      generalize W3.heap.size = b at *
      clear W3
      rintro W ⟨hW, hX, hst, HC⟩
      have HZ : ∀ st, RS W g st → Hid (∀ w, w = W → Calls Try.prog 36 #[.pointer (some ⟨g, 0, none⟩)] w fun x w' => (∃ e : Int, x = .returned (.int .i64 e) ∧ (e != 0) = st.isNone) ∧ w = w') := fun st h w e => by subst e; exact rs_bad g st w h
      rcases HC.out with ⟨rest, rfl, rfl, rfl, hO, hfar⟩ | ⟨rfl, hf⟩
      · clear HC HZ
        have HFar := Lib.hid hfar
        clear hfar
        go_wp2_with fail
        (with_reducible refine (rs_bad g (some rest) W hst).mono ?_)
        rintro _ _ ⟨⟨e, rfl, he⟩, rfl⟩
        rw [Option.isNone_some] at he
        have hRd : Rd W g (bs rest) 0 := by
          unfold RS at hst
          exact hst.1
        have hsz : (bs rest).size = rest.length := bs_size rest
        go_wp2_with fail
        (with_reducible refine (Left_any g (bs rest) 0 W hRd).mono ?_)
        rintro _ _ ⟨rfl, rfl⟩
        rw [hsz]
        clear hsz
        have hro : R = if 0 < rest.length then (Ob.none, 2) else if good o ≠ 0 then (Ob.none, good o) else (o, 0) := HR.out
        by_cases hrest : 0 < rest.length
        · rw [if_pos hrest] at hro
          have hri : (0 : Int) < rest.length := by omega
          have HR2 := Lib.hid hro
          clear hro HR
          go_wp2_with (refine wpList_store_row rfl 25 _ _ rfl w.heap.size (obArr Ob.none atNil) rfl rfl 25 zeroO hW.1 (obInfo _ _) rfl (obArr_one _ _) ?_)
          refine bodyPost_ret (v := .tuple #[.agg (obArr Ob.none atNil), .int .i64 2]) ?_ rfl (DEnd_eq HR2.out (hW.none 2))
          rw [results_cell_tmp Try.results17]
          have hld := run_loadVar_row (P := Try.prog) _ _ _ 25 _ _ _ (hW.1.row (obArr Ob.none atNil)) Try.underlying25 rfl (obInfo Ob.none atNil)
          simp [asAddr, hld, Result.andThen]
        · rw [if_neg hrest] at hro
          have hr0 : rest.length = 0 := by omega
          have CG := Lib.hid (Good_any o p W hO)
          have HR2 := Lib.hid hro
          clear hro HR
          rw [hr0]
          clear hrest
          go_wp2_with (refine wpList_load_row rfl 25 _ rfl b rfl 25 _ (0, 0) _ hX Try.underlying25 rfl (obInfo o p) ?_)
          (with_reducible refine CG.out.mono ?_)
          clear CG
          rintro _ W5 ⟨rfl, b5⟩
          have hW5 := hW.below b5
          have hX5 := hX.below b5 hX.lt
          have hO5 := (hO.below b5).mono b5.size
          clear hW hX hO hst b5
          generalize good o = G at *
          cases hG : G != 0
          case true =>
            have hG2 : G ≠ 0 := by simpa using hG
            have hro := HR2.out
            rw [if_pos hG2] at hro
            have HR3 := Lib.hid hro
            clear hro HR2 hG2
            go_wp2_with (refine wpList_store_row rfl 25 _ _ rfl w.heap.size (obArr Ob.none atNil) rfl rfl 25 zeroO hW5.1 (obInfo _ _) rfl (obArr_one _ _) ?_)
            refine bodyPost_ret (v := .tuple #[.agg (obArr Ob.none atNil), .int .i64 G]) ?_ rfl (DEnd_eq HR3.out (hW5.none G))
            rw [results_cell_tmp Try.results17]
            have hld := run_loadVar_row (P := Try.prog) _ _ _ 25 _ _ _ (hW5.1.row (obArr Ob.none atNil)) Try.underlying25 rfl (obInfo Ob.none atNil)
            simp [asAddr, hld, Result.andThen]
          have hG2 : G = 0 := by simpa using hG
          subst hG2
          have hro := HR2.out
          rw [if_neg (by simp)] at hro
          have HR3 := Lib.hid hro
          clear hro HR2 hG
          go_wp2_with (first | (refine wpList_load_row rfl 25 _ rfl b rfl 25 _ (0, 0) _ hX5 Try.underlying25 rfl (obInfo o p) ?_) | (refine wpList_store_row rfl 25 _ _ rfl w.heap.size (obArr o p) rfl rfl 25 zeroO hW5.1 (obInfo _ _) rfl (obArr_one _ _) ?_))
          refine bodyPost_ret (v := .tuple #[.agg (obArr o p), .int .i64 0]) ?_ rfl (DEnd_eq HR3.out ⟨p, rfl, ?_, below_setRow hW5.2 (Nat.le_refl _) _⟩)
          · rw [results_cell_tmp Try.results17]
            have hld := run_loadVar_row (P := Try.prog) _ _ _ 25 _ _ _ (hW5.1.row (obArr o p)) Try.underlying25 rfl (obInfo o p)
            simp [asAddr, hld, Result.andThen]
          · have hlt5 := hW5.1.lt
            exact ObIn.far hO5 (gb_row w.heap.size _) (HFar.out)
      · clear HC
        have HR2 : Hid (R = (Ob.none, 2)) := HR.out
        clear HR
        cases ok with
        | false =>
          clear hf HZ
          go_wp2_with (refine wpList_store_row rfl 25 _ _ rfl w.heap.size (obArr Ob.none atNil) rfl rfl 25 zeroO hW.1 (obInfo _ _) rfl (obArr_one _ _) ?_)
          refine bodyPost_ret (v := .tuple #[.agg (obArr Ob.none atNil), .int .i64 2]) ?_ rfl (DEnd_eq HR2.out (hW.none 2))
          rw [results_cell_tmp Try.results17]
          have hld := run_loadVar_row (P := Try.prog) _ _ _ 25 _ _ _ (hW.1.row (obArr Ob.none atNil)) Try.underlying25 rfl (obInfo Ob.none atNil)
          simp [asAddr, hld, Result.andThen]
        | true =>
          have hst2 : st = none := by rcases hf with h | h; cases h; exact h
          subst hst2
          clear hf HZ
          go_wp2_with fail
          (with_reducible refine (rs_bad g none W hst).mono ?_)
          rintro _ _ ⟨⟨e, rfl, he⟩, rfl⟩
          rw [Option.isNone_none] at he
          go_wp2_with (refine wpList_store_row rfl 25 _ _ rfl w.heap.size (obArr Ob.none atNil) rfl rfl 25 zeroO hW.1 (obInfo _ _) rfl (obArr_one _ _) ?_)
          refine bodyPost_ret (v := .tuple #[.agg (obArr Ob.none atNil), .int .i64 2]) ?_ rfl (DEnd_eq HR2.out (hW.none 2))
          rw [results_cell_tmp Try.results17]
          have hld := run_loadVar_row (P := Try.prog) _ _ _ 25 _ _ _ (hW.1.row (obArr Ob.none atNil)) Try.underlying25 rfl (obInfo Ob.none atNil)
          simp [asAddr, hld, Result.andThen]
end Go.Proofs.Ytgffbdkngnpfpaa
