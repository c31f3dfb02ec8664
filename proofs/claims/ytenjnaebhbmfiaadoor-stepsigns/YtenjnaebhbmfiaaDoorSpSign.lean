/- step.Sign: its contract. -/
import Derived.Test.YtenjnaebhbmfiaaDoorSpSearch
import Derived.Test.YtenjnaebhbmfiaaDoorDkCh4
import Derived.Test.YtenjnaebhbmfiaaDoorSeal
import Derived.Test.YtenjnaebhbmfiaaDoorDkMem
namespace Go.Proofs.YtenjnaebhbmfiaaDoor
open Go.RowKit

/-- what Sign, Decode leave -/
def SpEnd (w : World) (R : Sp × Int) (x : Ending) (w' : World) : Prop := ∃ p, x = .returned (.tuple #[.agg (spArr R.1 p), .int .i64 R.2]) ∧ SpIn w' w'.heap.size R.1 p ∧ Below w.heap.size w w'
theorem SpEnd_eq {w : World} {a : Sp × Int} {s : Sp} {e : Int} (h : a = (s, e)) {x : Ending} {w' : World} (k : SpEnd w (s, e) x w') : SpEnd w a x w' := by rw [h]; exact k
/-- and its slices lie in blocks that are newer than the call -/
def SpFar (w : World) (R : Sp × Int) (x : Ending) (w' : World) : Prop := ∃ p, x = .returned (.tuple #[.agg (spArr R.1 p), .int .i64 R.2]) ∧ SpIn w' w'.heap.size R.1 p ∧ Below w.heap.size w w' ∧
  (∀ ad, p.wa = some ad → w.heap.size ≤ ad.block) ∧ ∀ ad, p.sa = some ad → w.heap.size ≤ ad.block
theorem SpFar_eq {w : World} {a : Sp × Int} {s : Sp} {e : Int} (h : a = (s, e)) {x : Ending} {w' : World} (k : SpFar w (s, e) x w') : SpFar w a x w' := by rw [h]; exact k
theorem row_far {w : World} {base n c : Nat} {e : TypeId} {size : Nat} {A : Option Addr} {cs : List Value} (h : w.ownsRow base e size (.slice A n c) n cs) : ∀ ad, A = some ad → base ≤ ad.block := fun ad e => by
  rcases h.2 with ⟨h1, _⟩ | ⟨g, cap, cur, h1, hb, _⟩
  · cases h1; cases e
  · cases h1; cases e; exact hb
/-- where Sign stands: the step's box, the result's block -/
def Sn (w : World) (s : Sp) (p : SpAt) (W : World) : Prop := Arr W w.heap.size 25 (spArr s p) ∧ Arr W (w.heap.size + 1) 25 spZero ∧ SpIn W w.heap.size s p ∧ Below w.heap.size w W ∧ Tab W
theorem Sn.below {w W W' : World} {s : Sp} {p : SpAt} (h : Sn w s p W) (b : Below W.heap.size W W') : Sn w s p W' :=
  ⟨h.1.below b h.1.lt, h.2.1.below b h.2.1.lt, h.2.2.1.below (b.mono h.2.2.2.1.size), h.2.2.2.1.trans (b.mono h.2.2.2.1.size), h.2.2.2.2.below b h.2.2.2.2.1⟩
theorem Sn.no {w W : World} {s : Sp} {p : SpAt} (h : Sn w s p W) (z : Int) : SpFar w (spZ, z) (.returned (.tuple #[.agg (spArr spZ pZ), .int .i64 z])) (W.setRow (w.heap.size + 1) (spArr spZ pZ)) :=
  ⟨pZ, rfl, spZ_in _ _, below_setRow h.2.2.2.1 (by omega) _, (fun _ e => by cases e), (fun _ e => by cases e)⟩
/-- who sealed is put in, the seal not yet -/
structure Sm (w W : World) (s : Sp) (v v4 : Value) (N : List Int) : Prop where
  box : Arr W w.heap.size 25 #[.string s.ref, .string s.old, .string s.new, v, v4]
  res : Arr W (w.heap.size + 1) 25 spZero
  own : W.ownsRow (w.heap.size + 2) 3 1 v N.length (N.map iv)
  bel : Below w.heap.size w W
theorem Sn.mid {w V W : World} {s : Sp} {wa sa : Option Addr} {wc sc : Nat} (h : Sn w s ⟨wa, wc, sa, sc⟩ V) (b : Below V.heap.size V W) {v : Value} {N : List Int} (own : W.ownsRow V.heap.size 3 1 v N.length (N.map iv)) :
    Sm w (W.setCell ⟨w.heap.size, 3, none⟩ v) s v (.slice sa s.seals.length sc) N := by
  have h2 := h.below b
  have hlt := h.2.1.lt
  refine ⟨h2.1.put 3 v, h2.2.1.kept (gb_set w.heap.size 3 v) (fun e => by have := Option.some.inj e; omega), ?_, below_gb h2.2.2.2.1 (gb_set w.heap.size 3 v) (Nat.le_refl _) h2.2.2.2.1.size⟩
  exact ownsRow_setCell_below (own_lessS own (by omega)) (a := ⟨w.heap.size, 3, none⟩) (by simp) v
/-- both are put in -/
structure So (w W : World) (s : Sp) (v v2 : Value) (N : List Int) (T : List ByteArray) : Prop where
  box : Arr W w.heap.size 25 #[.string s.ref, .string s.old, .string s.new, v, v2]
  res : Arr W (w.heap.size + 1) 25 spZero
  own : W.ownsRow (w.heap.size + 2) 3 1 v N.length (N.map iv)
  own2 : W.ownsRow (w.heap.size + 2) 9 1 v2 T.length (T.map sv)
  bel : Below w.heap.size w W
theorem Sm.below {w V W : World} {s : Sp} {v v4 : Value} {N : List Int} (h : Sm w V s v v4 N) (b : Below V.heap.size V W) : Sm w W s v v4 N :=
  ⟨h.box.below b h.box.lt, h.res.below b h.res.lt, own_kp h.own (Kp.bel (X := fun _ => False) b) (fun _ _ x => x), h.bel.trans (b.mono h.bel.size)⟩
theorem Sm.last {w V W : World} {s : Sp} {v v4 : Value} {N : List Int} (h : Sm w V s v v4 N) (b : Below V.heap.size V W) {v2 : Value} {T : List ByteArray} (own : W.ownsRow V.heap.size 9 1 v2 T.length (T.map sv)) :
    So w (W.setCell ⟨w.heap.size, 4, none⟩ v2) s v v2 N T := by
  have h2 := h.below b
  have hlt := h.res.lt
  refine ⟨h2.box.put 4 v2, h2.res.kept (gb_set w.heap.size 4 v2) (fun e => by have := Option.some.inj e; omega), ?_, ?_, below_gb h2.bel (gb_set w.heap.size 4 v2) (Nat.le_refl _) h2.bel.size⟩
  · exact ownsRow_setCell_below h2.own (a := ⟨w.heap.size, 4, none⟩) (by simp) v2
  · exact ownsRow_setCell_below (own_lessS own (by omega)) (a := ⟨w.heap.size, 4, none⟩) (by simp) v2
theorem So.done {w W : World} {s : Sp} {v v2 : Value} {N : List Int} {T : List ByteArray} (h : So w W s v v2 N T) : ∃ p : SpAt, #[.string s.ref, .string s.old, .string s.new, v, v2] = spArr { s with who := N, seals := T } p ∧
    ∀ W', W' = W.setRow (w.heap.size + 1) (spArr { s with who := N, seals := T } p) → SpIn W' W'.heap.size { s with who := N, seals := T } p ∧ Below w.heap.size w W' ∧ (∀ ad, p.wa = some ad → w.heap.size ≤ ad.block) ∧ ∀ ad, p.sa = some ad → w.heap.size ≤ ad.block := by
  obtain ⟨A, c, rfl, hc, _⟩ := own_nums h.own
  obtain ⟨A2, c2, rfl, hc2, _, _⟩ := own_texts h.own2
  refine ⟨⟨A, c, A2, c2⟩, rfl, fun W' e => ?_⟩
  have k := gb_row (w := W) (w.heap.size + 1) (spArr { s with who := N, seals := T } ⟨A, c, A2, c2⟩)
  rw [← e] at k
  have o1 := own_kp h.own (Kp.gb k) (fun g hg => fun e => by have := own_row_ge h.own g hg; cases e; omega)
  have o2 := own_kp h.own2 (Kp.gb k) (fun g hg => fun e => by have := own_row_ge h.own2 g hg; cases e; omega)
  obtain ⟨A', c', e1, hc', hN⟩ := own_nums o1
  obtain ⟨A2', c2', e2, hc2', hT, _⟩ := own_texts o2
  cases e1
  cases e2
  exact ⟨⟨hN, hT, hc, hc2⟩, below_gb h.bel k (by omega) h.bel.size, (fun ad e => by have := row_far h.own ad e; omega), fun ad e => by have := row_far h.own2 ad e; omega⟩
set_option maxRecDepth 100000 in
set_option maxHeartbeats 20000000 in
theorem SpSign_far (s : Sp) (p : SpAt) (i x : Int) (key : ByteArray) (w : World) (hP : SpIn w w.heap.size s p) (hb : s.who.length ≤ 140737488355328) (hb2 : s.seals.length ≤ 140737488355328) (hk : key.size ≤ 140737488355328) (ht : Tab w) :
    Calls Tryd.prog 5 #[.agg (spArr s p), .int .i64 i, .int .i64 x, .string key] w (SpFar w (spSign s i x key)) := by
  obtain ⟨wa, wc, sa, sc⟩ := p
  have h1 : Hid (Sn w s ⟨wa, wc, sa, sc⟩ ((w.alloc (.cells (spArr s ⟨wa, wc, sa, sc⟩) 25)).alloc (.cells spZero 25))) := by
    have A0 : Arr (w.alloc (.cells (spArr s ⟨wa, wc, sa, sc⟩) 25)) w.heap.size 25 (spArr s ⟨wa, wc, sa, sc⟩) := Arr.new _ _ _
    have b0 : Below w.heap.size w (w.alloc (.cells (spArr s ⟨wa, wc, sa, sc⟩) 25)) := (Below.refl _ _).alloc (Nat.le_refl _) _
    have hz : (w.alloc (.cells (spArr s ⟨wa, wc, sa, sc⟩) 25)).heap.size = w.heap.size + 1 := World.size_alloc _ _
    generalize w.alloc (.cells (spArr s ⟨wa, wc, sa, sc⟩) 25) = V at *
    have A1 : Arr (V.alloc (.cells spZero 25)) V.heap.size 25 spZero := Arr.new _ _ _
    have b1 : Below V.heap.size V (V.alloc (.cells spZero 25)) := (Below.refl _ _).alloc (Nat.le_refl _) _
    have bb := b0.trans (b1.mono b0.size)
    rw [hz] at A1
    exact ⟨A0.below b1 A0.lt, A1, hP.below bb, bb, ht.below bb ht.1⟩
  have CG := Lib.hid (fun V h => goodBody_any i s ⟨wa, wc, sa, sc⟩ V h hb hb2)
  have hTw := ht
  have HPt := Lib.hid hP.txs
  have HSr := Lib.hid hP.sroom
  have hE : spSign s i x key = if (spGB i s).2 ≠ 0 then (spZ, (spGB i s).2) else if x < 0 ∨ 7 < x then (spZ, 3) else if x ∈ s.who then (spZ, 8) else (spPut s x (sealB key (spGB i s).1), 0) := rfl
  have HE := Lib.hid hE
  have HB := Lib.hid (spGB_small i s)
  have HGd : Hid ((spGB i s).2 = 0 → spGood s = 0) := spGB_good
  clear hE hP ht
  generalize spSign s i x key = R at *
  generalize spGB i s = G at *
  obtain ⟨body, z⟩ := G
  simp only at HE HB HGd CG
  generalize hA : spArr s ⟨wa, wc, sa, sc⟩ = arr at *
  have HA := Lib.hid hA
  clear hA
  go_enter Tryd.func5, Tryd.ntmps5
  go_upto_region 1 with fail
  refine wp_forget (Sn w s ⟨wa, wc, sa, sc⟩) h1.out ?_
  clear h1
  intro W hW
  have hA := HA.out
  clear HA
  subst hA
  go_wp2_with (refine wpList_load_row rfl 25 _ rfl w.heap.size rfl 25 _ (0, 0) _ hW.1 Tryd.underlying25 rfl (spInfo s _) ?_)
  have C := Lib.hid (CG.out W (hW.2.2.1.mono hW.2.2.2.1.size))
  clear CG
  (with_reducible refine C.out.mono ?_)
  rintro _ W2 ⟨rfl, b2⟩
  have hW2 := hW.below b2
  clear hW b2 C
  cases hG : z != 0
  case true =>
    have hG2 : z ≠ 0 := by simpa using hG
    rw [if_pos hG2] at HE
    go_wp2_with (refine wpList_store_row rfl 25 _ _ rfl (w.heap.size + 1) (spArr spZ pZ) rfl rfl 25 spZero hW2.2.1 (spInfo _ _) rfl (spArr_one _ _) ?_)
    refine bodyPost_ret (v := .tuple #[.agg (spArr spZ pZ), .int .i64 z]) ?_ rfl (SpFar_eq HE.out (hW2.no z))
    rw [results_cell_tmp Tryd.results5]
    have hld := run_loadVar_row (P := Tryd.prog) _ _ _ 25 _ _ _ (hW2.2.1.row (spArr spZ pZ)) Tryd.underlying25 rfl (spInfo spZ pZ)
    simp [asAddr, hld, Result.andThen]
  have hG2 : z = 0 := by simpa using hG
  subst hG2
  rw [if_neg (by simp)] at HE
  obtain ⟨_, hw8, hl, hgd⟩ := spGood_ok (HGd.out rfl)
  have hris := good_ris (HGd.out rfl)
  have hbs := HB.out rfl
  have HL := Lib.hid hl
  clear hG HB HGd hgd hl
  have CS := Lib.hid (fun V => isSigner_any x V)
  have hsig : isSig x = (decide (0 ≤ x) && decide (x ≤ 7)) := rfl
  cases hs : isSig x
  · rw [hs] at CS
    have HE2 : Hid (R = (spZ, 3)) := by
      show _ = _
      rw [HE.out, if_pos]
      rw [hsig, Bool.and_eq_false_iff, decide_eq_false_iff_not, decide_eq_false_iff_not] at hs
      omega
    clear HE hs hsig hris
    go_wp2_with fail
    (with_reducible refine (CS.out _).mono ?_)
    rintro _ V ⟨rfl, rfl⟩
    go_wp2_with (refine wpList_store_row rfl 25 _ _ rfl (w.heap.size + 1) (spArr spZ pZ) rfl rfl 25 spZero hW2.2.1 (spInfo _ _) rfl (spArr_one _ _) ?_)
    refine bodyPost_ret (v := .tuple #[.agg (spArr spZ pZ), .int .i64 3]) ?_ rfl (SpFar_eq HE2.out (hW2.no 3))
    rw [results_cell_tmp Tryd.results5]
    have hld := run_loadVar_row (P := Tryd.prog) _ _ _ 25 _ _ _ (hW2.2.1.row (spArr spZ pZ)) Tryd.underlying25 rfl (spInfo spZ pZ)
    simp [asAddr, hld, Result.andThen]
  rw [hs] at CS
  have hx07 : 0 ≤ x ∧ x ≤ 7 := by
    rw [hsig, Bool.and_eq_true, decide_eq_true_iff, decide_eq_true_iff] at hs
    exact hs
  rw [if_neg (by omega)] at HE
  clear hs hsig
  have CB := Lib.hid (intSearch_any s.who x wa wc W2 (hW2.2.2.1.nums.mono hW2.2.2.2.1.size) (by omega) hris)
  have hkl := lowI_le x s.who
  obtain ⟨_, _, _, c3, _⟩ : _ ∧ _ ∧ _ ∧ W2.cell? ⟨w.heap.size, 3, none⟩ = some (.slice wa s.who.length wc) ∧ _ := ⟨hW2.1.cell 0, hW2.1.cell 1, hW2.1.cell 2, hW2.1.cell 3, hW2.1.cell 4⟩
  by_cases hm : x ∈ s.who
  · rw [if_pos hm] at HE
    rw [decide_eq_true hm] at CB
    clear hm hris
    go_wp2_with fail
    (with_reducible refine (CS.out _).mono ?_)
    rintro _ V ⟨rfl, rfl⟩
    go_wp2_with fail
    (with_reducible refine CB.out.mono ?_)
    rintro _ V2 ⟨rfl, rfl⟩
    go_wp2_with (refine wpList_store_row rfl 25 _ _ rfl (w.heap.size + 1) (spArr spZ pZ) rfl rfl 25 spZero hW2.2.1 (spInfo _ _) rfl (spArr_one _ _) ?_)
    refine bodyPost_ret (v := .tuple #[.agg (spArr spZ pZ), .int .i64 8]) ?_ rfl (SpFar_eq HE.out (hW2.no 8))
    rw [results_cell_tmp Tryd.results5]
    have hld := run_loadVar_row (P := Tryd.prog) _ _ _ 25 _ _ _ (hW2.2.1.row (spArr spZ pZ)) Tryd.underlying25 rfl (spInfo spZ pZ)
    simp [asAddr, hld, Result.andThen]
  rw [if_neg hm] at HE
  rw [decide_eq_false hm] at CB
  clear hm hris
  go_wp2_with fail
  (with_reducible refine (CS.out _).mono ?_)
  rintro _ V ⟨rfl, rfl⟩
  go_wp2_with fail
  (with_reducible refine CB.out.mono ?_)
  rintro _ V2 ⟨rfl, rfl⟩
  clear CS CB
  have HE2 : Hid (R = ({ s with who := s.who.take (lowI x s.who) ++ x :: s.who.drop (lowI x s.who), seals := s.seals.take (lowI x s.who) ++ (sealB key body) :: s.seals.drop (lowI x s.who) }, 0)) := HE.out
  clear HE
  have hk1 : (lowI x s.who : Int) ≤ s.who.length := by omega
  have HSn := Lib.hid hW2
  have hm8 : s.seals.length ≤ 8 := by have := HL.out; omega
  have HT : Hid (∀ V, Below w.heap.size w V → Tab V) := fun V b => hTw.below b hTw.1
  clear hTw
  -- TAIL
  have CSl : Hid (∀ V, Tab V → Calls Tryd.prog 14 #[.string key, .string body] V fun e w' => e = .returned (.string (sealB key body)) ∧ Below V.heap.size V w') := fun V h => Seal_any key body hk (by omega) V h
  generalize lowI x s.who = k at *
  generalize hsl : sealB key body = sl at *
  clear hsl
  cases wa with
  | none =>
    have hn0 : s.who = [] := by
      cases hq : s.who with
      | nil => rfl
      | cons y l =>
        obtain ⟨ad, e, _⟩ := hW2.2.2.1.nums 0 y (by rw [hq]; rfl)
        cases e
    obtain rfl : k = 0 := by rw [hn0] at hkl; simpa using hkl
    rw [show s.who.length = 0 from by rw [hn0]; rfl] at c3
    have CI : Hid (∀ a b, Calls Tryd.prog 12 #[.slice (some ⟨V2.heap.size + 1, 0, none⟩) 3 3] ((V2.alloc (.cells #[.int .i64 x] 3)).alloc (.cells #[.slice none 0 a, .slice (some ⟨V2.heap.size, 0, none⟩) 1 1, .slice none 0 b] 22)).drew fun e W' => ∃ v, e = .returned v ∧ W'.ownsRow V2.heap.size 3 1 v (s.who.take 0 ++ x :: s.who.drop 0).length ((s.who.take 0 ++ x :: s.who.drop 0).map iv) ∧ Below V2.heap.size V2 W') := fun a b => by
      rw [hn0, List.take_nil, List.drop_nil]
      exact cat_drewI V2 [] [] x none none a b 0 0 rfl rfl (by simp) V2 (Below.refl _ _) (NumsA.nil _ _ _) (NumsA.nil _ _ _)
    have d3 : V2.drew.cell? ⟨w.heap.size, 3, none⟩ = some (.slice none 0 wc) := c3
    have d3e : (V2.alloc (.cells #[.int .i64 x] 3)).drew.cell? ⟨w.heap.size, 3, none⟩ = some (.slice none 0 wc) := (below_cell c3 hW2.1.lt)
    generalize hN9 : s.who.take 0 ++ x :: s.who.drop 0 = N9 at *
    clear c3 hW2
    go_upto_region 9 with fail
    apply wp_met (R := fun A c V => Sm w V s (.slice A N9.length c) (.slice sa s.seals.length sc) N9)
    case h =>
     intro Q' hQ'
     go_region_law (go_simp; go_at_call 12; (with_reducible refine (CI.out _ _).mono ?_); rintro _ W3 ⟨v, rfl, own, b3⟩; obtain ⟨A9, c9, rfl, _, _⟩ := own_nums own; have hX3 := HSn.out.below b3; have hM := Lib.hid (HSn.out.mid b3 own); have x3 : W3.cell? ⟨w.heap.size, 3, none⟩ = some (.slice none 0 wc) := (by rw [← show s.who.length = 0 from by rw [hn0]; rfl]; exact hX3.1.cell 3); have f3 := hX3.1.free 3)
     all_goals exact hQ' A9 c9 W3 _ hM.out
    case k =>
      clear CI d3 d3e HSn
      intro A9 c9 _ V3 hM
      have hT3 := (HPt.out.below hM.bel).mono hM.bel.size
      cases sa with
      | none =>
        have hs0 : s.seals = [] := by
          cases hq : s.seals with
          | nil => rfl
          | cons y l =>
            obtain ⟨ad, e, _⟩ := hT3 0 y (by rw [hq]; rfl)
            cases e
        have hm0 : s.seals.length = 0 := by rw [hs0]; rfl
        have CT : Hid (∀ a b W, Below V3.heap.size V3 W → Calls Tryd.prog 13 #[.slice (some ⟨W.heap.size + 1, 0, none⟩) 3 3] ((W.alloc (.cells #[.string sl] 9)).alloc (.cells #[.slice none 0 a, .slice (some ⟨W.heap.size, 0, none⟩) 1 1, .slice none 0 b] 23)) fun e W' => ∃ v, e = .returned v ∧ W'.ownsRow V3.heap.size 9 1 v (s.seals.take 0 ++ sl :: s.seals.drop 0).length ((s.seals.take 0 ++ sl :: s.seals.drop 0).map sv) ∧ Below V3.heap.size V3 W') := fun a b W bl => by
          rw [hs0, List.take_nil, List.drop_nil]
          exact cat_threeT V3 [] [] sl none none a b 0 0 rfl rfl (by simp) W bl (Txs.nil _ _ _) (Txs.nil _ _ _)
        have d4 : V3.drew.cell? ⟨w.heap.size, 4, none⟩ = some (.slice none 0 sc) := (by have := hM.box.cell 4; rw [hm0] at this; exact this)
        have CSl3 := Lib.hid (CSl.out V3.drew (HT.out _ hM.bel.drew))
        generalize hN8 : s.seals.take 0 ++ sl :: s.seals.drop 0 = T9 at *
        have HM := Lib.hid hM
        clear hT3 hN8 hM
        go_upto_region 10 with fail
        apply wp_met (R := fun A c V => So w V s (.slice A9 N9.length c9) (.slice A T9.length c) N9 T9)
        case h =>
         intro Q' hQ'
         go_region_law (first
          | (go_simp; go_at_call 14; (with_reducible refine CSl3.out.mono ?_); rintro _ W4 ⟨rfl, b40⟩; have b4 : Below V3.heap.size V3 W4 := (Below.refl _ V3).drew.trans b40; have hM := HM.out.below b4; have x4 : W4.cell? ⟨w.heap.size, 4, none⟩ = some (.slice none 0 sc) := (by have := hM.box.cell 4; rw [hm0] at this; exact this); have x4e : (W4.alloc (.cells #[.string sl] 9)).cell? ⟨w.heap.size, 4, none⟩ = some (.slice none 0 sc) := below_cell x4 hM.box.lt; clear hM)
          | (go_simp; go_at_call 13; (with_reducible refine (CT.out _ _ _ b4).mono ?_); rintro _ W5 ⟨v2, rfl, own2, b5⟩; obtain ⟨A10, c10, rfl, _⟩ := own_texts own2; have hO := Lib.hid (HM.out.last b5 own2); have hM := HM.out.below b5; have x5 : W5.cell? ⟨w.heap.size, 4, none⟩ = some (.slice none 0 sc) := (by have := hM.box.cell 4; rw [hm0] at this; exact this); have f5 := hM.box.free 4; clear hM))
         all_goals exact hQ' A10 c10 W4 _ hO.out
        case k =>
          clear d4 CT CSl3
          intro A10 c10 _ V6 hO
          obtain ⟨p, he, hd⟩ := hO.done
          have hbx := hO.box
          rw [he] at hbx
          go_wp2_with (first
            | refine wpList_load_row rfl 25 _ rfl w.heap.size rfl 25 _ (0, 0) _ hbx Tryd.underlying25 rfl (spInfo _ p) ?_
            | refine wpList_store_row rfl 25 _ _ rfl (w.heap.size + 1) (spArr _ p) rfl rfl 25 spZero hO.res (spInfo _ p) rfl (spArr_one _ p) ?_)
          all_goals
            refine bodyPost_ret (v := .tuple #[.agg (spArr { s with who := N9, seals := T9 } p), .int .i64 0]) ?_ rfl (SpFar_eq HE2.out ⟨p, rfl, hd _ rfl⟩)
            rw [results_cell_tmp Tryd.results5]
            have hld := run_loadVar_row (P := Tryd.prog) _ _ _ 25 _ _ _ (hO.res.row (spArr { s with who := N9, seals := T9 } p)) Tryd.underlying25 rfl (spInfo _ p)
            simp [asAddr, hld, Result.andThen]
      | some ad2 =>
        have hs0 : s.seals = [] := List.eq_nil_of_length_eq_zero (by have := HL.out; rw [hn0] at this; exact this)
        have hn9 := HSr.out
        have hn1 : (s.seals.length : Int) ≤ sc := by omega
        have CT : Hid (∀ W, Below V3.heap.size V3 W → Calls Tryd.prog 13 #[.slice (some ⟨W.heap.size + 1, 0, none⟩) 3 3] ((W.alloc (.cells #[.string sl] 9)).alloc (.cells #[.slice (some ad2) 0 sc, .slice (some ⟨W.heap.size, 0, none⟩) 1 1, .slice (some ad2) s.seals.length sc] 23)) fun e W' => ∃ v, e = .returned v ∧ W'.ownsRow V3.heap.size 9 1 v (s.seals.take 0 ++ sl :: s.seals.drop 0).length ((s.seals.take 0 ++ sl :: s.seals.drop 0).map sv) ∧ Below V3.heap.size V3 W') := fun W b => by
          rw [hs0, List.take_nil, List.drop_nil]
          exact cat_threeT V3 [] [] sl (some ad2) (some ad2) sc sc 0 0 rfl rfl (by simp) W b (Txs.nil _ _ _) (Txs.nil _ _ _)
        clear hs0
        have d4 : V3.drew.cell? ⟨w.heap.size, 4, none⟩ = some (.slice (some ad2) s.seals.length sc) := hM.box.cell 4
        have CSl3 := Lib.hid (CSl.out V3.drew (HT.out _ hM.bel.drew))
        generalize hN8 : s.seals.take 0 ++ sl :: s.seals.drop 0 = T9 at *
        have HM := Lib.hid hM
        clear hT3 hN8 hM
        go_upto_region 10 with fail
        apply wp_met (R := fun A c V => So w V s (.slice A9 N9.length c9) (.slice A T9.length c) N9 T9)
        case h =>
         intro Q' hQ'
         go_region_law (first
          | (go_simp; go_at_call 14; (with_reducible refine CSl3.out.mono ?_); rintro _ W4 ⟨rfl, b40⟩; have b4 : Below V3.heap.size V3 W4 := (Below.refl _ V3).drew.trans b40; have hM := HM.out.below b4; have x4 : W4.cell? ⟨w.heap.size, 4, none⟩ = some (.slice (some ad2) s.seals.length sc) := hM.box.cell 4; have x4e : (W4.alloc (.cells #[.string sl] 9)).cell? ⟨w.heap.size, 4, none⟩ = some (.slice (some ad2) s.seals.length sc) := below_cell x4 hM.box.lt; clear hM)
          | (go_simp; go_at_call 13; (with_reducible refine (CT.out _ b4).mono ?_); rintro _ W5 ⟨v2, rfl, own2, b5⟩; obtain ⟨A10, c10, rfl, _⟩ := own_texts own2; have hO := Lib.hid (HM.out.last b5 own2); have hM := HM.out.below b5; have x5 : W5.cell? ⟨w.heap.size, 4, none⟩ = some (.slice (some ad2) s.seals.length sc) := hM.box.cell 4; have f5 := hM.box.free 4; clear hM))
         all_goals exact hQ' A10 c10 W4 _ hO.out
        case k =>
          clear d4 CT CSl3
          intro A10 c10 _ V6 hO
          obtain ⟨p, he, hd⟩ := hO.done
          have hbx := hO.box
          rw [he] at hbx
          go_wp2_with (first
            | refine wpList_load_row rfl 25 _ rfl w.heap.size rfl 25 _ (0, 0) _ hbx Tryd.underlying25 rfl (spInfo _ p) ?_
            | refine wpList_store_row rfl 25 _ _ rfl (w.heap.size + 1) (spArr _ p) rfl rfl 25 spZero hO.res (spInfo _ p) rfl (spArr_one _ p) ?_)
          all_goals
            refine bodyPost_ret (v := .tuple #[.agg (spArr { s with who := N9, seals := T9 } p), .int .i64 0]) ?_ rfl (SpFar_eq HE2.out ⟨p, rfl, hd _ rfl⟩)
            rw [results_cell_tmp Tryd.results5]
            have hld := run_loadVar_row (P := Tryd.prog) _ _ _ 25 _ _ _ (hO.res.row (spArr { s with who := N9, seals := T9 } p)) Tryd.underlying25 rfl (spInfo _ p)
            simp [asAddr, hld, Result.andThen]

  | some ad =>
    have hn9 := hW2.2.2.1.wroom
    simp only at hn9
    have hn1 : (s.who.length : Int) ≤ wc := by omega
    have hn2 : (k : Int) ≤ wc := by omega
    have CI := Lib.hid (cat_drewI V2 (s.who.take k) (s.who.drop k) x (some ad) (if wc = k then some ad else some (ad.add k)) wc (wc - k) k (s.who.length - k) (by rw [List.length_take]; omega) List.length_drop.symm (by rw [List.length_take, List.length_drop]; omega) V2 (Below.refl _ _) ((hW2.2.2.1.nums.mono hW2.2.2.2.1.size).take' k) ((hW2.2.2.1.nums.mono hW2.2.2.2.1.size).rest' k wc hn9))
    have d3 : V2.drew.cell? ⟨w.heap.size, 3, none⟩ = some (.slice (some ad) s.who.length wc) := c3
    have d3e : (V2.alloc (.cells #[.int .i64 x] 3)).drew.cell? ⟨w.heap.size, 3, none⟩ = some (.slice (some ad) s.who.length wc) := (below_cell c3 hW2.1.lt)
    generalize hN9 : s.who.take k ++ x :: s.who.drop k = N9 at *
    clear c3 hW2
    go_upto_region 9 with fail
    apply wp_met (R := fun A c V => Sm w V s (.slice A N9.length c) (.slice sa s.seals.length sc) N9)
    case h =>
     intro Q' hQ'
     go_region_law (go_simp; go_at_call 12; (with_reducible refine CI.out.mono ?_); rintro _ W3 ⟨v, rfl, own, b3⟩; obtain ⟨A9, c9, rfl, _, _⟩ := own_nums own; have hX3 := HSn.out.below b3; have hM := Lib.hid (HSn.out.mid b3 own); have x3 : W3.cell? ⟨w.heap.size, 3, none⟩ = some (.slice (some ad) s.who.length wc) := hX3.1.cell 3; have f3 := hX3.1.free 3)
     all_goals exact hQ' A9 c9 W3 _ hM.out
    case k =>
      clear CI d3 d3e HSn
      intro A9 c9 _ V3 hM
      have hT3 := (HPt.out.below hM.bel).mono hM.bel.size
      cases sa with
      | none =>
        have hs0 : s.seals = [] := by
          cases hq : s.seals with
          | nil => rfl
          | cons y l =>
            obtain ⟨ad, e, _⟩ := hT3 0 y (by rw [hq]; rfl)
            cases e
        have hm0 : s.seals.length = 0 := by rw [hs0]; rfl
        obtain rfl : k = 0 := by have := HL.out; omega
        have CT : Hid (∀ a b W, Below V3.heap.size V3 W → Calls Tryd.prog 13 #[.slice (some ⟨W.heap.size + 1, 0, none⟩) 3 3] ((W.alloc (.cells #[.string sl] 9)).alloc (.cells #[.slice none 0 a, .slice (some ⟨W.heap.size, 0, none⟩) 1 1, .slice none 0 b] 23)) fun e W' => ∃ v, e = .returned v ∧ W'.ownsRow V3.heap.size 9 1 v (s.seals.take 0 ++ sl :: s.seals.drop 0).length ((s.seals.take 0 ++ sl :: s.seals.drop 0).map sv) ∧ Below V3.heap.size V3 W') := fun a b W bl => by
          rw [hs0, List.take_nil, List.drop_nil]
          exact cat_threeT V3 [] [] sl none none a b 0 0 rfl rfl (by simp) W bl (Txs.nil _ _ _) (Txs.nil _ _ _)
        have d4 : V3.drew.cell? ⟨w.heap.size, 4, none⟩ = some (.slice none 0 sc) := (by have := hM.box.cell 4; rw [hm0] at this; exact this)
        have CSl3 := Lib.hid (CSl.out V3.drew (HT.out _ hM.bel.drew))
        generalize hN8 : s.seals.take 0 ++ sl :: s.seals.drop 0 = T9 at *
        have HM := Lib.hid hM
        clear hT3 hN8 hM
        go_upto_region 10 with fail
        apply wp_met (R := fun A c V => So w V s (.slice A9 N9.length c9) (.slice A T9.length c) N9 T9)
        case h =>
         intro Q' hQ'
         go_region_law (first
          | (go_simp; go_at_call 14; (with_reducible refine CSl3.out.mono ?_); rintro _ W4 ⟨rfl, b40⟩; have b4 : Below V3.heap.size V3 W4 := (Below.refl _ V3).drew.trans b40; have hM := HM.out.below b4; have x4 : W4.cell? ⟨w.heap.size, 4, none⟩ = some (.slice none 0 sc) := (by have := hM.box.cell 4; rw [hm0] at this; exact this); have x4e : (W4.alloc (.cells #[.string sl] 9)).cell? ⟨w.heap.size, 4, none⟩ = some (.slice none 0 sc) := below_cell x4 hM.box.lt; clear hM)
          | (go_simp; go_at_call 13; (with_reducible refine (CT.out _ _ _ b4).mono ?_); rintro _ W5 ⟨v2, rfl, own2, b5⟩; obtain ⟨A10, c10, rfl, _⟩ := own_texts own2; have hO := Lib.hid (HM.out.last b5 own2); have hM := HM.out.below b5; have x5 : W5.cell? ⟨w.heap.size, 4, none⟩ = some (.slice none 0 sc) := (by have := hM.box.cell 4; rw [hm0] at this; exact this); have f5 := hM.box.free 4; clear hM))
         all_goals exact hQ' A10 c10 W4 _ hO.out
        case k =>
          clear d4 CT CSl3
          intro A10 c10 _ V6 hO
          obtain ⟨p, he, hd⟩ := hO.done
          have hbx := hO.box
          rw [he] at hbx
          go_wp2_with (first
            | refine wpList_load_row rfl 25 _ rfl w.heap.size rfl 25 _ (0, 0) _ hbx Tryd.underlying25 rfl (spInfo _ p) ?_
            | refine wpList_store_row rfl 25 _ _ rfl (w.heap.size + 1) (spArr _ p) rfl rfl 25 spZero hO.res (spInfo _ p) rfl (spArr_one _ p) ?_)
          all_goals
            refine bodyPost_ret (v := .tuple #[.agg (spArr { s with who := N9, seals := T9 } p), .int .i64 0]) ?_ rfl (SpFar_eq HE2.out ⟨p, rfl, hd _ rfl⟩)
            rw [results_cell_tmp Tryd.results5]
            have hld := run_loadVar_row (P := Tryd.prog) _ _ _ 25 _ _ _ (hO.res.row (spArr { s with who := N9, seals := T9 } p)) Tryd.underlying25 rfl (spInfo _ p)
            simp [asAddr, hld, Result.andThen]
      | some ad2 =>
        have hn9 := HSr.out
        have hn1 : (s.seals.length : Int) ≤ sc := by omega
        have hn3 : (k : Int) ≤ s.seals.length := by have := HL.out; omega
        have hn2 : (k : Int) ≤ sc := by omega
        have CT : Hid (∀ W, Below V3.heap.size V3 W → Calls Tryd.prog 13 #[.slice (some ⟨W.heap.size + 1, 0, none⟩) 3 3] ((W.alloc (.cells #[.string sl] 9)).alloc (.cells #[.slice (some ad2) k sc, .slice (some ⟨W.heap.size, 0, none⟩) 1 1, .slice (if sc = k then some ad2 else some (ad2.add k)) (s.seals.length - k) (sc - k)] 23)) fun e W' => ∃ v, e = .returned v ∧ W'.ownsRow V3.heap.size 9 1 v (s.seals.take k ++ sl :: s.seals.drop k).length ((s.seals.take k ++ sl :: s.seals.drop k).map sv) ∧ Below V3.heap.size V3 W') := fun W b =>
          cat_threeT V3 (s.seals.take k) (s.seals.drop k) sl (some ad2) (if sc = k then some ad2 else some (ad2.add k)) sc (sc - k) k (s.seals.length - k) (by rw [List.length_take]; omega) List.length_drop.symm (by rw [List.length_take, List.length_drop]; omega) W b (hT3.take' k) (hT3.rest' k sc hn9)
        have d4 : V3.drew.cell? ⟨w.heap.size, 4, none⟩ = some (.slice (some ad2) s.seals.length sc) := hM.box.cell 4
        have CSl3 := Lib.hid (CSl.out V3.drew (HT.out _ hM.bel.drew))
        generalize hN8 : s.seals.take k ++ sl :: s.seals.drop k = T9 at *
        have HM := Lib.hid hM
        clear hT3 hN8 hM
        go_upto_region 10 with fail
        apply wp_met (R := fun A c V => So w V s (.slice A9 N9.length c9) (.slice A T9.length c) N9 T9)
        case h =>
         intro Q' hQ'
         go_region_law (first
          | (go_simp; go_at_call 14; (with_reducible refine CSl3.out.mono ?_); rintro _ W4 ⟨rfl, b40⟩; have b4 : Below V3.heap.size V3 W4 := (Below.refl _ V3).drew.trans b40; have hM := HM.out.below b4; have x4 : W4.cell? ⟨w.heap.size, 4, none⟩ = some (.slice (some ad2) s.seals.length sc) := hM.box.cell 4; have x4e : (W4.alloc (.cells #[.string sl] 9)).cell? ⟨w.heap.size, 4, none⟩ = some (.slice (some ad2) s.seals.length sc) := below_cell x4 hM.box.lt; clear hM)
          | (go_simp; go_at_call 13; (with_reducible refine (CT.out _ b4).mono ?_); rintro _ W5 ⟨v2, rfl, own2, b5⟩; obtain ⟨A10, c10, rfl, _⟩ := own_texts own2; have hO := Lib.hid (HM.out.last b5 own2); have hM := HM.out.below b5; have x5 : W5.cell? ⟨w.heap.size, 4, none⟩ = some (.slice (some ad2) s.seals.length sc) := hM.box.cell 4; have f5 := hM.box.free 4; clear hM))
         all_goals exact hQ' A10 c10 W4 _ hO.out
        case k =>
          clear d4 CT CSl3
          intro A10 c10 _ V6 hO
          obtain ⟨p, he, hd⟩ := hO.done
          have hbx := hO.box
          rw [he] at hbx
          go_wp2_with (first
            | refine wpList_load_row rfl 25 _ rfl w.heap.size rfl 25 _ (0, 0) _ hbx Tryd.underlying25 rfl (spInfo _ p) ?_
            | refine wpList_store_row rfl 25 _ _ rfl (w.heap.size + 1) (spArr _ p) rfl rfl 25 spZero hO.res (spInfo _ p) rfl (spArr_one _ p) ?_)
          all_goals
            refine bodyPost_ret (v := .tuple #[.agg (spArr { s with who := N9, seals := T9 } p), .int .i64 0]) ?_ rfl (SpFar_eq HE2.out ⟨p, rfl, hd _ rfl⟩)
            rw [results_cell_tmp Tryd.results5]
            have hld := run_loadVar_row (P := Tryd.prog) _ _ _ 25 _ _ _ (hO.res.row (spArr { s with who := N9, seals := T9 } p)) Tryd.underlying25 rfl (spInfo _ p)
            simp [asAddr, hld, Result.andThen]

theorem SpSign_any (s : Sp) (p : SpAt) (i x : Int) (key : ByteArray) (w : World) (hP : SpIn w w.heap.size s p) (hb : s.who.length ≤ 140737488355328) (hb2 : s.seals.length ≤ 140737488355328) (hk : key.size ≤ 140737488355328) (ht : Tab w) :
    Calls Tryd.prog 5 #[.agg (spArr s p), .int .i64 i, .int .i64 x, .string key] w (SpEnd w (spSign s i x key)) :=
  (SpSign_far s p i x key w hP hb hb2 hk ht).mono fun _ _ ⟨p, h1, h2, h3, _⟩ => ⟨p, h1, h2, h3⟩
end Go.Proofs.YtenjnaebhbmfiaaDoor
