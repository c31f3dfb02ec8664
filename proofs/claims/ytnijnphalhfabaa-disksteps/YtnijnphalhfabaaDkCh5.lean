/- The change of Write. -/
import Derived.Test.YtnijnphalhfabaaDkCh4
import Derived.Deep.RegionHeld3
namespace Go.Proofs.Ytnijnphalhfabaa
open Go.RowKit

theorem take_tail {C : List Value} {L : List Fl} {i cap : Nat} {f : Fl} {t : ByteArray} (hC : C.take (L.length * 3) = flCells L) (hcs : C.length = cap * 3) (hnc : L.length ≤ cap) (hi : L[i]? = some f) :
    (C.set (i * 3 + 2) (.string t)).take (L.length * 3) = flCells (L.set i ⟨f.name, f.safe, t⟩) := by
  have hlt := (List.getElem?_eq_some_iff.1 hi).1
  have h1 := take_set2 (f' := ⟨f.name, f.safe, t⟩) (u := .string f.safe) (v := .string t) hC hcs hnc hi rfl rfl rfl
  have e : C.set (i * 3 + 1) (.string f.safe) = C := by
    have hc : C[i * 3 + 1]? = some (.string f.safe) := by
      have := flCells_at L i 1 f hi (by omega)
      rw [← hC, List.getElem?_take_of_lt (by omega)] at this
      exact this
    obtain ⟨hl, he⟩ := List.getElem?_eq_some_iff.1 hc
    rw [← he, List.set_getElem_self]
  rw [e] at h1
  exact h1
set_option maxRecDepth 100000 in
set_option maxHeartbeats 2000000 in
theorem writeCh_any (L : List Fl) (n s : ByteArray) (hs : s.size ≤ 140737488355328) (hG : goodD L = true) (v : Value) (base p1 p2 : Nat) (V : World) (h : V.ownsRow base 50 3 v L.length (flCells L)) (hp1 : V.cell? ⟨p1, 0, none⟩ = some (.string n)) (hp2 : V.cell? ⟨p2, 0, none⟩ = some (.string s)) (hq1 : p1 < base) (hq2 : p2 < base) (hb : base ≤ V.heap.size) :
    Calls Try.prog 31 #[v, .pointer (some ⟨p1, 0, none⟩), .pointer (some ⟨p2, 0, none⟩)] V (ChEnd base (wrP L n s) V) := by
  obtain ⟨h4, hr, hall⟩ := (goodD_iff L).1 hG
  have CN := Lib.hid (Named_any n V)
  cases hnm : named n with
  | false =>
    have HR : Hid (wrP L n s = .error 2) := by show _ = _; unfold wrP; rw [hnm]; rfl
    rw [hnm] at CN
    go_enter Try.func31, Try.ntmps31
    go_wp2_with fail
    (with_reducible refine CN.out.mono ?_)
    rintro _ V ⟨rfl, rfl⟩
    go_wp2_with fail
    go_ret2
    rw [HR.out]
    exact ⟨⟨rfl, rfl⟩, Below.refl _ _⟩
  | true =>
    rw [hnm] at CN
    obtain ⟨A, c, rfl, hc, hF⟩ := own_files h
    have C1 := Lib.hid (find_any L n A c V hF (by omega) hr)
    have hown : ∀ k, (Value.slice A L.length c).ownBlock = some k → k < V.heap.size := fun k hk => by
      rcases h.2 with ⟨e0, _⟩ | ⟨g, cap, cur, e0, _, hg, _⟩
      · rw [e0] at hk; cases hk
      · rw [e0] at hk
        have e1 : g = k := Option.some.inj hk
        have := (Array.getElem?_eq_some_iff.1 hg).1
        omega
    cases hbn : hasN n L with
    | false =>
      have hg0 : getF n L = none := by
        unfold hasN at hbn
        cases hg : getF n L with
        | none => rfl
        | some f => rw [hg] at hbn; cases hbn
      rw [hbn] at C1
      by_cases hfull : 400 ≤ L.length
      · have HR : Hid (wrP L n s = .error 6) := by show _ = _; unfold wrP; rw [hnm, hg0]; simp only [Bool.not_true, Bool.false_eq_true, if_false]; rw [if_pos hfull]
        have hfi : (400 : Int) ≤ L.length := by omega
        clear hnm hbn
        go_enter Try.func31, Try.ntmps31
        go_wp2_with fail
        (with_reducible refine CN.out.mono ?_)
        rintro _ V ⟨rfl, rfl⟩
        go_wp2_with fail
        (with_reducible refine C1.out.mono ?_)
        clear C1
        rintro _ V2 ⟨rfl, b2⟩
        go_wp2_with fail
        go_ret2
        rw [HR.out]
        exact ⟨⟨rfl, rfl⟩, b2.mono hb⟩
      · have hfi : ¬ (400 : Int) ≤ L.length := by omega
        have hpi := put_ins hr hbn (f' := ⟨n, ⟨#[]⟩, s⟩) rfl
        have hlo := low_le n L
        have CI := fun V1 vb h1 h2 h3 h4 => Lib.hid (Insert_any L (low n L) hlo ⟨n, ⟨#[]⟩, ⟨#[]⟩⟩ (by omega) (.slice A L.length c) base V1 h1 vb h2 h3 h4)
        have HRR : Hid (wrP L n s = if 1048576 < s.size then .error 1 else .ok ((L.take (low n L) ++ ⟨n, ⟨#[]⟩, ⟨#[]⟩⟩ :: L.drop (low n L)).set (low n L) ⟨n, ⟨#[]⟩, s⟩)) := by
          show _ = _
          unfold wrP
          rw [hnm, hg0]
          simp only [Bool.not_true, Bool.false_eq_true, if_false]
          rw [if_neg hfull, hpi]
          have hl : (L.take (low n L)).length = low n L := by rw [List.length_take]; omega
          rw [List.set_append_right _ _ (by omega), hl, Nat.sub_self, List.set_cons_zero]
        have hx0 : (L.take (low n L) ++ (⟨n, ⟨#[]⟩, ⟨#[]⟩⟩ : Fl) :: L.drop (low n L))[low n L]? = some ⟨n, ⟨#[]⟩, ⟨#[]⟩⟩ := by
          have hl : (L.take (low n L)).length = low n L := by rw [List.length_take]; omega
          rw [List.getElem?_append_right (by omega), hl, Nat.sub_self]
          rfl
        have hlen : (L.take (low n L) ++ (⟨n, ⟨#[]⟩, ⟨#[]⟩⟩ : Fl) :: L.drop (low n L)).length = L.length + 1 := by rw [List.length_append, List.length_cons, List.length_take, List.length_drop]; omega
        obtain ⟨L1, hL1⟩ : ∃ L1, L1 = L.take (low n L) ++ (⟨n, ⟨#[]⟩, ⟨#[]⟩⟩ : Fl) :: L.drop (low n L) := ⟨_, rfl⟩
        rw [← hL1] at CI HRR hx0 hlen
        obtain ⟨x, hxe⟩ : ∃ x : Fl, x = ⟨n, ⟨#[]⟩, ⟨#[]⟩⟩ := ⟨_, rfl⟩
        have hx : L1[low n L]? = some x := by rw [hxe]; exact hx0
        have hfit : x.safe.size + x.tail.size ≤ 1048576 := by rw [hxe]; show 0 + 0 ≤ 1048576; omega
        replace HRR : Hid (wrP L n s = if 1048576 < x.safe.size + x.tail.size + s.size then .error 1 else .ok (L1.set (low n L) ⟨x.name, x.safe, x.tail ++ s⟩)) := by
          show _ = _
          rw [HRR.out, hxe]
          show _ = if 1048576 < 0 + 0 + s.size then _ else Except.ok (L1.set (low n L) ⟨n, ⟨#[]⟩, (⟨#[]⟩ : ByteArray) ++ s⟩)
          simp only [empty_append, Nat.zero_add]
        have hil : low n L < L1.length := (List.getElem?_eq_some_iff.1 hx).1
        have hl1 : L1.length ≤ 1000 := by omega
        generalize wrP L n s = R at *
        generalize low n L = i at *
        clear hnm hbn hpi hx0 hL1 hxe hg0 hlen
        go_enter Try.func31, Try.ntmps31
        go_wp2_with fail
        (with_reducible refine CN.out.mono ?_)
        rintro _ V ⟨rfl, rfl⟩
        go_wp2_with fail
        (with_reducible refine C1.out.mono ?_)
        clear C1 CN
        rintro _ V2 ⟨rfl, b2⟩
        have h2 := own_below h b2
        have bel2 := b2.mono hb
        have hb2 := Nat.le_trans hb b2.size
        have g1 : V2.cell? ⟨p1, 0, none⟩ = some (.string n) := (bel2.cell (p := ⟨p1, 0, none⟩) hq1).trans hp1
        have g2 : V2.cell? ⟨p2, 0, none⟩ = some (.string s) := (bel2.cell (p := ⟨p2, 0, none⟩) hq2).trans hp2
        have b3 : Below V2.heap.size V2 (V2.alloc (.cells (flArr ⟨n, ⟨#[]⟩, ⟨#[]⟩⟩) 50)) := (Below.refl _ _).alloc (Nat.le_refl _) _
        have C2 := CI (V2.alloc (.cells (flArr ⟨n, ⟨#[]⟩, ⟨#[]⟩⟩) 50)) V2.heap.size (own_below h2 b3) (Arr.new _ _ _) (fun e => by have := hown _ e; have := b2.size; omega) (Nat.le_trans hb2 b3.size)
        have HG := Lib.hid (fun w' k => grown_base (w' := w') (own_below h2 b3) (Nat.le_trans hb2 b3.size) k)
        have bel3 : Below base V (V2.alloc (.cells (flArr ⟨n, ⟨#[]⟩, ⟨#[]⟩⟩) 50)) := bel2.trans (b3.mono hb2)
        have hb3 : base ≤ (V2.alloc (.cells (flArr ⟨n, ⟨#[]⟩, ⟨#[]⟩⟩) 50)).heap.size := Nat.le_trans hb2 b3.size
        clear CI hp1 hF h
        unfold flArr at C2
        go_wp2_with fail
        (with_reducible refine C2.out.mono ?_)
        clear C2
        rintro _ W ⟨v', rfl, hW, k4⟩
        have belW := bel3.trans (HG.out _ k4)
        have hbW := Nat.le_trans hb3 k4.size
        have cS : W.cell? ⟨p2, 0, none⟩ = some (.string s) := (belW.cell (p := ⟨p2, 0, none⟩) hq2).trans hp2
        clear bel3 HG b3 g1 g2 h2 bel2 hb3 k4
        rcases hW.2 with ⟨e0, hn0⟩ | ⟨g, cap, cur, e0, hbg, hg0, hnc, hcm, hcs0, htake⟩
        · omega
        subst e0
        have hgA : Arr W g 50 cur.toList.toArray := Arr.toL hg0
        have hcs : cur.toList.length = cap * 3 := by rw [Array.length_toList, hcs0]
        clear hg0 hcs0 hW
        generalize cur.toList = C at *
        have hcat : ∀ j, j < 3 → C[i * 3 + j]? = (flArr x).toList[j]? := fun j hj => by
          rw [← flCells_at L1 i j x hx hj, ← htake, List.getElem?_take_of_lt (by omega)]
        have hgs : g ≠ p2 := by omega
        have hcell : ∀ W' : World, Arr W' g 50 C.toArray → W'.cell? ⟨g, i * 3, none⟩ = some (.string x.name) ∧ W'.cell? ⟨g, i * 3 + 1, none⟩ = some (.string x.safe) ∧ W'.cell? ⟨g, i * 3 + 2, none⟩ = some (.string x.tail) := fun W' hA => by
          refine ⟨?_, ?_, ?_⟩
          · rw [hA.cell, List.getElem?_toArray]; exact hcat 0 (by omega)
          · rw [hA.cell, List.getElem?_toArray]; exact hcat 1 (by omega)
          · rw [hA.cell, List.getElem?_toArray]; exact hcat 2 (by omega)
        have HC := Lib.hid hcell
        have hli : (i : Int) < L1.length := by omega
        have CS : Hid (∀ W', Calls Try.prog 35 #[.agg #[.string x.name, .string x.safe, .string x.tail]] W' fun e w' => e = .returned (.int .i64 ((x.safe.size + x.tail.size : Nat) : Int)) ∧ Below W'.heap.size W' w') := fun W' => size_any x (by omega) (by omega) W'
        have HTk := Lib.hid htake
        have HX := Lib.hid hx
        clear hcell hcat htake hx
        by_cases hbig : 1048576 < x.safe.size + x.tail.size + s.size
        · have HR : Hid (R = .error 1) := by show _ = _; rw [HRR.out, if_pos hbig]
          have hj : (1048576 : Int) < ((x.safe.size + x.tail.size : Nat) : Int) + s.size := by omega
          have hsz : ((x.safe.size + x.tail.size : Nat) : Int) ≤ 1048576 := by omega
          obtain ⟨a0, a1, a2⟩ := HC.out W.drew hgA.drew
          have aS : W.drew.cell? ⟨p2, 0, none⟩ = some (.string s) := cS
          have S6 : W.drew.cell? ⟨g, i * 3, none⟩ = some (.string x.name) ∧ W.drew.cell? ⟨g, i * 3 + 1, none⟩ = some (.string x.safe) ∧ W.drew.cell? ⟨g, i * 3 + 2, none⟩ = some (.string x.tail) ∧ W.drew.cell? ⟨p2, 0, none⟩ = some (.string s) := ⟨a0, a1, a2, aS⟩
          clear a0 a1 a2 aS cS
          generalize x.safe.size + x.tail.size = sz at *
          have hwr : IntKind.i64.wrap ((sz : Int) + (s.size : Int)) = (sz : Int) + (s.size : Int) := IntWalk.i64_in _ (by omega)
          go_wp2_with fail
          go_region_held3 (fun w' => w'.cell? ⟨g, i * 3, none⟩ = some (.string x.name) ∧ w'.cell? ⟨g, i * 3 + 1, none⟩ = some (.string x.safe) ∧ w'.cell? ⟨g, i * 3 + 2, none⟩ = some (.string x.tail) ∧ w'.cell? ⟨p2, 0, none⟩ = some (.string s))
            (first | exact S6 | exact S7)
            (first
              | (go_at_call 35
                 (with_reducible refine (CS.out _).mono ?_)
                 rintro _ W7 ⟨rfl, b7⟩
                 have S7 : W7.cell? ⟨g, i * 3, none⟩ = some (.string x.name) ∧ W7.cell? ⟨g, i * 3 + 1, none⟩ = some (.string x.safe) ∧ W7.cell? ⟨g, i * 3 + 2, none⟩ = some (.string x.tail) ∧ W7.cell? ⟨p2, 0, none⟩ = some (.string s) := by
                   obtain ⟨a0, a1, a2⟩ := HC.out W7 (hgA.drew.below b7 hgA.lt)
                   exact ⟨a0, a1, a2, (b7.cell (p := ⟨p2, 0, none⟩) (by show p2 < W.heap.size; omega)).trans S6.2.2.2⟩)
              | fail)
          go_wp2_with fail
          go_ret2
          rw [HR.out]
          exact ⟨⟨rfl, rfl⟩, belW.drew.trans (b7.mono hbW)⟩
        · have HR : Hid (R = .ok (L1.set i ⟨x.name, x.safe, x.tail ++ s⟩)) := by show _ = _; rw [HRR.out, if_neg hbig]
          have hj : ¬ (1048576 : Int) < ((x.safe.size + x.tail.size : Nat) : Int) + s.size := by omega
          have hsz : ((x.safe.size + x.tail.size : Nat) : Int) ≤ 1048576 := by omega
          have htl : x.tail.size ≤ 1048576 := by omega
          have hss : s.size ≤ 1048576 := by omega
          obtain ⟨a0, a1, a2⟩ := HC.out W.drew hgA.drew
          have aS : W.drew.cell? ⟨p2, 0, none⟩ = some (.string s) := cS
          have S6 : W.drew.cell? ⟨g, i * 3, none⟩ = some (.string x.name) ∧ W.drew.cell? ⟨g, i * 3 + 1, none⟩ = some (.string x.safe) ∧ W.drew.cell? ⟨g, i * 3 + 2, none⟩ = some (.string x.tail) ∧ W.drew.cell? ⟨p2, 0, none⟩ = some (.string s) := ⟨a0, a1, a2, aS⟩
          clear a0 a1 a2 aS cS
          generalize x.safe.size + x.tail.size = sz at *
          have hwr : IntKind.i64.wrap ((sz : Int) + (s.size : Int)) = (sz : Int) + (s.size : Int) := IntWalk.i64_in _ (by omega)
          go_wp2_with fail
          go_region_held3 (fun w' => w'.cell? ⟨g, i * 3, none⟩ = some (.string x.name) ∧ w'.cell? ⟨g, i * 3 + 1, none⟩ = some (.string x.safe) ∧ w'.cell? ⟨g, i * 3 + 2, none⟩ = some (.string x.tail) ∧ w'.cell? ⟨p2, 0, none⟩ = some (.string s))
            (first | exact S6 | exact S7)
            (first
              | (go_at_call 35
                 (with_reducible refine (CS.out _).mono ?_)
                 rintro _ W7 ⟨rfl, b7⟩
                 have S7 : W7.cell? ⟨g, i * 3, none⟩ = some (.string x.name) ∧ W7.cell? ⟨g, i * 3 + 1, none⟩ = some (.string x.safe) ∧ W7.cell? ⟨g, i * 3 + 2, none⟩ = some (.string x.tail) ∧ W7.cell? ⟨p2, 0, none⟩ = some (.string s) := by
                   obtain ⟨a0, a1, a2⟩ := HC.out W7 (hgA.drew.below b7 hgA.lt)
                   exact ⟨a0, a1, a2, (b7.cell (p := ⟨p2, 0, none⟩) (by show p2 < W.heap.size; omega)).trans S6.2.2.2⟩)
              | fail)
          have A7 := hgA.drew.below b7 hgA.lt
          have bel7 := belW.drew.trans (b7.mono hbW)
          have hb7 : base ≤ W7.heap.size := Nat.le_trans hbW b7.size
          obtain ⟨_, _, d2, dS⟩ := S7
          have d2' : W7.drew.cell? ⟨g, i * 3 + 2, none⟩ = some (.string x.tail) := d2
          have dS' : W7.drew.cell? ⟨p2, 0, none⟩ = some (.string s) := dS
          have e2 : W7.drew.frozen? ⟨g, i * 3 + 2, none⟩ = false := A7.free _
          have A8 := A7.drew.put (i * 3 + 2) (.string (x.tail ++ s))
          rw [List.setIfInBounds_toArray] at A8
          have bel8 := below_gb bel7.drew (show W7.drew.grownBy (W7.drew.setCell ⟨g, i * 3 + 2, none⟩ (.string (x.tail ++ s))) (some g) from gb_set _ _ _) hbg hb7
          have HO : Hid ((W7.drew.setCell ⟨g, i * 3 + 2, none⟩ (.string (x.tail ++ s))).ownsRow base 50 3 (.slice (some ⟨g, 0, none⟩) L1.length cap) (L1.set i ⟨x.name, x.safe, x.tail ++ s⟩).length (flCells (L1.set i ⟨x.name, x.safe, x.tail ++ s⟩))) := by
            refine own_set hbg A8 hnc hcm (by rw [List.length_set]; exact hcs) ?_ HX.out
            exact take_tail HTk.out hcs hnc HX.out
          clear S6 A7 A8 bel7 d2 dS HX HTk HC
          go_upto_region 10 with fail
          have hcc : ¬ 9223372036854775807 < x.tail.size + s.size := by omega
          go_region_law (fail)
          all_goals
            go_wp2_with fail
            go_ret2
            rw [HR.out]
            exact ⟨⟨_, rfl, HO.out⟩, bel8⟩
    | true =>
      obtain ⟨x, hgf, hx, hfn, hlt⟩ := has_some hr hbn
      have hfit : x.safe.size + x.tail.size ≤ 1048576 := by
        have := (hall x (List.mem_of_getElem? hx)).2
        unfold fits at this
        exact of_decide_eq_true this
      have HRR : Hid (wrP L n s = if 1048576 < x.safe.size + x.tail.size + s.size then .error 1 else .ok (L.set (low n L) ⟨x.name, x.safe, x.tail ++ s⟩)) := by
        show _ = _
        unfold wrP
        rw [hnm, hgf]
        simp only [Bool.not_true, Bool.false_eq_true, if_false]
        rw [put_set hr hbn rfl, hfn]
      rw [hbn] at C1
      have hl1 : L.length ≤ 1000 := by omega
      generalize wrP L n s = R at *
      have hil : low n L < L.length := hlt
      generalize low n L = i at *
      clear hnm hbn hgf hall hr hG hfn
      go_enter Try.func31, Try.ntmps31
      go_wp2_with fail
      (with_reducible refine CN.out.mono ?_)
      rintro _ V ⟨rfl, rfl⟩
      go_wp2_with fail
      (with_reducible refine C1.out.mono ?_)
      clear C1 CN
      rintro _ W ⟨rfl, b2⟩
      have hW := own_below h b2
      have belW := b2.mono hb
      have hbW := Nat.le_trans hb b2.size
      have cS : W.cell? ⟨p2, 0, none⟩ = some (.string s) := (belW.cell (p := ⟨p2, 0, none⟩) hq2).trans hp2
      clear b2 h hF hp1
      generalize L = L1 at *
      rcases hW.2 with ⟨e0, hn0⟩ | ⟨g, cap, cur, e0, hbg, hg0, hnc, hcm, hcs0, htake⟩
      · omega
      simp only [Value.slice.injEq] at e0
      obtain ⟨rfl, _, hce⟩ := e0
      obtain rfl : cap = c := hce.symm
      have hgA : Arr W g 50 cur.toList.toArray := Arr.toL hg0
      have hcs : cur.toList.length = cap * 3 := by rw [Array.length_toList, hcs0]
      clear hg0 hcs0 hW
      generalize cur.toList = C at *
      have hcat : ∀ j, j < 3 → C[i * 3 + j]? = (flArr x).toList[j]? := fun j hj => by
        rw [← flCells_at L1 i j x hx hj, ← htake, List.getElem?_take_of_lt (by omega)]
      have hgs : g ≠ p2 := by omega
      have hcell : ∀ W' : World, Arr W' g 50 C.toArray → W'.cell? ⟨g, i * 3, none⟩ = some (.string x.name) ∧ W'.cell? ⟨g, i * 3 + 1, none⟩ = some (.string x.safe) ∧ W'.cell? ⟨g, i * 3 + 2, none⟩ = some (.string x.tail) := fun W' hA => by
        refine ⟨?_, ?_, ?_⟩
        · rw [hA.cell, List.getElem?_toArray]; exact hcat 0 (by omega)
        · rw [hA.cell, List.getElem?_toArray]; exact hcat 1 (by omega)
        · rw [hA.cell, List.getElem?_toArray]; exact hcat 2 (by omega)
      have HC := Lib.hid hcell
      have hli : (i : Int) < L1.length := by omega
      have CS : Hid (∀ W', Calls Try.prog 35 #[.agg #[.string x.name, .string x.safe, .string x.tail]] W' fun e w' => e = .returned (.int .i64 ((x.safe.size + x.tail.size : Nat) : Int)) ∧ Below W'.heap.size W' w') := fun W' => size_any x (by omega) (by omega) W'
      have HTk := Lib.hid htake
      have HX := Lib.hid hx
      clear hcell hcat htake hx
      by_cases hbig : 1048576 < x.safe.size + x.tail.size + s.size
      · have HR : Hid (R = .error 1) := by show _ = _; rw [HRR.out, if_pos hbig]
        have hj : (1048576 : Int) < ((x.safe.size + x.tail.size : Nat) : Int) + s.size := by omega
        have hsz : ((x.safe.size + x.tail.size : Nat) : Int) ≤ 1048576 := by omega
        obtain ⟨a0, a1, a2⟩ := HC.out W.drew hgA.drew
        have aS : W.drew.cell? ⟨p2, 0, none⟩ = some (.string s) := cS
        have S6 : W.drew.cell? ⟨g, i * 3, none⟩ = some (.string x.name) ∧ W.drew.cell? ⟨g, i * 3 + 1, none⟩ = some (.string x.safe) ∧ W.drew.cell? ⟨g, i * 3 + 2, none⟩ = some (.string x.tail) ∧ W.drew.cell? ⟨p2, 0, none⟩ = some (.string s) := ⟨a0, a1, a2, aS⟩
        clear a0 a1 a2 aS cS
        generalize x.safe.size + x.tail.size = sz at *
        have hwr : IntKind.i64.wrap ((sz : Int) + (s.size : Int)) = (sz : Int) + (s.size : Int) := IntWalk.i64_in _ (by omega)
        go_wp2_with fail
        go_region_held3 (fun w' => w'.cell? ⟨g, i * 3, none⟩ = some (.string x.name) ∧ w'.cell? ⟨g, i * 3 + 1, none⟩ = some (.string x.safe) ∧ w'.cell? ⟨g, i * 3 + 2, none⟩ = some (.string x.tail) ∧ w'.cell? ⟨p2, 0, none⟩ = some (.string s))
          (first | exact S6 | exact S7)
          (first
            | (go_at_call 35
               (with_reducible refine (CS.out _).mono ?_)
               rintro _ W7 ⟨rfl, b7⟩
               have S7 : W7.cell? ⟨g, i * 3, none⟩ = some (.string x.name) ∧ W7.cell? ⟨g, i * 3 + 1, none⟩ = some (.string x.safe) ∧ W7.cell? ⟨g, i * 3 + 2, none⟩ = some (.string x.tail) ∧ W7.cell? ⟨p2, 0, none⟩ = some (.string s) := by
                 obtain ⟨a0, a1, a2⟩ := HC.out W7 (hgA.drew.below b7 hgA.lt)
                 exact ⟨a0, a1, a2, (b7.cell (p := ⟨p2, 0, none⟩) (by show p2 < W.heap.size; omega)).trans S6.2.2.2⟩)
            | fail)
        go_wp2_with fail
        go_ret2
        rw [HR.out]
        exact ⟨⟨rfl, rfl⟩, belW.drew.trans (b7.mono hbW)⟩
      · have HR : Hid (R = .ok (L1.set i ⟨x.name, x.safe, x.tail ++ s⟩)) := by show _ = _; rw [HRR.out, if_neg hbig]
        have hj : ¬ (1048576 : Int) < ((x.safe.size + x.tail.size : Nat) : Int) + s.size := by omega
        have hsz : ((x.safe.size + x.tail.size : Nat) : Int) ≤ 1048576 := by omega
        have htl : x.tail.size ≤ 1048576 := by omega
        have hss : s.size ≤ 1048576 := by omega
        obtain ⟨a0, a1, a2⟩ := HC.out W.drew hgA.drew
        have aS : W.drew.cell? ⟨p2, 0, none⟩ = some (.string s) := cS
        have S6 : W.drew.cell? ⟨g, i * 3, none⟩ = some (.string x.name) ∧ W.drew.cell? ⟨g, i * 3 + 1, none⟩ = some (.string x.safe) ∧ W.drew.cell? ⟨g, i * 3 + 2, none⟩ = some (.string x.tail) ∧ W.drew.cell? ⟨p2, 0, none⟩ = some (.string s) := ⟨a0, a1, a2, aS⟩
        clear a0 a1 a2 aS cS
        generalize x.safe.size + x.tail.size = sz at *
        have hwr : IntKind.i64.wrap ((sz : Int) + (s.size : Int)) = (sz : Int) + (s.size : Int) := IntWalk.i64_in _ (by omega)
        go_wp2_with fail
        go_region_held3 (fun w' => w'.cell? ⟨g, i * 3, none⟩ = some (.string x.name) ∧ w'.cell? ⟨g, i * 3 + 1, none⟩ = some (.string x.safe) ∧ w'.cell? ⟨g, i * 3 + 2, none⟩ = some (.string x.tail) ∧ w'.cell? ⟨p2, 0, none⟩ = some (.string s))
          (first | exact S6 | exact S7)
          (first
            | (go_at_call 35
               (with_reducible refine (CS.out _).mono ?_)
               rintro _ W7 ⟨rfl, b7⟩
               have S7 : W7.cell? ⟨g, i * 3, none⟩ = some (.string x.name) ∧ W7.cell? ⟨g, i * 3 + 1, none⟩ = some (.string x.safe) ∧ W7.cell? ⟨g, i * 3 + 2, none⟩ = some (.string x.tail) ∧ W7.cell? ⟨p2, 0, none⟩ = some (.string s) := by
                 obtain ⟨a0, a1, a2⟩ := HC.out W7 (hgA.drew.below b7 hgA.lt)
                 exact ⟨a0, a1, a2, (b7.cell (p := ⟨p2, 0, none⟩) (by show p2 < W.heap.size; omega)).trans S6.2.2.2⟩)
            | fail)
        have A7 := hgA.drew.below b7 hgA.lt
        have bel7 := belW.drew.trans (b7.mono hbW)
        have hb7 : base ≤ W7.heap.size := Nat.le_trans hbW b7.size
        obtain ⟨_, _, d2, dS⟩ := S7
        have d2' : W7.drew.cell? ⟨g, i * 3 + 2, none⟩ = some (.string x.tail) := d2
        have dS' : W7.drew.cell? ⟨p2, 0, none⟩ = some (.string s) := dS
        have e2 : W7.drew.frozen? ⟨g, i * 3 + 2, none⟩ = false := A7.free _
        have A8 := A7.drew.put (i * 3 + 2) (.string (x.tail ++ s))
        rw [List.setIfInBounds_toArray] at A8
        have bel8 := below_gb bel7.drew (show W7.drew.grownBy (W7.drew.setCell ⟨g, i * 3 + 2, none⟩ (.string (x.tail ++ s))) (some g) from gb_set _ _ _) hbg hb7
        have HO : Hid ((W7.drew.setCell ⟨g, i * 3 + 2, none⟩ (.string (x.tail ++ s))).ownsRow base 50 3 (.slice (some ⟨g, 0, none⟩) L1.length cap) (L1.set i ⟨x.name, x.safe, x.tail ++ s⟩).length (flCells (L1.set i ⟨x.name, x.safe, x.tail ++ s⟩))) := by
          refine own_set hbg A8 hnc hcm (by rw [List.length_set]; exact hcs) ?_ HX.out
          exact take_tail HTk.out hcs hnc HX.out
        clear S6 A7 A8 bel7 d2 dS HX HTk HC
        go_upto_region 10 with fail
        have hcc : ¬ 9223372036854775807 < x.tail.size + s.size := by omega
        go_region_law (fail)
        all_goals
          go_wp2_with fail
          go_ret2
          rw [HR.out]
          exact ⟨⟨_, rfl, HO.out⟩, bel8⟩
end Go.Proofs.Ytnijnphalhfabaa
