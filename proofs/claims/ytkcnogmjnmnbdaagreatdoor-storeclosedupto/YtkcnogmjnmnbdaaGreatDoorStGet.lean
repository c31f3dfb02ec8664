/- Texts in one: DkCh5, DkStep, DkSteps, DkRead, DkDisks, StGet. -/
import Derived.Test.YtkcnogmjnmnbdaaGreatDoorDkCh4
import Derived.Deep.RegionHeld3
import Derived.Test.YtkcnogmjnmnbdaaGreatDoorOApp
/- The change of Write. -/
namespace Go.Proofs.YtkcnogmjnmnbdaaGreatDoor
open Go.RowKit

theorem take_tail {C : List Value} {L : List Fl} {i cap : Nat} {f : Fl} {t : ByteArray} (hC : C.take (L.length * 3) = flCells L) (hcs : C.length = cap * 3) (hnc : L.length ≤ cap) (hi : L[i]? = some f) :
    (C.set (i * 3 + 2) (.string t)).take (L.length * 3) = flCells (L.set i ⟨f.name, f.safe, t⟩) := by
  have hlt := (List.getElem?_eq_some_iff.1 hi).1
  have h1 := take_set2 (f' := ⟨f.name, f.safe, t⟩) (u := .string f.safe) (v := .string t) hC hcs hnc hi rfl rfl rfl
  have e : C.set (i * 3 + 1) (.string f.safe) = C := by
    have hc : C[i * 3 + 1]? = some (.string f.safe) := by
      have := flCells_at L i 1 f hi (by omega)
      rw [← hC, List.getElem?_take_of_lt (by omega)] at this
      exact this
    obtain ⟨hl, he⟩ := List.getElem?_eq_some_iff.1 hc
    rw [← he, List.set_getElem_self]
  rw [e] at h1
  exact h1
set_option maxRecDepth 100000 in
set_option maxHeartbeats 2000000 in
theorem writeCh_any (L : List Fl) (n s : ByteArray) (hs : s.size ≤ 140737488355328) (hG : goodD L = true) (v : Value) (base p1 p2 : Nat) (V : World) (h : V.ownsRow base 73 3 v L.length (flCells L)) (hp1 : V.cell? ⟨p1, 0, none⟩ = some (.string n)) (hp2 : V.cell? ⟨p2, 0, none⟩ = some (.string s)) (hq1 : p1 < base) (hq2 : p2 < base) (hb : base ≤ V.heap.size) :
    Calls Tryz.prog 133 #[v, .pointer (some ⟨p1, 0, none⟩), .pointer (some ⟨p2, 0, none⟩)] V (ChEnd base (wrP L n s) V) := by
  obtain ⟨h4, hr, hall⟩ := (goodD_iff L).1 hG
  have CN := Lib.hid (Named_any n V)
  cases hnm : named n with
  | false =>
    have HR : Hid (wrP L n s = .error 2) := by show _ = _; unfold wrP; rw [hnm]; rfl
    rw [hnm] at CN
    go_enter Tryz.func133, Tryz.ntmps133
    go_wp2_with fail
    (with_reducible refine CN.out.mono ?_)
    rintro _ V ⟨rfl, rfl⟩
    go_wp2_with fail
    go_ret2
    rw [HR.out]
    exact ⟨⟨rfl, rfl⟩, Below.refl _ _⟩
  | true =>
    rw [hnm] at CN
    obtain ⟨A, c, rfl, hc, hF⟩ := own_files h
    have C1 := Lib.hid (find_any L n A c V hF (by omega) hr)
    have hown : ∀ k, (Value.slice A L.length c).ownBlock = some k → k < V.heap.size := fun k hk => by
      rcases h.2 with ⟨e0, _⟩ | ⟨g, cap, cur, e0, _, hg, _⟩
      · rw [e0] at hk; cases hk
      · rw [e0] at hk
        have e1 : g = k := Option.some.inj hk
        have := (Array.getElem?_eq_some_iff.1 hg).1
        omega
    cases hbn : hasN n L with
    | false =>
      have hg0 : getF n L = none := by
        unfold hasN at hbn
        cases hg : getF n L with
        | none => rfl
        | some f => rw [hg] at hbn; cases hbn
      rw [hbn] at C1
      by_cases hfull : 400 ≤ L.length
      · have HR : Hid (wrP L n s = .error 6) := by show _ = _; unfold wrP; rw [hnm, hg0]; simp only [Bool.not_true, Bool.false_eq_true, if_false]; rw [if_pos hfull]
        have hfi : (400 : Int) ≤ L.length := by omega
        clear hnm hbn
        go_enter Tryz.func133, Tryz.ntmps133
        go_wp2_with fail
        (with_reducible refine CN.out.mono ?_)
        rintro _ V ⟨rfl, rfl⟩
        go_wp2_with fail
        (with_reducible refine C1.out.mono ?_)
        clear C1
        rintro _ V2 ⟨rfl, b2⟩
        go_wp2_with fail
        go_ret2
        rw [HR.out]
        exact ⟨⟨rfl, rfl⟩, b2.mono hb⟩
      · have hfi : ¬ (400 : Int) ≤ L.length := by omega
        have hpi := put_ins hr hbn (f' := ⟨n, ⟨#[]⟩, s⟩) rfl
        have hlo := low_le n L
        have CI := fun V1 vb h1 h2 h3 h4 => Lib.hid (Insert_any L (low n L) hlo ⟨n, ⟨#[]⟩, ⟨#[]⟩⟩ (by omega) (.slice A L.length c) base V1 h1 vb h2 h3 h4)
        have HRR : Hid (wrP L n s = if 1048576 < s.size then .error 1 else .ok ((L.take (low n L) ++ ⟨n, ⟨#[]⟩, ⟨#[]⟩⟩ :: L.drop (low n L)).set (low n L) ⟨n, ⟨#[]⟩, s⟩)) := by
          show _ = _
          unfold wrP
          rw [hnm, hg0]
          simp only [Bool.not_true, Bool.false_eq_true, if_false]
          rw [if_neg hfull, hpi]
          have hl : (L.take (low n L)).length = low n L := by rw [List.length_take]; omega
          rw [List.set_append_right _ _ (by omega), hl, Nat.sub_self, List.set_cons_zero]
        have hx0 : (L.take (low n L) ++ (⟨n, ⟨#[]⟩, ⟨#[]⟩⟩ : Fl) :: L.drop (low n L))[low n L]? = some ⟨n, ⟨#[]⟩, ⟨#[]⟩⟩ := by
          have hl : (L.take (low n L)).length = low n L := by rw [List.length_take]; omega
          rw [List.getElem?_append_right (by omega), hl, Nat.sub_self]
          rfl
        have hlen : (L.take (low n L) ++ (⟨n, ⟨#[]⟩, ⟨#[]⟩⟩ : Fl) :: L.drop (low n L)).length = L.length + 1 := by rw [List.length_append, List.length_cons, List.length_take, List.length_drop]; omega
        obtain ⟨L1, hL1⟩ : ∃ L1, L1 = L.take (low n L) ++ (⟨n, ⟨#[]⟩, ⟨#[]⟩⟩ : Fl) :: L.drop (low n L) := ⟨_, rfl⟩
        rw [← hL1] at CI HRR hx0 hlen
        obtain ⟨x, hxe⟩ : ∃ x : Fl, x = ⟨n, ⟨#[]⟩, ⟨#[]⟩⟩ := ⟨_, rfl⟩
        have hx : L1[low n L]? = some x := by rw [hxe]; exact hx0
        have hfit : x.safe.size + x.tail.size ≤ 1048576 := by rw [hxe]; show 0 + 0 ≤ 1048576; omega
        replace HRR : Hid (wrP L n s = if 1048576 < x.safe.size + x.tail.size + s.size then .error 1 else .ok (L1.set (low n L) ⟨x.name, x.safe, x.tail ++ s⟩)) := by
          show _ = _
          rw [HRR.out, hxe]
          show _ = if 1048576 < 0 + 0 + s.size then _ else Except.ok (L1.set (low n L) ⟨n, ⟨#[]⟩, (⟨#[]⟩ : ByteArray) ++ s⟩)
          simp only [empty_append, Nat.zero_add]
        have hil : low n L < L1.length := (List.getElem?_eq_some_iff.1 hx).1
        have hl1 : L1.length ≤ 1000 := by omega
        generalize wrP L n s = R at *
        generalize low n L = i at *
        clear hnm hbn hpi hx0 hL1 hxe hg0 hlen
        go_enter Tryz.func133, Tryz.ntmps133
        go_wp2_with fail
        (with_reducible refine CN.out.mono ?_)
        rintro _ V ⟨rfl, rfl⟩
        go_wp2_with fail
        (with_reducible refine C1.out.mono ?_)
        clear C1 CN
        rintro _ V2 ⟨rfl, b2⟩
        have h2 := dk_own_below h b2
        have bel2 := b2.mono hb
        have hb2 := Nat.le_trans hb b2.size
        have g1 : V2.cell? ⟨p1, 0, none⟩ = some (.string n) := (bel2.cell (p := ⟨p1, 0, none⟩) hq1).trans hp1
        have g2 : V2.cell? ⟨p2, 0, none⟩ = some (.string s) := (bel2.cell (p := ⟨p2, 0, none⟩) hq2).trans hp2
        have b3 : Below V2.heap.size V2 (V2.alloc (.cells (flArr ⟨n, ⟨#[]⟩, ⟨#[]⟩⟩) 73)) := (Below.refl _ _).alloc (Nat.le_refl _) _
        have C2 := CI (V2.alloc (.cells (flArr ⟨n, ⟨#[]⟩, ⟨#[]⟩⟩) 73)) V2.heap.size (dk_own_below h2 b3) (Arr.new _ _ _) (fun e => by have := hown _ e; have := b2.size; omega) (Nat.le_trans hb2 b3.size)
        have HG := Lib.hid (fun w' k => grown_base (w' := w') (dk_own_below h2 b3) (Nat.le_trans hb2 b3.size) k)
        have bel3 : Below base V (V2.alloc (.cells (flArr ⟨n, ⟨#[]⟩, ⟨#[]⟩⟩) 73)) := bel2.trans (b3.mono hb2)
        have hb3 : base ≤ (V2.alloc (.cells (flArr ⟨n, ⟨#[]⟩, ⟨#[]⟩⟩) 73)).heap.size := Nat.le_trans hb2 b3.size
        clear CI hp1 hF h
        unfold flArr at C2
        go_wp2_with fail
        (with_reducible refine C2.out.mono ?_)
        clear C2
        rintro _ W ⟨v', rfl, hW, k4⟩
        have belW := bel3.trans (HG.out _ k4)
        have hbW := Nat.le_trans hb3 k4.size
        have cS : W.cell? ⟨p2, 0, none⟩ = some (.string s) := (belW.cell (p := ⟨p2, 0, none⟩) hq2).trans hp2
        clear bel3 HG b3 g1 g2 h2 bel2 hb3 k4
        rcases hW.2 with ⟨e0, hn0⟩ | ⟨g, cap, cur, e0, hbg, hg0, hnc, hcm, hcs0, htake⟩
        · omega
        subst e0
        have hgA : Arr W g 73 cur.toList.toArray := Arr.toL hg0
        have hcs : cur.toList.length = cap * 3 := by rw [Array.length_toList, hcs0]
        clear hg0 hcs0 hW
        generalize cur.toList = C at *
        have hcat : ∀ j, j < 3 → C[i * 3 + j]? = (flArr x).toList[j]? := fun j hj => by
          rw [← flCells_at L1 i j x hx hj, ← htake, List.getElem?_take_of_lt (by omega)]
        have hgs : g ≠ p2 := by omega
        have hcell : ∀ W' : World, Arr W' g 73 C.toArray → W'.cell? ⟨g, i * 3, none⟩ = some (.string x.name) ∧ W'.cell? ⟨g, i * 3 + 1, none⟩ = some (.string x.safe) ∧ W'.cell? ⟨g, i * 3 + 2, none⟩ = some (.string x.tail) := fun W' hA => by
          refine ⟨?_, ?_, ?_⟩
          · rw [hA.cell, List.getElem?_toArray]; exact hcat 0 (by omega)
          · rw [hA.cell, List.getElem?_toArray]; exact hcat 1 (by omega)
          · rw [hA.cell, List.getElem?_toArray]; exact hcat 2 (by omega)
        have HC := Lib.hid hcell
        have hli : (i : Int) < L1.length := by omega
        have CS : Hid (∀ W', Calls Tryz.prog 131 #[.agg #[.string x.name, .string x.safe, .string x.tail]] W' fun e w' => e = .returned (.int .i64 ((x.safe.size + x.tail.size : Nat) : Int)) ∧ Below W'.heap.size W' w') := fun W' => size_any x (by omega) (by omega) W'
        have HTk := Lib.hid htake
        have HX := Lib.hid hx
        clear hcell hcat htake hx
        by_cases hbig : 1048576 < x.safe.size + x.tail.size + s.size
        · have HR : Hid (R = .error 1) := by show _ = _; rw [HRR.out, if_pos hbig]
          have hj : (1048576 : Int) < ((x.safe.size + x.tail.size : Nat) : Int) + s.size := by omega
          have hsz : ((x.safe.size + x.tail.size : Nat) : Int) ≤ 1048576 := by omega
          obtain ⟨a0, a1, a2⟩ := HC.out W.drew hgA.drew
          have aS : W.drew.cell? ⟨p2, 0, none⟩ = some (.string s) := cS
          have S6 : W.drew.cell? ⟨g, i * 3, none⟩ = some (.string x.name) ∧ W.drew.cell? ⟨g, i * 3 + 1, none⟩ = some (.string x.safe) ∧ W.drew.cell? ⟨g, i * 3 + 2, none⟩ = some (.string x.tail) ∧ W.drew.cell? ⟨p2, 0, none⟩ = some (.string s) := ⟨a0, a1, a2, aS⟩
          clear a0 a1 a2 aS cS
          generalize x.safe.size + x.tail.size = sz at *
          have hwr : IntKind.i64.wrap ((sz : Int) + (s.size : Int)) = (sz : Int) + (s.size : Int) := IntWalk.i64_in _ (by omega)
          go_wp2_with fail
          go_region_held3 (fun w' => w'.cell? ⟨g, i * 3, none⟩ = some (.string x.name) ∧ w'.cell? ⟨g, i * 3 + 1, none⟩ = some (.string x.safe) ∧ w'.cell? ⟨g, i * 3 + 2, none⟩ = some (.string x.tail) ∧ w'.cell? ⟨p2, 0, none⟩ = some (.string s))
            (first | exact S6 | exact S7)
            (first
              | (go_at_call 131
                 (with_reducible refine (CS.out _).mono ?_)
                 rintro _ W7 ⟨rfl, b7⟩
                 have S7 : W7.cell? ⟨g, i * 3, none⟩ = some (.string x.name) ∧ W7.cell? ⟨g, i * 3 + 1, none⟩ = some (.string x.safe) ∧ W7.cell? ⟨g, i * 3 + 2, none⟩ = some (.string x.tail) ∧ W7.cell? ⟨p2, 0, none⟩ = some (.string s) := by
                   obtain ⟨a0, a1, a2⟩ := HC.out W7 (hgA.drew.below b7 hgA.lt)
                   exact ⟨a0, a1, a2, (b7.cell (p := ⟨p2, 0, none⟩) (by show p2 < W.heap.size; omega)).trans S6.2.2.2⟩)
              | fail)
          go_wp2_with fail
          go_ret2
          rw [HR.out]
          exact ⟨⟨rfl, rfl⟩, belW.drew.trans (b7.mono hbW)⟩
        · have HR : Hid (R = .ok (L1.set i ⟨x.name, x.safe, x.tail ++ s⟩)) := by show _ = _; rw [HRR.out, if_neg hbig]
          have hj : ¬ (1048576 : Int) < ((x.safe.size + x.tail.size : Nat) : Int) + s.size := by omega
          have hsz : ((x.safe.size + x.tail.size : Nat) : Int) ≤ 1048576 := by omega
          have htl : x.tail.size ≤ 1048576 := by omega
          have hss : s.size ≤ 1048576 := by omega
          obtain ⟨a0, a1, a2⟩ := HC.out W.drew hgA.drew
          have aS : W.drew.cell? ⟨p2, 0, none⟩ = some (.string s) := cS
          have S6 : W.drew.cell? ⟨g, i * 3, none⟩ = some (.string x.name) ∧ W.drew.cell? ⟨g, i * 3 + 1, none⟩ = some (.string x.safe) ∧ W.drew.cell? ⟨g, i * 3 + 2, none⟩ = some (.string x.tail) ∧ W.drew.cell? ⟨p2, 0, none⟩ = some (.string s) := ⟨a0, a1, a2, aS⟩
          clear a0 a1 a2 aS cS
          generalize x.safe.size + x.tail.size = sz at *
          have hwr : IntKind.i64.wrap ((sz : Int) + (s.size : Int)) = (sz : Int) + (s.size : Int) := IntWalk.i64_in _ (by omega)
          go_wp2_with fail
          go_region_held3 (fun w' => w'.cell? ⟨g, i * 3, none⟩ = some (.string x.name) ∧ w'.cell? ⟨g, i * 3 + 1, none⟩ = some (.string x.safe) ∧ w'.cell? ⟨g, i * 3 + 2, none⟩ = some (.string x.tail) ∧ w'.cell? ⟨p2, 0, none⟩ = some (.string s))
            (first | exact S6 | exact S7)
            (first
              | (go_at_call 131
                 (with_reducible refine (CS.out _).mono ?_)
                 rintro _ W7 ⟨rfl, b7⟩
                 have S7 : W7.cell? ⟨g, i * 3, none⟩ = some (.string x.name) ∧ W7.cell? ⟨g, i * 3 + 1, none⟩ = some (.string x.safe) ∧ W7.cell? ⟨g, i * 3 + 2, none⟩ = some (.string x.tail) ∧ W7.cell? ⟨p2, 0, none⟩ = some (.string s) := by
                   obtain ⟨a0, a1, a2⟩ := HC.out W7 (hgA.drew.below b7 hgA.lt)
                   exact ⟨a0, a1, a2, (b7.cell (p := ⟨p2, 0, none⟩) (by show p2 < W.heap.size; omega)).trans S6.2.2.2⟩)
              | fail)
          have A7 := hgA.drew.below b7 hgA.lt
          have bel7 := belW.drew.trans (b7.mono hbW)
          have hb7 : base ≤ W7.heap.size := Nat.le_trans hbW b7.size
          obtain ⟨_, _, d2, dS⟩ := S7
          have d2' : W7.drew.cell? ⟨g, i * 3 + 2, none⟩ = some (.string x.tail) := d2
          have dS' : W7.drew.cell? ⟨p2, 0, none⟩ = some (.string s) := dS
          have e2 : W7.drew.frozen? ⟨g, i * 3 + 2, none⟩ = false := A7.free _
          have A8 := A7.drew.put (i * 3 + 2) (.string (x.tail ++ s))
          rw [List.setIfInBounds_toArray] at A8
          have bel8 := below_gb bel7.drew (show W7.drew.grownBy (W7.drew.setCell ⟨g, i * 3 + 2, none⟩ (.string (x.tail ++ s))) (some g) from gb_set _ _ _) hbg hb7
          have HO : Hid ((W7.drew.setCell ⟨g, i * 3 + 2, none⟩ (.string (x.tail ++ s))).ownsRow base 73 3 (.slice (some ⟨g, 0, none⟩) L1.length cap) (L1.set i ⟨x.name, x.safe, x.tail ++ s⟩).length (flCells (L1.set i ⟨x.name, x.safe, x.tail ++ s⟩))) := by
            refine own_set hbg A8 hnc hcm (by rw [List.length_set]; exact hcs) ?_ HX.out
            exact take_tail HTk.out hcs hnc HX.out
          clear S6 A7 A8 bel7 d2 dS HX HTk HC
          go_upto_region 10 with fail
          have hcc : ¬ 9223372036854775807 < x.tail.size + s.size := by omega
          go_region_law (fail)
          all_goals
            go_wp2_with fail
            go_ret2
            rw [HR.out]
            exact ⟨⟨_, rfl, HO.out⟩, bel8⟩
    | true =>
      obtain ⟨x, hgf, hx, hfn, hlt⟩ := has_some hr hbn
      have hfit : x.safe.size + x.tail.size ≤ 1048576 := by
        have := (hall x (List.mem_of_getElem? hx)).2
        unfold fits at this
        exact of_decide_eq_true this
      have HRR : Hid (wrP L n s = if 1048576 < x.safe.size + x.tail.size + s.size then .error 1 else .ok (L.set (low n L) ⟨x.name, x.safe, x.tail ++ s⟩)) := by
        show _ = _
        unfold wrP
        rw [hnm, hgf]
        simp only [Bool.not_true, Bool.false_eq_true, if_false]
        rw [put_set hr hbn rfl, hfn]
      rw [hbn] at C1
      have hl1 : L.length ≤ 1000 := by omega
      generalize wrP L n s = R at *
      have hil : low n L < L.length := hlt
      generalize low n L = i at *
      clear hnm hbn hgf hall hr hG hfn
      go_enter Tryz.func133, Tryz.ntmps133
      go_wp2_with fail
      (with_reducible refine CN.out.mono ?_)
      rintro _ V ⟨rfl, rfl⟩
      go_wp2_with fail
      (with_reducible refine C1.out.mono ?_)
      clear C1 CN
      rintro _ W ⟨rfl, b2⟩
      have hW := dk_own_below h b2
      have belW := b2.mono hb
      have hbW := Nat.le_trans hb b2.size
      have cS : W.cell? ⟨p2, 0, none⟩ = some (.string s) := (belW.cell (p := ⟨p2, 0, none⟩) hq2).trans hp2
      clear b2 h hF hp1
      generalize L = L1 at *
      rcases hW.2 with ⟨e0, hn0⟩ | ⟨g, cap, cur, e0, hbg, hg0, hnc, hcm, hcs0, htake⟩
      · omega
      simp only [Value.slice.injEq] at e0
      obtain ⟨rfl, _, hce⟩ := e0
      obtain rfl : cap = c := hce.symm
      have hgA : Arr W g 73 cur.toList.toArray := Arr.toL hg0
      have hcs : cur.toList.length = cap * 3 := by rw [Array.length_toList, hcs0]
      clear hg0 hcs0 hW
      generalize cur.toList = C at *
      have hcat : ∀ j, j < 3 → C[i * 3 + j]? = (flArr x).toList[j]? := fun j hj => by
        rw [← flCells_at L1 i j x hx hj, ← htake, List.getElem?_take_of_lt (by omega)]
      have hgs : g ≠ p2 := by omega
      have hcell : ∀ W' : World, Arr W' g 73 C.toArray → W'.cell? ⟨g, i * 3, none⟩ = some (.string x.name) ∧ W'.cell? ⟨g, i * 3 + 1, none⟩ = some (.string x.safe) ∧ W'.cell? ⟨g, i * 3 + 2, none⟩ = some (.string x.tail) := fun W' hA => by
        refine ⟨?_, ?_, ?_⟩
        · rw [hA.cell, List.getElem?_toArray]; exact hcat 0 (by omega)
        · rw [hA.cell, List.getElem?_toArray]; exact hcat 1 (by omega)
        · rw [hA.cell, List.getElem?_toArray]; exact hcat 2 (by omega)
      have HC := Lib.hid hcell
      have hli : (i : Int) < L1.length := by omega
      have CS : Hid (∀ W', Calls Tryz.prog 131 #[.agg #[.string x.name, .string x.safe, .string x.tail]] W' fun e w' => e = .returned (.int .i64 ((x.safe.size + x.tail.size : Nat) : Int)) ∧ Below W'.heap.size W' w') := fun W' => size_any x (by omega) (by omega) W'
      have HTk := Lib.hid htake
      have HX := Lib.hid hx
      clear hcell hcat htake hx
      by_cases hbig : 1048576 < x.safe.size + x.tail.size + s.size
      · have HR : Hid (R = .error 1) := by show _ = _; rw [HRR.out, if_pos hbig]
        have hj : (1048576 : Int) < ((x.safe.size + x.tail.size : Nat) : Int) + s.size := by omega
        have hsz : ((x.safe.size + x.tail.size : Nat) : Int) ≤ 1048576 := by omega
        obtain ⟨a0, a1, a2⟩ := HC.out W.drew hgA.drew
        have aS : W.drew.cell? ⟨p2, 0, none⟩ = some (.string s) := cS
        have S6 : W.drew.cell? ⟨g, i * 3, none⟩ = some (.string x.name) ∧ W.drew.cell? ⟨g, i * 3 + 1, none⟩ = some (.string x.safe) ∧ W.drew.cell? ⟨g, i * 3 + 2, none⟩ = some (.string x.tail) ∧ W.drew.cell? ⟨p2, 0, none⟩ = some (.string s) := ⟨a0, a1, a2, aS⟩
        clear a0 a1 a2 aS cS
        generalize x.safe.size + x.tail.size = sz at *
        have hwr : IntKind.i64.wrap ((sz : Int) + (s.size : Int)) = (sz : Int) + (s.size : Int) := IntWalk.i64_in _ (by omega)
        go_wp2_with fail
        go_region_held3 (fun w' => w'.cell? ⟨g, i * 3, none⟩ = some (.string x.name) ∧ w'.cell? ⟨g, i * 3 + 1, none⟩ = some (.string x.safe) ∧ w'.cell? ⟨g, i * 3 + 2, none⟩ = some (.string x.tail) ∧ w'.cell? ⟨p2, 0, none⟩ = some (.string s))
          (first | exact S6 | exact S7)
          (first
            | (go_at_call 131
               (with_reducible refine (CS.out _).mono ?_)
               rintro _ W7 ⟨rfl, b7⟩
               have S7 : W7.cell? ⟨g, i * 3, none⟩ = some (.string x.name) ∧ W7.cell? ⟨g, i * 3 + 1, none⟩ = some (.string x.safe) ∧ W7.cell? ⟨g, i * 3 + 2, none⟩ = some (.string x.tail) ∧ W7.cell? ⟨p2, 0, none⟩ = some (.string s) := by
                 obtain ⟨a0, a1, a2⟩ := HC.out W7 (hgA.drew.below b7 hgA.lt)
                 exact ⟨a0, a1, a2, (b7.cell (p := ⟨p2, 0, none⟩) (by show p2 < W.heap.size; omega)).trans S6.2.2.2⟩)
            | fail)
        go_wp2_with fail
        go_ret2
        rw [HR.out]
        exact ⟨⟨rfl, rfl⟩, belW.drew.trans (b7.mono hbW)⟩
      · have HR : Hid (R = .ok (L1.set i ⟨x.name, x.safe, x.tail ++ s⟩)) := by show _ = _; rw [HRR.out, if_neg hbig]
        have hj : ¬ (1048576 : Int) < ((x.safe.size + x.tail.size : Nat) : Int) + s.size := by omega
        have hsz : ((x.safe.size + x.tail.size : Nat) : Int) ≤ 1048576 := by omega
        have htl : x.tail.size ≤ 1048576 := by omega
        have hss : s.size ≤ 1048576 := by omega
        obtain ⟨a0, a1, a2⟩ := HC.out W.drew hgA.drew
        have aS : W.drew.cell? ⟨p2, 0, none⟩ = some (.string s) := cS
        have S6 : W.drew.cell? ⟨g, i * 3, none⟩ = some (.string x.name) ∧ W.drew.cell? ⟨g, i * 3 + 1, none⟩ = some (.string x.safe) ∧ W.drew.cell? ⟨g, i * 3 + 2, none⟩ = some (.string x.tail) ∧ W.drew.cell? ⟨p2, 0, none⟩ = some (.string s) := ⟨a0, a1, a2, aS⟩
        clear a0 a1 a2 aS cS
        generalize x.safe.size + x.tail.size = sz at *
        have hwr : IntKind.i64.wrap ((sz : Int) + (s.size : Int)) = (sz : Int) + (s.size : Int) := IntWalk.i64_in _ (by omega)
        go_wp2_with fail
        go_region_held3 (fun w' => w'.cell? ⟨g, i * 3, none⟩ = some (.string x.name) ∧ w'.cell? ⟨g, i * 3 + 1, none⟩ = some (.string x.safe) ∧ w'.cell? ⟨g, i * 3 + 2, none⟩ = some (.string x.tail) ∧ w'.cell? ⟨p2, 0, none⟩ = some (.string s))
          (first | exact S6 | exact S7)
          (first
            | (go_at_call 131
               (with_reducible refine (CS.out _).mono ?_)
               rintro _ W7 ⟨rfl, b7⟩
               have S7 : W7.cell? ⟨g, i * 3, none⟩ = some (.string x.name) ∧ W7.cell? ⟨g, i * 3 + 1, none⟩ = some (.string x.safe) ∧ W7.cell? ⟨g, i * 3 + 2, none⟩ = some (.string x.tail) ∧ W7.cell? ⟨p2, 0, none⟩ = some (.string s) := by
                 obtain ⟨a0, a1, a2⟩ := HC.out W7 (hgA.drew.below b7 hgA.lt)
                 exact ⟨a0, a1, a2, (b7.cell (p := ⟨p2, 0, none⟩) (by show p2 < W.heap.size; omega)).trans S6.2.2.2⟩)
            | fail)
        have A7 := hgA.drew.below b7 hgA.lt
        have bel7 := belW.drew.trans (b7.mono hbW)
        have hb7 : base ≤ W7.heap.size := Nat.le_trans hbW b7.size
        obtain ⟨_, _, d2, dS⟩ := S7
        have d2' : W7.drew.cell? ⟨g, i * 3 + 2, none⟩ = some (.string x.tail) := d2
        have dS' : W7.drew.cell? ⟨p2, 0, none⟩ = some (.string s) := dS
        have e2 : W7.drew.frozen? ⟨g, i * 3 + 2, none⟩ = false := A7.free _
        have A8 := A7.drew.put (i * 3 + 2) (.string (x.tail ++ s))
        rw [List.setIfInBounds_toArray] at A8
        have bel8 := below_gb bel7.drew (show W7.drew.grownBy (W7.drew.setCell ⟨g, i * 3 + 2, none⟩ (.string (x.tail ++ s))) (some g) from gb_set _ _ _) hbg hb7
        have HO : Hid ((W7.drew.setCell ⟨g, i * 3 + 2, none⟩ (.string (x.tail ++ s))).ownsRow base 73 3 (.slice (some ⟨g, 0, none⟩) L1.length cap) (L1.set i ⟨x.name, x.safe, x.tail ++ s⟩).length (flCells (L1.set i ⟨x.name, x.safe, x.tail ++ s⟩))) := by
          refine own_set hbg A8 hnc hcm (by rw [List.length_set]; exact hcs) ?_ HX.out
          exact take_tail HTk.out hcs hnc HX.out
        clear S6 A7 A8 bel7 d2 dS HX HTk HC
        go_upto_region 10 with fail
        have hcc : ¬ 9223372036854775807 < x.tail.size + s.size := by omega
        go_region_law (fail)
        all_goals
          go_wp2_with fail
          go_ret2
          rw [HR.out]
          exact ⟨⟨_, rfl, HO.out⟩, bel8⟩
end Go.Proofs.YtkcnogmjnmnbdaaGreatDoor

/- disk.step: its contract, at each change. -/
namespace Go.Proofs.YtkcnogmjnmnbdaaGreatDoor
open Go.RowKit

/-- a disk and an error, handed back -/
def StEnd (w : World) (d : Dk × Int) (x : Ending) (w' : World) : Prop :=
  ∃ A c, x = .returned (.tuple #[.agg (dkArr d.1.files A c d.1.fuse), .int .i64 d.2]) ∧ Fls w' w'.heap.size A d.1.files ∧ d.1.files.length ≤ c ∧ Below w.heap.size w w'
theorem own_fls {w : World} {base : Nat} {v : Value} {L : List Fl} (h : w.ownsRow base 73 3 v L.length (flCells L)) : ∃ A c, v = .slice A L.length c ∧ L.length ≤ c ∧ Fls w w.heap.size A L := own_files h
set_option maxRecDepth 100000 in
set_option maxHeartbeats 2000000 in
theorem stepRemove_any (L : List Fl) (n : ByteArray) (A : Option Addr) (c : Nat) (z : Int) (w : World) (hP : Fls w w.heap.size A L) (hz : Sized L) (hl : L.length ≤ 140737488355328) (hc : L.length ≤ c) (hzf : z ≤ 9223372036854775807) (p1 : Nat) (hp1 : w.cell? ⟨p1, 0, none⟩ = some (.string n)) (hq1 : p1 < w.heap.size) :
    Calls Tryz.prog 76 #[.agg (dkArr L A c z), .func (.func 77) #[] #[.pointer (some ⟨p1, 0, none⟩)]] w (StEnd w (stepP ⟨L, z⟩ (rmP L n))) := by
  have A0 : Arr ((w.alloc (.cells (dkArr L A c z) 37)).alloc (.cells dkZero 37)) w.heap.size 37 (dkArr L A c z) := (Arr.new _ _ _).alloc _
  have A1 : Arr ((w.alloc (.cells (dkArr L A c z) 37)).alloc (.cells dkZero 37)) (w.heap.size + 1) 37 dkZero := Arr.new_at _ _ _ (by simp)
  have b0 : Below w.heap.size w ((w.alloc (.cells (dkArr L A c z) 37)).alloc (.cells dkZero 37)) := ((Below.refl _ _).alloc (Nat.le_refl _) _).alloc (by simp) _
  have HS : Hid (stepP ⟨L, z⟩ (rmP L n) = if !goodD L then (⟨L, z⟩, 3) else if z = 0 then (⟨L, z⟩, 12) else match rmP L n with
    | .error e => (⟨L, z⟩, e)
    | .ok L' => (⟨L', burnt z⟩, 0)) := rfl
  generalize stepP ⟨L, z⟩ (rmP L n) = Q at *
  go_enter Tryz.func76, Tryz.ntmps76
  go_upto_region 1 with fail
  refine wp_forget (fun V => Arr V w.heap.size 37 (dkArr L A c z) ∧ Arr V (w.heap.size + 1) 37 dkZero ∧ Below w.heap.size w V) (by exact ⟨A0, A1, b0⟩) ?_
  clear A0 A1 b0
  rintro V ⟨A0, A1, b0⟩
  have c0 : V.cell? ⟨w.heap.size, 0, none⟩ = some (.slice A L.length c) := A0.cell 0
  have c1 : V.cell? ⟨w.heap.size, 1, none⟩ = some (.int .i64 z) := A0.cell 1
  have CG : Hid (Calls Tryz.prog 86 #[.agg #[.slice A L.length c, .int .i64 z]] V fun e w' => e = .returned (.bool (goodD L)) ∧ Below V.heap.size V w') := DkGood_any L A c z V (hP.up b0) hz hl
  have HRet : Hid (∀ (W : World) (a : Act) (d : Dk) (A' : Option Addr) (c' : Nat) (e : Int), Arr W (w.heap.size + 1) 37 (dkArr d.files A' c' d.fuse) → Below w.heap.size w W → Fls W W.heap.size A' d.files → d.files.length ≤ c' → a.tmps[4]? = some (.pointer (some ⟨w.heap.size + 1, 0, none⟩)) → a.tmps[5]? = some (.int .i64 e) → a.defers = [] → bodyPost Tryz.prog Tryz.f76 (StEnd w (d, e)) .ret a W) := fun W a d A' c' e h1 h2 h3 h4 h5 h6 h7 => by
    refine bodyPost_ret (v := .tuple #[.agg (dkArr d.files A' c' d.fuse), .int .i64 e]) ?_ h7 ⟨A', c', rfl, h3, h4, h2⟩
    rw [results_cell_tmp Tryz.results76]
    have hld := run_loadVar_row (P := Tryz.prog) _ _ _ 37 _ _ _ h1 Tryz.underlying37 rfl (dkInfo _ _ _ _)
    simp [Array.getD_eq_getD_getElem?, h5, h6, asAddr, hld, Result.andThen]
  cases hg : goodD L with
  | false =>
    rw [hg] at CG
    have HQ : Hid (Q = (⟨L, z⟩, 3)) := by show _ = _; rw [HS.out, hg]; rfl
    clear HS hg
    go_wp2_with fail
    (with_reducible refine CG.out.mono ?_)
    clear CG c0 c1
    rintro _ V2 ⟨rfl, b2⟩
    have A2 := A0.below b2 A0.lt
    have A3 := A1.below b2 A1.lt
    have b3 := b0.trans (b2.mono b0.size)
    have c0 : V2.cell? ⟨w.heap.size, 0, none⟩ = some (.slice A L.length c) := A2.cell 0
    have c1 : V2.cell? ⟨w.heap.size, 1, none⟩ = some (.int .i64 z) := A2.cell 1
    go_wp2_with (refine wpList_store_row rfl 37 _ _ rfl (w.heap.size + 1) (dkArr L A c z) rfl rfl 37 dkZero A3 (dkInfo _ _ _ _) rfl (dkArr_one _ _ _ _) ?_)
    rw [HQ.out]
    have b4 := below_setRow b3 (show w.heap.size ≤ w.heap.size + 1 by omega) (dkArr L A c z)
    exact HRet.out _ _ ⟨L, z⟩ A c 3 (A3.row _) b4 (hP.up b4) hc rfl rfl rfl
  | true =>
    rw [hg] at CG
    by_cases h0 : z = 0
    · have HQ : Hid (Q = (⟨L, z⟩, 12)) := by show _ = _; rw [HS.out, hg, if_pos h0]; rfl
      subst h0
      clear HS hg
      go_wp2_with fail
      (with_reducible refine CG.out.mono ?_)
      clear CG c0 c1
      rintro _ V2 ⟨rfl, b2⟩
      have A2 := A0.below b2 A0.lt
      have A3 := A1.below b2 A1.lt
      have b3 := b0.trans (b2.mono b0.size)
      have c0 : V2.cell? ⟨w.heap.size, 0, none⟩ = some (.slice A L.length c) := A2.cell 0
      have c1 : V2.cell? ⟨w.heap.size, 1, none⟩ = some (.int .i64 0) := A2.cell 1
      go_wp2_with (refine wpList_store_row rfl 37 _ _ rfl (w.heap.size + 1) (dkArr L A c 0) rfl rfl 37 dkZero A3 (dkInfo _ _ _ _) rfl (dkArr_one _ _ _ _) ?_)
      rw [HQ.out]
      have b4 := below_setRow b3 (show w.heap.size ≤ w.heap.size + 1 by omega) (dkArr L A c 0)
      exact HRet.out _ _ ⟨L, 0⟩ A c 12 (A3.row _) b4 (hP.up b4) hc rfl rfl rfl
    have HQ : Hid (Q = match rmP L n with
      | .error e => (⟨L, z⟩, e)
      | .ok L' => (⟨L', burnt z⟩, 0)) := by show _ = _; rw [HS.out, hg, if_neg h0]; rfl
    have h0' : (z == 0) = false := by rw [beq_eq_false_iff_ne]; exact h0
    obtain ⟨h4, _, _⟩ := (goodD_iff L).1 hg
    have CH := fun v base (V : World) h (h1 : V.cell? ⟨p1, 0, none⟩ = some (.string n) ∧ base ≤ V.heap.size) => Lib.hid (removeCh_any L n hg v base p1 V h h1.1 h1.2)
    generalize rmP L n = R at *
    clear HS hg h0
    go_wp2_with fail
    (with_reducible refine CG.out.mono ?_)
    clear CG c0 c1
    rintro _ V2 ⟨rfl, b2⟩
    have A2 := A0.below b2 A0.lt
    have A3 := A1.below b2 A1.lt
    have b3 := b0.trans (b2.mono b0.size)
    clear A0 A1 b0 b2
    have c0 : V2.cell? ⟨w.heap.size, 0, none⟩ = some (.slice A L.length c) := A2.cell 0
    have c1 : V2.cell? ⟨w.heap.size, 1, none⟩ = some (.int .i64 z) := A2.cell 1
    have CL := Lib.hid (Clone_any L A c V2 (hP.up b3) (by omega))
    go_wp2_with fail
    (with_reducible refine CL.out.mono ?_)
    clear CL c0 c1
    rintro _ V3 ⟨v3, rfl, h3, b4⟩
    have A4 := A2.below b4 A2.lt
    have A5 := A3.below b4 A3.lt
    have b5 := b3.trans (b4.mono b3.size)
    have hw3 := A5.lt
    have hw2 := A3.lt
    have C3 := CH v3 V2.heap.size V3 h3 ⟨((b5.cell (p := ⟨p1, 0, none⟩) hq1).trans hp1), b4.size⟩
    clear CH A2
    go_wp2_with fail
    (with_reducible refine C3.out.mono ?_)
    clear C3
    rintro x V4 ⟨hx, b6⟩
    have A6 := A4.below b6 (Nat.lt_of_lt_of_le (by omega) (Nat.le_refl _))
    have A7 := A5.below b6 (Nat.lt_of_lt_of_le (by omega) (Nat.le_refl _))
    have b7 := b5.trans (b6.mono b3.size)
    clear A4 A5 b6
    have c0 : V4.cell? ⟨w.heap.size, 0, none⟩ = some (.slice A L.length c) := A6.cell 0
    have c1 : V4.cell? ⟨w.heap.size, 1, none⟩ = some (.int .i64 z) := A6.cell 1
    cases R with
    | error e =>
      obtain ⟨he, rfl⟩ := hx
      go_wp2_with (refine wpList_store_row rfl 37 _ _ rfl (w.heap.size + 1) (dkArr L A c z) rfl rfl 37 dkZero A7 (dkInfo _ _ _ _) rfl (dkArr_one _ _ _ _) ?_)
      rw [HQ.out]
      have b8 := below_setRow b7 (show w.heap.size ≤ w.heap.size + 1 by omega) (dkArr L A c z)
      exact HRet.out _ _ ⟨L, z⟩ A c e (A7.row _) b8 (hP.up b8) hc rfl rfl rfl
    | ok L' =>
      obtain ⟨v', rfl, h8⟩ := hx
      obtain ⟨A', c', rfl, hc', hF'⟩ := own_files h8
      have CB := Lib.hid (burnt_any z hzf V4)
      go_wp2_with fail
      (with_reducible refine CB.out.mono ?_)
      clear CB
      rintro _ V4 ⟨rfl, rfl⟩
      generalize hbz : burnt z = bz at *
      have HBz := Lib.hid hbz
      clear hbz
      go_wp2_with (refine wpList_store_row rfl 37 _ _ rfl (w.heap.size + 1) (dkArr L' A' c' bz) rfl rfl 37 dkZero A7 (dkInfo _ _ _ _) rfl (dkArr_one _ _ _ _) ?_)
      rw [HQ.out]
      have b8 := below_setRow b7 (show w.heap.size ≤ w.heap.size + 1 by omega) (dkArr L' A' c' bz)
      have k8 : V4.grownBy (V4.setRow (w.heap.size + 1) (dkArr L' A' c' bz)) (some (w.heap.size + 1)) := gb_row _ _
      have h9 := own_kp h8 (Kp.gb k8) (fun q hq e => by have := own_row_ge h8 q hq; have := Option.some.inj e; omega)
      obtain ⟨A9, c9, e9, hc9, hF9⟩ := own_files h9
      simp only [Value.slice.injEq] at e9
      obtain ⟨rfl, _, rfl⟩ := e9
      exact HRet.out _ _ ⟨L', bz⟩ A' c' 0 (A7.row _) b8 hF9 hc9 rfl rfl rfl
set_option maxRecDepth 100000 in
set_option maxHeartbeats 2000000 in
theorem stepSync_any (L : List Fl) (n : ByteArray) (A : Option Addr) (c : Nat) (z : Int) (w : World) (hP : Fls w w.heap.size A L) (hz : Sized L) (hl : L.length ≤ 140737488355328) (hc : L.length ≤ c) (hzf : z ≤ 9223372036854775807) (p1 : Nat) (hp1 : w.cell? ⟨p1, 0, none⟩ = some (.string n)) (hq1 : p1 < w.heap.size) :
    Calls Tryz.prog 76 #[.agg (dkArr L A c z), .func (.func 135) #[] #[.pointer (some ⟨p1, 0, none⟩)]] w (StEnd w (stepP ⟨L, z⟩ (syP L n))) := by
  have A0 : Arr ((w.alloc (.cells (dkArr L A c z) 37)).alloc (.cells dkZero 37)) w.heap.size 37 (dkArr L A c z) := (Arr.new _ _ _).alloc _
  have A1 : Arr ((w.alloc (.cells (dkArr L A c z) 37)).alloc (.cells dkZero 37)) (w.heap.size + 1) 37 dkZero := Arr.new_at _ _ _ (by simp)
  have b0 : Below w.heap.size w ((w.alloc (.cells (dkArr L A c z) 37)).alloc (.cells dkZero 37)) := ((Below.refl _ _).alloc (Nat.le_refl _) _).alloc (by simp) _
  have HS : Hid (stepP ⟨L, z⟩ (syP L n) = if !goodD L then (⟨L, z⟩, 3) else if z = 0 then (⟨L, z⟩, 12) else match syP L n with
    | .error e => (⟨L, z⟩, e)
    | .ok L' => (⟨L', burnt z⟩, 0)) := rfl
  generalize stepP ⟨L, z⟩ (syP L n) = Q at *
  go_enter Tryz.func76, Tryz.ntmps76
  go_upto_region 1 with fail
  refine wp_forget (fun V => Arr V w.heap.size 37 (dkArr L A c z) ∧ Arr V (w.heap.size + 1) 37 dkZero ∧ Below w.heap.size w V) (by exact ⟨A0, A1, b0⟩) ?_
  clear A0 A1 b0
  rintro V ⟨A0, A1, b0⟩
  have c0 : V.cell? ⟨w.heap.size, 0, none⟩ = some (.slice A L.length c) := A0.cell 0
  have c1 : V.cell? ⟨w.heap.size, 1, none⟩ = some (.int .i64 z) := A0.cell 1
  have CG : Hid (Calls Tryz.prog 86 #[.agg #[.slice A L.length c, .int .i64 z]] V fun e w' => e = .returned (.bool (goodD L)) ∧ Below V.heap.size V w') := DkGood_any L A c z V (hP.up b0) hz hl
  have HRet : Hid (∀ (W : World) (a : Act) (d : Dk) (A' : Option Addr) (c' : Nat) (e : Int), Arr W (w.heap.size + 1) 37 (dkArr d.files A' c' d.fuse) → Below w.heap.size w W → Fls W W.heap.size A' d.files → d.files.length ≤ c' → a.tmps[4]? = some (.pointer (some ⟨w.heap.size + 1, 0, none⟩)) → a.tmps[5]? = some (.int .i64 e) → a.defers = [] → bodyPost Tryz.prog Tryz.f76 (StEnd w (d, e)) .ret a W) := fun W a d A' c' e h1 h2 h3 h4 h5 h6 h7 => by
    refine bodyPost_ret (v := .tuple #[.agg (dkArr d.files A' c' d.fuse), .int .i64 e]) ?_ h7 ⟨A', c', rfl, h3, h4, h2⟩
    rw [results_cell_tmp Tryz.results76]
    have hld := run_loadVar_row (P := Tryz.prog) _ _ _ 37 _ _ _ h1 Tryz.underlying37 rfl (dkInfo _ _ _ _)
    simp [Array.getD_eq_getD_getElem?, h5, h6, asAddr, hld, Result.andThen]
  cases hg : goodD L with
  | false =>
    rw [hg] at CG
    have HQ : Hid (Q = (⟨L, z⟩, 3)) := by show _ = _; rw [HS.out, hg]; rfl
    clear HS hg
    go_wp2_with fail
    (with_reducible refine CG.out.mono ?_)
    clear CG c0 c1
    rintro _ V2 ⟨rfl, b2⟩
    have A2 := A0.below b2 A0.lt
    have A3 := A1.below b2 A1.lt
    have b3 := b0.trans (b2.mono b0.size)
    have c0 : V2.cell? ⟨w.heap.size, 0, none⟩ = some (.slice A L.length c) := A2.cell 0
    have c1 : V2.cell? ⟨w.heap.size, 1, none⟩ = some (.int .i64 z) := A2.cell 1
    go_wp2_with (refine wpList_store_row rfl 37 _ _ rfl (w.heap.size + 1) (dkArr L A c z) rfl rfl 37 dkZero A3 (dkInfo _ _ _ _) rfl (dkArr_one _ _ _ _) ?_)
    rw [HQ.out]
    have b4 := below_setRow b3 (show w.heap.size ≤ w.heap.size + 1 by omega) (dkArr L A c z)
    exact HRet.out _ _ ⟨L, z⟩ A c 3 (A3.row _) b4 (hP.up b4) hc rfl rfl rfl
  | true =>
    rw [hg] at CG
    by_cases h0 : z = 0
    · have HQ : Hid (Q = (⟨L, z⟩, 12)) := by show _ = _; rw [HS.out, hg, if_pos h0]; rfl
      subst h0
      clear HS hg
      go_wp2_with fail
      (with_reducible refine CG.out.mono ?_)
      clear CG c0 c1
      rintro _ V2 ⟨rfl, b2⟩
      have A2 := A0.below b2 A0.lt
      have A3 := A1.below b2 A1.lt
      have b3 := b0.trans (b2.mono b0.size)
      have c0 : V2.cell? ⟨w.heap.size, 0, none⟩ = some (.slice A L.length c) := A2.cell 0
      have c1 : V2.cell? ⟨w.heap.size, 1, none⟩ = some (.int .i64 0) := A2.cell 1
      go_wp2_with (refine wpList_store_row rfl 37 _ _ rfl (w.heap.size + 1) (dkArr L A c 0) rfl rfl 37 dkZero A3 (dkInfo _ _ _ _) rfl (dkArr_one _ _ _ _) ?_)
      rw [HQ.out]
      have b4 := below_setRow b3 (show w.heap.size ≤ w.heap.size + 1 by omega) (dkArr L A c 0)
      exact HRet.out _ _ ⟨L, 0⟩ A c 12 (A3.row _) b4 (hP.up b4) hc rfl rfl rfl
    have HQ : Hid (Q = match syP L n with
      | .error e => (⟨L, z⟩, e)
      | .ok L' => (⟨L', burnt z⟩, 0)) := by show _ = _; rw [HS.out, hg, if_neg h0]; rfl
    have h0' : (z == 0) = false := by rw [beq_eq_false_iff_ne]; exact h0
    obtain ⟨h4, _, _⟩ := (goodD_iff L).1 hg
    have CH := fun v base (V : World) h (h1 : V.cell? ⟨p1, 0, none⟩ = some (.string n) ∧ base ≤ V.heap.size) => Lib.hid (syncCh_any L n hg v base p1 V h h1.1 h1.2)
    generalize syP L n = R at *
    clear HS hg h0
    go_wp2_with fail
    (with_reducible refine CG.out.mono ?_)
    clear CG c0 c1
    rintro _ V2 ⟨rfl, b2⟩
    have A2 := A0.below b2 A0.lt
    have A3 := A1.below b2 A1.lt
    have b3 := b0.trans (b2.mono b0.size)
    clear A0 A1 b0 b2
    have c0 : V2.cell? ⟨w.heap.size, 0, none⟩ = some (.slice A L.length c) := A2.cell 0
    have c1 : V2.cell? ⟨w.heap.size, 1, none⟩ = some (.int .i64 z) := A2.cell 1
    have CL := Lib.hid (Clone_any L A c V2 (hP.up b3) (by omega))
    go_wp2_with fail
    (with_reducible refine CL.out.mono ?_)
    clear CL c0 c1
    rintro _ V3 ⟨v3, rfl, h3, b4⟩
    have A4 := A2.below b4 A2.lt
    have A5 := A3.below b4 A3.lt
    have b5 := b3.trans (b4.mono b3.size)
    have hw3 := A5.lt
    have hw2 := A3.lt
    have C3 := CH v3 V2.heap.size V3 h3 ⟨((b5.cell (p := ⟨p1, 0, none⟩) hq1).trans hp1), b4.size⟩
    clear CH A2
    go_wp2_with fail
    (with_reducible refine C3.out.mono ?_)
    clear C3
    rintro x V4 ⟨hx, b6⟩
    have A6 := A4.below b6 (Nat.lt_of_lt_of_le (by omega) (Nat.le_refl _))
    have A7 := A5.below b6 (Nat.lt_of_lt_of_le (by omega) (Nat.le_refl _))
    have b7 := b5.trans (b6.mono b3.size)
    clear A4 A5 b6
    have c0 : V4.cell? ⟨w.heap.size, 0, none⟩ = some (.slice A L.length c) := A6.cell 0
    have c1 : V4.cell? ⟨w.heap.size, 1, none⟩ = some (.int .i64 z) := A6.cell 1
    cases R with
    | error e =>
      obtain ⟨he, rfl⟩ := hx
      go_wp2_with (refine wpList_store_row rfl 37 _ _ rfl (w.heap.size + 1) (dkArr L A c z) rfl rfl 37 dkZero A7 (dkInfo _ _ _ _) rfl (dkArr_one _ _ _ _) ?_)
      rw [HQ.out]
      have b8 := below_setRow b7 (show w.heap.size ≤ w.heap.size + 1 by omega) (dkArr L A c z)
      exact HRet.out _ _ ⟨L, z⟩ A c e (A7.row _) b8 (hP.up b8) hc rfl rfl rfl
    | ok L' =>
      obtain ⟨v', rfl, h8⟩ := hx
      obtain ⟨A', c', rfl, hc', hF'⟩ := own_files h8
      have CB := Lib.hid (burnt_any z hzf V4)
      go_wp2_with fail
      (with_reducible refine CB.out.mono ?_)
      clear CB
      rintro _ V4 ⟨rfl, rfl⟩
      generalize hbz : burnt z = bz at *
      have HBz := Lib.hid hbz
      clear hbz
      go_wp2_with (refine wpList_store_row rfl 37 _ _ rfl (w.heap.size + 1) (dkArr L' A' c' bz) rfl rfl 37 dkZero A7 (dkInfo _ _ _ _) rfl (dkArr_one _ _ _ _) ?_)
      rw [HQ.out]
      have b8 := below_setRow b7 (show w.heap.size ≤ w.heap.size + 1 by omega) (dkArr L' A' c' bz)
      have k8 : V4.grownBy (V4.setRow (w.heap.size + 1) (dkArr L' A' c' bz)) (some (w.heap.size + 1)) := gb_row _ _
      have h9 := own_kp h8 (Kp.gb k8) (fun q hq e => by have := own_row_ge h8 q hq; have := Option.some.inj e; omega)
      obtain ⟨A9, c9, e9, hc9, hF9⟩ := own_files h9
      simp only [Value.slice.injEq] at e9
      obtain ⟨rfl, _, rfl⟩ := e9
      exact HRet.out _ _ ⟨L', bz⟩ A' c' 0 (A7.row _) b8 hF9 hc9 rfl rfl rfl
set_option maxRecDepth 100000 in
set_option maxHeartbeats 2000000 in
theorem stepRename_any (L : List Fl) (n m : ByteArray) (A : Option Addr) (c : Nat) (z : Int) (w : World) (hP : Fls w w.heap.size A L) (hz : Sized L) (hl : L.length ≤ 140737488355328) (hc : L.length ≤ c) (hzf : z ≤ 9223372036854775807) (p1 p2 : Nat) (hp1 : w.cell? ⟨p1, 0, none⟩ = some (.string m)) (hp2 : w.cell? ⟨p2, 0, none⟩ = some (.string n)) (hq1 : p1 < w.heap.size) (hq2 : p2 < w.heap.size) :
    Calls Tryz.prog 76 #[.agg (dkArr L A c z), .func (.func 136) #[] #[.pointer (some ⟨p1, 0, none⟩), .pointer (some ⟨p2, 0, none⟩)]] w (StEnd w (stepP ⟨L, z⟩ (rnP L n m))) := by
  have A0 : Arr ((w.alloc (.cells (dkArr L A c z) 37)).alloc (.cells dkZero 37)) w.heap.size 37 (dkArr L A c z) := (Arr.new _ _ _).alloc _
  have A1 : Arr ((w.alloc (.cells (dkArr L A c z) 37)).alloc (.cells dkZero 37)) (w.heap.size + 1) 37 dkZero := Arr.new_at _ _ _ (by simp)
  have b0 : Below w.heap.size w ((w.alloc (.cells (dkArr L A c z) 37)).alloc (.cells dkZero 37)) := ((Below.refl _ _).alloc (Nat.le_refl _) _).alloc (by simp) _
  have HS : Hid (stepP ⟨L, z⟩ (rnP L n m) = if !goodD L then (⟨L, z⟩, 3) else if z = 0 then (⟨L, z⟩, 12) else match rnP L n m with
    | .error e => (⟨L, z⟩, e)
    | .ok L' => (⟨L', burnt z⟩, 0)) := rfl
  generalize stepP ⟨L, z⟩ (rnP L n m) = Q at *
  go_enter Tryz.func76, Tryz.ntmps76
  go_upto_region 1 with fail
  refine wp_forget (fun V => Arr V w.heap.size 37 (dkArr L A c z) ∧ Arr V (w.heap.size + 1) 37 dkZero ∧ Below w.heap.size w V) (by exact ⟨A0, A1, b0⟩) ?_
  clear A0 A1 b0
  rintro V ⟨A0, A1, b0⟩
  have c0 : V.cell? ⟨w.heap.size, 0, none⟩ = some (.slice A L.length c) := A0.cell 0
  have c1 : V.cell? ⟨w.heap.size, 1, none⟩ = some (.int .i64 z) := A0.cell 1
  have CG : Hid (Calls Tryz.prog 86 #[.agg #[.slice A L.length c, .int .i64 z]] V fun e w' => e = .returned (.bool (goodD L)) ∧ Below V.heap.size V w') := DkGood_any L A c z V (hP.up b0) hz hl
  have HRet : Hid (∀ (W : World) (a : Act) (d : Dk) (A' : Option Addr) (c' : Nat) (e : Int), Arr W (w.heap.size + 1) 37 (dkArr d.files A' c' d.fuse) → Below w.heap.size w W → Fls W W.heap.size A' d.files → d.files.length ≤ c' → a.tmps[4]? = some (.pointer (some ⟨w.heap.size + 1, 0, none⟩)) → a.tmps[5]? = some (.int .i64 e) → a.defers = [] → bodyPost Tryz.prog Tryz.f76 (StEnd w (d, e)) .ret a W) := fun W a d A' c' e h1 h2 h3 h4 h5 h6 h7 => by
    refine bodyPost_ret (v := .tuple #[.agg (dkArr d.files A' c' d.fuse), .int .i64 e]) ?_ h7 ⟨A', c', rfl, h3, h4, h2⟩
    rw [results_cell_tmp Tryz.results76]
    have hld := run_loadVar_row (P := Tryz.prog) _ _ _ 37 _ _ _ h1 Tryz.underlying37 rfl (dkInfo _ _ _ _)
    simp [Array.getD_eq_getD_getElem?, h5, h6, asAddr, hld, Result.andThen]
  cases hg : goodD L with
  | false =>
    rw [hg] at CG
    have HQ : Hid (Q = (⟨L, z⟩, 3)) := by show _ = _; rw [HS.out, hg]; rfl
    clear HS hg
    go_wp2_with fail
    (with_reducible refine CG.out.mono ?_)
    clear CG c0 c1
    rintro _ V2 ⟨rfl, b2⟩
    have A2 := A0.below b2 A0.lt
    have A3 := A1.below b2 A1.lt
    have b3 := b0.trans (b2.mono b0.size)
    have c0 : V2.cell? ⟨w.heap.size, 0, none⟩ = some (.slice A L.length c) := A2.cell 0
    have c1 : V2.cell? ⟨w.heap.size, 1, none⟩ = some (.int .i64 z) := A2.cell 1
    go_wp2_with (refine wpList_store_row rfl 37 _ _ rfl (w.heap.size + 1) (dkArr L A c z) rfl rfl 37 dkZero A3 (dkInfo _ _ _ _) rfl (dkArr_one _ _ _ _) ?_)
    rw [HQ.out]
    have b4 := below_setRow b3 (show w.heap.size ≤ w.heap.size + 1 by omega) (dkArr L A c z)
    exact HRet.out _ _ ⟨L, z⟩ A c 3 (A3.row _) b4 (hP.up b4) hc rfl rfl rfl
  | true =>
    rw [hg] at CG
    by_cases h0 : z = 0
    · have HQ : Hid (Q = (⟨L, z⟩, 12)) := by show _ = _; rw [HS.out, hg, if_pos h0]; rfl
      subst h0
      clear HS hg
      go_wp2_with fail
      (with_reducible refine CG.out.mono ?_)
      clear CG c0 c1
      rintro _ V2 ⟨rfl, b2⟩
      have A2 := A0.below b2 A0.lt
      have A3 := A1.below b2 A1.lt
      have b3 := b0.trans (b2.mono b0.size)
      have c0 : V2.cell? ⟨w.heap.size, 0, none⟩ = some (.slice A L.length c) := A2.cell 0
      have c1 : V2.cell? ⟨w.heap.size, 1, none⟩ = some (.int .i64 0) := A2.cell 1
      go_wp2_with (refine wpList_store_row rfl 37 _ _ rfl (w.heap.size + 1) (dkArr L A c 0) rfl rfl 37 dkZero A3 (dkInfo _ _ _ _) rfl (dkArr_one _ _ _ _) ?_)
      rw [HQ.out]
      have b4 := below_setRow b3 (show w.heap.size ≤ w.heap.size + 1 by omega) (dkArr L A c 0)
      exact HRet.out _ _ ⟨L, 0⟩ A c 12 (A3.row _) b4 (hP.up b4) hc rfl rfl rfl
    have HQ : Hid (Q = match rnP L n m with
      | .error e => (⟨L, z⟩, e)
      | .ok L' => (⟨L', burnt z⟩, 0)) := by show _ = _; rw [HS.out, hg, if_neg h0]; rfl
    have h0' : (z == 0) = false := by rw [beq_eq_false_iff_ne]; exact h0
    obtain ⟨h4, _, _⟩ := (goodD_iff L).1 hg
    have CH := fun v base (V : World) h (h1 : V.cell? ⟨p1, 0, none⟩ = some (.string m) ∧ V.cell? ⟨p2, 0, none⟩ = some (.string n) ∧ p1 < base ∧ p2 < base ∧ base ≤ V.heap.size) => Lib.hid (renameCh_any L n m hg v base p1 p2 V h h1.1 h1.2.1 h1.2.2.1 h1.2.2.2.1 h1.2.2.2.2)
    generalize rnP L n m = R at *
    clear HS hg h0
    go_wp2_with fail
    (with_reducible refine CG.out.mono ?_)
    clear CG c0 c1
    rintro _ V2 ⟨rfl, b2⟩
    have A2 := A0.below b2 A0.lt
    have A3 := A1.below b2 A1.lt
    have b3 := b0.trans (b2.mono b0.size)
    clear A0 A1 b0 b2
    have c0 : V2.cell? ⟨w.heap.size, 0, none⟩ = some (.slice A L.length c) := A2.cell 0
    have c1 : V2.cell? ⟨w.heap.size, 1, none⟩ = some (.int .i64 z) := A2.cell 1
    have CL := Lib.hid (Clone_any L A c V2 (hP.up b3) (by omega))
    go_wp2_with fail
    (with_reducible refine CL.out.mono ?_)
    clear CL c0 c1
    rintro _ V3 ⟨v3, rfl, h3, b4⟩
    have A4 := A2.below b4 A2.lt
    have A5 := A3.below b4 A3.lt
    have b5 := b3.trans (b4.mono b3.size)
    have hw3 := A5.lt
    have hw2 := A3.lt
    have C3 := CH v3 V2.heap.size V3 h3 ⟨((b5.cell (p := ⟨p1, 0, none⟩) hq1).trans hp1), ((b5.cell (p := ⟨p2, 0, none⟩) hq2).trans hp2), (Nat.lt_of_lt_of_le hq1 b3.size), (Nat.lt_of_lt_of_le hq2 b3.size), b4.size⟩
    clear CH A2
    go_wp2_with fail
    (with_reducible refine C3.out.mono ?_)
    clear C3
    rintro x V4 ⟨hx, b6⟩
    have A6 := A4.below b6 (Nat.lt_of_lt_of_le (by omega) (Nat.le_refl _))
    have A7 := A5.below b6 (Nat.lt_of_lt_of_le (by omega) (Nat.le_refl _))
    have b7 := b5.trans (b6.mono b3.size)
    clear A4 A5 b6
    have c0 : V4.cell? ⟨w.heap.size, 0, none⟩ = some (.slice A L.length c) := A6.cell 0
    have c1 : V4.cell? ⟨w.heap.size, 1, none⟩ = some (.int .i64 z) := A6.cell 1
    cases R with
    | error e =>
      obtain ⟨he, rfl⟩ := hx
      go_wp2_with (refine wpList_store_row rfl 37 _ _ rfl (w.heap.size + 1) (dkArr L A c z) rfl rfl 37 dkZero A7 (dkInfo _ _ _ _) rfl (dkArr_one _ _ _ _) ?_)
      rw [HQ.out]
      have b8 := below_setRow b7 (show w.heap.size ≤ w.heap.size + 1 by omega) (dkArr L A c z)
      exact HRet.out _ _ ⟨L, z⟩ A c e (A7.row _) b8 (hP.up b8) hc rfl rfl rfl
    | ok L' =>
      obtain ⟨v', rfl, h8⟩ := hx
      obtain ⟨A', c', rfl, hc', hF'⟩ := own_files h8
      have CB := Lib.hid (burnt_any z hzf V4)
      go_wp2_with fail
      (with_reducible refine CB.out.mono ?_)
      clear CB
      rintro _ V4 ⟨rfl, rfl⟩
      generalize hbz : burnt z = bz at *
      have HBz := Lib.hid hbz
      clear hbz
      go_wp2_with (refine wpList_store_row rfl 37 _ _ rfl (w.heap.size + 1) (dkArr L' A' c' bz) rfl rfl 37 dkZero A7 (dkInfo _ _ _ _) rfl (dkArr_one _ _ _ _) ?_)
      rw [HQ.out]
      have b8 := below_setRow b7 (show w.heap.size ≤ w.heap.size + 1 by omega) (dkArr L' A' c' bz)
      have k8 : V4.grownBy (V4.setRow (w.heap.size + 1) (dkArr L' A' c' bz)) (some (w.heap.size + 1)) := gb_row _ _
      have h9 := own_kp h8 (Kp.gb k8) (fun q hq e => by have := own_row_ge h8 q hq; have := Option.some.inj e; omega)
      obtain ⟨A9, c9, e9, hc9, hF9⟩ := own_files h9
      simp only [Value.slice.injEq] at e9
      obtain ⟨rfl, _, rfl⟩ := e9
      exact HRet.out _ _ ⟨L', bz⟩ A' c' 0 (A7.row _) b8 hF9 hc9 rfl rfl rfl
set_option maxRecDepth 100000 in
set_option maxHeartbeats 2000000 in
theorem stepWrite_any (L : List Fl) (n s : ByteArray) (hs : s.size ≤ 140737488355328) (A : Option Addr) (c : Nat) (z : Int) (w : World) (hP : Fls w w.heap.size A L) (hz : Sized L) (hl : L.length ≤ 140737488355328) (hc : L.length ≤ c) (hzf : z ≤ 9223372036854775807) (p1 p2 : Nat) (hp1 : w.cell? ⟨p1, 0, none⟩ = some (.string n)) (hp2 : w.cell? ⟨p2, 0, none⟩ = some (.string s)) (hq1 : p1 < w.heap.size) (hq2 : p2 < w.heap.size) :
    Calls Tryz.prog 76 #[.agg (dkArr L A c z), .func (.func 133) #[] #[.pointer (some ⟨p1, 0, none⟩), .pointer (some ⟨p2, 0, none⟩)]] w (StEnd w (stepP ⟨L, z⟩ (wrP L n s))) := by
  have A0 : Arr ((w.alloc (.cells (dkArr L A c z) 37)).alloc (.cells dkZero 37)) w.heap.size 37 (dkArr L A c z) := (Arr.new _ _ _).alloc _
  have A1 : Arr ((w.alloc (.cells (dkArr L A c z) 37)).alloc (.cells dkZero 37)) (w.heap.size + 1) 37 dkZero := Arr.new_at _ _ _ (by simp)
  have b0 : Below w.heap.size w ((w.alloc (.cells (dkArr L A c z) 37)).alloc (.cells dkZero 37)) := ((Below.refl _ _).alloc (Nat.le_refl _) _).alloc (by simp) _
  have HS : Hid (stepP ⟨L, z⟩ (wrP L n s) = if !goodD L then (⟨L, z⟩, 3) else if z = 0 then (⟨L, z⟩, 12) else match wrP L n s with
    | .error e => (⟨L, z⟩, e)
    | .ok L' => (⟨L', burnt z⟩, 0)) := rfl
  generalize stepP ⟨L, z⟩ (wrP L n s) = Q at *
  go_enter Tryz.func76, Tryz.ntmps76
  go_upto_region 1 with fail
  refine wp_forget (fun V => Arr V w.heap.size 37 (dkArr L A c z) ∧ Arr V (w.heap.size + 1) 37 dkZero ∧ Below w.heap.size w V) (by exact ⟨A0, A1, b0⟩) ?_
  clear A0 A1 b0
  rintro V ⟨A0, A1, b0⟩
  have c0 : V.cell? ⟨w.heap.size, 0, none⟩ = some (.slice A L.length c) := A0.cell 0
  have c1 : V.cell? ⟨w.heap.size, 1, none⟩ = some (.int .i64 z) := A0.cell 1
  have CG : Hid (Calls Tryz.prog 86 #[.agg #[.slice A L.length c, .int .i64 z]] V fun e w' => e = .returned (.bool (goodD L)) ∧ Below V.heap.size V w') := DkGood_any L A c z V (hP.up b0) hz hl
  have HRet : Hid (∀ (W : World) (a : Act) (d : Dk) (A' : Option Addr) (c' : Nat) (e : Int), Arr W (w.heap.size + 1) 37 (dkArr d.files A' c' d.fuse) → Below w.heap.size w W → Fls W W.heap.size A' d.files → d.files.length ≤ c' → a.tmps[4]? = some (.pointer (some ⟨w.heap.size + 1, 0, none⟩)) → a.tmps[5]? = some (.int .i64 e) → a.defers = [] → bodyPost Tryz.prog Tryz.f76 (StEnd w (d, e)) .ret a W) := fun W a d A' c' e h1 h2 h3 h4 h5 h6 h7 => by
    refine bodyPost_ret (v := .tuple #[.agg (dkArr d.files A' c' d.fuse), .int .i64 e]) ?_ h7 ⟨A', c', rfl, h3, h4, h2⟩
    rw [results_cell_tmp Tryz.results76]
    have hld := run_loadVar_row (P := Tryz.prog) _ _ _ 37 _ _ _ h1 Tryz.underlying37 rfl (dkInfo _ _ _ _)
    simp [Array.getD_eq_getD_getElem?, h5, h6, asAddr, hld, Result.andThen]
  cases hg : goodD L with
  | false =>
    rw [hg] at CG
    have HQ : Hid (Q = (⟨L, z⟩, 3)) := by show _ = _; rw [HS.out, hg]; rfl
    clear HS hg
    go_wp2_with fail
    (with_reducible refine CG.out.mono ?_)
    clear CG c0 c1
    rintro _ V2 ⟨rfl, b2⟩
    have A2 := A0.below b2 A0.lt
    have A3 := A1.below b2 A1.lt
    have b3 := b0.trans (b2.mono b0.size)
    have c0 : V2.cell? ⟨w.heap.size, 0, none⟩ = some (.slice A L.length c) := A2.cell 0
    have c1 : V2.cell? ⟨w.heap.size, 1, none⟩ = some (.int .i64 z) := A2.cell 1
    go_wp2_with (refine wpList_store_row rfl 37 _ _ rfl (w.heap.size + 1) (dkArr L A c z) rfl rfl 37 dkZero A3 (dkInfo _ _ _ _) rfl (dkArr_one _ _ _ _) ?_)
    rw [HQ.out]
    have b4 := below_setRow b3 (show w.heap.size ≤ w.heap.size + 1 by omega) (dkArr L A c z)
    exact HRet.out _ _ ⟨L, z⟩ A c 3 (A3.row _) b4 (hP.up b4) hc rfl rfl rfl
  | true =>
    rw [hg] at CG
    by_cases h0 : z = 0
    · have HQ : Hid (Q = (⟨L, z⟩, 12)) := by show _ = _; rw [HS.out, hg, if_pos h0]; rfl
      subst h0
      clear HS hg
      go_wp2_with fail
      (with_reducible refine CG.out.mono ?_)
      clear CG c0 c1
      rintro _ V2 ⟨rfl, b2⟩
      have A2 := A0.below b2 A0.lt
      have A3 := A1.below b2 A1.lt
      have b3 := b0.trans (b2.mono b0.size)
      have c0 : V2.cell? ⟨w.heap.size, 0, none⟩ = some (.slice A L.length c) := A2.cell 0
      have c1 : V2.cell? ⟨w.heap.size, 1, none⟩ = some (.int .i64 0) := A2.cell 1
      go_wp2_with (refine wpList_store_row rfl 37 _ _ rfl (w.heap.size + 1) (dkArr L A c 0) rfl rfl 37 dkZero A3 (dkInfo _ _ _ _) rfl (dkArr_one _ _ _ _) ?_)
      rw [HQ.out]
      have b4 := below_setRow b3 (show w.heap.size ≤ w.heap.size + 1 by omega) (dkArr L A c 0)
      exact HRet.out _ _ ⟨L, 0⟩ A c 12 (A3.row _) b4 (hP.up b4) hc rfl rfl rfl
    have HQ : Hid (Q = match wrP L n s with
      | .error e => (⟨L, z⟩, e)
      | .ok L' => (⟨L', burnt z⟩, 0)) := by show _ = _; rw [HS.out, hg, if_neg h0]; rfl
    have h0' : (z == 0) = false := by rw [beq_eq_false_iff_ne]; exact h0
    obtain ⟨h4, _, _⟩ := (goodD_iff L).1 hg
    have CH := fun v base (V : World) h (h1 : V.cell? ⟨p1, 0, none⟩ = some (.string n) ∧ V.cell? ⟨p2, 0, none⟩ = some (.string s) ∧ p1 < base ∧ p2 < base ∧ base ≤ V.heap.size) => Lib.hid (writeCh_any L n s hs hg v base p1 p2 V h h1.1 h1.2.1 h1.2.2.1 h1.2.2.2.1 h1.2.2.2.2)
    generalize wrP L n s = R at *
    clear HS hg h0
    go_wp2_with fail
    (with_reducible refine CG.out.mono ?_)
    clear CG c0 c1
    rintro _ V2 ⟨rfl, b2⟩
    have A2 := A0.below b2 A0.lt
    have A3 := A1.below b2 A1.lt
    have b3 := b0.trans (b2.mono b0.size)
    clear A0 A1 b0 b2
    have c0 : V2.cell? ⟨w.heap.size, 0, none⟩ = some (.slice A L.length c) := A2.cell 0
    have c1 : V2.cell? ⟨w.heap.size, 1, none⟩ = some (.int .i64 z) := A2.cell 1
    have CL := Lib.hid (Clone_any L A c V2 (hP.up b3) (by omega))
    go_wp2_with fail
    (with_reducible refine CL.out.mono ?_)
    clear CL c0 c1
    rintro _ V3 ⟨v3, rfl, h3, b4⟩
    have A4 := A2.below b4 A2.lt
    have A5 := A3.below b4 A3.lt
    have b5 := b3.trans (b4.mono b3.size)
    have hw3 := A5.lt
    have hw2 := A3.lt
    have C3 := CH v3 V2.heap.size V3 h3 ⟨((b5.cell (p := ⟨p1, 0, none⟩) hq1).trans hp1), ((b5.cell (p := ⟨p2, 0, none⟩) hq2).trans hp2), (Nat.lt_of_lt_of_le hq1 b3.size), (Nat.lt_of_lt_of_le hq2 b3.size), b4.size⟩
    clear CH A2
    go_wp2_with fail
    (with_reducible refine C3.out.mono ?_)
    clear C3
    rintro x V4 ⟨hx, b6⟩
    have A6 := A4.below b6 (Nat.lt_of_lt_of_le (by omega) (Nat.le_refl _))
    have A7 := A5.below b6 (Nat.lt_of_lt_of_le (by omega) (Nat.le_refl _))
    have b7 := b5.trans (b6.mono b3.size)
    clear A4 A5 b6
    have c0 : V4.cell? ⟨w.heap.size, 0, none⟩ = some (.slice A L.length c) := A6.cell 0
    have c1 : V4.cell? ⟨w.heap.size, 1, none⟩ = some (.int .i64 z) := A6.cell 1
    cases R with
    | error e =>
      obtain ⟨he, rfl⟩ := hx
      go_wp2_with (refine wpList_store_row rfl 37 _ _ rfl (w.heap.size + 1) (dkArr L A c z) rfl rfl 37 dkZero A7 (dkInfo _ _ _ _) rfl (dkArr_one _ _ _ _) ?_)
      rw [HQ.out]
      have b8 := below_setRow b7 (show w.heap.size ≤ w.heap.size + 1 by omega) (dkArr L A c z)
      exact HRet.out _ _ ⟨L, z⟩ A c e (A7.row _) b8 (hP.up b8) hc rfl rfl rfl
    | ok L' =>
      obtain ⟨v', rfl, h8⟩ := hx
      obtain ⟨A', c', rfl, hc', hF'⟩ := own_files h8
      have CB := Lib.hid (burnt_any z hzf V4)
      go_wp2_with fail
      (with_reducible refine CB.out.mono ?_)
      clear CB
      rintro _ V4 ⟨rfl, rfl⟩
      generalize hbz : burnt z = bz at *
      have HBz := Lib.hid hbz
      clear hbz
      go_wp2_with (refine wpList_store_row rfl 37 _ _ rfl (w.heap.size + 1) (dkArr L' A' c' bz) rfl rfl 37 dkZero A7 (dkInfo _ _ _ _) rfl (dkArr_one _ _ _ _) ?_)
      rw [HQ.out]
      have b8 := below_setRow b7 (show w.heap.size ≤ w.heap.size + 1 by omega) (dkArr L' A' c' bz)
      have k8 : V4.grownBy (V4.setRow (w.heap.size + 1) (dkArr L' A' c' bz)) (some (w.heap.size + 1)) := gb_row _ _
      have h9 := own_kp h8 (Kp.gb k8) (fun q hq e => by have := own_row_ge h8 q hq; have := Option.some.inj e; omega)
      obtain ⟨A9, c9, e9, hc9, hF9⟩ := own_files h9
      simp only [Value.slice.injEq] at e9
      obtain ⟨rfl, _, rfl⟩ := e9
      exact HRet.out _ _ ⟨L', bz⟩ A' c' 0 (A7.row _) b8 hF9 hc9 rfl rfl rfl
end Go.Proofs.YtkcnogmjnmnbdaaGreatDoor

/- disk.Write, Sync, Rename, Remove: their contracts. -/
namespace Go.Proofs.YtkcnogmjnmnbdaaGreatDoor
open Go.RowKit

theorem dkZero_no : ∀ (i : Nat) (t : ByteArray), dkZero[i]? ≠ some (.string t)
  | 0, t => by simp [dkZero]
  | 1, t => by simp [dkZero]
  | n + 2, t => by simp [dkZero]
theorem Fls.row {w : World} {A : Option Addr} {L : List Fl} {g : Nat} (h : Fls w w.heap.size A L) (hg : Arr w g 37 dkZero) (cs' : Array Value) : Fls (w.setRow g cs') (w.setRow g cs').heap.size A L := fun k x hx => by
  obtain ⟨ad, e, hb, h0, h1, h2⟩ := h k x hx
  have k1 : w.grownBy (w.setRow g cs') (some g) := gb_row _ _
  have hne : (ad.add (k * 3)).block ≠ g := fun q => by
    rw [q, hg.cell] at h1
    exact dkZero_no _ _ h1
  have hn : ¬ some (ad.add (k * 3)).block = some g := fun q => hne (Option.some.inj q)
  exact ⟨ad, e, Nat.lt_of_lt_of_le hb k1.size, k1.cell h0 hn, k1.cell h1 hn, k1.cell h2 hn⟩
set_option maxRecDepth 100000 in
set_option maxHeartbeats 1000000 in
theorem Remove_any (L : List Fl) (n : ByteArray) (A : Option Addr) (c : Nat) (z : Int) (w : World) (hP : Fls w w.heap.size A L) (hz : Sized L) (hl : L.length ≤ 140737488355328) (hc : L.length ≤ c) (hzf : z ≤ 9223372036854775807) :
    Calls Tryz.prog 43 #[.agg #[.slice A L.length c, .int .i64 z], .string n] w (StEnd w (stepP ⟨L, z⟩ (rmP L n))) := by
  obtain ⟨W0, hW0⟩ : ∃ W0, W0 = ((w.alloc (.cells (dkArr L A c z) 37)).alloc (.cells #[.string n] 9)).alloc (.cells dkZero 37) := ⟨_, rfl⟩
  have hfacts : Arr W0 w.heap.size 37 (dkArr L A c z) ∧ Arr W0 (w.heap.size + 1) 9 #[.string n] ∧ Arr W0 (w.heap.size + 2) 37 dkZero ∧ Below w.heap.size w W0 := by
    rw [hW0]
    exact ⟨(((Arr.new _ _ _).alloc _).alloc _), ((Arr.new_at _ _ _ (by simp)).alloc _), Arr.new_at _ _ _ (by simp), (((Below.refl _ _).alloc (Nat.le_refl _) _).alloc (by simp <;> omega) _).alloc (by simp <;> omega) _⟩
  have HF := Lib.hid hfacts
  have HW := Lib.hid hW0
  clear hfacts hW0
  generalize hQ : stepP ⟨L, z⟩ (rmP L n) = Q at *
  have HQ := Lib.hid hQ
  clear hQ
  go_enter Tryz.func43, Tryz.ntmps43
  go_upto_region 1 with fail
  refine wp_forget (fun V => Arr V w.heap.size 37 (dkArr L A c z) ∧ Arr V (w.heap.size + 1) 9 #[.string n] ∧ Arr V (w.heap.size + 2) 37 dkZero ∧ Below w.heap.size w V) (by have := HF.out; rw [HW.out] at this; exact this) ?_
  clear HF HW
  clear W0
  rintro V ⟨A0, B1, A1, b0⟩
  have c0 : V.cell? ⟨w.heap.size, 0, none⟩ = some (.slice A L.length c) := A0.cell 0
  have c1 : V.cell? ⟨w.heap.size, 1, none⟩ = some (.int .i64 z) := A0.cell 1
  have CS : Hid (Calls Tryz.prog 76 #[.agg #[.slice A L.length c, .int .i64 z], .func (.func 77) #[] #[.pointer (some ⟨w.heap.size + 1, 0, none⟩)]] V (StEnd V (stepP ⟨L, z⟩ (rmP L n)))) := stepRemove_any L n A c z V (hP.up b0) hz hl hc hzf (w.heap.size + 1) (B1.cell 0) B1.lt
  rw [HQ.out] at CS
  go_wp2_with fail
  (with_reducible refine CS.out.mono ?_)
  clear CS c0 c1
  rintro _ V2 ⟨A', c', rfl, hF, hc', b2⟩
  have A2 := A1.below b2 A1.lt
  have b3 := b0.trans (b2.mono b0.size)
  clear A0 A1 b0 b2
  obtain ⟨d, e⟩ := Q
  simp only at hF hc'
  go_wp2_with (refine wpList_store_row rfl 37 _ _ rfl (w.heap.size + 2) (dkArr d.files A' c' d.fuse) rfl rfl 37 dkZero A2 (dkInfo _ _ _ _) rfl (dkArr_one _ _ _ _) ?_)
  refine bodyPost_ret (v := .tuple #[.agg (dkArr d.files A' c' d.fuse), .int .i64 e]) ?_ rfl ⟨A', c', rfl, hF.row A2 _, hc', below_setRow b3 (by omega) _⟩
  rw [results_cell_tmp Tryz.results43]
  have hld := run_loadVar_row (P := Tryz.prog) _ _ _ 37 _ _ _ (A2.row (dkArr d.files A' c' d.fuse)) Tryz.underlying37 rfl (dkInfo _ _ _ _)
  simp [asAddr, hld, Result.andThen]
set_option maxRecDepth 100000 in
set_option maxHeartbeats 1000000 in
theorem Sync_any (L : List Fl) (n : ByteArray) (A : Option Addr) (c : Nat) (z : Int) (w : World) (hP : Fls w w.heap.size A L) (hz : Sized L) (hl : L.length ≤ 140737488355328) (hc : L.length ≤ c) (hzf : z ≤ 9223372036854775807) :
    Calls Tryz.prog 89 #[.agg #[.slice A L.length c, .int .i64 z], .string n] w (StEnd w (stepP ⟨L, z⟩ (syP L n))) := by
  obtain ⟨W0, hW0⟩ : ∃ W0, W0 = ((w.alloc (.cells (dkArr L A c z) 37)).alloc (.cells #[.string n] 9)).alloc (.cells dkZero 37) := ⟨_, rfl⟩
  have hfacts : Arr W0 w.heap.size 37 (dkArr L A c z) ∧ Arr W0 (w.heap.size + 1) 9 #[.string n] ∧ Arr W0 (w.heap.size + 2) 37 dkZero ∧ Below w.heap.size w W0 := by
    rw [hW0]
    exact ⟨(((Arr.new _ _ _).alloc _).alloc _), ((Arr.new_at _ _ _ (by simp)).alloc _), Arr.new_at _ _ _ (by simp), (((Below.refl _ _).alloc (Nat.le_refl _) _).alloc (by simp <;> omega) _).alloc (by simp <;> omega) _⟩
  have HF := Lib.hid hfacts
  have HW := Lib.hid hW0
  clear hfacts hW0
  generalize hQ : stepP ⟨L, z⟩ (syP L n) = Q at *
  have HQ := Lib.hid hQ
  clear hQ
  go_enter Tryz.func89, Tryz.ntmps89
  go_upto_region 1 with fail
  refine wp_forget (fun V => Arr V w.heap.size 37 (dkArr L A c z) ∧ Arr V (w.heap.size + 1) 9 #[.string n] ∧ Arr V (w.heap.size + 2) 37 dkZero ∧ Below w.heap.size w V) (by have := HF.out; rw [HW.out] at this; exact this) ?_
  clear HF HW
  clear W0
  rintro V ⟨A0, B1, A1, b0⟩
  have c0 : V.cell? ⟨w.heap.size, 0, none⟩ = some (.slice A L.length c) := A0.cell 0
  have c1 : V.cell? ⟨w.heap.size, 1, none⟩ = some (.int .i64 z) := A0.cell 1
  have CS : Hid (Calls Tryz.prog 76 #[.agg #[.slice A L.length c, .int .i64 z], .func (.func 135) #[] #[.pointer (some ⟨w.heap.size + 1, 0, none⟩)]] V (StEnd V (stepP ⟨L, z⟩ (syP L n)))) := stepSync_any L n A c z V (hP.up b0) hz hl hc hzf (w.heap.size + 1) (B1.cell 0) B1.lt
  rw [HQ.out] at CS
  go_wp2_with fail
  (with_reducible refine CS.out.mono ?_)
  clear CS c0 c1
  rintro _ V2 ⟨A', c', rfl, hF, hc', b2⟩
  have A2 := A1.below b2 A1.lt
  have b3 := b0.trans (b2.mono b0.size)
  clear A0 A1 b0 b2
  obtain ⟨d, e⟩ := Q
  simp only at hF hc'
  go_wp2_with (refine wpList_store_row rfl 37 _ _ rfl (w.heap.size + 2) (dkArr d.files A' c' d.fuse) rfl rfl 37 dkZero A2 (dkInfo _ _ _ _) rfl (dkArr_one _ _ _ _) ?_)
  refine bodyPost_ret (v := .tuple #[.agg (dkArr d.files A' c' d.fuse), .int .i64 e]) ?_ rfl ⟨A', c', rfl, hF.row A2 _, hc', below_setRow b3 (by omega) _⟩
  rw [results_cell_tmp Tryz.results89]
  have hld := run_loadVar_row (P := Tryz.prog) _ _ _ 37 _ _ _ (A2.row (dkArr d.files A' c' d.fuse)) Tryz.underlying37 rfl (dkInfo _ _ _ _)
  simp [asAddr, hld, Result.andThen]
set_option maxRecDepth 100000 in
set_option maxHeartbeats 1000000 in
theorem Rename_any (L : List Fl) (n m : ByteArray) (A : Option Addr) (c : Nat) (z : Int) (w : World) (hP : Fls w w.heap.size A L) (hz : Sized L) (hl : L.length ≤ 140737488355328) (hc : L.length ≤ c) (hzf : z ≤ 9223372036854775807) :
    Calls Tryz.prog 90 #[.agg #[.slice A L.length c, .int .i64 z], .string n, .string m] w (StEnd w (stepP ⟨L, z⟩ (rnP L n m))) := by
  obtain ⟨W0, hW0⟩ : ∃ W0, W0 = (((w.alloc (.cells (dkArr L A c z) 37)).alloc (.cells #[.string n] 9)).alloc (.cells #[.string m] 9)).alloc (.cells dkZero 37) := ⟨_, rfl⟩
  have hfacts : Arr W0 w.heap.size 37 (dkArr L A c z) ∧ Arr W0 (w.heap.size + 1) 9 #[.string n] ∧ Arr W0 (w.heap.size + 2) 9 #[.string m] ∧ Arr W0 (w.heap.size + 3) 37 dkZero ∧ Below w.heap.size w W0 := by
    rw [hW0]
    exact ⟨((((Arr.new _ _ _).alloc _).alloc _).alloc _), (((Arr.new_at _ _ _ (by simp)).alloc _).alloc _), ((Arr.new_at _ _ _ (by simp)).alloc _), Arr.new_at _ _ _ (by simp), ((((Below.refl _ _).alloc (Nat.le_refl _) _).alloc (by simp <;> omega) _).alloc (by simp <;> omega) _).alloc (by simp <;> omega) _⟩
  have HF := Lib.hid hfacts
  have HW := Lib.hid hW0
  clear hfacts hW0
  generalize hQ : stepP ⟨L, z⟩ (rnP L n m) = Q at *
  have HQ := Lib.hid hQ
  clear hQ
  go_enter Tryz.func90, Tryz.ntmps90
  go_upto_region 1 with fail
  refine wp_forget (fun V => Arr V w.heap.size 37 (dkArr L A c z) ∧ Arr V (w.heap.size + 1) 9 #[.string n] ∧ Arr V (w.heap.size + 2) 9 #[.string m] ∧ Arr V (w.heap.size + 3) 37 dkZero ∧ Below w.heap.size w V) (by have := HF.out; rw [HW.out] at this; exact this) ?_
  clear HF HW
  clear W0
  rintro V ⟨A0, B1, B2, A1, b0⟩
  have c0 : V.cell? ⟨w.heap.size, 0, none⟩ = some (.slice A L.length c) := A0.cell 0
  have c1 : V.cell? ⟨w.heap.size, 1, none⟩ = some (.int .i64 z) := A0.cell 1
  have CS : Hid (Calls Tryz.prog 76 #[.agg #[.slice A L.length c, .int .i64 z], .func (.func 136) #[] #[.pointer (some ⟨w.heap.size + 2, 0, none⟩), .pointer (some ⟨w.heap.size + 1, 0, none⟩)]] V (StEnd V (stepP ⟨L, z⟩ (rnP L n m)))) := stepRename_any L n m A c z V (hP.up b0) hz hl hc hzf (w.heap.size + 2) (w.heap.size + 1) (B2.cell 0) (B1.cell 0) B2.lt B1.lt
  rw [HQ.out] at CS
  go_wp2_with fail
  (with_reducible refine CS.out.mono ?_)
  clear CS c0 c1
  rintro _ V2 ⟨A', c', rfl, hF, hc', b2⟩
  have A2 := A1.below b2 A1.lt
  have b3 := b0.trans (b2.mono b0.size)
  clear A0 A1 b0 b2
  obtain ⟨d, e⟩ := Q
  simp only at hF hc'
  go_wp2_with (refine wpList_store_row rfl 37 _ _ rfl (w.heap.size + 3) (dkArr d.files A' c' d.fuse) rfl rfl 37 dkZero A2 (dkInfo _ _ _ _) rfl (dkArr_one _ _ _ _) ?_)
  refine bodyPost_ret (v := .tuple #[.agg (dkArr d.files A' c' d.fuse), .int .i64 e]) ?_ rfl ⟨A', c', rfl, hF.row A2 _, hc', below_setRow b3 (by omega) _⟩
  rw [results_cell_tmp Tryz.results90]
  have hld := run_loadVar_row (P := Tryz.prog) _ _ _ 37 _ _ _ (A2.row (dkArr d.files A' c' d.fuse)) Tryz.underlying37 rfl (dkInfo _ _ _ _)
  simp [asAddr, hld, Result.andThen]
set_option maxRecDepth 100000 in
set_option maxHeartbeats 1000000 in
theorem Write_any (L : List Fl) (n s : ByteArray) (hs : s.size ≤ 140737488355328) (A : Option Addr) (c : Nat) (z : Int) (w : World) (hP : Fls w w.heap.size A L) (hz : Sized L) (hl : L.length ≤ 140737488355328) (hc : L.length ≤ c) (hzf : z ≤ 9223372036854775807) :
    Calls Tryz.prog 88 #[.agg #[.slice A L.length c, .int .i64 z], .string n, .string s] w (StEnd w (stepP ⟨L, z⟩ (wrP L n s))) := by
  obtain ⟨W0, hW0⟩ : ∃ W0, W0 = (((w.alloc (.cells (dkArr L A c z) 37)).alloc (.cells #[.string n] 9)).alloc (.cells #[.string s] 9)).alloc (.cells dkZero 37) := ⟨_, rfl⟩
  have hfacts : Arr W0 w.heap.size 37 (dkArr L A c z) ∧ Arr W0 (w.heap.size + 1) 9 #[.string n] ∧ Arr W0 (w.heap.size + 2) 9 #[.string s] ∧ Arr W0 (w.heap.size + 3) 37 dkZero ∧ Below w.heap.size w W0 := by
    rw [hW0]
    exact ⟨((((Arr.new _ _ _).alloc _).alloc _).alloc _), (((Arr.new_at _ _ _ (by simp)).alloc _).alloc _), ((Arr.new_at _ _ _ (by simp)).alloc _), Arr.new_at _ _ _ (by simp), ((((Below.refl _ _).alloc (Nat.le_refl _) _).alloc (by simp <;> omega) _).alloc (by simp <;> omega) _).alloc (by simp <;> omega) _⟩
  have HF := Lib.hid hfacts
  have HW := Lib.hid hW0
  clear hfacts hW0
  generalize hQ : stepP ⟨L, z⟩ (wrP L n s) = Q at *
  have HQ := Lib.hid hQ
  clear hQ
  go_enter Tryz.func88, Tryz.ntmps88
  go_upto_region 1 with fail
  refine wp_forget (fun V => Arr V w.heap.size 37 (dkArr L A c z) ∧ Arr V (w.heap.size + 1) 9 #[.string n] ∧ Arr V (w.heap.size + 2) 9 #[.string s] ∧ Arr V (w.heap.size + 3) 37 dkZero ∧ Below w.heap.size w V) (by have := HF.out; rw [HW.out] at this; exact this) ?_
  clear HF HW
  clear W0
  rintro V ⟨A0, B1, B2, A1, b0⟩
  have c0 : V.cell? ⟨w.heap.size, 0, none⟩ = some (.slice A L.length c) := A0.cell 0
  have c1 : V.cell? ⟨w.heap.size, 1, none⟩ = some (.int .i64 z) := A0.cell 1
  have CS : Hid (Calls Tryz.prog 76 #[.agg #[.slice A L.length c, .int .i64 z], .func (.func 133) #[] #[.pointer (some ⟨w.heap.size + 1, 0, none⟩), .pointer (some ⟨w.heap.size + 2, 0, none⟩)]] V (StEnd V (stepP ⟨L, z⟩ (wrP L n s)))) := stepWrite_any L n s hs A c z V (hP.up b0) hz hl hc hzf (w.heap.size + 1) (w.heap.size + 2) (B1.cell 0) (B2.cell 0) B1.lt B2.lt
  rw [HQ.out] at CS
  go_wp2_with fail
  (with_reducible refine CS.out.mono ?_)
  clear CS c0 c1
  rintro _ V2 ⟨A', c', rfl, hF, hc', b2⟩
  have A2 := A1.below b2 A1.lt
  have b3 := b0.trans (b2.mono b0.size)
  clear A0 A1 b0 b2
  obtain ⟨d, e⟩ := Q
  simp only at hF hc'
  go_wp2_with (refine wpList_store_row rfl 37 _ _ rfl (w.heap.size + 3) (dkArr d.files A' c' d.fuse) rfl rfl 37 dkZero A2 (dkInfo _ _ _ _) rfl (dkArr_one _ _ _ _) ?_)
  refine bodyPost_ret (v := .tuple #[.agg (dkArr d.files A' c' d.fuse), .int .i64 e]) ?_ rfl ⟨A', c', rfl, hF.row A2 _, hc', below_setRow b3 (by omega) _⟩
  rw [results_cell_tmp Tryz.results88]
  have hld := run_loadVar_row (P := Tryz.prog) _ _ _ 37 _ _ _ (A2.row (dkArr d.files A' c' d.fuse)) Tryz.underlying37 rfl (dkInfo _ _ _ _)
  simp [asAddr, hld, Result.andThen]
end Go.Proofs.YtkcnogmjnmnbdaaGreatDoor

/- disk.Read; keep.sameDisk, keep.disks: contracts. -/
namespace Go.Proofs.YtkcnogmjnmnbdaaGreatDoor
open Go.RowKit

set_option maxRecDepth 100000 in
set_option maxHeartbeats 1000000 in
theorem DkRead_any (L : List Fl) (n : ByteArray) (A : Option Addr) (c : Nat) (z : Int) (w : World) (hP : Fls w w.heap.size A L) (hz : Sized L) (hl : L.length ≤ 140737488355328) :
    Calls Tryz.prog 54 #[.agg #[.slice A L.length c, .int .i64 z], .string n] w fun e w' => e = .returned (.tuple #[.string (readD ⟨L, z⟩ n).1, .int .i64 (readD ⟨L, z⟩ n).2]) ∧ Below w.heap.size w w' := by
  have A0 : Arr (w.alloc (.cells (dkArr L A c z) 37)) w.heap.size 37 (dkArr L A c z) := Arr.new _ _ _
  have b0 : Below w.heap.size w (w.alloc (.cells (dkArr L A c z) 37)) := (Below.refl _ _).alloc (Nat.le_refl _) _
  have HS : Hid (readD ⟨L, z⟩ n = if !goodD L then ((⟨#[]⟩, 3) : ByteArray × Int) else match getF n L with
    | none => (⟨#[]⟩, 7)
    | some f => (f.safe ++ f.tail, 0)) := rfl
  generalize readD ⟨L, z⟩ n = Q at *
  go_enter Tryz.func54, Tryz.ntmps54
  go_upto_region 1 with fail
  refine wp_forget (fun V => Arr V w.heap.size 37 (dkArr L A c z) ∧ Below w.heap.size w V) (by exact ⟨A0, b0⟩) ?_
  clear A0 b0
  rintro V ⟨A0, b0⟩
  have c0 : V.cell? ⟨w.heap.size, 0, none⟩ = some (.slice A L.length c) := A0.cell 0
  have c1 : V.cell? ⟨w.heap.size, 1, none⟩ = some (.int .i64 z) := A0.cell 1
  have CG : Hid (Calls Tryz.prog 86 #[.agg #[.slice A L.length c, .int .i64 z]] V fun e w' => e = .returned (.bool (goodD L)) ∧ Below V.heap.size V w') := DkGood_any L A c z V (hP.up b0) hz hl
  cases hg : goodD L with
  | false =>
    rw [hg] at CG
    have HQ : Hid (Q = (⟨#[]⟩, 3)) := by show _ = _; rw [HS.out, hg]; rfl
    clear HS hg
    go_wp2_with fail
    (with_reducible refine CG.out.mono ?_)
    clear CG c0 c1
    rintro _ V2 ⟨rfl, b2⟩
    go_wp2_with fail
    go_ret2
    exact ⟨by rw [HQ.out]; rfl, b0.trans (b2.mono b0.size)⟩
  | true =>
    rw [hg] at CG
    obtain ⟨h4, hr, hall⟩ := (goodD_iff L).1 hg
    go_wp2_with fail
    (with_reducible refine CG.out.mono ?_)
    clear CG c0 c1
    rintro _ V2 ⟨rfl, b2⟩
    have A2 := A0.below b2 A0.lt
    have b3 := b0.trans (b2.mono b0.size)
    have c0 : V2.cell? ⟨w.heap.size, 0, none⟩ = some (.slice A L.length c) := A2.cell 0
    have CF := Lib.hid (find_any L n A c V2 (hP.up b3) (by omega) hr)
    clear A0 b0 b2
    cases hbn : hasN n L with
    | false =>
      rw [hbn] at CF
      have HQ : Hid (Q = (⟨#[]⟩, 7)) := by
        show _ = _
        rw [HS.out, hg]
        unfold hasN at hbn
        cases hgf : getF n L with
        | none => rfl
        | some f => rw [hgf] at hbn; cases hbn
      clear HS hg hbn
      go_wp2_with fail
      (with_reducible refine CF.out.mono ?_)
      clear CF c0
      rintro _ V3 ⟨rfl, b4⟩
      go_wp2_with fail
      go_ret2
      exact ⟨by rw [HQ.out]; rfl, b3.trans (b4.mono b3.size)⟩
    | true =>
      rw [hbn] at CF
      obtain ⟨f, hgf, hx, hfn, hlt⟩ := has_some hr hbn
      clear hfn
      have HQ : Hid (Q = (f.safe ++ f.tail, 0)) := by show _ = _; rw [HS.out, hg, hgf]; rfl
      have hfit : f.safe.size + f.tail.size ≤ 1048576 := by
        have := (hall f (List.mem_of_getElem? hx)).2
        unfold fits at this
        exact of_decide_eq_true this
      have hli : (low n L : Int) < L.length := by omega
      generalize low n L = i at *
      clear HS hg hbn hgf hall hr
      go_wp2_with fail
      (with_reducible refine CF.out.mono ?_)
      clear CF c0
      rintro _ V3 ⟨rfl, b4⟩
      have A3 := A2.below b4 A2.lt
      have b5 := b3.trans (b4.mono b3.size)
      obtain ⟨ad, rfl, hbk, d0, d1, d2⟩ := (hP.up b5) i f hx
      have c0 : V3.cell? ⟨w.heap.size, 0, none⟩ = some (.slice (some ad) L.length c) := A3.cell 0
      have CC : Hid (Calls Tryz.prog 92 #[.agg #[.string f.name, .string f.safe, .string f.tail]] V3 fun e w' => e = .returned (.string (f.safe ++ f.tail)) ∧ Below V3.heap.size V3 w') := content_any f (by omega) (by omega) V3
      clear A2 b3 b4 hx
      go_wp2_with fail
      (with_reducible refine CC.out.mono ?_)
      clear CC c0 d0 d1 d2
      rintro _ V4 ⟨rfl, b6⟩
      go_wp2_with fail
      go_ret2
      exact ⟨by rw [HQ.out]; rfl, b5.trans (b6.mono b5.size)⟩
def neF (x y : Fl) : Bool := !(sameB x.name y.name && sameB x.safe y.safe && sameB x.tail y.tail)
theorem neF_iff (x y : Fl) : neF x y = false ↔ x = y := by
  unfold neF
  obtain ⟨a, b, c⟩ := x
  obtain ⟨a', b', c'⟩ := y
  simp [sameB_iff, and_assoc]
set_option maxRecDepth 100000 in
theorem neF_run (a a' b b' c c' : ByteArray) (w : World) :
    (binOp .neq 73 (.agg #[.string a, .string b, .string c]) (.agg #[.string a', .string b', .string c'])).run Tryz.prog w = .ok (.bool (neF ⟨a, b, c⟩ ⟨a', b', c'⟩)) w := by
  unfold neF sameB
  go_simp
  repeat' split
  all_goals simp_all
theorem take_same {α : Type} {T U : List α} {k : Nat} (h : T.take k = U.take k) (h1 : k < T.length) (h2 : k < U.length) (e : T[k] = U[k]) : T.take (k + 1) = U.take (k + 1) := by
  rw [List.take_succ_eq_append_getElem h1, List.take_succ_eq_append_getElem h2, h, e]
/-- two disks, boxed -/
structure Two (w : World) (L M : List Fl) (A B : Option Addr) (c d : Nat) (z y : Int) (W : World) : Prop where
  a : Arr W w.heap.size 37 (dkArr L A c z)
  b : Arr W (w.heap.size + 1) 37 (dkArr M B d y)
  bel : Below w.heap.size w W
theorem Two.drewN {w : World} {L M : List Fl} {A B : Option Addr} {c d : Nat} {z y : Int} {W : World} (h : Two w L M A B c d z y W) (n : Nat) : Two w L M A B c d z y (W.drewN n) := ⟨h.a.drewN n, h.b.drewN n, below_drewN h.bel n⟩
theorem two_start (w : World) (L M : List Fl) (A B : Option Addr) (c d : Nat) (z y : Int) : Two w L M A B c d z y ((w.alloc (.cells (dkArr L A c z) 37)).alloc (.cells (dkArr M B d y) 37)) :=
  ⟨(Arr.new _ _ _).alloc _, Arr.new_at _ _ _ (by simp), ((Below.refl _ _).alloc (Nat.le_refl _) _).alloc (by simp) _⟩
def SdRel (w : World) (L M : List Fl) (A B : Option Addr) (c d : Nat) (z y : Int) (i : Value) (wr : World) : Prop :=
  ∃ k : Nat, k ≤ M.length ∧ i = .int .i64 (k : Int) ∧ L.take k = M.take k ∧ Two w L M A B c d z y wr
set_option maxRecDepth 100000 in
set_option maxHeartbeats 1000000 in
theorem sameDisk_any (L M : List Fl) (A B : Option Addr) (c d : Nat) (z y : Int) (w : World) (hP : Fls w w.heap.size A L) (hQ : Fls w w.heap.size B M) (hl : L.length ≤ 140737488355328) (hm : M.length ≤ 140737488355328) :
    Calls Tryz.prog 29 #[.agg #[.slice A L.length c, .int .i64 z], .agg #[.slice B M.length d, .int .i64 y]] w fun e w' => e = .returned (.bool (decide ((⟨L, z⟩ : Dk) = ⟨M, y⟩))) ∧ Below w.heap.size w w' := by
  have h0 := Lib.hid (two_start w L M A B c d z y)
  have HD : Hid (∀ b : Bool, ((⟨L, z⟩ : Dk) = ⟨M, y⟩ ↔ b = true) → decide ((⟨L, z⟩ : Dk) = ⟨M, y⟩) = b) := fun b hb => by
    cases b with
    | true => exact decide_eq_true (hb.2 rfl)
    | false => exact decide_eq_false (fun e => by have := hb.1 e; cases this)
  have HI : Hid ((⟨L, z⟩ : Dk) = ⟨M, y⟩ ↔ L = M ∧ z = y) := by show _ ↔ _; simp
  generalize decide ((⟨L, z⟩ : Dk) = ⟨M, y⟩) = D at *
  go_enter Tryz.func29, Tryz.ntmps29
  go_upto_region 1 with fail
  refine wp_forget (fun V => Two w L M A B c d z y V) (by exact h0.out) ?_
  clear h0
  intro V T
  have c0 : V.cell? ⟨w.heap.size, 0, none⟩ = some (.slice A L.length c) := T.a.cell 0
  have c1 : V.cell? ⟨w.heap.size, 1, none⟩ = some (.int .i64 z) := T.a.cell 1
  have d0 : V.cell? ⟨w.heap.size + 1, 0, none⟩ = some (.slice B M.length d) := T.b.cell 0
  have d1 : V.cell? ⟨w.heap.size + 1, 1, none⟩ = some (.int .i64 y) := T.b.cell 1
  by_cases hlen : L.length = M.length
  case neg =>
    have hlb : ((L.length : Int) != M.length) = true := by rw [bne_iff_ne]; omega
    have HF : Hid (D = false) := HD.out false (by rw [HI.out]; exact ⟨fun ⟨e, _⟩ => absurd (by rw [e]) hlen, fun e => by cases e⟩)
    clear hlen HD HI
    go_wp2_with fail
    go_ret
    exact ⟨by rw [HF.out]; rfl, T.bel⟩
  have hlb : ((L.length : Int) != M.length) = false := by rw [hlen]; simp
  by_cases hzy : z = y
  case neg =>
    have hzb : (z != y) = true := by rw [bne_iff_ne]; exact hzy
    have HF : Hid (D = false) := HD.out false (by rw [HI.out]; exact ⟨fun ⟨_, e⟩ => absurd e hzy, fun e => by cases e⟩)
    clear hlen hzy HD HI
    go_wp2_with fail
    go_ret
    exact ⟨by rw [HF.out]; rfl, T.bel⟩
  have hzb : (z != y) = false := by rw [hzy]; simp
  have HR : Hid (SdRel w L M A B c d z y (.int .i64 0) V) := ⟨0, Nat.zero_le _, rfl, rfl, T⟩
  have HZ := Lib.hid hzy
  have HLn := Lib.hid hlen
  clear T hzy hlen
  go_wp2_with fail
  clear c0 c1 d0 d1 hlb hzb
  go_loopw [5] (fun i wr => SdRel w L M A B c d z y i wr) (fun i _ => M.length - (intOf i).toNat)
  case atStart => exact HR.out
  case round =>
    clear HR
    obtain ⟨k, hk, rfl, ht, T⟩ := hrel
    have hlen := HLn.out
    have c0 : wr.cell? ⟨w.heap.size, 0, none⟩ = some (.slice A L.length c) := T.a.cell 0
    have d0 : wr.cell? ⟨w.heap.size + 1, 0, none⟩ = some (.slice B M.length d) := T.b.cell 0
    have HT := Lib.hid ht
    clear ht
    by_cases hlt : k < M.length
    · have hlt2 : k < L.length := by omega
      have hj : (k : Int) < L.length := by omega
      have hj2 : (k : Int) < M.length := by omega
      obtain ⟨ad, rfl, hbl, h0, h1, h2⟩ := hP k L[k] (List.getElem?_eq_getElem hlt2)
      obtain ⟨ad2, rfl, hbl2, h0', h1', h2'⟩ := hQ k M[k] (List.getElem?_eq_getElem hlt)
      have g0 := (T.bel.cell hbl).trans h0
      have g1 := (T.bel.cell (p := ⟨(ad.add (k * 3)).block, (ad.add (k * 3)).off + 1, none⟩) hbl).trans h1
      have g2 := (T.bel.cell (p := ⟨(ad.add (k * 3)).block, (ad.add (k * 3)).off + 2, none⟩) hbl).trans h2
      have g3 := (T.bel.cell hbl2).trans h0'
      have g4 := (T.bel.cell (p := ⟨(ad2.add (k * 3)).block, (ad2.add (k * 3)).off + 1, none⟩) hbl2).trans h1'
      have g5 := (T.bel.cell (p := ⟨(ad2.add (k * 3)).block, (ad2.add (k * 3)).off + 2, none⟩) hbl2).trans h2'
      have HS := Lib.hid (fun e => take_same HT.out hlt2 hlt e)
      have HN : Hid (L[k] ≠ M[k] → D = false) := fun h => HD.out false (by rw [HI.out]; exact ⟨fun ⟨e, _⟩ => by subst e; exact absurd rfl h, fun e => by cases e⟩)
      clear h0 h1 h2 h0' h1' h2' HT hlen
      generalize L[k] = x at *
      generalize M[k] = x' at *
      obtain ⟨x1, x2, x3⟩ := x
      obtain ⟨y1, y2, y3⟩ := x'
      simp only at g0 g1 g2 g3 g4 g5
      have hne := neF_run x1 y1 x2 y2 x3 y3
      cases hq : neF ⟨x1, x2, x3⟩ ⟨y1, y2, y3⟩
      · have HS2 := Lib.hid (HS.out ((neF_iff _ _).1 hq))
        rw [hq] at hne
        clear HS HN hq
        go_wp2_with fail
        go_quiet (fail)
        go_wp2_with fail
        refine ⟨⟨k + 1, hlt, by go_num, HS2.out, T.drewN _⟩, by simp [intOf]; omega⟩
      · have HF := Lib.hid (HN.out (fun e => by have := (neF_iff _ _).2 e; rw [this] at hq; cases hq))
        rw [hq] at hne
        clear HS HN hq
        go_wp2_with fail
        go_quiet (fail)
        go_wp2_with fail
        go_ret
        exact ⟨by rw [HF.out]; rfl, below_drewN T.bel _⟩
    · obtain rfl : k = M.length := by omega
      have hj : ¬ (M.length : Int) < L.length := by omega
      have HF : Hid (D = true) := HD.out true (by
        rw [HI.out]
        refine ⟨fun _ => rfl, fun _ => ⟨?_, HZ.out⟩⟩
        have := HT.out
        rwa [List.take_length, List.take_of_length_le (by omega)] at this)
      clear HT hlen
      go_wp2_with fail
      go_ret
      exact ⟨by rw [HF.out]; rfl, T.bel⟩
end Go.Proofs.YtkcnogmjnmnbdaaGreatDoor

/- keep.disks, law.disks; what a step leaves. -/
namespace Go.Proofs.YtkcnogmjnmnbdaaGreatDoor
open Go.RowKit

theorem good_sized {L : List Fl} (h : goodD L = true) : Sized L ∧ L.length ≤ 400 := by
  obtain ⟨h1, _, h3⟩ := (goodD_iff L).1 h
  refine ⟨fun f hf => ?_, h1⟩
  obtain ⟨k1, k2⟩ := h3 f hf
  unfold named at k1
  unfold fits at k2
  have k2 := of_decide_eq_true k2
  rw [Bool.and_eq_true, Bool.and_eq_true, decide_eq_true_iff, decide_eq_true_iff] at k1
  exact ⟨by omega, by omega, by omega⟩
def aT : ByteArray := ⟨#[97]⟩
def bT : ByteArray := ⟨#[98]⟩
theorem disks_step : stepP ⟨[], -1⟩ (wrP [] aT bT) = (⟨[⟨aT, ⟨#[]⟩, bT⟩], -1⟩, 0) := by decide +kernel
theorem disks_named : named ⟨#[97, 46, 98, 45, 99]⟩ = true := by decide +kernel
/-- what a step that says no leaves -/
theorem step_no {d : Dk} {r : Except Int (List Fl)} (h : (stepP d r).2 ≠ 0) : (stepP d r).1 = d := by
  unfold stepP at h ⊢
  split
  · rfl
  · rename_i h1
    rw [if_neg h1] at h
    split
    · rfl
    · rename_i h2
      rw [if_neg h2] at h
      cases r with
      | error e => rfl
      | ok L => exact absurd rfl h
theorem step_yes {d : Dk} {r : Except Int (List Fl)} (hr : ∀ e, r = .error e → e ≠ 0) (h : (stepP d r).2 = 0) : goodD d.files = true ∧ d.fuse ≠ 0 ∧ ∃ L, r = .ok L ∧ stepP d r = (⟨L, burnt d.fuse⟩, 0) := by
  unfold stepP at h ⊢
  cases hg : goodD d.files with
  | false => rw [hg] at h; simp at h
  | true =>
    rw [hg] at h
    simp only [Bool.not_true, Bool.false_eq_true, if_false] at h ⊢
    by_cases hz : d.fuse = 0
    · rw [if_pos hz] at h; simp at h
    · rw [if_neg hz] at h ⊢
      cases r with
      | error e => exact absurd h (hr e rfl)
      | ok L => exact ⟨trivial, hz, L, rfl, rfl⟩
theorem rn_err {L : List Fl} {n m : ByteArray} : ∀ e, rnP L n m = .error e → e ≠ 0 := fun e h => by
  unfold rnP at h
  split at h
  · cases h; decide
  · split at h
    · cases h; decide
    · cases h
theorem rn_ok {L L' : List Fl} {n m : ByteArray} (hG : goodD L = true) (h : rnP L n m = .ok L') : ∃ f, getF n L = some f ∧ getF m L' = some ⟨m, f.safe, f.tail⟩ ∧ (n ≠ m → getF n L' = none) ∧ goodD L' = true := by
  obtain ⟨h4, hr, hall⟩ := (goodD_iff L).1 hG
  unfold rnP at h
  cases hm : named m with
  | false => rw [hm] at h; simp at h
  | true =>
    rw [hm] at h
    simp only [Bool.not_true, Bool.false_eq_true, if_false] at h
    cases hf : getF n L with
    | none => rw [hf] at h; cases h
    | some f =>
      rw [hf] at h
      cases h
      have hdr := del_ris n L _ hr
      refine ⟨f, rfl, ?_, fun hne => ?_, ?_⟩
      · rw [getF_put m _ _ _ hdr, if_pos rfl]
      · rw [getF_put n _ _ _ hdr, if_neg (fun e => hne e.symm), getF_del, if_pos rfl]
      · have hx := (fits_get hG hf).2
        refine good_put (good_del hG) hm hx (.inr ?_)
        have hn := getF_name hf
        have : (del n L).length < L.length := by
          have hs : (getF n L).isSome = true := by rw [hf]; rfl
          have hlt := (has_some hr (n := n) (by unfold hasN; exact hs))
          obtain ⟨_, _, _, _, hlt⟩ := hlt
          rw [del_cut n L _ hr hs, List.length_append, List.length_take, List.length_drop]
          omega
        omega
end Go.Proofs.YtkcnogmjnmnbdaaGreatDoor

/- store.fileName, store.Get: contracts. -/
namespace Go.Proofs.YtkcnogmjnmnbdaaGreatDoor
open Go.RowKit

theorem sumB_size (s : ByteArray) : (sumB s).size = 32 := by
  unfold sumB
  rw [bs_size]
  exact digest_length _ (blocks_len8 _ _ (blocks_len8 _ _ rfl))
theorem readD_size (d : Dk) (n : ByteArray) : (readD d n).1.size ≤ 1048576 := by
  unfold readD
  cases hG : goodD d.files with
  | false => exact Nat.zero_le _
  | true =>
    simp only [Bool.not_true, Bool.false_eq_true, if_false]
    split
    · exact Nat.zero_le _
    · rename_i f hf
      obtain ⟨_, h2⟩ := fits_get hG hf
      unfold fits at h2
      have := of_decide_eq_true h2
      show (f.safe ++ f.tail).size ≤ _
      rw [ByteArray.size_append]
      exact this
theorem fileName_st (id : ByteArray) (hi : id.size = 32) (w : World) : Calls Tryz.prog 53 #[.string id] w fun e w' => e = .returned (.string (fileN id)) ∧ Below w.heap.size w w' := by
  have C := Lib.hid (Hex_any id (by omega) w)
  have hh : (bs (hexOf id.data.toList)).size ≤ 64 := by rw [bs_size, hexOf_length]; show 2 * id.size ≤ 64; omega
  have HF : Hid (fileN id = ⟨#[111]⟩ ++ bs (hexOf id.data.toList)) := rfl
  clear hi
  generalize bs (hexOf id.data.toList) = H at *
  generalize fileN id = F at *
  go_enter Tryz.func53, Tryz.ntmps53
  go_wp2_with fail
  (with_reducible refine C.out.mono ?_)
  rintro _ w1 ⟨rfl, b1⟩
  go_wp2_with fail
  go_ret
  exact ⟨by rw [HF.out]; rfl, b1⟩
/-- a disk argument in its block -/
def Pv (w : World) (L : List Fl) (A : Option Addr) (c : Nat) (z : Int) (W : World) : Prop :=
  Arr W w.heap.size 37 (dkArr L A c z) ∧ Fls W W.heap.size A L ∧ Below w.heap.size w W
theorem Pv.start {w : World} {L : List Fl} {A : Option Addr} {c : Nat} {z : Int} (hP : Fls w w.heap.size A L) : Pv w L A c z (w.alloc (.cells (dkArr L A c z) 37)) :=
  have b0 : Below w.heap.size w (w.alloc (.cells (dkArr L A c z) 37)) := (Below.refl _ _).alloc (Nat.le_refl _) _
  ⟨Arr.new _ _ _, hP.up b0, b0⟩
theorem Pv.below {w : World} {L : List Fl} {A : Option Addr} {c : Nat} {z : Int} {W W' : World} (h : Pv w L A c z W) (b : Below W.heap.size W W') : Pv w L A c z W' := ⟨h.1.below b h.1.lt, h.2.1.up b, h.2.2.trans (b.mono h.2.2.size)⟩
theorem Pv.drew {w : World} {L : List Fl} {A : Option Addr} {c : Nat} {z : Int} {W : World} (h : Pv w L A c z W) : Pv w L A c z W.drew := h.below (below_drewN (Below.refl _ _) 1)
theorem Pv.hold {w : World} {L : List Fl} {A : Option Addr} {c : Nat} {z : Int} {W : World} (h : Pv w L A c z W) : W.cell? ⟨w.heap.size, 0, none⟩ = some (.slice A L.length c) ∧ W.cell? ⟨w.heap.size, 1, none⟩ = some (.int .i64 z) := ⟨h.1.cell 0, h.1.cell 1⟩
theorem Pv.fls {w : World} {L : List Fl} {A : Option Addr} {c : Nat} {z : Int} {W : World} (h : Pv w L A c z W) : Fls W W.heap.size A L := h.2.1
theorem Pv.bel {w : World} {L : List Fl} {A : Option Addr} {c : Nat} {z : Int} {W : World} (h : Pv w L A c z W) : Below w.heap.size w W := h.2.2
set_option maxRecDepth 100000 in
set_option maxHeartbeats 1000000 in
theorem Get_st (L : List Fl) (id : ByteArray) (A : Option Addr) (c : Nat) (z : Int) (w : World) (hP : Fls w w.heap.size A L) (hz : Sized L) (hl : L.length ≤ 140737488355328) (ht : Tab w) :
    Calls Tryz.prog 24 #[.agg #[.slice A L.length c, .int .i64 z], .string id] w fun e w' => e = .returned (.tuple #[.string (getO ⟨L, z⟩ id).1, .int .i64 (getO ⟨L, z⟩ id).2]) ∧ Below w.heap.size w w' := by
  have A0 : Arr (w.alloc (.cells (dkArr L A c z) 37)) w.heap.size 37 (dkArr L A c z) := Arr.new _ _ _
  have b0 : Below w.heap.size w (w.alloc (.cells (dkArr L A c z) 37)) := (Below.refl _ _).alloc (Nat.le_refl _) _
  have HS : Hid (getO ⟨L, z⟩ id = if id.size ≠ 32 then (⟨#[]⟩, 2) else tellR (readD ⟨L, z⟩ (fileN id)) id) := rfl
  have CF := fun h V => Lib.hid (fileName_st id h V)
  have hs := readD_size ⟨L, z⟩ (fileN id)
  have CR := fun V h => Lib.hid (DkRead_any L (fileN id) A c z V h hz hl)
  generalize getO ⟨L, z⟩ id = Q at *
  by_cases hi : id.size = 32
  case neg =>
    have hne : ((id.size : Int) != 32) = true := by rw [bne_iff_ne]; omega
    have HQ : Hid (Q = (⟨#[]⟩, 2)) := by show _ = _; rw [HS.out, if_pos hi]
    clear HS hi CF CR hs
    go_enter Tryz.func24, Tryz.ntmps24
    go_wp2_with fail
    go_ret2
    exact ⟨by rw [HQ.out]; rfl, b0⟩
  have hne : ((id.size : Int) != 32) = false := by rw [hi]; rfl
  replace CF := CF hi
  have HS1 : Hid (Q = tellR (readD ⟨L, z⟩ (fileN id)) id) := by show _ = _; rw [HS.out, if_neg (fun h => h hi)]
  clear HS hi
  generalize fileN id = F at *
  have HS2 : Hid (Q = if (readD ⟨L, z⟩ F).2 ≠ 0 then (⟨#[]⟩, (readD ⟨L, z⟩ F).2) else if sumB (readD ⟨L, z⟩ F).1 ≠ id then (⟨#[]⟩, 5) else ((readD ⟨L, z⟩ F).1, 0)) := HS1
  clear HS1
  generalize readD ⟨L, z⟩ F = R at *
  obtain ⟨s, e⟩ := R
  have hs' : s.size ≤ 1048576 := hs
  clear hs
  go_enter Tryz.func24, Tryz.ntmps24
  replace CR : ∀ V, Fls V V.heap.size A L → Hid (Calls Tryz.prog 54 #[.agg #[.slice A L.length c, .int .i64 z], .string F] V fun x w' => x = .returned (.tuple #[.string s, .int .i64 e]) ∧ Below V.heap.size V w') := CR
  have hV0 : Pv w L A c z (w.alloc (.cells (dkArr L A c z) 37)) := Pv.start hP
  go_upto_region 3 with fail
  refine wp_forget (Pv w L A c z) (by exact hV0) ?_
  clear hV0 A0 b0
  intro V hV0
  have hV := hV0.drew
  go_wp2_with fail
  go_region_held3 (fun w' => w'.cell? ⟨w.heap.size, 0, none⟩ = some (.slice A L.length c) ∧ w'.cell? ⟨w.heap.size, 1, none⟩ = some (.int .i64 z))
    (first | exact hV.hold | exact hV1.hold | exact hV2.hold)
    (first
      | (go_at_call 53
         (with_reducible refine (CF _).out.mono ?_)
         rintro _ w1 ⟨rfl, b1⟩
         have hV1 := hV.below b1)
      | (go_at_call 54
         (with_reducible refine (CR _ hV1.fls).out.mono ?_)
         rintro _ w2 ⟨rfl, b2⟩
         have hV2 := hV1.below b2))
  have b0 := hV2.bel
  go_upto_region 4 with fail
  refine wp_forget (fun W => Below w.heap.size w W) (by exact b0) ?_
  clear b0 hV0 hV hV1 hV2 b1 b2 CF CR
  rintro V3 b0
  have hT : Tab V3 := ht.below b0 ht.1
  by_cases he : e = 0
  case neg =>
    have hb : (e != 0) = true := by rw [bne_iff_ne]; exact he
    have HQ : Hid (Q = (⟨#[]⟩, e)) := by show _ = _; rw [HS2.out, if_pos he]
    clear HS2 he
    go_wp2_with fail
    go_ret2
    exact ⟨by rw [HQ.out]; rfl, b0⟩
  subst he
  have CI : Hid (Calls Tryz.prog 50 #[.string s] V3 fun x w' => x = .returned (.string (sumB s)) ∧ Below V3.heap.size V3 w') := Id_any s (by omega) V3 hT
  have HS3 : Hid (Q = if sumB s ≠ id then (⟨#[]⟩, 5) else (s, 0)) := by show _ = _; rw [HS2.out, if_neg (fun h => h rfl)]
  clear HS2
  generalize sumB s = I at *
  go_wp2_with fail
  (with_reducible refine CI.out.mono ?_)
  clear CI
  rintro _ V4 ⟨rfl, b2⟩
  replace b0 := b0.trans (b2.mono b0.size)
  clear b2
  by_cases h : I = id
  · have hb : (I.toList == id.toList) = true := by rw [h]; exact beq_self_eq_true _
    have HQ : Hid (Q = (s, 0)) := by show _ = _; rw [HS3.out, if_neg (fun q => q h)]
    clear HS3 h
    go_wp2_with fail
    go_ret2
    exact ⟨by rw [HQ.out]; rfl, b0⟩
  · have hb : (I.toList == id.toList) = false := by
      rw [beq_eq_false_iff_ne]
      intro q
      rw [toList_data, toList_data] at q
      exact h (bytes_eq q)
    have HQ : Hid (Q = (⟨#[]⟩, 5)) := by show _ = _; rw [HS3.out, if_pos h]
    clear HS3 h
    go_wp2_with fail
    go_ret2
    exact ⟨by rw [HQ.out]; rfl, b0⟩
end Go.Proofs.YtkcnogmjnmnbdaaGreatDoor
