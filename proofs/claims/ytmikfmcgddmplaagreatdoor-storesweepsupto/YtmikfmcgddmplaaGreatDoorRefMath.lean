/- Texts in one: DkCh5, DkStep, DkSteps, DkRead, DkDisks, StGet, StLoad, StReach, StLoadT, StDesc, StTeL, RefMath. -/
import Derived.Test.YtmikfmcgddmplaaGreatDoorDkCh4
import Derived.Deep.RegionHeld3
import Derived.Test.YtmikfmcgddmplaaGreatDoorOApp
import Derived.Test.YtmikfmcgddmplaaGreatDoorOEncB
import Derived.Test.YtmikfmcgddmplaaGreatDoorStReachP
import Derived.Test.YtmikfmcgddmplaaGreatDoorSMap
import Derived.Test.YtmikfmcgddmplaaGreatDoorOLinks
import Derived.Test.YtmikfmcgddmplaaGreatDoorShb
/- The change of Write. -/
namespace Go.Proofs.YtmikfmcgddmplaaGreatDoor
open Go.RowKit

theorem take_tail {C : List Value} {L : List Fl} {i cap : Nat} {f : Fl} {t : ByteArray} (hC : C.take (L.length * 3) = flCells L) (hcs : C.length = cap * 3) (hnc : L.length ≤ cap) (hi : L[i]? = some f) :
    (C.set (i * 3 + 2) (.string t)).take (L.length * 3) = flCells (L.set i ⟨f.name, f.safe, t⟩) := by
  have hlt := (List.getElem?_eq_some_iff.1 hi).1
  have h1 := take_set2 (f' := ⟨f.name, f.safe, t⟩) (u := .string f.safe) (v := .string t) hC hcs hnc hi rfl rfl rfl
  have e : C.set (i * 3 + 1) (.string f.safe) = C := by
    have hc : C[i * 3 + 1]? = some (.string f.safe) := by
      have := flCells_at L i 1 f hi (by omega)
      rw [← hC, List.getElem?_take_of_lt (by omega)] at this
      exact this
    obtain ⟨hl, he⟩ := List.getElem?_eq_some_iff.1 hc
    rw [← he, List.set_getElem_self]
  rw [e] at h1
  exact h1
set_option maxRecDepth 100000 in
set_option maxHeartbeats 2000000 in
theorem writeCh_any (L : List Fl) (n s : ByteArray) (hs : s.size ≤ 140737488355328) (hG : goodD L = true) (v : Value) (base p1 p2 : Nat) (V : World) (h : V.ownsRow base 68 3 v L.length (flCells L)) (hp1 : V.cell? ⟨p1, 0, none⟩ = some (.string n)) (hp2 : V.cell? ⟨p2, 0, none⟩ = some (.string s)) (hq1 : p1 < base) (hq2 : p2 < base) (hb : base ≤ V.heap.size) :
    Calls Tryz.prog 134 #[v, .pointer (some ⟨p1, 0, none⟩), .pointer (some ⟨p2, 0, none⟩)] V (ChEnd base (wrP L n s) V) := by
  obtain ⟨h4, hr, hall⟩ := (goodD_iff L).1 hG
  have CN := Lib.hid (Named_any n V)
  cases hnm : named n with
  | false =>
    have HR : Hid (wrP L n s = .error 2) := by show _ = _; unfold wrP; rw [hnm]; rfl
    rw [hnm] at CN
    go_enter Tryz.func134, Tryz.ntmps134
    go_wp2_with fail
    (with_reducible refine CN.out.mono ?_)
    rintro _ V ⟨rfl, rfl⟩
    go_wp2_with fail
    go_ret2
    rw [HR.out]
    exact ⟨⟨rfl, rfl⟩, Below.refl _ _⟩
  | true =>
    rw [hnm] at CN
    obtain ⟨A, c, rfl, hc, hF⟩ := own_files h
    have C1 := Lib.hid (find_any L n A c V hF (by omega) hr)
    have hown : ∀ k, (Value.slice A L.length c).ownBlock = some k → k < V.heap.size := fun k hk => by
      rcases h.2 with ⟨e0, _⟩ | ⟨g, cap, cur, e0, _, hg, _⟩
      · rw [e0] at hk; cases hk
      · rw [e0] at hk
        have e1 : g = k := Option.some.inj hk
        have := (Array.getElem?_eq_some_iff.1 hg).1
        omega
    cases hbn : hasN n L with
    | false =>
      have hg0 : getF n L = none := by
        unfold hasN at hbn
        cases hg : getF n L with
        | none => rfl
        | some f => rw [hg] at hbn; cases hbn
      rw [hbn] at C1
      by_cases hfull : 400 ≤ L.length
      · have HR : Hid (wrP L n s = .error 6) := by show _ = _; unfold wrP; rw [hnm, hg0]; simp only [Bool.not_true, Bool.false_eq_true, if_false]; rw [if_pos hfull]
        have hfi : (400 : Int) ≤ L.length := by omega
        clear hnm hbn
        go_enter Tryz.func134, Tryz.ntmps134
        go_wp2_with fail
        (with_reducible refine CN.out.mono ?_)
        rintro _ V ⟨rfl, rfl⟩
        go_wp2_with fail
        (with_reducible refine C1.out.mono ?_)
        clear C1
        rintro _ V2 ⟨rfl, b2⟩
        go_wp2_with fail
        go_ret2
        rw [HR.out]
        exact ⟨⟨rfl, rfl⟩, b2.mono hb⟩
      · have hfi : ¬ (400 : Int) ≤ L.length := by omega
        have hpi := put_ins hr hbn (f' := ⟨n, ⟨#[]⟩, s⟩) rfl
        have hlo := low_le n L
        have CI := fun V1 vb h1 h2 h3 h4 => Lib.hid (Insert_any L (low n L) hlo ⟨n, ⟨#[]⟩, ⟨#[]⟩⟩ (by omega) (.slice A L.length c) base V1 h1 vb h2 h3 h4)
        have HRR : Hid (wrP L n s = if 1048576 < s.size then .error 1 else .ok ((L.take (low n L) ++ ⟨n, ⟨#[]⟩, ⟨#[]⟩⟩ :: L.drop (low n L)).set (low n L) ⟨n, ⟨#[]⟩, s⟩)) := by
          show _ = _
          unfold wrP
          rw [hnm, hg0]
          simp only [Bool.not_true, Bool.false_eq_true, if_false]
          rw [if_neg hfull, hpi]
          have hl : (L.take (low n L)).length = low n L := by rw [List.length_take]; omega
          rw [List.set_append_right _ _ (by omega), hl, Nat.sub_self, List.set_cons_zero]
        have hx0 : (L.take (low n L) ++ (⟨n, ⟨#[]⟩, ⟨#[]⟩⟩ : Fl) :: L.drop (low n L))[low n L]? = some ⟨n, ⟨#[]⟩, ⟨#[]⟩⟩ := by
          have hl : (L.take (low n L)).length = low n L := by rw [List.length_take]; omega
          rw [List.getElem?_append_right (by omega), hl, Nat.sub_self]
          rfl
        have hlen : (L.take (low n L) ++ (⟨n, ⟨#[]⟩, ⟨#[]⟩⟩ : Fl) :: L.drop (low n L)).length = L.length + 1 := by rw [List.length_append, List.length_cons, List.length_take, List.length_drop]; omega
        obtain ⟨L1, hL1⟩ : ∃ L1, L1 = L.take (low n L) ++ (⟨n, ⟨#[]⟩, ⟨#[]⟩⟩ : Fl) :: L.drop (low n L) := ⟨_, rfl⟩
        rw [← hL1] at CI HRR hx0 hlen
        obtain ⟨x, hxe⟩ : ∃ x : Fl, x = ⟨n, ⟨#[]⟩, ⟨#[]⟩⟩ := ⟨_, rfl⟩
        have hx : L1[low n L]? = some x := by rw [hxe]; exact hx0
        have hfit : x.safe.size + x.tail.size ≤ 1048576 := by rw [hxe]; show 0 + 0 ≤ 1048576; omega
        replace HRR : Hid (wrP L n s = if 1048576 < x.safe.size + x.tail.size + s.size then .error 1 else .ok (L1.set (low n L) ⟨x.name, x.safe, x.tail ++ s⟩)) := by
          show _ = _
          rw [HRR.out, hxe]
          show _ = if 1048576 < 0 + 0 + s.size then _ else Except.ok (L1.set (low n L) ⟨n, ⟨#[]⟩, (⟨#[]⟩ : ByteArray) ++ s⟩)
          simp only [empty_append, Nat.zero_add]
        have hil : low n L < L1.length := (List.getElem?_eq_some_iff.1 hx).1
        have hl1 : L1.length ≤ 1000 := by omega
        generalize wrP L n s = R at *
        generalize low n L = i at *
        clear hnm hbn hpi hx0 hL1 hxe hg0 hlen
        go_enter Tryz.func134, Tryz.ntmps134
        go_wp2_with fail
        (with_reducible refine CN.out.mono ?_)
        rintro _ V ⟨rfl, rfl⟩
        go_wp2_with fail
        (with_reducible refine C1.out.mono ?_)
        clear C1 CN
        rintro _ V2 ⟨rfl, b2⟩
        have h2 := dk_own_below h b2
        have bel2 := b2.mono hb
        have hb2 := Nat.le_trans hb b2.size
        have g1 : V2.cell? ⟨p1, 0, none⟩ = some (.string n) := (bel2.cell (p := ⟨p1, 0, none⟩) hq1).trans hp1
        have g2 : V2.cell? ⟨p2, 0, none⟩ = some (.string s) := (bel2.cell (p := ⟨p2, 0, none⟩) hq2).trans hp2
        have b3 : Below V2.heap.size V2 (V2.alloc (.cells (flArr ⟨n, ⟨#[]⟩, ⟨#[]⟩⟩) 68)) := (Below.refl _ _).alloc (Nat.le_refl _) _
        have C2 := CI (V2.alloc (.cells (flArr ⟨n, ⟨#[]⟩, ⟨#[]⟩⟩) 68)) V2.heap.size (dk_own_below h2 b3) (Arr.new _ _ _) (fun e => by have := hown _ e; have := b2.size; omega) (Nat.le_trans hb2 b3.size)
        have HG := Lib.hid (fun w' k => grown_base (w' := w') (dk_own_below h2 b3) (Nat.le_trans hb2 b3.size) k)
        have bel3 : Below base V (V2.alloc (.cells (flArr ⟨n, ⟨#[]⟩, ⟨#[]⟩⟩) 68)) := bel2.trans (b3.mono hb2)
        have hb3 : base ≤ (V2.alloc (.cells (flArr ⟨n, ⟨#[]⟩, ⟨#[]⟩⟩) 68)).heap.size := Nat.le_trans hb2 b3.size
        clear CI hp1 hF h
        unfold flArr at C2
        go_wp2_with fail
        (with_reducible refine C2.out.mono ?_)
        clear C2
        rintro _ W ⟨v', rfl, hW, k4⟩
        have belW := bel3.trans (HG.out _ k4)
        have hbW := Nat.le_trans hb3 k4.size
        have cS : W.cell? ⟨p2, 0, none⟩ = some (.string s) := (belW.cell (p := ⟨p2, 0, none⟩) hq2).trans hp2
        clear bel3 HG b3 g1 g2 h2 bel2 hb3 k4
        rcases hW.2 with ⟨e0, hn0⟩ | ⟨g, cap, cur, e0, hbg, hg0, hnc, hcm, hcs0, htake⟩
        · omega
        subst e0
        have hgA : Arr W g 68 cur.toList.toArray := Arr.toL hg0
        have hcs : cur.toList.length = cap * 3 := by rw [Array.length_toList, hcs0]
        clear hg0 hcs0 hW
        generalize cur.toList = C at *
        have hcat : ∀ j, j < 3 → C[i * 3 + j]? = (flArr x).toList[j]? := fun j hj => by
          rw [← flCells_at L1 i j x hx hj, ← htake, List.getElem?_take_of_lt (by omega)]
        have hgs : g ≠ p2 := by omega
        have hcell : ∀ W' : World, Arr W' g 68 C.toArray → W'.cell? ⟨g, i * 3, none⟩ = some (.string x.name) ∧ W'.cell? ⟨g, i * 3 + 1, none⟩ = some (.string x.safe) ∧ W'.cell? ⟨g, i * 3 + 2, none⟩ = some (.string x.tail) := fun W' hA => by
          refine ⟨?_, ?_, ?_⟩
          · rw [hA.cell, List.getElem?_toArray]; exact hcat 0 (by omega)
          · rw [hA.cell, List.getElem?_toArray]; exact hcat 1 (by omega)
          · rw [hA.cell, List.getElem?_toArray]; exact hcat 2 (by omega)
        have HC := Lib.hid hcell
        have hli : (i : Int) < L1.length := by omega
        have CS : Hid (∀ W', Calls Tryz.prog 132 #[.agg #[.string x.name, .string x.safe, .string x.tail]] W' fun e w' => e = .returned (.int .i64 ((x.safe.size + x.tail.size : Nat) : Int)) ∧ Below W'.heap.size W' w') := fun W' => size_any x (by omega) (by omega) W'
        have HTk := Lib.hid htake
        have HX := Lib.hid hx
        clear hcell hcat htake hx
        by_cases hbig : 1048576 < x.safe.size + x.tail.size + s.size
        · have HR : Hid (R = .error 1) := by show _ = _; rw [HRR.out, if_pos hbig]
          have hj : (1048576 : Int) < ((x.safe.size + x.tail.size : Nat) : Int) + s.size := by omega
          have hsz : ((x.safe.size + x.tail.size : Nat) : Int) ≤ 1048576 := by omega
          obtain ⟨a0, a1, a2⟩ := HC.out W.drew hgA.drew
          have aS : W.drew.cell? ⟨p2, 0, none⟩ = some (.string s) := cS
          have S6 : W.drew.cell? ⟨g, i * 3, none⟩ = some (.string x.name) ∧ W.drew.cell? ⟨g, i * 3 + 1, none⟩ = some (.string x.safe) ∧ W.drew.cell? ⟨g, i * 3 + 2, none⟩ = some (.string x.tail) ∧ W.drew.cell? ⟨p2, 0, none⟩ = some (.string s) := ⟨a0, a1, a2, aS⟩
          clear a0 a1 a2 aS cS
          generalize x.safe.size + x.tail.size = sz at *
          have hwr : IntKind.i64.wrap ((sz : Int) + (s.size : Int)) = (sz : Int) + (s.size : Int) := IntWalk.i64_in _ (by omega)
          go_wp2_with fail
          go_region_held3 (fun w' => w'.cell? ⟨g, i * 3, none⟩ = some (.string x.name) ∧ w'.cell? ⟨g, i * 3 + 1, none⟩ = some (.string x.safe) ∧ w'.cell? ⟨g, i * 3 + 2, none⟩ = some (.string x.tail) ∧ w'.cell? ⟨p2, 0, none⟩ = some (.string s))
            (first | exact S6 | exact S7)
            (first
              | (go_at_call 132
                 (with_reducible refine (CS.out _).mono ?_)
                 rintro _ W7 ⟨rfl, b7⟩
                 have S7 : W7.cell? ⟨g, i * 3, none⟩ = some (.string x.name) ∧ W7.cell? ⟨g, i * 3 + 1, none⟩ = some (.string x.safe) ∧ W7.cell? ⟨g, i * 3 + 2, none⟩ = some (.string x.tail) ∧ W7.cell? ⟨p2, 0, none⟩ = some (.string s) := by
                   obtain ⟨a0, a1, a2⟩ := HC.out W7 (hgA.drew.below b7 hgA.lt)
                   exact ⟨a0, a1, a2, (b7.cell (p := ⟨p2, 0, none⟩) (by show p2 < W.heap.size; omega)).trans S6.2.2.2⟩)
              | fail)
          go_wp2_with fail
          go_ret2
          rw [HR.out]
          exact ⟨⟨rfl, rfl⟩, belW.drew.trans (b7.mono hbW)⟩
        · have HR : Hid (R = .ok (L1.set i ⟨x.name, x.safe, x.tail ++ s⟩)) := by show _ = _; rw [HRR.out, if_neg hbig]
          have hj : ¬ (1048576 : Int) < ((x.safe.size + x.tail.size : Nat) : Int) + s.size := by omega
          have hsz : ((x.safe.size + x.tail.size : Nat) : Int) ≤ 1048576 := by omega
          have htl : x.tail.size ≤ 1048576 := by omega
          have hss : s.size ≤ 1048576 := by omega
          obtain ⟨a0, a1, a2⟩ := HC.out W.drew hgA.drew
          have aS : W.drew.cell? ⟨p2, 0, none⟩ = some (.string s) := cS
          have S6 : W.drew.cell? ⟨g, i * 3, none⟩ = some (.string x.name) ∧ W.drew.cell? ⟨g, i * 3 + 1, none⟩ = some (.string x.safe) ∧ W.drew.cell? ⟨g, i * 3 + 2, none⟩ = some (.string x.tail) ∧ W.drew.cell? ⟨p2, 0, none⟩ = some (.string s) := ⟨a0, a1, a2, aS⟩
          clear a0 a1 a2 aS cS
          generalize x.safe.size + x.tail.size = sz at *
          have hwr : IntKind.i64.wrap ((sz : Int) + (s.size : Int)) = (sz : Int) + (s.size : Int) := IntWalk.i64_in _ (by omega)
          go_wp2_with fail
          go_region_held3 (fun w' => w'.cell? ⟨g, i * 3, none⟩ = some (.string x.name) ∧ w'.cell? ⟨g, i * 3 + 1, none⟩ = some (.string x.safe) ∧ w'.cell? ⟨g, i * 3 + 2, none⟩ = some (.string x.tail) ∧ w'.cell? ⟨p2, 0, none⟩ = some (.string s))
            (first | exact S6 | exact S7)
            (first
              | (go_at_call 132
                 (with_reducible refine (CS.out _).mono ?_)
                 rintro _ W7 ⟨rfl, b7⟩
                 have S7 : W7.cell? ⟨g, i * 3, none⟩ = some (.string x.name) ∧ W7.cell? ⟨g, i * 3 + 1, none⟩ = some (.string x.safe) ∧ W7.cell? ⟨g, i * 3 + 2, none⟩ = some (.string x.tail) ∧ W7.cell? ⟨p2, 0, none⟩ = some (.string s) := by
                   obtain ⟨a0, a1, a2⟩ := HC.out W7 (hgA.drew.below b7 hgA.lt)
                   exact ⟨a0, a1, a2, (b7.cell (p := ⟨p2, 0, none⟩) (by show p2 < W.heap.size; omega)).trans S6.2.2.2⟩)
              | fail)
          have A7 := hgA.drew.below b7 hgA.lt
          have bel7 := belW.drew.trans (b7.mono hbW)
          have hb7 : base ≤ W7.heap.size := Nat.le_trans hbW b7.size
          obtain ⟨_, _, d2, dS⟩ := S7
          have d2' : W7.drew.cell? ⟨g, i * 3 + 2, none⟩ = some (.string x.tail) := d2
          have dS' : W7.drew.cell? ⟨p2, 0, none⟩ = some (.string s) := dS
          have e2 : W7.drew.frozen? ⟨g, i * 3 + 2, none⟩ = false := A7.free _
          have A8 := A7.drew.put (i * 3 + 2) (.string (x.tail ++ s))
          rw [List.setIfInBounds_toArray] at A8
          have bel8 := below_gb bel7.drew (show W7.drew.grownBy (W7.drew.setCell ⟨g, i * 3 + 2, none⟩ (.string (x.tail ++ s))) (some g) from gb_set _ _ _) hbg hb7
          have HO : Hid ((W7.drew.setCell ⟨g, i * 3 + 2, none⟩ (.string (x.tail ++ s))).ownsRow base 68 3 (.slice (some ⟨g, 0, none⟩) L1.length cap) (L1.set i ⟨x.name, x.safe, x.tail ++ s⟩).length (flCells (L1.set i ⟨x.name, x.safe, x.tail ++ s⟩))) := by
            refine own_set hbg A8 hnc hcm (by rw [List.length_set]; exact hcs) ?_ HX.out
            exact take_tail HTk.out hcs hnc HX.out
          clear S6 A7 A8 bel7 d2 dS HX HTk HC
          go_upto_region 10 with fail
          have hcc : ¬ 9223372036854775807 < x.tail.size + s.size := by omega
          go_region_law (fail)
          all_goals
            go_wp2_with fail
            go_ret2
            rw [HR.out]
            exact ⟨⟨_, rfl, HO.out⟩, bel8⟩
    | true =>
      obtain ⟨x, hgf, hx, hfn, hlt⟩ := has_some hr hbn
      have hfit : x.safe.size + x.tail.size ≤ 1048576 := by
        have := (hall x (List.mem_of_getElem? hx)).2
        unfold fits at this
        exact of_decide_eq_true this
      have HRR : Hid (wrP L n s = if 1048576 < x.safe.size + x.tail.size + s.size then .error 1 else .ok (L.set (low n L) ⟨x.name, x.safe, x.tail ++ s⟩)) := by
        show _ = _
        unfold wrP
        rw [hnm, hgf]
        simp only [Bool.not_true, Bool.false_eq_true, if_false]
        rw [put_set hr hbn rfl, hfn]
      rw [hbn] at C1
      have hl1 : L.length ≤ 1000 := by omega
      generalize wrP L n s = R at *
      have hil : low n L < L.length := hlt
      generalize low n L = i at *
      clear hnm hbn hgf hall hr hG hfn
      go_enter Tryz.func134, Tryz.ntmps134
      go_wp2_with fail
      (with_reducible refine CN.out.mono ?_)
      rintro _ V ⟨rfl, rfl⟩
      go_wp2_with fail
      (with_reducible refine C1.out.mono ?_)
      clear C1 CN
      rintro _ W ⟨rfl, b2⟩
      have hW := dk_own_below h b2
      have belW := b2.mono hb
      have hbW := Nat.le_trans hb b2.size
      have cS : W.cell? ⟨p2, 0, none⟩ = some (.string s) := (belW.cell (p := ⟨p2, 0, none⟩) hq2).trans hp2
      clear b2 h hF hp1
      generalize L = L1 at *
      rcases hW.2 with ⟨e0, hn0⟩ | ⟨g, cap, cur, e0, hbg, hg0, hnc, hcm, hcs0, htake⟩
      · omega
      simp only [Value.slice.injEq] at e0
      obtain ⟨rfl, _, hce⟩ := e0
      obtain rfl : cap = c := hce.symm
      have hgA : Arr W g 68 cur.toList.toArray := Arr.toL hg0
      have hcs : cur.toList.length = cap * 3 := by rw [Array.length_toList, hcs0]
      clear hg0 hcs0 hW
      generalize cur.toList = C at *
      have hcat : ∀ j, j < 3 → C[i * 3 + j]? = (flArr x).toList[j]? := fun j hj => by
        rw [← flCells_at L1 i j x hx hj, ← htake, List.getElem?_take_of_lt (by omega)]
      have hgs : g ≠ p2 := by omega
      have hcell : ∀ W' : World, Arr W' g 68 C.toArray → W'.cell? ⟨g, i * 3, none⟩ = some (.string x.name) ∧ W'.cell? ⟨g, i * 3 + 1, none⟩ = some (.string x.safe) ∧ W'.cell? ⟨g, i * 3 + 2, none⟩ = some (.string x.tail) := fun W' hA => by
        refine ⟨?_, ?_, ?_⟩
        · rw [hA.cell, List.getElem?_toArray]; exact hcat 0 (by omega)
        · rw [hA.cell, List.getElem?_toArray]; exact hcat 1 (by omega)
        · rw [hA.cell, List.getElem?_toArray]; exact hcat 2 (by omega)
      have HC := Lib.hid hcell
      have hli : (i : Int) < L1.length := by omega
      have CS : Hid (∀ W', Calls Tryz.prog 132 #[.agg #[.string x.name, .string x.safe, .string x.tail]] W' fun e w' => e = .returned (.int .i64 ((x.safe.size + x.tail.size : Nat) : Int)) ∧ Below W'.heap.size W' w') := fun W' => size_any x (by omega) (by omega) W'
      have HTk := Lib.hid htake
      have HX := Lib.hid hx
      clear hcell hcat htake hx
      by_cases hbig : 1048576 < x.safe.size + x.tail.size + s.size
      · have HR : Hid (R = .error 1) := by show _ = _; rw [HRR.out, if_pos hbig]
        have hj : (1048576 : Int) < ((x.safe.size + x.tail.size : Nat) : Int) + s.size := by omega
        have hsz : ((x.safe.size + x.tail.size : Nat) : Int) ≤ 1048576 := by omega
        obtain ⟨a0, a1, a2⟩ := HC.out W.drew hgA.drew
        have aS : W.drew.cell? ⟨p2, 0, none⟩ = some (.string s) := cS
        have S6 : W.drew.cell? ⟨g, i * 3, none⟩ = some (.string x.name) ∧ W.drew.cell? ⟨g, i * 3 + 1, none⟩ = some (.string x.safe) ∧ W.drew.cell? ⟨g, i * 3 + 2, none⟩ = some (.string x.tail) ∧ W.drew.cell? ⟨p2, 0, none⟩ = some (.string s) := ⟨a0, a1, a2, aS⟩
        clear a0 a1 a2 aS cS
        generalize x.safe.size + x.tail.size = sz at *
        have hwr : IntKind.i64.wrap ((sz : Int) + (s.size : Int)) = (sz : Int) + (s.size : Int) := IntWalk.i64_in _ (by omega)
        go_wp2_with fail
        go_region_held3 (fun w' => w'.cell? ⟨g, i * 3, none⟩ = some (.string x.name) ∧ w'.cell? ⟨g, i * 3 + 1, none⟩ = some (.string x.safe) ∧ w'.cell? ⟨g, i * 3 + 2, none⟩ = some (.string x.tail) ∧ w'.cell? ⟨p2, 0, none⟩ = some (.string s))
          (first | exact S6 | exact S7)
          (first
            | (go_at_call 132
               (with_reducible refine (CS.out _).mono ?_)
               rintro _ W7 ⟨rfl, b7⟩
               have S7 : W7.cell? ⟨g, i * 3, none⟩ = some (.string x.name) ∧ W7.cell? ⟨g, i * 3 + 1, none⟩ = some (.string x.safe) ∧ W7.cell? ⟨g, i * 3 + 2, none⟩ = some (.string x.tail) ∧ W7.cell? ⟨p2, 0, none⟩ = some (.string s) := by
                 obtain ⟨a0, a1, a2⟩ := HC.out W7 (hgA.drew.below b7 hgA.lt)
                 exact ⟨a0, a1, a2, (b7.cell (p := ⟨p2, 0, none⟩) (by show p2 < W.heap.size; omega)).trans S6.2.2.2⟩)
            | fail)
        go_wp2_with fail
        go_ret2
        rw [HR.out]
        exact ⟨⟨rfl, rfl⟩, belW.drew.trans (b7.mono hbW)⟩
      · have HR : Hid (R = .ok (L1.set i ⟨x.name, x.safe, x.tail ++ s⟩)) := by show _ = _; rw [HRR.out, if_neg hbig]
        have hj : ¬ (1048576 : Int) < ((x.safe.size + x.tail.size : Nat) : Int) + s.size := by omega
        have hsz : ((x.safe.size + x.tail.size : Nat) : Int) ≤ 1048576 := by omega
        have htl : x.tail.size ≤ 1048576 := by omega
        have hss : s.size ≤ 1048576 := by omega
        obtain ⟨a0, a1, a2⟩ := HC.out W.drew hgA.drew
        have aS : W.drew.cell? ⟨p2, 0, none⟩ = some (.string s) := cS
        have S6 : W.drew.cell? ⟨g, i * 3, none⟩ = some (.string x.name) ∧ W.drew.cell? ⟨g, i * 3 + 1, none⟩ = some (.string x.safe) ∧ W.drew.cell? ⟨g, i * 3 + 2, none⟩ = some (.string x.tail) ∧ W.drew.cell? ⟨p2, 0, none⟩ = some (.string s) := ⟨a0, a1, a2, aS⟩
        clear a0 a1 a2 aS cS
        generalize x.safe.size + x.tail.size = sz at *
        have hwr : IntKind.i64.wrap ((sz : Int) + (s.size : Int)) = (sz : Int) + (s.size : Int) := IntWalk.i64_in _ (by omega)
        go_wp2_with fail
        go_region_held3 (fun w' => w'.cell? ⟨g, i * 3, none⟩ = some (.string x.name) ∧ w'.cell? ⟨g, i * 3 + 1, none⟩ = some (.string x.safe) ∧ w'.cell? ⟨g, i * 3 + 2, none⟩ = some (.string x.tail) ∧ w'.cell? ⟨p2, 0, none⟩ = some (.string s))
          (first | exact S6 | exact S7)
          (first
            | (go_at_call 132
               (with_reducible refine (CS.out _).mono ?_)
               rintro _ W7 ⟨rfl, b7⟩
               have S7 : W7.cell? ⟨g, i * 3, none⟩ = some (.string x.name) ∧ W7.cell? ⟨g, i * 3 + 1, none⟩ = some (.string x.safe) ∧ W7.cell? ⟨g, i * 3 + 2, none⟩ = some (.string x.tail) ∧ W7.cell? ⟨p2, 0, none⟩ = some (.string s) := by
                 obtain ⟨a0, a1, a2⟩ := HC.out W7 (hgA.drew.below b7 hgA.lt)
                 exact ⟨a0, a1, a2, (b7.cell (p := ⟨p2, 0, none⟩) (by show p2 < W.heap.size; omega)).trans S6.2.2.2⟩)
            | fail)
        have A7 := hgA.drew.below b7 hgA.lt
        have bel7 := belW.drew.trans (b7.mono hbW)
        have hb7 : base ≤ W7.heap.size := Nat.le_trans hbW b7.size
        obtain ⟨_, _, d2, dS⟩ := S7
        have d2' : W7.drew.cell? ⟨g, i * 3 + 2, none⟩ = some (.string x.tail) := d2
        have dS' : W7.drew.cell? ⟨p2, 0, none⟩ = some (.string s) := dS
        have e2 : W7.drew.frozen? ⟨g, i * 3 + 2, none⟩ = false := A7.free _
        have A8 := A7.drew.put (i * 3 + 2) (.string (x.tail ++ s))
        rw [List.setIfInBounds_toArray] at A8
        have bel8 := below_gb bel7.drew (show W7.drew.grownBy (W7.drew.setCell ⟨g, i * 3 + 2, none⟩ (.string (x.tail ++ s))) (some g) from gb_set _ _ _) hbg hb7
        have HO : Hid ((W7.drew.setCell ⟨g, i * 3 + 2, none⟩ (.string (x.tail ++ s))).ownsRow base 68 3 (.slice (some ⟨g, 0, none⟩) L1.length cap) (L1.set i ⟨x.name, x.safe, x.tail ++ s⟩).length (flCells (L1.set i ⟨x.name, x.safe, x.tail ++ s⟩))) := by
          refine own_set hbg A8 hnc hcm (by rw [List.length_set]; exact hcs) ?_ HX.out
          exact take_tail HTk.out hcs hnc HX.out
        clear S6 A7 A8 bel7 d2 dS HX HTk HC
        go_upto_region 10 with fail
        have hcc : ¬ 9223372036854775807 < x.tail.size + s.size := by omega
        go_region_law (fail)
        all_goals
          go_wp2_with fail
          go_ret2
          rw [HR.out]
          exact ⟨⟨_, rfl, HO.out⟩, bel8⟩
end Go.Proofs.YtmikfmcgddmplaaGreatDoor

/- disk.step: its contract, at each change. -/
namespace Go.Proofs.YtmikfmcgddmplaaGreatDoor
open Go.RowKit

/-- a disk and an error, handed back -/
def StEnd (w : World) (d : Dk × Int) (x : Ending) (w' : World) : Prop :=
  ∃ A c, x = .returned (.tuple #[.agg (dkArr d.1.files A c d.1.fuse), .int .i64 d.2]) ∧ Fls w' w'.heap.size A d.1.files ∧ d.1.files.length ≤ c ∧ Below w.heap.size w w'
theorem own_fls {w : World} {base : Nat} {v : Value} {L : List Fl} (h : w.ownsRow base 68 3 v L.length (flCells L)) : ∃ A c, v = .slice A L.length c ∧ L.length ≤ c ∧ Fls w w.heap.size A L := own_files h
set_option maxRecDepth 100000 in
set_option maxHeartbeats 2000000 in
theorem stepRemove_any (L : List Fl) (n : ByteArray) (A : Option Addr) (c : Nat) (z : Int) (w : World) (hP : Fls w w.heap.size A L) (hz : Sized L) (hl : L.length ≤ 140737488355328) (hc : L.length ≤ c) (hzf : z ≤ 9223372036854775807) (p1 : Nat) (hp1 : w.cell? ⟨p1, 0, none⟩ = some (.string n)) (hq1 : p1 < w.heap.size) :
    Calls Tryz.prog 61 #[.agg (dkArr L A c z), .func (.func 62) #[] #[.pointer (some ⟨p1, 0, none⟩)]] w (StEnd w (stepP ⟨L, z⟩ (rmP L n))) := by
  have A0 : Arr ((w.alloc (.cells (dkArr L A c z) 37)).alloc (.cells dkZero 37)) w.heap.size 37 (dkArr L A c z) := (Arr.new _ _ _).alloc _
  have A1 : Arr ((w.alloc (.cells (dkArr L A c z) 37)).alloc (.cells dkZero 37)) (w.heap.size + 1) 37 dkZero := Arr.new_at _ _ _ (by simp)
  have b0 : Below w.heap.size w ((w.alloc (.cells (dkArr L A c z) 37)).alloc (.cells dkZero 37)) := ((Below.refl _ _).alloc (Nat.le_refl _) _).alloc (by simp) _
  have HS : Hid (stepP ⟨L, z⟩ (rmP L n) = if !goodD L then (⟨L, z⟩, 3) else if z = 0 then (⟨L, z⟩, 12) else match rmP L n with
    | .error e => (⟨L, z⟩, e)
    | .ok L' => (⟨L', burnt z⟩, 0)) := rfl
  generalize stepP ⟨L, z⟩ (rmP L n) = Q at *
  go_enter Tryz.func61, Tryz.ntmps61
  go_upto_region 1 with fail
  refine wp_forget (fun V => Arr V w.heap.size 37 (dkArr L A c z) ∧ Arr V (w.heap.size + 1) 37 dkZero ∧ Below w.heap.size w V) (by exact ⟨A0, A1, b0⟩) ?_
  clear A0 A1 b0
  rintro V ⟨A0, A1, b0⟩
  have c0 : V.cell? ⟨w.heap.size, 0, none⟩ = some (.slice A L.length c) := A0.cell 0
  have c1 : V.cell? ⟨w.heap.size, 1, none⟩ = some (.int .i64 z) := A0.cell 1
  have CG : Hid (Calls Tryz.prog 93 #[.agg #[.slice A L.length c, .int .i64 z]] V fun e w' => e = .returned (.bool (goodD L)) ∧ Below V.heap.size V w') := DkGood_any L A c z V (hP.up b0) hz hl
  have HRet : Hid (∀ (W : World) (a : Act) (d : Dk) (A' : Option Addr) (c' : Nat) (e : Int), Arr W (w.heap.size + 1) 37 (dkArr d.files A' c' d.fuse) → Below w.heap.size w W → Fls W W.heap.size A' d.files → d.files.length ≤ c' → a.tmps[4]? = some (.pointer (some ⟨w.heap.size + 1, 0, none⟩)) → a.tmps[5]? = some (.int .i64 e) → a.defers = [] → bodyPost Tryz.prog Tryz.f61 (StEnd w (d, e)) .ret a W) := fun W a d A' c' e h1 h2 h3 h4 h5 h6 h7 => by
    refine bodyPost_ret (v := .tuple #[.agg (dkArr d.files A' c' d.fuse), .int .i64 e]) ?_ h7 ⟨A', c', rfl, h3, h4, h2⟩
    rw [results_cell_tmp Tryz.results61]
    have hld := run_loadVar_row (P := Tryz.prog) _ _ _ 37 _ _ _ h1 Tryz.underlying37 rfl (dkInfo _ _ _ _)
    simp [Array.getD_eq_getD_getElem?, h5, h6, asAddr, hld, Result.andThen]
  cases hg : goodD L with
  | false =>
    rw [hg] at CG
    have HQ : Hid (Q = (⟨L, z⟩, 3)) := by show _ = _; rw [HS.out, hg]; rfl
    clear HS hg
    go_wp2_with fail
    (with_reducible refine CG.out.mono ?_)
    clear CG c0 c1
    rintro _ V2 ⟨rfl, b2⟩
    have A2 := A0.below b2 A0.lt
    have A3 := A1.below b2 A1.lt
    have b3 := b0.trans (b2.mono b0.size)
    have c0 : V2.cell? ⟨w.heap.size, 0, none⟩ = some (.slice A L.length c) := A2.cell 0
    have c1 : V2.cell? ⟨w.heap.size, 1, none⟩ = some (.int .i64 z) := A2.cell 1
    go_wp2_with (refine wpList_store_row rfl 37 _ _ rfl (w.heap.size + 1) (dkArr L A c z) rfl rfl 37 dkZero A3 (dkInfo _ _ _ _) rfl (dkArr_one _ _ _ _) ?_)
    rw [HQ.out]
    have b4 := below_setRow b3 (show w.heap.size ≤ w.heap.size + 1 by omega) (dkArr L A c z)
    exact HRet.out _ _ ⟨L, z⟩ A c 3 (A3.row _) b4 (hP.up b4) hc rfl rfl rfl
  | true =>
    rw [hg] at CG
    by_cases h0 : z = 0
    · have HQ : Hid (Q = (⟨L, z⟩, 12)) := by show _ = _; rw [HS.out, hg, if_pos h0]; rfl
      subst h0
      clear HS hg
      go_wp2_with fail
      (with_reducible refine CG.out.mono ?_)
      clear CG c0 c1
      rintro _ V2 ⟨rfl, b2⟩
      have A2 := A0.below b2 A0.lt
      have A3 := A1.below b2 A1.lt
      have b3 := b0.trans (b2.mono b0.size)
      have c0 : V2.cell? ⟨w.heap.size, 0, none⟩ = some (.slice A L.length c) := A2.cell 0
      have c1 : V2.cell? ⟨w.heap.size, 1, none⟩ = some (.int .i64 0) := A2.cell 1
      go_wp2_with (refine wpList_store_row rfl 37 _ _ rfl (w.heap.size + 1) (dkArr L A c 0) rfl rfl 37 dkZero A3 (dkInfo _ _ _ _) rfl (dkArr_one _ _ _ _) ?_)
      rw [HQ.out]
      have b4 := below_setRow b3 (show w.heap.size ≤ w.heap.size + 1 by omega) (dkArr L A c 0)
      exact HRet.out _ _ ⟨L, 0⟩ A c 12 (A3.row _) b4 (hP.up b4) hc rfl rfl rfl
    have HQ : Hid (Q = match rmP L n with
      | .error e => (⟨L, z⟩, e)
      | .ok L' => (⟨L', burnt z⟩, 0)) := by show _ = _; rw [HS.out, hg, if_neg h0]; rfl
    have h0' : (z == 0) = false := by rw [beq_eq_false_iff_ne]; exact h0
    obtain ⟨h4, _, _⟩ := (goodD_iff L).1 hg
    have CH := fun v base (V : World) h (h1 : V.cell? ⟨p1, 0, none⟩ = some (.string n) ∧ base ≤ V.heap.size) => Lib.hid (removeCh_any L n hg v base p1 V h h1.1 h1.2)
    generalize rmP L n = R at *
    clear HS hg h0
    go_wp2_with fail
    (with_reducible refine CG.out.mono ?_)
    clear CG c0 c1
    rintro _ V2 ⟨rfl, b2⟩
    have A2 := A0.below b2 A0.lt
    have A3 := A1.below b2 A1.lt
    have b3 := b0.trans (b2.mono b0.size)
    clear A0 A1 b0 b2
    have c0 : V2.cell? ⟨w.heap.size, 0, none⟩ = some (.slice A L.length c) := A2.cell 0
    have c1 : V2.cell? ⟨w.heap.size, 1, none⟩ = some (.int .i64 z) := A2.cell 1
    have CL := Lib.hid (Clone_any L A c V2 (hP.up b3) (by omega))
    go_wp2_with fail
    (with_reducible refine CL.out.mono ?_)
    clear CL c0 c1
    rintro _ V3 ⟨v3, rfl, h3, b4⟩
    have A4 := A2.below b4 A2.lt
    have A5 := A3.below b4 A3.lt
    have b5 := b3.trans (b4.mono b3.size)
    have hw3 := A5.lt
    have hw2 := A3.lt
    have C3 := CH v3 V2.heap.size V3 h3 ⟨((b5.cell (p := ⟨p1, 0, none⟩) hq1).trans hp1), b4.size⟩
    clear CH A2
    go_wp2_with fail
    (with_reducible refine C3.out.mono ?_)
    clear C3
    rintro x V4 ⟨hx, b6⟩
    have A6 := A4.below b6 (Nat.lt_of_lt_of_le (by omega) (Nat.le_refl _))
    have A7 := A5.below b6 (Nat.lt_of_lt_of_le (by omega) (Nat.le_refl _))
    have b7 := b5.trans (b6.mono b3.size)
    clear A4 A5 b6
    have c0 : V4.cell? ⟨w.heap.size, 0, none⟩ = some (.slice A L.length c) := A6.cell 0
    have c1 : V4.cell? ⟨w.heap.size, 1, none⟩ = some (.int .i64 z) := A6.cell 1
    cases R with
    | error e =>
      obtain ⟨he, rfl⟩ := hx
      go_wp2_with (refine wpList_store_row rfl 37 _ _ rfl (w.heap.size + 1) (dkArr L A c z) rfl rfl 37 dkZero A7 (dkInfo _ _ _ _) rfl (dkArr_one _ _ _ _) ?_)
      rw [HQ.out]
      have b8 := below_setRow b7 (show w.heap.size ≤ w.heap.size + 1 by omega) (dkArr L A c z)
      exact HRet.out _ _ ⟨L, z⟩ A c e (A7.row _) b8 (hP.up b8) hc rfl rfl rfl
    | ok L' =>
      obtain ⟨v', rfl, h8⟩ := hx
      obtain ⟨A', c', rfl, hc', hF'⟩ := own_files h8
      have CB := Lib.hid (burnt_any z hzf V4)
      go_wp2_with fail
      (with_reducible refine CB.out.mono ?_)
      clear CB
      rintro _ V4 ⟨rfl, rfl⟩
      generalize hbz : burnt z = bz at *
      have HBz := Lib.hid hbz
      clear hbz
      go_wp2_with (refine wpList_store_row rfl 37 _ _ rfl (w.heap.size + 1) (dkArr L' A' c' bz) rfl rfl 37 dkZero A7 (dkInfo _ _ _ _) rfl (dkArr_one _ _ _ _) ?_)
      rw [HQ.out]
      have b8 := below_setRow b7 (show w.heap.size ≤ w.heap.size + 1 by omega) (dkArr L' A' c' bz)
      have k8 : V4.grownBy (V4.setRow (w.heap.size + 1) (dkArr L' A' c' bz)) (some (w.heap.size + 1)) := gb_row _ _
      have h9 := own_kp h8 (Kp.gb k8) (fun q hq e => by have := own_row_ge h8 q hq; have := Option.some.inj e; omega)
      obtain ⟨A9, c9, e9, hc9, hF9⟩ := own_files h9
      simp only [Value.slice.injEq] at e9
      obtain ⟨rfl, _, rfl⟩ := e9
      exact HRet.out _ _ ⟨L', bz⟩ A' c' 0 (A7.row _) b8 hF9 hc9 rfl rfl rfl
set_option maxRecDepth 100000 in
set_option maxHeartbeats 2000000 in
theorem stepSync_any (L : List Fl) (n : ByteArray) (A : Option Addr) (c : Nat) (z : Int) (w : World) (hP : Fls w w.heap.size A L) (hz : Sized L) (hl : L.length ≤ 140737488355328) (hc : L.length ≤ c) (hzf : z ≤ 9223372036854775807) (p1 : Nat) (hp1 : w.cell? ⟨p1, 0, none⟩ = some (.string n)) (hq1 : p1 < w.heap.size) :
    Calls Tryz.prog 61 #[.agg (dkArr L A c z), .func (.func 136) #[] #[.pointer (some ⟨p1, 0, none⟩)]] w (StEnd w (stepP ⟨L, z⟩ (syP L n))) := by
  have A0 : Arr ((w.alloc (.cells (dkArr L A c z) 37)).alloc (.cells dkZero 37)) w.heap.size 37 (dkArr L A c z) := (Arr.new _ _ _).alloc _
  have A1 : Arr ((w.alloc (.cells (dkArr L A c z) 37)).alloc (.cells dkZero 37)) (w.heap.size + 1) 37 dkZero := Arr.new_at _ _ _ (by simp)
  have b0 : Below w.heap.size w ((w.alloc (.cells (dkArr L A c z) 37)).alloc (.cells dkZero 37)) := ((Below.refl _ _).alloc (Nat.le_refl _) _).alloc (by simp) _
  have HS : Hid (stepP ⟨L, z⟩ (syP L n) = if !goodD L then (⟨L, z⟩, 3) else if z = 0 then (⟨L, z⟩, 12) else match syP L n with
    | .error e => (⟨L, z⟩, e)
    | .ok L' => (⟨L', burnt z⟩, 0)) := rfl
  generalize stepP ⟨L, z⟩ (syP L n) = Q at *
  go_enter Tryz.func61, Tryz.ntmps61
  go_upto_region 1 with fail
  refine wp_forget (fun V => Arr V w.heap.size 37 (dkArr L A c z) ∧ Arr V (w.heap.size + 1) 37 dkZero ∧ Below w.heap.size w V) (by exact ⟨A0, A1, b0⟩) ?_
  clear A0 A1 b0
  rintro V ⟨A0, A1, b0⟩
  have c0 : V.cell? ⟨w.heap.size, 0, none⟩ = some (.slice A L.length c) := A0.cell 0
  have c1 : V.cell? ⟨w.heap.size, 1, none⟩ = some (.int .i64 z) := A0.cell 1
  have CG : Hid (Calls Tryz.prog 93 #[.agg #[.slice A L.length c, .int .i64 z]] V fun e w' => e = .returned (.bool (goodD L)) ∧ Below V.heap.size V w') := DkGood_any L A c z V (hP.up b0) hz hl
  have HRet : Hid (∀ (W : World) (a : Act) (d : Dk) (A' : Option Addr) (c' : Nat) (e : Int), Arr W (w.heap.size + 1) 37 (dkArr d.files A' c' d.fuse) → Below w.heap.size w W → Fls W W.heap.size A' d.files → d.files.length ≤ c' → a.tmps[4]? = some (.pointer (some ⟨w.heap.size + 1, 0, none⟩)) → a.tmps[5]? = some (.int .i64 e) → a.defers = [] → bodyPost Tryz.prog Tryz.f61 (StEnd w (d, e)) .ret a W) := fun W a d A' c' e h1 h2 h3 h4 h5 h6 h7 => by
    refine bodyPost_ret (v := .tuple #[.agg (dkArr d.files A' c' d.fuse), .int .i64 e]) ?_ h7 ⟨A', c', rfl, h3, h4, h2⟩
    rw [results_cell_tmp Tryz.results61]
    have hld := run_loadVar_row (P := Tryz.prog) _ _ _ 37 _ _ _ h1 Tryz.underlying37 rfl (dkInfo _ _ _ _)
    simp [Array.getD_eq_getD_getElem?, h5, h6, asAddr, hld, Result.andThen]
  cases hg : goodD L with
  | false =>
    rw [hg] at CG
    have HQ : Hid (Q = (⟨L, z⟩, 3)) := by show _ = _; rw [HS.out, hg]; rfl
    clear HS hg
    go_wp2_with fail
    (with_reducible refine CG.out.mono ?_)
    clear CG c0 c1
    rintro _ V2 ⟨rfl, b2⟩
    have A2 := A0.below b2 A0.lt
    have A3 := A1.below b2 A1.lt
    have b3 := b0.trans (b2.mono b0.size)
    have c0 : V2.cell? ⟨w.heap.size, 0, none⟩ = some (.slice A L.length c) := A2.cell 0
    have c1 : V2.cell? ⟨w.heap.size, 1, none⟩ = some (.int .i64 z) := A2.cell 1
    go_wp2_with (refine wpList_store_row rfl 37 _ _ rfl (w.heap.size + 1) (dkArr L A c z) rfl rfl 37 dkZero A3 (dkInfo _ _ _ _) rfl (dkArr_one _ _ _ _) ?_)
    rw [HQ.out]
    have b4 := below_setRow b3 (show w.heap.size ≤ w.heap.size + 1 by omega) (dkArr L A c z)
    exact HRet.out _ _ ⟨L, z⟩ A c 3 (A3.row _) b4 (hP.up b4) hc rfl rfl rfl
  | true =>
    rw [hg] at CG
    by_cases h0 : z = 0
    · have HQ : Hid (Q = (⟨L, z⟩, 12)) := by show _ = _; rw [HS.out, hg, if_pos h0]; rfl
      subst h0
      clear HS hg
      go_wp2_with fail
      (with_reducible refine CG.out.mono ?_)
      clear CG c0 c1
      rintro _ V2 ⟨rfl, b2⟩
      have A2 := A0.below b2 A0.lt
      have A3 := A1.below b2 A1.lt
      have b3 := b0.trans (b2.mono b0.size)
      have c0 : V2.cell? ⟨w.heap.size, 0, none⟩ = some (.slice A L.length c) := A2.cell 0
      have c1 : V2.cell? ⟨w.heap.size, 1, none⟩ = some (.int .i64 0) := A2.cell 1
      go_wp2_with (refine wpList_store_row rfl 37 _ _ rfl (w.heap.size + 1) (dkArr L A c 0) rfl rfl 37 dkZero A3 (dkInfo _ _ _ _) rfl (dkArr_one _ _ _ _) ?_)
      rw [HQ.out]
      have b4 := below_setRow b3 (show w.heap.size ≤ w.heap.size + 1 by omega) (dkArr L A c 0)
      exact HRet.out _ _ ⟨L, 0⟩ A c 12 (A3.row _) b4 (hP.up b4) hc rfl rfl rfl
    have HQ : Hid (Q = match syP L n with
      | .error e => (⟨L, z⟩, e)
      | .ok L' => (⟨L', burnt z⟩, 0)) := by show _ = _; rw [HS.out, hg, if_neg h0]; rfl
    have h0' : (z == 0) = false := by rw [beq_eq_false_iff_ne]; exact h0
    obtain ⟨h4, _, _⟩ := (goodD_iff L).1 hg
    have CH := fun v base (V : World) h (h1 : V.cell? ⟨p1, 0, none⟩ = some (.string n) ∧ base ≤ V.heap.size) => Lib.hid (syncCh_any L n hg v base p1 V h h1.1 h1.2)
    generalize syP L n = R at *
    clear HS hg h0
    go_wp2_with fail
    (with_reducible refine CG.out.mono ?_)
    clear CG c0 c1
    rintro _ V2 ⟨rfl, b2⟩
    have A2 := A0.below b2 A0.lt
    have A3 := A1.below b2 A1.lt
    have b3 := b0.trans (b2.mono b0.size)
    clear A0 A1 b0 b2
    have c0 : V2.cell? ⟨w.heap.size, 0, none⟩ = some (.slice A L.length c) := A2.cell 0
    have c1 : V2.cell? ⟨w.heap.size, 1, none⟩ = some (.int .i64 z) := A2.cell 1
    have CL := Lib.hid (Clone_any L A c V2 (hP.up b3) (by omega))
    go_wp2_with fail
    (with_reducible refine CL.out.mono ?_)
    clear CL c0 c1
    rintro _ V3 ⟨v3, rfl, h3, b4⟩
    have A4 := A2.below b4 A2.lt
    have A5 := A3.below b4 A3.lt
    have b5 := b3.trans (b4.mono b3.size)
    have hw3 := A5.lt
    have hw2 := A3.lt
    have C3 := CH v3 V2.heap.size V3 h3 ⟨((b5.cell (p := ⟨p1, 0, none⟩) hq1).trans hp1), b4.size⟩
    clear CH A2
    go_wp2_with fail
    (with_reducible refine C3.out.mono ?_)
    clear C3
    rintro x V4 ⟨hx, b6⟩
    have A6 := A4.below b6 (Nat.lt_of_lt_of_le (by omega) (Nat.le_refl _))
    have A7 := A5.below b6 (Nat.lt_of_lt_of_le (by omega) (Nat.le_refl _))
    have b7 := b5.trans (b6.mono b3.size)
    clear A4 A5 b6
    have c0 : V4.cell? ⟨w.heap.size, 0, none⟩ = some (.slice A L.length c) := A6.cell 0
    have c1 : V4.cell? ⟨w.heap.size, 1, none⟩ = some (.int .i64 z) := A6.cell 1
    cases R with
    | error e =>
      obtain ⟨he, rfl⟩ := hx
      go_wp2_with (refine wpList_store_row rfl 37 _ _ rfl (w.heap.size + 1) (dkArr L A c z) rfl rfl 37 dkZero A7 (dkInfo _ _ _ _) rfl (dkArr_one _ _ _ _) ?_)
      rw [HQ.out]
      have b8 := below_setRow b7 (show w.heap.size ≤ w.heap.size + 1 by omega) (dkArr L A c z)
      exact HRet.out _ _ ⟨L, z⟩ A c e (A7.row _) b8 (hP.up b8) hc rfl rfl rfl
    | ok L' =>
      obtain ⟨v', rfl, h8⟩ := hx
      obtain ⟨A', c', rfl, hc', hF'⟩ := own_files h8
      have CB := Lib.hid (burnt_any z hzf V4)
      go_wp2_with fail
      (with_reducible refine CB.out.mono ?_)
      clear CB
      rintro _ V4 ⟨rfl, rfl⟩
      generalize hbz : burnt z = bz at *
      have HBz := Lib.hid hbz
      clear hbz
      go_wp2_with (refine wpList_store_row rfl 37 _ _ rfl (w.heap.size + 1) (dkArr L' A' c' bz) rfl rfl 37 dkZero A7 (dkInfo _ _ _ _) rfl (dkArr_one _ _ _ _) ?_)
      rw [HQ.out]
      have b8 := below_setRow b7 (show w.heap.size ≤ w.heap.size + 1 by omega) (dkArr L' A' c' bz)
      have k8 : V4.grownBy (V4.setRow (w.heap.size + 1) (dkArr L' A' c' bz)) (some (w.heap.size + 1)) := gb_row _ _
      have h9 := own_kp h8 (Kp.gb k8) (fun q hq e => by have := own_row_ge h8 q hq; have := Option.some.inj e; omega)
      obtain ⟨A9, c9, e9, hc9, hF9⟩ := own_files h9
      simp only [Value.slice.injEq] at e9
      obtain ⟨rfl, _, rfl⟩ := e9
      exact HRet.out _ _ ⟨L', bz⟩ A' c' 0 (A7.row _) b8 hF9 hc9 rfl rfl rfl
set_option maxRecDepth 100000 in
set_option maxHeartbeats 2000000 in
theorem stepRename_any (L : List Fl) (n m : ByteArray) (A : Option Addr) (c : Nat) (z : Int) (w : World) (hP : Fls w w.heap.size A L) (hz : Sized L) (hl : L.length ≤ 140737488355328) (hc : L.length ≤ c) (hzf : z ≤ 9223372036854775807) (p1 p2 : Nat) (hp1 : w.cell? ⟨p1, 0, none⟩ = some (.string m)) (hp2 : w.cell? ⟨p2, 0, none⟩ = some (.string n)) (hq1 : p1 < w.heap.size) (hq2 : p2 < w.heap.size) :
    Calls Tryz.prog 61 #[.agg (dkArr L A c z), .func (.func 137) #[] #[.pointer (some ⟨p1, 0, none⟩), .pointer (some ⟨p2, 0, none⟩)]] w (StEnd w (stepP ⟨L, z⟩ (rnP L n m))) := by
  have A0 : Arr ((w.alloc (.cells (dkArr L A c z) 37)).alloc (.cells dkZero 37)) w.heap.size 37 (dkArr L A c z) := (Arr.new _ _ _).alloc _
  have A1 : Arr ((w.alloc (.cells (dkArr L A c z) 37)).alloc (.cells dkZero 37)) (w.heap.size + 1) 37 dkZero := Arr.new_at _ _ _ (by simp)
  have b0 : Below w.heap.size w ((w.alloc (.cells (dkArr L A c z) 37)).alloc (.cells dkZero 37)) := ((Below.refl _ _).alloc (Nat.le_refl _) _).alloc (by simp) _
  have HS : Hid (stepP ⟨L, z⟩ (rnP L n m) = if !goodD L then (⟨L, z⟩, 3) else if z = 0 then (⟨L, z⟩, 12) else match rnP L n m with
    | .error e => (⟨L, z⟩, e)
    | .ok L' => (⟨L', burnt z⟩, 0)) := rfl
  generalize stepP ⟨L, z⟩ (rnP L n m) = Q at *
  go_enter Tryz.func61, Tryz.ntmps61
  go_upto_region 1 with fail
  refine wp_forget (fun V => Arr V w.heap.size 37 (dkArr L A c z) ∧ Arr V (w.heap.size + 1) 37 dkZero ∧ Below w.heap.size w V) (by exact ⟨A0, A1, b0⟩) ?_
  clear A0 A1 b0
  rintro V ⟨A0, A1, b0⟩
  have c0 : V.cell? ⟨w.heap.size, 0, none⟩ = some (.slice A L.length c) := A0.cell 0
  have c1 : V.cell? ⟨w.heap.size, 1, none⟩ = some (.int .i64 z) := A0.cell 1
  have CG : Hid (Calls Tryz.prog 93 #[.agg #[.slice A L.length c, .int .i64 z]] V fun e w' => e = .returned (.bool (goodD L)) ∧ Below V.heap.size V w') := DkGood_any L A c z V (hP.up b0) hz hl
  have HRet : Hid (∀ (W : World) (a : Act) (d : Dk) (A' : Option Addr) (c' : Nat) (e : Int), Arr W (w.heap.size + 1) 37 (dkArr d.files A' c' d.fuse) → Below w.heap.size w W → Fls W W.heap.size A' d.files → d.files.length ≤ c' → a.tmps[4]? = some (.pointer (some ⟨w.heap.size + 1, 0, none⟩)) → a.tmps[5]? = some (.int .i64 e) → a.defers = [] → bodyPost Tryz.prog Tryz.f61 (StEnd w (d, e)) .ret a W) := fun W a d A' c' e h1 h2 h3 h4 h5 h6 h7 => by
    refine bodyPost_ret (v := .tuple #[.agg (dkArr d.files A' c' d.fuse), .int .i64 e]) ?_ h7 ⟨A', c', rfl, h3, h4, h2⟩
    rw [results_cell_tmp Tryz.results61]
    have hld := run_loadVar_row (P := Tryz.prog) _ _ _ 37 _ _ _ h1 Tryz.underlying37 rfl (dkInfo _ _ _ _)
    simp [Array.getD_eq_getD_getElem?, h5, h6, asAddr, hld, Result.andThen]
  cases hg : goodD L with
  | false =>
    rw [hg] at CG
    have HQ : Hid (Q = (⟨L, z⟩, 3)) := by show _ = _; rw [HS.out, hg]; rfl
    clear HS hg
    go_wp2_with fail
    (with_reducible refine CG.out.mono ?_)
    clear CG c0 c1
    rintro _ V2 ⟨rfl, b2⟩
    have A2 := A0.below b2 A0.lt
    have A3 := A1.below b2 A1.lt
    have b3 := b0.trans (b2.mono b0.size)
    have c0 : V2.cell? ⟨w.heap.size, 0, none⟩ = some (.slice A L.length c) := A2.cell 0
    have c1 : V2.cell? ⟨w.heap.size, 1, none⟩ = some (.int .i64 z) := A2.cell 1
    go_wp2_with (refine wpList_store_row rfl 37 _ _ rfl (w.heap.size + 1) (dkArr L A c z) rfl rfl 37 dkZero A3 (dkInfo _ _ _ _) rfl (dkArr_one _ _ _ _) ?_)
    rw [HQ.out]
    have b4 := below_setRow b3 (show w.heap.size ≤ w.heap.size + 1 by omega) (dkArr L A c z)
    exact HRet.out _ _ ⟨L, z⟩ A c 3 (A3.row _) b4 (hP.up b4) hc rfl rfl rfl
  | true =>
    rw [hg] at CG
    by_cases h0 : z = 0
    · have HQ : Hid (Q = (⟨L, z⟩, 12)) := by show _ = _; rw [HS.out, hg, if_pos h0]; rfl
      subst h0
      clear HS hg
      go_wp2_with fail
      (with_reducible refine CG.out.mono ?_)
      clear CG c0 c1
      rintro _ V2 ⟨rfl, b2⟩
      have A2 := A0.below b2 A0.lt
      have A3 := A1.below b2 A1.lt
      have b3 := b0.trans (b2.mono b0.size)
      have c0 : V2.cell? ⟨w.heap.size, 0, none⟩ = some (.slice A L.length c) := A2.cell 0
      have c1 : V2.cell? ⟨w.heap.size, 1, none⟩ = some (.int .i64 0) := A2.cell 1
      go_wp2_with (refine wpList_store_row rfl 37 _ _ rfl (w.heap.size + 1) (dkArr L A c 0) rfl rfl 37 dkZero A3 (dkInfo _ _ _ _) rfl (dkArr_one _ _ _ _) ?_)
      rw [HQ.out]
      have b4 := below_setRow b3 (show w.heap.size ≤ w.heap.size + 1 by omega) (dkArr L A c 0)
      exact HRet.out _ _ ⟨L, 0⟩ A c 12 (A3.row _) b4 (hP.up b4) hc rfl rfl rfl
    have HQ : Hid (Q = match rnP L n m with
      | .error e => (⟨L, z⟩, e)
      | .ok L' => (⟨L', burnt z⟩, 0)) := by show _ = _; rw [HS.out, hg, if_neg h0]; rfl
    have h0' : (z == 0) = false := by rw [beq_eq_false_iff_ne]; exact h0
    obtain ⟨h4, _, _⟩ := (goodD_iff L).1 hg
    have CH := fun v base (V : World) h (h1 : V.cell? ⟨p1, 0, none⟩ = some (.string m) ∧ V.cell? ⟨p2, 0, none⟩ = some (.string n) ∧ p1 < base ∧ p2 < base ∧ base ≤ V.heap.size) => Lib.hid (renameCh_any L n m hg v base p1 p2 V h h1.1 h1.2.1 h1.2.2.1 h1.2.2.2.1 h1.2.2.2.2)
    generalize rnP L n m = R at *
    clear HS hg h0
    go_wp2_with fail
    (with_reducible refine CG.out.mono ?_)
    clear CG c0 c1
    rintro _ V2 ⟨rfl, b2⟩
    have A2 := A0.below b2 A0.lt
    have A3 := A1.below b2 A1.lt
    have b3 := b0.trans (b2.mono b0.size)
    clear A0 A1 b0 b2
    have c0 : V2.cell? ⟨w.heap.size, 0, none⟩ = some (.slice A L.length c) := A2.cell 0
    have c1 : V2.cell? ⟨w.heap.size, 1, none⟩ = some (.int .i64 z) := A2.cell 1
    have CL := Lib.hid (Clone_any L A c V2 (hP.up b3) (by omega))
    go_wp2_with fail
    (with_reducible refine CL.out.mono ?_)
    clear CL c0 c1
    rintro _ V3 ⟨v3, rfl, h3, b4⟩
    have A4 := A2.below b4 A2.lt
    have A5 := A3.below b4 A3.lt
    have b5 := b3.trans (b4.mono b3.size)
    have hw3 := A5.lt
    have hw2 := A3.lt
    have C3 := CH v3 V2.heap.size V3 h3 ⟨((b5.cell (p := ⟨p1, 0, none⟩) hq1).trans hp1), ((b5.cell (p := ⟨p2, 0, none⟩) hq2).trans hp2), (Nat.lt_of_lt_of_le hq1 b3.size), (Nat.lt_of_lt_of_le hq2 b3.size), b4.size⟩
    clear CH A2
    go_wp2_with fail
    (with_reducible refine C3.out.mono ?_)
    clear C3
    rintro x V4 ⟨hx, b6⟩
    have A6 := A4.below b6 (Nat.lt_of_lt_of_le (by omega) (Nat.le_refl _))
    have A7 := A5.below b6 (Nat.lt_of_lt_of_le (by omega) (Nat.le_refl _))
    have b7 := b5.trans (b6.mono b3.size)
    clear A4 A5 b6
    have c0 : V4.cell? ⟨w.heap.size, 0, none⟩ = some (.slice A L.length c) := A6.cell 0
    have c1 : V4.cell? ⟨w.heap.size, 1, none⟩ = some (.int .i64 z) := A6.cell 1
    cases R with
    | error e =>
      obtain ⟨he, rfl⟩ := hx
      go_wp2_with (refine wpList_store_row rfl 37 _ _ rfl (w.heap.size + 1) (dkArr L A c z) rfl rfl 37 dkZero A7 (dkInfo _ _ _ _) rfl (dkArr_one _ _ _ _) ?_)
      rw [HQ.out]
      have b8 := below_setRow b7 (show w.heap.size ≤ w.heap.size + 1 by omega) (dkArr L A c z)
      exact HRet.out _ _ ⟨L, z⟩ A c e (A7.row _) b8 (hP.up b8) hc rfl rfl rfl
    | ok L' =>
      obtain ⟨v', rfl, h8⟩ := hx
      obtain ⟨A', c', rfl, hc', hF'⟩ := own_files h8
      have CB := Lib.hid (burnt_any z hzf V4)
      go_wp2_with fail
      (with_reducible refine CB.out.mono ?_)
      clear CB
      rintro _ V4 ⟨rfl, rfl⟩
      generalize hbz : burnt z = bz at *
      have HBz := Lib.hid hbz
      clear hbz
      go_wp2_with (refine wpList_store_row rfl 37 _ _ rfl (w.heap.size + 1) (dkArr L' A' c' bz) rfl rfl 37 dkZero A7 (dkInfo _ _ _ _) rfl (dkArr_one _ _ _ _) ?_)
      rw [HQ.out]
      have b8 := below_setRow b7 (show w.heap.size ≤ w.heap.size + 1 by omega) (dkArr L' A' c' bz)
      have k8 : V4.grownBy (V4.setRow (w.heap.size + 1) (dkArr L' A' c' bz)) (some (w.heap.size + 1)) := gb_row _ _
      have h9 := own_kp h8 (Kp.gb k8) (fun q hq e => by have := own_row_ge h8 q hq; have := Option.some.inj e; omega)
      obtain ⟨A9, c9, e9, hc9, hF9⟩ := own_files h9
      simp only [Value.slice.injEq] at e9
      obtain ⟨rfl, _, rfl⟩ := e9
      exact HRet.out _ _ ⟨L', bz⟩ A' c' 0 (A7.row _) b8 hF9 hc9 rfl rfl rfl
set_option maxRecDepth 100000 in
set_option maxHeartbeats 2000000 in
theorem stepWrite_any (L : List Fl) (n s : ByteArray) (hs : s.size ≤ 140737488355328) (A : Option Addr) (c : Nat) (z : Int) (w : World) (hP : Fls w w.heap.size A L) (hz : Sized L) (hl : L.length ≤ 140737488355328) (hc : L.length ≤ c) (hzf : z ≤ 9223372036854775807) (p1 p2 : Nat) (hp1 : w.cell? ⟨p1, 0, none⟩ = some (.string n)) (hp2 : w.cell? ⟨p2, 0, none⟩ = some (.string s)) (hq1 : p1 < w.heap.size) (hq2 : p2 < w.heap.size) :
    Calls Tryz.prog 61 #[.agg (dkArr L A c z), .func (.func 134) #[] #[.pointer (some ⟨p1, 0, none⟩), .pointer (some ⟨p2, 0, none⟩)]] w (StEnd w (stepP ⟨L, z⟩ (wrP L n s))) := by
  have A0 : Arr ((w.alloc (.cells (dkArr L A c z) 37)).alloc (.cells dkZero 37)) w.heap.size 37 (dkArr L A c z) := (Arr.new _ _ _).alloc _
  have A1 : Arr ((w.alloc (.cells (dkArr L A c z) 37)).alloc (.cells dkZero 37)) (w.heap.size + 1) 37 dkZero := Arr.new_at _ _ _ (by simp)
  have b0 : Below w.heap.size w ((w.alloc (.cells (dkArr L A c z) 37)).alloc (.cells dkZero 37)) := ((Below.refl _ _).alloc (Nat.le_refl _) _).alloc (by simp) _
  have HS : Hid (stepP ⟨L, z⟩ (wrP L n s) = if !goodD L then (⟨L, z⟩, 3) else if z = 0 then (⟨L, z⟩, 12) else match wrP L n s with
    | .error e => (⟨L, z⟩, e)
    | .ok L' => (⟨L', burnt z⟩, 0)) := rfl
  generalize stepP ⟨L, z⟩ (wrP L n s) = Q at *
  go_enter Tryz.func61, Tryz.ntmps61
  go_upto_region 1 with fail
  refine wp_forget (fun V => Arr V w.heap.size 37 (dkArr L A c z) ∧ Arr V (w.heap.size + 1) 37 dkZero ∧ Below w.heap.size w V) (by exact ⟨A0, A1, b0⟩) ?_
  clear A0 A1 b0
  rintro V ⟨A0, A1, b0⟩
  have c0 : V.cell? ⟨w.heap.size, 0, none⟩ = some (.slice A L.length c) := A0.cell 0
  have c1 : V.cell? ⟨w.heap.size, 1, none⟩ = some (.int .i64 z) := A0.cell 1
  have CG : Hid (Calls Tryz.prog 93 #[.agg #[.slice A L.length c, .int .i64 z]] V fun e w' => e = .returned (.bool (goodD L)) ∧ Below V.heap.size V w') := DkGood_any L A c z V (hP.up b0) hz hl
  have HRet : Hid (∀ (W : World) (a : Act) (d : Dk) (A' : Option Addr) (c' : Nat) (e : Int), Arr W (w.heap.size + 1) 37 (dkArr d.files A' c' d.fuse) → Below w.heap.size w W → Fls W W.heap.size A' d.files → d.files.length ≤ c' → a.tmps[4]? = some (.pointer (some ⟨w.heap.size + 1, 0, none⟩)) → a.tmps[5]? = some (.int .i64 e) → a.defers = [] → bodyPost Tryz.prog Tryz.f61 (StEnd w (d, e)) .ret a W) := fun W a d A' c' e h1 h2 h3 h4 h5 h6 h7 => by
    refine bodyPost_ret (v := .tuple #[.agg (dkArr d.files A' c' d.fuse), .int .i64 e]) ?_ h7 ⟨A', c', rfl, h3, h4, h2⟩
    rw [results_cell_tmp Tryz.results61]
    have hld := run_loadVar_row (P := Tryz.prog) _ _ _ 37 _ _ _ h1 Tryz.underlying37 rfl (dkInfo _ _ _ _)
    simp [Array.getD_eq_getD_getElem?, h5, h6, asAddr, hld, Result.andThen]
  cases hg : goodD L with
  | false =>
    rw [hg] at CG
    have HQ : Hid (Q = (⟨L, z⟩, 3)) := by show _ = _; rw [HS.out, hg]; rfl
    clear HS hg
    go_wp2_with fail
    (with_reducible refine CG.out.mono ?_)
    clear CG c0 c1
    rintro _ V2 ⟨rfl, b2⟩
    have A2 := A0.below b2 A0.lt
    have A3 := A1.below b2 A1.lt
    have b3 := b0.trans (b2.mono b0.size)
    have c0 : V2.cell? ⟨w.heap.size, 0, none⟩ = some (.slice A L.length c) := A2.cell 0
    have c1 : V2.cell? ⟨w.heap.size, 1, none⟩ = some (.int .i64 z) := A2.cell 1
    go_wp2_with (refine wpList_store_row rfl 37 _ _ rfl (w.heap.size + 1) (dkArr L A c z) rfl rfl 37 dkZero A3 (dkInfo _ _ _ _) rfl (dkArr_one _ _ _ _) ?_)
    rw [HQ.out]
    have b4 := below_setRow b3 (show w.heap.size ≤ w.heap.size + 1 by omega) (dkArr L A c z)
    exact HRet.out _ _ ⟨L, z⟩ A c 3 (A3.row _) b4 (hP.up b4) hc rfl rfl rfl
  | true =>
    rw [hg] at CG
    by_cases h0 : z = 0
    · have HQ : Hid (Q = (⟨L, z⟩, 12)) := by show _ = _; rw [HS.out, hg, if_pos h0]; rfl
      subst h0
      clear HS hg
      go_wp2_with fail
      (with_reducible refine CG.out.mono ?_)
      clear CG c0 c1
      rintro _ V2 ⟨rfl, b2⟩
      have A2 := A0.below b2 A0.lt
      have A3 := A1.below b2 A1.lt
      have b3 := b0.trans (b2.mono b0.size)
      have c0 : V2.cell? ⟨w.heap.size, 0, none⟩ = some (.slice A L.length c) := A2.cell 0
      have c1 : V2.cell? ⟨w.heap.size, 1, none⟩ = some (.int .i64 0) := A2.cell 1
      go_wp2_with (refine wpList_store_row rfl 37 _ _ rfl (w.heap.size + 1) (dkArr L A c 0) rfl rfl 37 dkZero A3 (dkInfo _ _ _ _) rfl (dkArr_one _ _ _ _) ?_)
      rw [HQ.out]
      have b4 := below_setRow b3 (show w.heap.size ≤ w.heap.size + 1 by omega) (dkArr L A c 0)
      exact HRet.out _ _ ⟨L, 0⟩ A c 12 (A3.row _) b4 (hP.up b4) hc rfl rfl rfl
    have HQ : Hid (Q = match wrP L n s with
      | .error e => (⟨L, z⟩, e)
      | .ok L' => (⟨L', burnt z⟩, 0)) := by show _ = _; rw [HS.out, hg, if_neg h0]; rfl
    have h0' : (z == 0) = false := by rw [beq_eq_false_iff_ne]; exact h0
    obtain ⟨h4, _, _⟩ := (goodD_iff L).1 hg
    have CH := fun v base (V : World) h (h1 : V.cell? ⟨p1, 0, none⟩ = some (.string n) ∧ V.cell? ⟨p2, 0, none⟩ = some (.string s) ∧ p1 < base ∧ p2 < base ∧ base ≤ V.heap.size) => Lib.hid (writeCh_any L n s hs hg v base p1 p2 V h h1.1 h1.2.1 h1.2.2.1 h1.2.2.2.1 h1.2.2.2.2)
    generalize wrP L n s = R at *
    clear HS hg h0
    go_wp2_with fail
    (with_reducible refine CG.out.mono ?_)
    clear CG c0 c1
    rintro _ V2 ⟨rfl, b2⟩
    have A2 := A0.below b2 A0.lt
    have A3 := A1.below b2 A1.lt
    have b3 := b0.trans (b2.mono b0.size)
    clear A0 A1 b0 b2
    have c0 : V2.cell? ⟨w.heap.size, 0, none⟩ = some (.slice A L.length c) := A2.cell 0
    have c1 : V2.cell? ⟨w.heap.size, 1, none⟩ = some (.int .i64 z) := A2.cell 1
    have CL := Lib.hid (Clone_any L A c V2 (hP.up b3) (by omega))
    go_wp2_with fail
    (with_reducible refine CL.out.mono ?_)
    clear CL c0 c1
    rintro _ V3 ⟨v3, rfl, h3, b4⟩
    have A4 := A2.below b4 A2.lt
    have A5 := A3.below b4 A3.lt
    have b5 := b3.trans (b4.mono b3.size)
    have hw3 := A5.lt
    have hw2 := A3.lt
    have C3 := CH v3 V2.heap.size V3 h3 ⟨((b5.cell (p := ⟨p1, 0, none⟩) hq1).trans hp1), ((b5.cell (p := ⟨p2, 0, none⟩) hq2).trans hp2), (Nat.lt_of_lt_of_le hq1 b3.size), (Nat.lt_of_lt_of_le hq2 b3.size), b4.size⟩
    clear CH A2
    go_wp2_with fail
    (with_reducible refine C3.out.mono ?_)
    clear C3
    rintro x V4 ⟨hx, b6⟩
    have A6 := A4.below b6 (Nat.lt_of_lt_of_le (by omega) (Nat.le_refl _))
    have A7 := A5.below b6 (Nat.lt_of_lt_of_le (by omega) (Nat.le_refl _))
    have b7 := b5.trans (b6.mono b3.size)
    clear A4 A5 b6
    have c0 : V4.cell? ⟨w.heap.size, 0, none⟩ = some (.slice A L.length c) := A6.cell 0
    have c1 : V4.cell? ⟨w.heap.size, 1, none⟩ = some (.int .i64 z) := A6.cell 1
    cases R with
    | error e =>
      obtain ⟨he, rfl⟩ := hx
      go_wp2_with (refine wpList_store_row rfl 37 _ _ rfl (w.heap.size + 1) (dkArr L A c z) rfl rfl 37 dkZero A7 (dkInfo _ _ _ _) rfl (dkArr_one _ _ _ _) ?_)
      rw [HQ.out]
      have b8 := below_setRow b7 (show w.heap.size ≤ w.heap.size + 1 by omega) (dkArr L A c z)
      exact HRet.out _ _ ⟨L, z⟩ A c e (A7.row _) b8 (hP.up b8) hc rfl rfl rfl
    | ok L' =>
      obtain ⟨v', rfl, h8⟩ := hx
      obtain ⟨A', c', rfl, hc', hF'⟩ := own_files h8
      have CB := Lib.hid (burnt_any z hzf V4)
      go_wp2_with fail
      (with_reducible refine CB.out.mono ?_)
      clear CB
      rintro _ V4 ⟨rfl, rfl⟩
      generalize hbz : burnt z = bz at *
      have HBz := Lib.hid hbz
      clear hbz
      go_wp2_with (refine wpList_store_row rfl 37 _ _ rfl (w.heap.size + 1) (dkArr L' A' c' bz) rfl rfl 37 dkZero A7 (dkInfo _ _ _ _) rfl (dkArr_one _ _ _ _) ?_)
      rw [HQ.out]
      have b8 := below_setRow b7 (show w.heap.size ≤ w.heap.size + 1 by omega) (dkArr L' A' c' bz)
      have k8 : V4.grownBy (V4.setRow (w.heap.size + 1) (dkArr L' A' c' bz)) (some (w.heap.size + 1)) := gb_row _ _
      have h9 := own_kp h8 (Kp.gb k8) (fun q hq e => by have := own_row_ge h8 q hq; have := Option.some.inj e; omega)
      obtain ⟨A9, c9, e9, hc9, hF9⟩ := own_files h9
      simp only [Value.slice.injEq] at e9
      obtain ⟨rfl, _, rfl⟩ := e9
      exact HRet.out _ _ ⟨L', bz⟩ A' c' 0 (A7.row _) b8 hF9 hc9 rfl rfl rfl
end Go.Proofs.YtmikfmcgddmplaaGreatDoor

/- disk.Write, Sync, Rename, Remove: their contracts. -/
namespace Go.Proofs.YtmikfmcgddmplaaGreatDoor
open Go.RowKit

theorem dkZero_no : ∀ (i : Nat) (t : ByteArray), dkZero[i]? ≠ some (.string t)
  | 0, t => by simp [dkZero]
  | 1, t => by simp [dkZero]
  | n + 2, t => by simp [dkZero]
theorem Fls.row {w : World} {A : Option Addr} {L : List Fl} {g : Nat} (h : Fls w w.heap.size A L) (hg : Arr w g 37 dkZero) (cs' : Array Value) : Fls (w.setRow g cs') (w.setRow g cs').heap.size A L := fun k x hx => by
  obtain ⟨ad, e, hb, h0, h1, h2⟩ := h k x hx
  have k1 : w.grownBy (w.setRow g cs') (some g) := gb_row _ _
  have hne : (ad.add (k * 3)).block ≠ g := fun q => by
    rw [q, hg.cell] at h1
    exact dkZero_no _ _ h1
  have hn : ¬ some (ad.add (k * 3)).block = some g := fun q => hne (Option.some.inj q)
  exact ⟨ad, e, Nat.lt_of_lt_of_le hb k1.size, k1.cell h0 hn, k1.cell h1 hn, k1.cell h2 hn⟩
set_option maxRecDepth 100000 in
set_option maxHeartbeats 1000000 in
theorem Remove_any (L : List Fl) (n : ByteArray) (A : Option Addr) (c : Nat) (z : Int) (w : World) (hP : Fls w w.heap.size A L) (hz : Sized L) (hl : L.length ≤ 140737488355328) (hc : L.length ≤ c) (hzf : z ≤ 9223372036854775807) :
    Calls Tryz.prog 34 #[.agg #[.slice A L.length c, .int .i64 z], .string n] w (StEnd w (stepP ⟨L, z⟩ (rmP L n))) := by
  obtain ⟨W0, hW0⟩ : ∃ W0, W0 = ((w.alloc (.cells (dkArr L A c z) 37)).alloc (.cells #[.string n] 9)).alloc (.cells dkZero 37) := ⟨_, rfl⟩
  have hfacts : Arr W0 w.heap.size 37 (dkArr L A c z) ∧ Arr W0 (w.heap.size + 1) 9 #[.string n] ∧ Arr W0 (w.heap.size + 2) 37 dkZero ∧ Below w.heap.size w W0 := by
    rw [hW0]
    exact ⟨(((Arr.new _ _ _).alloc _).alloc _), ((Arr.new_at _ _ _ (by simp)).alloc _), Arr.new_at _ _ _ (by simp), (((Below.refl _ _).alloc (Nat.le_refl _) _).alloc (by simp <;> omega) _).alloc (by simp <;> omega) _⟩
  have HF := Lib.hid hfacts
  have HW := Lib.hid hW0
  clear hfacts hW0
  generalize hQ : stepP ⟨L, z⟩ (rmP L n) = Q at *
  have HQ := Lib.hid hQ
  clear hQ
  go_enter Tryz.func34, Tryz.ntmps34
  go_upto_region 1 with fail
  refine wp_forget (fun V => Arr V w.heap.size 37 (dkArr L A c z) ∧ Arr V (w.heap.size + 1) 9 #[.string n] ∧ Arr V (w.heap.size + 2) 37 dkZero ∧ Below w.heap.size w V) (by have := HF.out; rw [HW.out] at this; exact this) ?_
  clear HF HW
  clear W0
  rintro V ⟨A0, B1, A1, b0⟩
  have c0 : V.cell? ⟨w.heap.size, 0, none⟩ = some (.slice A L.length c) := A0.cell 0
  have c1 : V.cell? ⟨w.heap.size, 1, none⟩ = some (.int .i64 z) := A0.cell 1
  have CS : Hid (Calls Tryz.prog 61 #[.agg #[.slice A L.length c, .int .i64 z], .func (.func 62) #[] #[.pointer (some ⟨w.heap.size + 1, 0, none⟩)]] V (StEnd V (stepP ⟨L, z⟩ (rmP L n)))) := stepRemove_any L n A c z V (hP.up b0) hz hl hc hzf (w.heap.size + 1) (B1.cell 0) B1.lt
  rw [HQ.out] at CS
  go_wp2_with fail
  (with_reducible refine CS.out.mono ?_)
  clear CS c0 c1
  rintro _ V2 ⟨A', c', rfl, hF, hc', b2⟩
  have A2 := A1.below b2 A1.lt
  have b3 := b0.trans (b2.mono b0.size)
  clear A0 A1 b0 b2
  obtain ⟨d, e⟩ := Q
  simp only at hF hc'
  go_wp2_with (refine wpList_store_row rfl 37 _ _ rfl (w.heap.size + 2) (dkArr d.files A' c' d.fuse) rfl rfl 37 dkZero A2 (dkInfo _ _ _ _) rfl (dkArr_one _ _ _ _) ?_)
  refine bodyPost_ret (v := .tuple #[.agg (dkArr d.files A' c' d.fuse), .int .i64 e]) ?_ rfl ⟨A', c', rfl, hF.row A2 _, hc', below_setRow b3 (by omega) _⟩
  rw [results_cell_tmp Tryz.results34]
  have hld := run_loadVar_row (P := Tryz.prog) _ _ _ 37 _ _ _ (A2.row (dkArr d.files A' c' d.fuse)) Tryz.underlying37 rfl (dkInfo _ _ _ _)
  simp [asAddr, hld, Result.andThen]
set_option maxRecDepth 100000 in
set_option maxHeartbeats 1000000 in
theorem Sync_any (L : List Fl) (n : ByteArray) (A : Option Addr) (c : Nat) (z : Int) (w : World) (hP : Fls w w.heap.size A L) (hz : Sized L) (hl : L.length ≤ 140737488355328) (hc : L.length ≤ c) (hzf : z ≤ 9223372036854775807) :
    Calls Tryz.prog 96 #[.agg #[.slice A L.length c, .int .i64 z], .string n] w (StEnd w (stepP ⟨L, z⟩ (syP L n))) := by
  obtain ⟨W0, hW0⟩ : ∃ W0, W0 = ((w.alloc (.cells (dkArr L A c z) 37)).alloc (.cells #[.string n] 9)).alloc (.cells dkZero 37) := ⟨_, rfl⟩
  have hfacts : Arr W0 w.heap.size 37 (dkArr L A c z) ∧ Arr W0 (w.heap.size + 1) 9 #[.string n] ∧ Arr W0 (w.heap.size + 2) 37 dkZero ∧ Below w.heap.size w W0 := by
    rw [hW0]
    exact ⟨(((Arr.new _ _ _).alloc _).alloc _), ((Arr.new_at _ _ _ (by simp)).alloc _), Arr.new_at _ _ _ (by simp), (((Below.refl _ _).alloc (Nat.le_refl _) _).alloc (by simp <;> omega) _).alloc (by simp <;> omega) _⟩
  have HF := Lib.hid hfacts
  have HW := Lib.hid hW0
  clear hfacts hW0
  generalize hQ : stepP ⟨L, z⟩ (syP L n) = Q at *
  have HQ := Lib.hid hQ
  clear hQ
  go_enter Tryz.func96, Tryz.ntmps96
  go_upto_region 1 with fail
  refine wp_forget (fun V => Arr V w.heap.size 37 (dkArr L A c z) ∧ Arr V (w.heap.size + 1) 9 #[.string n] ∧ Arr V (w.heap.size + 2) 37 dkZero ∧ Below w.heap.size w V) (by have := HF.out; rw [HW.out] at this; exact this) ?_
  clear HF HW
  clear W0
  rintro V ⟨A0, B1, A1, b0⟩
  have c0 : V.cell? ⟨w.heap.size, 0, none⟩ = some (.slice A L.length c) := A0.cell 0
  have c1 : V.cell? ⟨w.heap.size, 1, none⟩ = some (.int .i64 z) := A0.cell 1
  have CS : Hid (Calls Tryz.prog 61 #[.agg #[.slice A L.length c, .int .i64 z], .func (.func 136) #[] #[.pointer (some ⟨w.heap.size + 1, 0, none⟩)]] V (StEnd V (stepP ⟨L, z⟩ (syP L n)))) := stepSync_any L n A c z V (hP.up b0) hz hl hc hzf (w.heap.size + 1) (B1.cell 0) B1.lt
  rw [HQ.out] at CS
  go_wp2_with fail
  (with_reducible refine CS.out.mono ?_)
  clear CS c0 c1
  rintro _ V2 ⟨A', c', rfl, hF, hc', b2⟩
  have A2 := A1.below b2 A1.lt
  have b3 := b0.trans (b2.mono b0.size)
  clear A0 A1 b0 b2
  obtain ⟨d, e⟩ := Q
  simp only at hF hc'
  go_wp2_with (refine wpList_store_row rfl 37 _ _ rfl (w.heap.size + 2) (dkArr d.files A' c' d.fuse) rfl rfl 37 dkZero A2 (dkInfo _ _ _ _) rfl (dkArr_one _ _ _ _) ?_)
  refine bodyPost_ret (v := .tuple #[.agg (dkArr d.files A' c' d.fuse), .int .i64 e]) ?_ rfl ⟨A', c', rfl, hF.row A2 _, hc', below_setRow b3 (by omega) _⟩
  rw [results_cell_tmp Tryz.results96]
  have hld := run_loadVar_row (P := Tryz.prog) _ _ _ 37 _ _ _ (A2.row (dkArr d.files A' c' d.fuse)) Tryz.underlying37 rfl (dkInfo _ _ _ _)
  simp [asAddr, hld, Result.andThen]
set_option maxRecDepth 100000 in
set_option maxHeartbeats 1000000 in
theorem Rename_any (L : List Fl) (n m : ByteArray) (A : Option Addr) (c : Nat) (z : Int) (w : World) (hP : Fls w w.heap.size A L) (hz : Sized L) (hl : L.length ≤ 140737488355328) (hc : L.length ≤ c) (hzf : z ≤ 9223372036854775807) :
    Calls Tryz.prog 97 #[.agg #[.slice A L.length c, .int .i64 z], .string n, .string m] w (StEnd w (stepP ⟨L, z⟩ (rnP L n m))) := by
  obtain ⟨W0, hW0⟩ : ∃ W0, W0 = (((w.alloc (.cells (dkArr L A c z) 37)).alloc (.cells #[.string n] 9)).alloc (.cells #[.string m] 9)).alloc (.cells dkZero 37) := ⟨_, rfl⟩
  have hfacts : Arr W0 w.heap.size 37 (dkArr L A c z) ∧ Arr W0 (w.heap.size + 1) 9 #[.string n] ∧ Arr W0 (w.heap.size + 2) 9 #[.string m] ∧ Arr W0 (w.heap.size + 3) 37 dkZero ∧ Below w.heap.size w W0 := by
    rw [hW0]
    exact ⟨((((Arr.new _ _ _).alloc _).alloc _).alloc _), (((Arr.new_at _ _ _ (by simp)).alloc _).alloc _), ((Arr.new_at _ _ _ (by simp)).alloc _), Arr.new_at _ _ _ (by simp), ((((Below.refl _ _).alloc (Nat.le_refl _) _).alloc (by simp <;> omega) _).alloc (by simp <;> omega) _).alloc (by simp <;> omega) _⟩
  have HF := Lib.hid hfacts
  have HW := Lib.hid hW0
  clear hfacts hW0
  generalize hQ : stepP ⟨L, z⟩ (rnP L n m) = Q at *
  have HQ := Lib.hid hQ
  clear hQ
  go_enter Tryz.func97, Tryz.ntmps97
  go_upto_region 1 with fail
  refine wp_forget (fun V => Arr V w.heap.size 37 (dkArr L A c z) ∧ Arr V (w.heap.size + 1) 9 #[.string n] ∧ Arr V (w.heap.size + 2) 9 #[.string m] ∧ Arr V (w.heap.size + 3) 37 dkZero ∧ Below w.heap.size w V) (by have := HF.out; rw [HW.out] at this; exact this) ?_
  clear HF HW
  clear W0
  rintro V ⟨A0, B1, B2, A1, b0⟩
  have c0 : V.cell? ⟨w.heap.size, 0, none⟩ = some (.slice A L.length c) := A0.cell 0
  have c1 : V.cell? ⟨w.heap.size, 1, none⟩ = some (.int .i64 z) := A0.cell 1
  have CS : Hid (Calls Tryz.prog 61 #[.agg #[.slice A L.length c, .int .i64 z], .func (.func 137) #[] #[.pointer (some ⟨w.heap.size + 2, 0, none⟩), .pointer (some ⟨w.heap.size + 1, 0, none⟩)]] V (StEnd V (stepP ⟨L, z⟩ (rnP L n m)))) := stepRename_any L n m A c z V (hP.up b0) hz hl hc hzf (w.heap.size + 2) (w.heap.size + 1) (B2.cell 0) (B1.cell 0) B2.lt B1.lt
  rw [HQ.out] at CS
  go_wp2_with fail
  (with_reducible refine CS.out.mono ?_)
  clear CS c0 c1
  rintro _ V2 ⟨A', c', rfl, hF, hc', b2⟩
  have A2 := A1.below b2 A1.lt
  have b3 := b0.trans (b2.mono b0.size)
  clear A0 A1 b0 b2
  obtain ⟨d, e⟩ := Q
  simp only at hF hc'
  go_wp2_with (refine wpList_store_row rfl 37 _ _ rfl (w.heap.size + 3) (dkArr d.files A' c' d.fuse) rfl rfl 37 dkZero A2 (dkInfo _ _ _ _) rfl (dkArr_one _ _ _ _) ?_)
  refine bodyPost_ret (v := .tuple #[.agg (dkArr d.files A' c' d.fuse), .int .i64 e]) ?_ rfl ⟨A', c', rfl, hF.row A2 _, hc', below_setRow b3 (by omega) _⟩
  rw [results_cell_tmp Tryz.results97]
  have hld := run_loadVar_row (P := Tryz.prog) _ _ _ 37 _ _ _ (A2.row (dkArr d.files A' c' d.fuse)) Tryz.underlying37 rfl (dkInfo _ _ _ _)
  simp [asAddr, hld, Result.andThen]
set_option maxRecDepth 100000 in
set_option maxHeartbeats 1000000 in
theorem Write_any (L : List Fl) (n s : ByteArray) (hs : s.size ≤ 140737488355328) (A : Option Addr) (c : Nat) (z : Int) (w : World) (hP : Fls w w.heap.size A L) (hz : Sized L) (hl : L.length ≤ 140737488355328) (hc : L.length ≤ c) (hzf : z ≤ 9223372036854775807) :
    Calls Tryz.prog 95 #[.agg #[.slice A L.length c, .int .i64 z], .string n, .string s] w (StEnd w (stepP ⟨L, z⟩ (wrP L n s))) := by
  obtain ⟨W0, hW0⟩ : ∃ W0, W0 = (((w.alloc (.cells (dkArr L A c z) 37)).alloc (.cells #[.string n] 9)).alloc (.cells #[.string s] 9)).alloc (.cells dkZero 37) := ⟨_, rfl⟩
  have hfacts : Arr W0 w.heap.size 37 (dkArr L A c z) ∧ Arr W0 (w.heap.size + 1) 9 #[.string n] ∧ Arr W0 (w.heap.size + 2) 9 #[.string s] ∧ Arr W0 (w.heap.size + 3) 37 dkZero ∧ Below w.heap.size w W0 := by
    rw [hW0]
    exact ⟨((((Arr.new _ _ _).alloc _).alloc _).alloc _), (((Arr.new_at _ _ _ (by simp)).alloc _).alloc _), ((Arr.new_at _ _ _ (by simp)).alloc _), Arr.new_at _ _ _ (by simp), ((((Below.refl _ _).alloc (Nat.le_refl _) _).alloc (by simp <;> omega) _).alloc (by simp <;> omega) _).alloc (by simp <;> omega) _⟩
  have HF := Lib.hid hfacts
  have HW := Lib.hid hW0
  clear hfacts hW0
  generalize hQ : stepP ⟨L, z⟩ (wrP L n s) = Q at *
  have HQ := Lib.hid hQ
  clear hQ
  go_enter Tryz.func95, Tryz.ntmps95
  go_upto_region 1 with fail
  refine wp_forget (fun V => Arr V w.heap.size 37 (dkArr L A c z) ∧ Arr V (w.heap.size + 1) 9 #[.string n] ∧ Arr V (w.heap.size + 2) 9 #[.string s] ∧ Arr V (w.heap.size + 3) 37 dkZero ∧ Below w.heap.size w V) (by have := HF.out; rw [HW.out] at this; exact this) ?_
  clear HF HW
  clear W0
  rintro V ⟨A0, B1, B2, A1, b0⟩
  have c0 : V.cell? ⟨w.heap.size, 0, none⟩ = some (.slice A L.length c) := A0.cell 0
  have c1 : V.cell? ⟨w.heap.size, 1, none⟩ = some (.int .i64 z) := A0.cell 1
  have CS : Hid (Calls Tryz.prog 61 #[.agg #[.slice A L.length c, .int .i64 z], .func (.func 134) #[] #[.pointer (some ⟨w.heap.size + 1, 0, none⟩), .pointer (some ⟨w.heap.size + 2, 0, none⟩)]] V (StEnd V (stepP ⟨L, z⟩ (wrP L n s)))) := stepWrite_any L n s hs A c z V (hP.up b0) hz hl hc hzf (w.heap.size + 1) (w.heap.size + 2) (B1.cell 0) (B2.cell 0) B1.lt B2.lt
  rw [HQ.out] at CS
  go_wp2_with fail
  (with_reducible refine CS.out.mono ?_)
  clear CS c0 c1
  rintro _ V2 ⟨A', c', rfl, hF, hc', b2⟩
  have A2 := A1.below b2 A1.lt
  have b3 := b0.trans (b2.mono b0.size)
  clear A0 A1 b0 b2
  obtain ⟨d, e⟩ := Q
  simp only at hF hc'
  go_wp2_with (refine wpList_store_row rfl 37 _ _ rfl (w.heap.size + 3) (dkArr d.files A' c' d.fuse) rfl rfl 37 dkZero A2 (dkInfo _ _ _ _) rfl (dkArr_one _ _ _ _) ?_)
  refine bodyPost_ret (v := .tuple #[.agg (dkArr d.files A' c' d.fuse), .int .i64 e]) ?_ rfl ⟨A', c', rfl, hF.row A2 _, hc', below_setRow b3 (by omega) _⟩
  rw [results_cell_tmp Tryz.results95]
  have hld := run_loadVar_row (P := Tryz.prog) _ _ _ 37 _ _ _ (A2.row (dkArr d.files A' c' d.fuse)) Tryz.underlying37 rfl (dkInfo _ _ _ _)
  simp [asAddr, hld, Result.andThen]
end Go.Proofs.YtmikfmcgddmplaaGreatDoor

/- disk.Read; keep.sameDisk, keep.disks: contracts. -/
namespace Go.Proofs.YtmikfmcgddmplaaGreatDoor
open Go.RowKit

set_option maxRecDepth 100000 in
set_option maxHeartbeats 1000000 in
theorem DkRead_any (L : List Fl) (n : ByteArray) (A : Option Addr) (c : Nat) (z : Int) (w : World) (hP : Fls w w.heap.size A L) (hz : Sized L) (hl : L.length ≤ 140737488355328) :
    Calls Tryz.prog 56 #[.agg #[.slice A L.length c, .int .i64 z], .string n] w fun e w' => e = .returned (.tuple #[.string (readD ⟨L, z⟩ n).1, .int .i64 (readD ⟨L, z⟩ n).2]) ∧ Below w.heap.size w w' := by
  have A0 : Arr (w.alloc (.cells (dkArr L A c z) 37)) w.heap.size 37 (dkArr L A c z) := Arr.new _ _ _
  have b0 : Below w.heap.size w (w.alloc (.cells (dkArr L A c z) 37)) := (Below.refl _ _).alloc (Nat.le_refl _) _
  have HS : Hid (readD ⟨L, z⟩ n = if !goodD L then ((⟨#[]⟩, 3) : ByteArray × Int) else match getF n L with
    | none => (⟨#[]⟩, 7)
    | some f => (f.safe ++ f.tail, 0)) := rfl
  generalize readD ⟨L, z⟩ n = Q at *
  go_enter Tryz.func56, Tryz.ntmps56
  go_upto_region 1 with fail
  refine wp_forget (fun V => Arr V w.heap.size 37 (dkArr L A c z) ∧ Below w.heap.size w V) (by exact ⟨A0, b0⟩) ?_
  clear A0 b0
  rintro V ⟨A0, b0⟩
  have c0 : V.cell? ⟨w.heap.size, 0, none⟩ = some (.slice A L.length c) := A0.cell 0
  have c1 : V.cell? ⟨w.heap.size, 1, none⟩ = some (.int .i64 z) := A0.cell 1
  have CG : Hid (Calls Tryz.prog 93 #[.agg #[.slice A L.length c, .int .i64 z]] V fun e w' => e = .returned (.bool (goodD L)) ∧ Below V.heap.size V w') := DkGood_any L A c z V (hP.up b0) hz hl
  cases hg : goodD L with
  | false =>
    rw [hg] at CG
    have HQ : Hid (Q = (⟨#[]⟩, 3)) := by show _ = _; rw [HS.out, hg]; rfl
    clear HS hg
    go_wp2_with fail
    (with_reducible refine CG.out.mono ?_)
    clear CG c0 c1
    rintro _ V2 ⟨rfl, b2⟩
    go_wp2_with fail
    go_ret2
    exact ⟨by rw [HQ.out]; rfl, b0.trans (b2.mono b0.size)⟩
  | true =>
    rw [hg] at CG
    obtain ⟨h4, hr, hall⟩ := (goodD_iff L).1 hg
    go_wp2_with fail
    (with_reducible refine CG.out.mono ?_)
    clear CG c0 c1
    rintro _ V2 ⟨rfl, b2⟩
    have A2 := A0.below b2 A0.lt
    have b3 := b0.trans (b2.mono b0.size)
    have c0 : V2.cell? ⟨w.heap.size, 0, none⟩ = some (.slice A L.length c) := A2.cell 0
    have CF := Lib.hid (find_any L n A c V2 (hP.up b3) (by omega) hr)
    clear A0 b0 b2
    cases hbn : hasN n L with
    | false =>
      rw [hbn] at CF
      have HQ : Hid (Q = (⟨#[]⟩, 7)) := by
        show _ = _
        rw [HS.out, hg]
        unfold hasN at hbn
        cases hgf : getF n L with
        | none => rfl
        | some f => rw [hgf] at hbn; cases hbn
      clear HS hg hbn
      go_wp2_with fail
      (with_reducible refine CF.out.mono ?_)
      clear CF c0
      rintro _ V3 ⟨rfl, b4⟩
      go_wp2_with fail
      go_ret2
      exact ⟨by rw [HQ.out]; rfl, b3.trans (b4.mono b3.size)⟩
    | true =>
      rw [hbn] at CF
      obtain ⟨f, hgf, hx, hfn, hlt⟩ := has_some hr hbn
      clear hfn
      have HQ : Hid (Q = (f.safe ++ f.tail, 0)) := by show _ = _; rw [HS.out, hg, hgf]; rfl
      have hfit : f.safe.size + f.tail.size ≤ 1048576 := by
        have := (hall f (List.mem_of_getElem? hx)).2
        unfold fits at this
        exact of_decide_eq_true this
      have hli : (low n L : Int) < L.length := by omega
      generalize low n L = i at *
      clear HS hg hbn hgf hall hr
      go_wp2_with fail
      (with_reducible refine CF.out.mono ?_)
      clear CF c0
      rintro _ V3 ⟨rfl, b4⟩
      have A3 := A2.below b4 A2.lt
      have b5 := b3.trans (b4.mono b3.size)
      obtain ⟨ad, rfl, hbk, d0, d1, d2⟩ := (hP.up b5) i f hx
      have c0 : V3.cell? ⟨w.heap.size, 0, none⟩ = some (.slice (some ad) L.length c) := A3.cell 0
      have CC : Hid (Calls Tryz.prog 99 #[.agg #[.string f.name, .string f.safe, .string f.tail]] V3 fun e w' => e = .returned (.string (f.safe ++ f.tail)) ∧ Below V3.heap.size V3 w') := content_any f (by omega) (by omega) V3
      clear A2 b3 b4 hx
      go_wp2_with fail
      (with_reducible refine CC.out.mono ?_)
      clear CC c0 d0 d1 d2
      rintro _ V4 ⟨rfl, b6⟩
      go_wp2_with fail
      go_ret2
      exact ⟨by rw [HQ.out]; rfl, b5.trans (b6.mono b5.size)⟩
def neF (x y : Fl) : Bool := !(sameB x.name y.name && sameB x.safe y.safe && sameB x.tail y.tail)
theorem neF_iff (x y : Fl) : neF x y = false ↔ x = y := by
  unfold neF
  obtain ⟨a, b, c⟩ := x
  obtain ⟨a', b', c'⟩ := y
  simp [sameB_iff, and_assoc]
set_option maxRecDepth 100000 in
theorem neF_run (a a' b b' c c' : ByteArray) (w : World) :
    (binOp .neq 68 (.agg #[.string a, .string b, .string c]) (.agg #[.string a', .string b', .string c'])).run Tryz.prog w = .ok (.bool (neF ⟨a, b, c⟩ ⟨a', b', c'⟩)) w := by
  unfold neF sameB
  go_simp
  repeat' split
  all_goals simp_all
theorem take_same {α : Type} {T U : List α} {k : Nat} (h : T.take k = U.take k) (h1 : k < T.length) (h2 : k < U.length) (e : T[k] = U[k]) : T.take (k + 1) = U.take (k + 1) := by
  rw [List.take_succ_eq_append_getElem h1, List.take_succ_eq_append_getElem h2, h, e]
/-- two disks, boxed -/
structure Two (w : World) (L M : List Fl) (A B : Option Addr) (c d : Nat) (z y : Int) (W : World) : Prop where
  a : Arr W w.heap.size 37 (dkArr L A c z)
  b : Arr W (w.heap.size + 1) 37 (dkArr M B d y)
  bel : Below w.heap.size w W
theorem Two.drewN {w : World} {L M : List Fl} {A B : Option Addr} {c d : Nat} {z y : Int} {W : World} (h : Two w L M A B c d z y W) (n : Nat) : Two w L M A B c d z y (W.drewN n) := ⟨h.a.drewN n, h.b.drewN n, below_drewN h.bel n⟩
theorem two_start (w : World) (L M : List Fl) (A B : Option Addr) (c d : Nat) (z y : Int) : Two w L M A B c d z y ((w.alloc (.cells (dkArr L A c z) 37)).alloc (.cells (dkArr M B d y) 37)) :=
  ⟨(Arr.new _ _ _).alloc _, Arr.new_at _ _ _ (by simp), ((Below.refl _ _).alloc (Nat.le_refl _) _).alloc (by simp) _⟩
def SdRel (w : World) (L M : List Fl) (A B : Option Addr) (c d : Nat) (z y : Int) (i : Value) (wr : World) : Prop :=
  ∃ k : Nat, k ≤ M.length ∧ i = .int .i64 (k : Int) ∧ L.take k = M.take k ∧ Two w L M A B c d z y wr
end Go.Proofs.YtmikfmcgddmplaaGreatDoor

/- keep.disks, law.disks; what a step leaves. -/
namespace Go.Proofs.YtmikfmcgddmplaaGreatDoor
open Go.RowKit

theorem good_sized {L : List Fl} (h : goodD L = true) : Sized L ∧ L.length ≤ 400 := by
  obtain ⟨h1, _, h3⟩ := (goodD_iff L).1 h
  refine ⟨fun f hf => ?_, h1⟩
  obtain ⟨k1, k2⟩ := h3 f hf
  unfold named at k1
  unfold fits at k2
  have k2 := of_decide_eq_true k2
  rw [Bool.and_eq_true, Bool.and_eq_true, decide_eq_true_iff, decide_eq_true_iff] at k1
  exact ⟨by omega, by omega, by omega⟩
def aT : ByteArray := ⟨#[97]⟩
def bT : ByteArray := ⟨#[98]⟩
theorem disks_step : stepP ⟨[], -1⟩ (wrP [] aT bT) = (⟨[⟨aT, ⟨#[]⟩, bT⟩], -1⟩, 0) := by decide +kernel
theorem disks_named : named ⟨#[97, 46, 98, 45, 99]⟩ = true := by decide +kernel
/-- what a step that says no leaves -/
theorem step_no {d : Dk} {r : Except Int (List Fl)} (h : (stepP d r).2 ≠ 0) : (stepP d r).1 = d := by
  unfold stepP at h ⊢
  split
  · rfl
  · rename_i h1
    rw [if_neg h1] at h
    split
    · rfl
    · rename_i h2
      rw [if_neg h2] at h
      cases r with
      | error e => rfl
      | ok L => exact absurd rfl h
theorem step_yes {d : Dk} {r : Except Int (List Fl)} (hr : ∀ e, r = .error e → e ≠ 0) (h : (stepP d r).2 = 0) : goodD d.files = true ∧ d.fuse ≠ 0 ∧ ∃ L, r = .ok L ∧ stepP d r = (⟨L, burnt d.fuse⟩, 0) := by
  unfold stepP at h ⊢
  cases hg : goodD d.files with
  | false => rw [hg] at h; simp at h
  | true =>
    rw [hg] at h
    simp only [Bool.not_true, Bool.false_eq_true, if_false] at h ⊢
    by_cases hz : d.fuse = 0
    · rw [if_pos hz] at h; simp at h
    · rw [if_neg hz] at h ⊢
      cases r with
      | error e => exact absurd h (hr e rfl)
      | ok L => exact ⟨trivial, hz, L, rfl, rfl⟩
theorem rn_err {L : List Fl} {n m : ByteArray} : ∀ e, rnP L n m = .error e → e ≠ 0 := fun e h => by
  unfold rnP at h
  split at h
  · cases h; decide
  · split at h
    · cases h; decide
    · cases h
theorem rn_ok {L L' : List Fl} {n m : ByteArray} (hG : goodD L = true) (h : rnP L n m = .ok L') : ∃ f, getF n L = some f ∧ getF m L' = some ⟨m, f.safe, f.tail⟩ ∧ (n ≠ m → getF n L' = none) ∧ goodD L' = true := by
  obtain ⟨h4, hr, hall⟩ := (goodD_iff L).1 hG
  unfold rnP at h
  cases hm : named m with
  | false => rw [hm] at h; simp at h
  | true =>
    rw [hm] at h
    simp only [Bool.not_true, Bool.false_eq_true, if_false] at h
    cases hf : getF n L with
    | none => rw [hf] at h; cases h
    | some f =>
      rw [hf] at h
      cases h
      have hdr := del_ris n L _ hr
      refine ⟨f, rfl, ?_, fun hne => ?_, ?_⟩
      · rw [getF_put m _ _ _ hdr, if_pos rfl]
      · rw [getF_put n _ _ _ hdr, if_neg (fun e => hne e.symm), getF_del, if_pos rfl]
      · have hx := (fits_get hG hf).2
        refine good_put (good_del hG) hm hx (.inr ?_)
        have hn := getF_name hf
        have : (del n L).length < L.length := by
          have hs : (getF n L).isSome = true := by rw [hf]; rfl
          have hlt := (has_some hr (n := n) (by unfold hasN; exact hs))
          obtain ⟨_, _, _, _, hlt⟩ := hlt
          rw [del_cut n L _ hr hs, List.length_append, List.length_take, List.length_drop]
          omega
        omega
end Go.Proofs.YtmikfmcgddmplaaGreatDoor

/- store.fileName, store.Get: contracts. -/
namespace Go.Proofs.YtmikfmcgddmplaaGreatDoor
open Go.RowKit

theorem sumB_size (s : ByteArray) : (sumB s).size = 32 := by
  unfold sumB
  rw [bs_size]
  exact digest_length _ (blocks_len8 _ _ (blocks_len8 _ _ rfl))
theorem readD_size (d : Dk) (n : ByteArray) : (readD d n).1.size ≤ 1048576 := by
  unfold readD
  cases hG : goodD d.files with
  | false => exact Nat.zero_le _
  | true =>
    simp only [Bool.not_true, Bool.false_eq_true, if_false]
    split
    · exact Nat.zero_le _
    · rename_i f hf
      obtain ⟨_, h2⟩ := fits_get hG hf
      unfold fits at h2
      have := of_decide_eq_true h2
      show (f.safe ++ f.tail).size ≤ _
      rw [ByteArray.size_append]
      exact this
theorem fileName_st (id : ByteArray) (hi : id.size = 32) (w : World) : Calls Tryz.prog 55 #[.string id] w fun e w' => e = .returned (.string (fileN id)) ∧ Below w.heap.size w w' := by
  have C := Lib.hid (Hex_any id (by omega) w)
  have hh : (bs (hexOf id.data.toList)).size ≤ 64 := by rw [bs_size, hexOf_length]; show 2 * id.size ≤ 64; omega
  have HF : Hid (fileN id = ⟨#[111]⟩ ++ bs (hexOf id.data.toList)) := rfl
  clear hi
  generalize bs (hexOf id.data.toList) = H at *
  generalize fileN id = F at *
  go_enter Tryz.func55, Tryz.ntmps55
  go_wp2_with fail
  (with_reducible refine C.out.mono ?_)
  rintro _ w1 ⟨rfl, b1⟩
  go_wp2_with fail
  go_ret
  exact ⟨by rw [HF.out]; rfl, b1⟩
/-- a disk argument in its block -/
def Pv (w : World) (L : List Fl) (A : Option Addr) (c : Nat) (z : Int) (W : World) : Prop :=
  Arr W w.heap.size 37 (dkArr L A c z) ∧ Fls W W.heap.size A L ∧ Below w.heap.size w W
theorem Pv.start {w : World} {L : List Fl} {A : Option Addr} {c : Nat} {z : Int} (hP : Fls w w.heap.size A L) : Pv w L A c z (w.alloc (.cells (dkArr L A c z) 37)) :=
  have b0 : Below w.heap.size w (w.alloc (.cells (dkArr L A c z) 37)) := (Below.refl _ _).alloc (Nat.le_refl _) _
  ⟨Arr.new _ _ _, hP.up b0, b0⟩
theorem Pv.below {w : World} {L : List Fl} {A : Option Addr} {c : Nat} {z : Int} {W W' : World} (h : Pv w L A c z W) (b : Below W.heap.size W W') : Pv w L A c z W' := ⟨h.1.below b h.1.lt, h.2.1.up b, h.2.2.trans (b.mono h.2.2.size)⟩
theorem Pv.drew {w : World} {L : List Fl} {A : Option Addr} {c : Nat} {z : Int} {W : World} (h : Pv w L A c z W) : Pv w L A c z W.drew := h.below (below_drewN (Below.refl _ _) 1)
theorem Pv.hold {w : World} {L : List Fl} {A : Option Addr} {c : Nat} {z : Int} {W : World} (h : Pv w L A c z W) : W.cell? ⟨w.heap.size, 0, none⟩ = some (.slice A L.length c) ∧ W.cell? ⟨w.heap.size, 1, none⟩ = some (.int .i64 z) := ⟨h.1.cell 0, h.1.cell 1⟩
theorem Pv.fls {w : World} {L : List Fl} {A : Option Addr} {c : Nat} {z : Int} {W : World} (h : Pv w L A c z W) : Fls W W.heap.size A L := h.2.1
theorem Pv.bel {w : World} {L : List Fl} {A : Option Addr} {c : Nat} {z : Int} {W : World} (h : Pv w L A c z W) : Below w.heap.size w W := h.2.2
set_option maxRecDepth 100000 in
set_option maxHeartbeats 1000000 in
theorem Get_st (L : List Fl) (id : ByteArray) (A : Option Addr) (c : Nat) (z : Int) (w : World) (hP : Fls w w.heap.size A L) (hz : Sized L) (hl : L.length ≤ 140737488355328) (ht : Tab w) :
    Calls Tryz.prog 31 #[.agg #[.slice A L.length c, .int .i64 z], .string id] w fun e w' => e = .returned (.tuple #[.string (getO ⟨L, z⟩ id).1, .int .i64 (getO ⟨L, z⟩ id).2]) ∧ Below w.heap.size w w' := by
  have A0 : Arr (w.alloc (.cells (dkArr L A c z) 37)) w.heap.size 37 (dkArr L A c z) := Arr.new _ _ _
  have b0 : Below w.heap.size w (w.alloc (.cells (dkArr L A c z) 37)) := (Below.refl _ _).alloc (Nat.le_refl _) _
  have HS : Hid (getO ⟨L, z⟩ id = if id.size ≠ 32 then (⟨#[]⟩, 2) else tellR (readD ⟨L, z⟩ (fileN id)) id) := rfl
  have CF := fun h V => Lib.hid (fileName_st id h V)
  have hs := readD_size ⟨L, z⟩ (fileN id)
  have CR := fun V h => Lib.hid (DkRead_any L (fileN id) A c z V h hz hl)
  generalize getO ⟨L, z⟩ id = Q at *
  by_cases hi : id.size = 32
  case neg =>
    have hne : ((id.size : Int) != 32) = true := by rw [bne_iff_ne]; omega
    have HQ : Hid (Q = (⟨#[]⟩, 2)) := by show _ = _; rw [HS.out, if_pos hi]
    clear HS hi CF CR hs
    go_enter Tryz.func31, Tryz.ntmps31
    go_wp2_with fail
    go_ret2
    exact ⟨by rw [HQ.out]; rfl, b0⟩
  have hne : ((id.size : Int) != 32) = false := by rw [hi]; rfl
  replace CF := CF hi
  have HS1 : Hid (Q = tellR (readD ⟨L, z⟩ (fileN id)) id) := by show _ = _; rw [HS.out, if_neg (fun h => h hi)]
  clear HS hi
  generalize fileN id = F at *
  have HS2 : Hid (Q = if (readD ⟨L, z⟩ F).2 ≠ 0 then (⟨#[]⟩, (readD ⟨L, z⟩ F).2) else if sumB (readD ⟨L, z⟩ F).1 ≠ id then (⟨#[]⟩, 5) else ((readD ⟨L, z⟩ F).1, 0)) := HS1
  clear HS1
  generalize readD ⟨L, z⟩ F = R at *
  obtain ⟨s, e⟩ := R
  have hs' : s.size ≤ 1048576 := hs
  clear hs
  go_enter Tryz.func31, Tryz.ntmps31
  replace CR : ∀ V, Fls V V.heap.size A L → Hid (Calls Tryz.prog 56 #[.agg #[.slice A L.length c, .int .i64 z], .string F] V fun x w' => x = .returned (.tuple #[.string s, .int .i64 e]) ∧ Below V.heap.size V w') := CR
  have hV0 : Pv w L A c z (w.alloc (.cells (dkArr L A c z) 37)) := Pv.start hP
  go_upto_region 3 with fail
  refine wp_forget (Pv w L A c z) (by exact hV0) ?_
  clear hV0 A0 b0
  intro V hV0
  have hV := hV0.drew
  go_wp2_with fail
  go_region_held3 (fun w' => w'.cell? ⟨w.heap.size, 0, none⟩ = some (.slice A L.length c) ∧ w'.cell? ⟨w.heap.size, 1, none⟩ = some (.int .i64 z))
    (first | exact hV.hold | exact hV1.hold | exact hV2.hold)
    (first
      | (go_at_call 55
         (with_reducible refine (CF _).out.mono ?_)
         rintro _ w1 ⟨rfl, b1⟩
         have hV1 := hV.below b1)
      | (go_at_call 56
         (with_reducible refine (CR _ hV1.fls).out.mono ?_)
         rintro _ w2 ⟨rfl, b2⟩
         have hV2 := hV1.below b2))
  have b0 := hV2.bel
  go_upto_region 4 with fail
  refine wp_forget (fun W => Below w.heap.size w W) (by exact b0) ?_
  clear b0 hV0 hV hV1 hV2 b1 b2 CF CR
  rintro V3 b0
  have hT : Tab V3 := ht.below b0 ht.1
  by_cases he : e = 0
  case neg =>
    have hb : (e != 0) = true := by rw [bne_iff_ne]; exact he
    have HQ : Hid (Q = (⟨#[]⟩, e)) := by show _ = _; rw [HS2.out, if_pos he]
    clear HS2 he
    go_wp2_with fail
    go_ret2
    exact ⟨by rw [HQ.out]; rfl, b0⟩
  subst he
  have CI : Hid (Calls Tryz.prog 52 #[.string s] V3 fun x w' => x = .returned (.string (sumB s)) ∧ Below V3.heap.size V3 w') := Id_any s (by omega) V3 hT
  have HS3 : Hid (Q = if sumB s ≠ id then (⟨#[]⟩, 5) else (s, 0)) := by show _ = _; rw [HS2.out, if_neg (fun h => h rfl)]
  clear HS2
  generalize sumB s = I at *
  go_wp2_with fail
  (with_reducible refine CI.out.mono ?_)
  clear CI
  rintro _ V4 ⟨rfl, b2⟩
  replace b0 := b0.trans (b2.mono b0.size)
  clear b2
  by_cases h : I = id
  · have hb : (I.toList == id.toList) = true := by rw [h]; exact beq_self_eq_true _
    have HQ : Hid (Q = (s, 0)) := by show _ = _; rw [HS3.out, if_neg (fun q => q h)]
    clear HS3 h
    go_wp2_with fail
    go_ret2
    exact ⟨by rw [HQ.out]; rfl, b0⟩
  · have hb : (I.toList == id.toList) = false := by
      rw [beq_eq_false_iff_ne]
      intro q
      rw [toList_data, toList_data] at q
      exact h (bytes_eq q)
    have HQ : Hid (Q = (⟨#[]⟩, 5)) := by show _ = _; rw [HS3.out, if_pos h]
    clear HS3 h
    go_wp2_with fail
    go_ret2
    exact ⟨by rw [HQ.out]; rfl, b0⟩
end Go.Proofs.YtmikfmcgddmplaaGreatDoor

/- store.onDisk, its getter, load at it, has: contracts. -/
namespace Go.Proofs.YtmikfmcgddmplaaGreatDoor
open Go.RowKit

theorem arr_in {w : World} {g : Nat} {ty : TypeId} {cs : Array Value} (h : Arr w g ty cs) {a : Addr} {v : Value} (hc : w.cell? a = some v) (hb : a.block = g) : ∃ i : Nat, cs[i]? = some v := by
  unfold World.cell? at hc
  unfold Arr at h
  rw [hb, h] at hc
  simp only at hc
  split at hc
  · cases hc
  · exact ⟨_, hc⟩
theorem func_eq_nil (F : Fn) (t c : Array Value) (w : World) : (binOp .eql 74 (.func F t c) .nilFunc).run Tryz.prog w = .ok (.bool false) w := by
  kernel_rfl
attribute [local go_sem] func_eq_nil
theorem zeroO_in : ∀ (i : Nat) (v : Value), zeroO[i]? = some v → (∀ b, v ≠ .bool b) ∧ (∀ s, v = .string s → s = ⟨#[]⟩)
  | 0, v, h => by simp [zeroO] at h; subst h; simp
  | 1, v, h => by simp [zeroO] at h; subst h; simp
  | 2, v, h => by simp [zeroO] at h; subst h; simp
  | 3, v, h => by simp [zeroO] at h; subst h; simp
  | 4, v, h => by simp [zeroO] at h; subst h; simp
  | 5, v, h => by simp [zeroO] at h; subst h; simp
  | 6, v, h => by simp [zeroO] at h; subst h; simp
  | 7, v, h => by simp [zeroO] at h; subst h; simp
  | 8, v, h => by simp [zeroO] at h; subst h; simp
  | n + 9, v, h => by simp [zeroO] at h
/-- an object in memory, and an empty result elsewhere that is filled -/
theorem ObIn.off {w w' : World} {B r : Nat} {o : Ob} {p : At} (h : ObIn w B o p) (hr : Arr w r 53 zeroO) (hp : ∀ x ∈ o.pars, x.size = 32) (hB : B ≤ w'.heap.size) (k : w.grownBy w' (some r)) : ObIn w' w'.heap.size o p := by
  refine ⟨fun i x hx => ?_, fun i x hx => ?_, h.room⟩
  · obtain ⟨ad, e, hb, h0, h1, h2⟩ := h.ents i x hx
    have hn : ¬ some (ad.add (i * 3)).block = some r := fun q => by
      obtain ⟨j, hj⟩ := arr_in hr h1 (Option.some.inj q)
      exact (zeroO_in _ _ hj).1 _ rfl
    exact ⟨ad, e, Nat.lt_of_lt_of_le hb hB, k.cell h0 hn, k.cell h1 hn, k.cell h2 hn⟩
  · obtain ⟨ad, e, hb, h0⟩ := h.pars i x hx
    have hn : ¬ some (ad.add i).block = some r := fun q => by
      obtain ⟨j, hj⟩ := arr_in hr h0 (Option.some.inj q)
      have e0 := (zeroO_in _ _ hj).2 _ rfl
      have e1 := hp x (List.mem_of_getElem? hx)
      rw [e0] at e1
      exact absurd e1 (by decide)
    exact ⟨ad, e, Nat.lt_of_lt_of_le hb hB, k.cell h0 hn⟩
theorem dec_pars {l : List UInt8} : ∀ x ∈ (decO l).1.pars, x.size = 32 := fun x hx => by
  by_cases h : (decO l).2 = 0
  · exact parsE_all _ _ (good_facts (dec_only h).2.1).ids x hx
  · rw [dec_none h] at hx
    cases hx
/-- what onDisk hands back, and what it keeps -/
def OdEnd (w : World) (L : List Fl) (A : Option Addr) (c : Nat) (z : Int) (x : Ending) (w' : World) : Prop :=
  x = .returned (.func (.func 69) #[] #[.pointer (some ⟨w.heap.size, 0, none⟩)]) ∧ Arr w' w.heap.size 37 (dkArr L A c z) ∧ Below w.heap.size w w'
theorem onDisk_st (L : List Fl) (A : Option Addr) (c : Nat) (z : Int) (w : World) : Calls Tryz.prog 38 #[.agg (dkArr L A c z)] w (OdEnd w L A c z) := by
  have A0 : Arr (w.alloc (.cells (dkArr L A c z) 37)) w.heap.size 37 (dkArr L A c z) := Arr.new _ _ _
  have b0 : Below w.heap.size w (w.alloc (.cells (dkArr L A c z) 37)) := (Below.refl _ _).alloc (Nat.le_refl _) _
  go_enter Tryz.func38, Tryz.ntmps38
  go_wp2_with fail
  go_ret
  exact ⟨rfl, A0, b0⟩
theorem getter_st (L : List Fl) (id : ByteArray) (A : Option Addr) (c : Nat) (z : Int) (q : Nat) (w : World) (hq : Arr w q 37 (dkArr L A c z)) (hP : Fls w w.heap.size A L) (hz : Sized L) (hl : L.length ≤ 140737488355328) (ht : Tab w) :
    Calls Tryz.prog 69 #[.string id, .pointer (some ⟨q, 0, none⟩)] w fun e w' => e = .returned (.tuple #[.string (getO ⟨L, z⟩ id).1, .int .i64 (getO ⟨L, z⟩ id).2]) ∧ Below w.heap.size w w' := by
  have C := Lib.hid (Get_st L id A c z w hP hz hl ht)
  generalize getO ⟨L, z⟩ id = Q at *
  obtain ⟨s, e⟩ := Q
  have c0 : w.cell? ⟨q, 0, none⟩ = some (.slice A L.length c) := hq.cell 0
  have c1 : w.cell? ⟨q, 1, none⟩ = some (.int .i64 z) := hq.cell 1
  go_enter Tryz.func69, Tryz.ntmps69
  go_wp2_with fail
  (with_reducible refine C.out.mono ?_)
  rintro _ w1 ⟨rfl, b1⟩
  go_wp2_with fail
  go_ret2
  exact ⟨rfl, b1⟩
set_option maxRecDepth 100000 in
set_option maxHeartbeats 1000000 in
theorem load_disk (L : List Fl) (id : ByteArray) (A : Option Addr) (c : Nat) (z : Int) (q : Nat) (w : World) (hq : Arr w q 37 (dkArr L A c z)) (hP : Fls w w.heap.size A L) (hz : Sized L) (hl : L.length ≤ 140737488355328) (ht : Tab w) :
    Calls Tryz.prog 21 #[.func (.func 69) #[] #[.pointer (some ⟨q, 0, none⟩)], .string id] w (DEndA w (loadR (getO ⟨L, z⟩ id)).1 (loadR (getO ⟨L, z⟩ id)).2) := by
  have CG := fun V a b d => Lib.hid (getter_st L id A c z q V a b hz hl d)
  generalize getO ⟨L, z⟩ id = Q at *
  obtain ⟨s, e⟩ := Q
  have HR0 : Hid (loadR (s, e) = if e ≠ 0 then (Ob.none, 7) else if (decO s.data.toList).2 ≠ 0 then (Ob.none, 2) else ((decO s.data.toList).1, 0)) := rfl
  have CD := fun V => Lib.hid (Decode_far s V)
  generalize loadR (s, e) = R at *
  have hpp : ∀ x ∈ (decO s.data.toList).1.pars, x.size = 32 := dec_pars
  generalize decO s.data.toList = D at *
  obtain ⟨o, e2⟩ := D
  have hp : ∀ x ∈ o.pars, x.size = 32 := hpp
  clear hpp
  have hqlt := hq.lt
  go_enter Tryz.func21, Tryz.ntmps21
  go_upto_region 1 with fail
  refine wp_forget (Dx w) ⟨Arr.new _ _ _, (Below.refl _ _).alloc (Nat.le_refl _) _⟩ ?_
  intro W hW
  have C1 : Hid (Calls Tryz.prog 69 #[.string id, .pointer (some ⟨q, 0, none⟩)] W fun x w' => x = .returned (.tuple #[.string s, .int .i64 e]) ∧ Below W.heap.size W w') := CG W (hq.below hW.2 hqlt) (hP.up hW.2) (ht.below hW.2 ht.1)
  clear CG
  go_wp2_with fail
  (with_reducible refine C1.out.mono ?_)
  clear C1
  rintro _ W1 ⟨rfl, b1⟩
  replace hW := hW.below b1
  clear b1 W
  by_cases he : e = 0
  case neg =>
    have hb : (e != 0) = true := by rw [bne_iff_ne]; exact he
    have HR : Hid (R = (Ob.none, 7)) := by show _ = _; rw [HR0.out, if_pos he]
    clear HR0 he
    go_wp2_with (refine wpList_store_row rfl 53 _ _ rfl w.heap.size (obArr Ob.none atNil) rfl rfl 53 zeroO hW.1 (obInfo _ _) rfl (obArr_one _ _) ?_)
    refine bodyPost_ret (v := .tuple #[.agg (obArr Ob.none atNil), .int .i64 7]) ?_ rfl (DEndA_eq HR.out (hW.noneA 7))
    rw [results_cell_tmp Tryz.results21]
    have hld := run_loadVar_row (P := Tryz.prog) _ _ _ 53 _ _ _ (hW.1.row (obArr Ob.none atNil)) Tryz.underlying53 rfl (obInfo Ob.none atNil)
    simp [asAddr, hld, Result.andThen]
  subst he
  have HR1 : Hid (R = if e2 ≠ 0 then (Ob.none, 2) else (o, 0)) := by show _ = _; rw [HR0.out, if_neg (fun h => h rfl)]
  clear HR0
  have C2 : Hid (Calls Tryz.prog 41 #[.string s] W1 (DEndA W1 o e2)) := CD W1
  clear CD
  go_wp2_with fail
  (with_reducible refine C2.out.mono ?_)
  clear C2
  rintro _ W2 ⟨p, rfl, hO, b1, hab⟩
  have hab2 : Above w.heap.size p := hab.mono (Nat.le_of_lt hW.1.lt)
  clear hab
  replace hW := hW.below b1
  clear b1 W1
  have hX : Arr ((W2.alloc (.cells zeroO 53)).setRow W2.heap.size (obArr o p)) W2.heap.size 53 (obArr o p) := (Arr.new _ _ _).row _
  have bb : Below W2.heap.size W2 ((W2.alloc (.cells zeroO 53)).setRow W2.heap.size (obArr o p)) := below_setRow ((Below.refl _ _).alloc (Nat.le_refl _) _) (Nat.le_refl _) _
  go_upto_region 7 with (refine wpList_store_row rfl 53 _ _ rfl W2.heap.size (obArr o p) rfl rfl 53 zeroO (Arr.new W2 _ _) (obInfo _ _) rfl (obArr_one _ _) ?_)
  refine wp_forget (fun W => Dx w W ∧ Arr W W2.heap.size 53 (obArr o p) ∧ ObIn W W2.heap.size o p ∧ w.heap.size < W2.heap.size) (by exact ⟨hW.below bb, hX, hO.below bb, hW.1.lt⟩) ?_
  clear hX bb hO hW
  generalize W2.heap.size = b at *
  clear W2
  rintro W ⟨hW, hX, hO, hlt⟩
  by_cases he : e2 = 0
  case neg =>
    have hb : (e2 != 0) = true := by rw [bne_iff_ne]; exact he
    have HR : Hid (R = (Ob.none, 2)) := by show _ = _; rw [HR1.out, if_pos he]
    clear HR1 he
    go_wp2_with (refine wpList_store_row rfl 53 _ _ rfl w.heap.size (obArr Ob.none atNil) rfl rfl 53 zeroO hW.1 (obInfo _ _) rfl (obArr_one _ _) ?_)
    refine bodyPost_ret (v := .tuple #[.agg (obArr Ob.none atNil), .int .i64 2]) ?_ rfl (DEndA_eq HR.out (hW.noneA 2))
    rw [results_cell_tmp Tryz.results21]
    have hld := run_loadVar_row (P := Tryz.prog) _ _ _ 53 _ _ _ (hW.1.row (obArr Ob.none atNil)) Tryz.underlying53 rfl (obInfo Ob.none atNil)
    simp [asAddr, hld, Result.andThen]
  subst he
  have HR : Hid (R = (o, 0)) := by show _ = _; rw [HR1.out, if_neg (fun h => h rfl)]
  clear HR1
  go_wp2_with (first | (refine wpList_load_row rfl 53 _ rfl b rfl 53 _ (0, 0) _ hX Tryz.underlying53 rfl (obInfo o p) ?_) | (refine wpList_store_row rfl 53 _ _ rfl w.heap.size (obArr o p) rfl rfl 53 zeroO hW.1 (obInfo _ _) rfl (obArr_one _ _) ?_))
  refine bodyPost_ret (v := .tuple #[.agg (obArr o p), .int .i64 0]) ?_ rfl (DEndA_eq HR.out ⟨p, rfl, ?_, below_setRow hW.2 (Nat.le_refl _) _, hab2⟩)
  · rw [results_cell_tmp Tryz.results21]
    have hld := run_loadVar_row (P := Tryz.prog) _ _ _ 53 _ _ _ (hW.1.row (obArr o p)) Tryz.underlying53 rfl (obInfo o p)
    simp [asAddr, hld, Result.andThen]
  · exact hO.off hW.1 hp (Nat.le_trans (Nat.le_of_lt hX.lt) (gb_row w.heap.size (obArr o p)).size) (gb_row _ _)
set_option maxRecDepth 100000 in
set_option maxHeartbeats 1000000 in
theorem has_st (L : List Fl) (id : ByteArray) (A : Option Addr) (c : Nat) (z : Int) (w : World) (hP : Fls w w.heap.size A L) (hz : Sized L) (hl : L.length ≤ 140737488355328) (ht : Tab w) :
    Calls Tryz.prog 53 #[.agg #[.slice A L.length c, .int .i64 z], .string id] w fun e w' => e = .returned (.bool (hasO ⟨L, z⟩ id)) ∧ Below w.heap.size w w' := by
  have A0 : Arr (w.alloc (.cells (dkArr L A c z) 37)) w.heap.size 37 (dkArr L A c z) := Arr.new _ _ _
  have b0 : Below w.heap.size w (w.alloc (.cells (dkArr L A c z) 37)) := (Below.refl _ _).alloc (Nat.le_refl _) _
  have HH : Hid (hasO ⟨L, z⟩ id = decide ((loadR (getO ⟨L, z⟩ id)).2 = 0)) := rfl
  have CO := fun V => Lib.hid (onDisk_st L A c z V)
  have CL := fun q V a b d => Lib.hid (load_disk L id A c z q V a b hz hl d)
  generalize loadR (getO ⟨L, z⟩ id) = R at *
  obtain ⟨o, e⟩ := R
  generalize hasO ⟨L, z⟩ id = H at *
  have HH' : Hid (H = decide (e = 0)) := HH
  clear HH
  go_enter Tryz.func53, Tryz.ntmps53
  go_upto_region 1 with fail
  refine wp_forget (fun V => Arr V w.heap.size 37 (dkArr L A c z) ∧ Below w.heap.size w V) (by exact ⟨A0, b0⟩) ?_
  clear A0 b0
  rintro V ⟨A0, b0⟩
  have c0 : V.cell? ⟨w.heap.size, 0, none⟩ = some (.slice A L.length c) := A0.cell 0
  have c1 : V.cell? ⟨w.heap.size, 1, none⟩ = some (.int .i64 z) := A0.cell 1
  have C1 : Hid (Calls Tryz.prog 38 #[.agg #[.slice A L.length c, .int .i64 z]] V (OdEnd V L A c z)) := CO V
  clear CO
  go_wp2_with fail
  (with_reducible refine C1.out.mono ?_)
  clear C1 c0 c1
  rintro _ V1 ⟨rfl, hq, b2⟩
  replace b0 := b0.trans (b2.mono b0.size)
  have C2 := CL V.heap.size V1 hq (hP.up b0) (ht.below b0 ht.1)
  clear CL b2 hq
  generalize V.heap.size = q at *
  go_wp2_with fail
  (with_reducible refine C2.out.mono ?_)
  clear C2
  rintro _ V2 ⟨p, rfl, hO, b2, _⟩
  replace b0 := b0.trans (b2.mono b0.size)
  clear b2 hO
  have bb : Below w.heap.size w ((V2.alloc (.cells zeroO 53)).setRow V2.heap.size (obArr o p)) := b0.trans ((below_setRow ((Below.refl _ _).alloc (Nat.le_refl _) _) (Nat.le_refl _) _).mono b0.size)
  go_upto_region 2 with (refine wpList_store_row rfl 53 _ _ rfl V2.heap.size (obArr o p) rfl rfl 53 zeroO (Arr.new V2 _ _) (obInfo _ _) rfl (obArr_one _ _) ?_)
  refine wp_forget (fun W => Below w.heap.size w W) (by exact bb) ?_
  clear bb b0 A0
  intro W b0
  by_cases he : e = 0
  · subst he
    go_wp2_with fail
    go_ret
    exact ⟨by rw [HH'.out]; rfl, b0⟩
  · have hb : (e == 0) = false := by rw [beq_eq_false_iff_ne]; exact he
    have HQ : Hid (H = false) := by show _ = _; rw [HH'.out, decide_eq_false he]
    clear HH' he
    go_wp2_with fail
    go_ret
    exact ⟨by rw [HQ.out]; rfl, b0⟩
end Go.Proofs.YtmikfmcgddmplaaGreatDoor

/- store.Reach at the getter of a disk: its contract. -/
namespace Go.Proofs.YtmikfmcgddmplaaGreatDoor
open Go.RowKit
theorem round_less {k ub : Nat} (h : k < ub) : ub - ((k : Int) + 1).toNat < ub - ((k : Int)).toNat := by omega
def RhRel_disk (G : ByteArray → ByteArray × Int) (U : List ByteArray) (ub base g gv : Nat) (w : World) (mv lv wv i : Value) (wr : World) : Prop :=
  ∃ (k m : Nat) (la wo : Bool) (V : List ByteArray) (v : Value), mv = .int .i64 (m : Int) ∧ lv = .bool la ∧ wv = .bool wo ∧ i = .int .i64 (k : Int) ∧ m ≤ 400 ∧ k ≤ V.length ∧ V.length ≤ U.length + 64 * m ∧ Vi base g gv V v wr ∧ Below w.heap.size w wr ∧
    reachGo G (ub + 1 - k) V k m la wo = reachO G U
set_option maxRecDepth 100000 in
set_option maxHeartbeats 4000000 in
theorem Reach_disk (HSort : SortSaid) (L : List Fl) (A : Option Addr) (c : Nat) (z : Int) (q : Nat) (w : World) (hq : Arr w q 37 (dkArr L A c z)) (hP : Fls w w.heap.size A L) (hz : Sized L) (hll : L.length ≤ 140737488355328) (ht : Tab w) (U : List ByteArray) (UA : Option Addr) (uc : Nat) (hU : Txs w w.heap.size UA U) (hul : (U.length + 30000) * 16 ≤ 140737488355328) :
    Calls Tryz.prog 5 #[.func (.func 69) #[] #[.pointer (some ⟨q, 0, none⟩)], .slice UA U.length uc] w (RhEnd w (reachO (getO ⟨L, z⟩) U)) := by
  have CL := fun (W : World) (x : ByteArray) (b : Below w.heap.size w W) => Lib.hid (load_disk L x A c z q W (hq.below b hq.lt) (hP.up b) hz hll (ht.below b ht.1))
  have C1 : Hid (Calls Tryz.prog 20 #[.slice UA U.length uc] w (NvEnd w (addAll [] U))) := newVisits_any U UA uc w hU (by omega)
  have hal := addAll_len U []
  generalize hGG : getO ⟨L, z⟩ = G at *
  clear hGG
  have hR0 : reachGo G (U.length + 30000 + 1) (addAll [] U) 0 0 false false = reachO G U := by unfold reachO; rfl
  obtain ⟨ub, hub⟩ : ∃ ub, ub = U.length + 30000 := ⟨_, rfl⟩
  rw [← hub] at hR0
  have hub2 : U.length + 26000 ≤ ub := by omega
  clear hub
  go_enter Tryz.func5, Tryz.ntmps5
  go_wp2_with fail
  (with_reducible refine C1.out.mono ?_)
  clear C1
  rintro _ W0 ⟨g, gv, v0, rfl, hV0, b0⟩
  have h1 : Hid (RhRel_disk G U ub w.heap.size g gv w (.int .i64 0) (.bool false) (.bool false) (.int .i64 0) W0) := ⟨0, 0, false, false, addAll [] U, v0, rfl, rfl, rfl, rfl, by omega, Nat.zero_le _, by simpa using hal, hV0, b0, (by rw [Nat.sub_zero]; exact hR0)⟩
  clear hV0 b0 hal hR0
  go_wp2_with fail
  go_loopw [7, 8, 9, 10] (fun mv lv wv i wr => RhRel_disk G U ub w.heap.size g gv w mv lv wv i wr) (fun _ _ _ i _ => ub - (intOf i).toNat)
  case atStart => exact h1.out
  case round =>
    clear h1 W0
    obtain ⟨k, m, la, wo, V, v, rfl, rfl, rfl, rfl, hm, hk, hVl, hV, hB, hG⟩ := hrel
    obtain ⟨A9, cc, rfl, hcc, hT, hA2⟩ := own_texts hV.row
    have g0 : wr.cell? ⟨g, 0, none⟩ = some (.slice A9 V.length cc) := hV.box.cell 0
    have HV := Lib.hid hV
    clear hV
    have hV62 : (V.length : Int) ≤ 140737488355328 := by omega
    by_cases hlt : k < V.length
    case neg =>
      obtain rfl : k = V.length := by omega
      have hi : ¬ (V.length : Int) < V.length := by omega
      have hGF : reachO G U = if la then ([], 7) else if wo then ([], 2) else (sortB V, 0) := by
        rw [← hG, show ub + 1 - V.length = (ub - V.length) + 1 from by omega, reachGo, if_neg hlt]
      clear hG
      cases la with
      | true =>
        have HQ : Hid (reachO G U = ([], 7)) := hGF
        clear hGF
        go_wp2_with fail
        go_ret2
        rw [HQ.out]
        exact ⟨none, 0, rfl, Txs.nil _ _ _, hB⟩
      | false =>
      cases wo with
      | true =>
        have HQ : Hid (reachO G U = ([], 2)) := hGF
        clear hGF
        go_wp2_with fail
        go_ret2
        rw [HQ.out]
        exact ⟨none, 0, rfl, Txs.nil _ _ _, hB⟩
      | false =>
      have HQ : Hid (reachO G U = (sortB V, 0)) := hGF
      have CS := Lib.hid (HSort V _ _ wr HV.out.row (by omega))
      clear hGF hT hA2
      go_wp2_with fail
      (with_reducible refine CS.out.mono ?_)
      clear CS
      rintro _ W2 ⟨rfl, hrow, hgr⟩
      have hne := own_ne HV.out.row HV.out.box (by decide)
      have hbox := HV.out.box.kept hgr (fun e => hne e.symm)
      have g2 : W2.cell? ⟨g, 0, none⟩ = some (.slice A9 V.length cc) := hbox.cell 0
      have hB2 : Below w.heap.size w W2 := hB.grown hgr hB.size (fun q hq => own_row_ge HV.out.row q hq)
      have hsl : (sortB V).length = V.length := sortB_len V
      have hrow2 : W2.ownsRow w.heap.size 9 1 (.slice A9 V.length cc) (sortB V).length ((sortB V).map sv) := by rw [hsl]; exact hrow
      obtain ⟨A8, c8, e8, _, hT8, _⟩ := own_texts hrow2
      rw [hsl] at e8
      cases e8
      clear g0 hbox hrow hrow2 hgr hne HV
      have HSl := Lib.hid hsl
      clear hsl
      go_wp2_with fail
      go_ret2
      rw [HQ.out]
      exact ⟨A9, cc, by rw [HSl.out]; rfl, hT8, hB2⟩
    have hi : (k : Int) < V.length := by omega
    have hx : V[k]? = some V[k] := List.getElem?_eq_getElem hlt
    obtain ⟨ad, ead, hbl, c0⟩ := hT k V[k] hx
    subst ead
    have hG2 : reachO G U = (if (loadR (G V[k])).2 = 0 then (if 400 < m + 1 then ([], 6) else reachGo G (ub + 1 - (k + 1)) (addAll V (linksL (loadR (G V[k])).1)) (k + 1) (m + 1) la wo)
       else if (loadR (G V[k])).2 = 7 then reachGo G (ub + 1 - (k + 1)) V (k + 1) m true wo else reachGo G (ub + 1 - (k + 1)) V (k + 1) m la true) := by
      rw [← hG, show ub + 1 - k = (ub + 1 - (k + 1)) + 1 from by omega, reachGo, if_pos hlt, List.getD_eq_getElem?_getD, hx, Option.getD_some]
    clear hG
    have HG := Lib.hid hG2
    clear hG2
    have hadl : ad.block < wr.heap.size := by
      have e : (ad.add k).block = ad.block := by unfold Addr.add; split <;> rfl
      rw [← e]; exact hbl
    have CL1 := CL wr V[k] hB
    have hsm := loadR_small (G V[k])
    have hle := loadR_err (G V[k])
    generalize V[k] = x at *
    generalize loadR (G x) = R at *
    obtain ⟨o, e⟩ := R
    obtain ⟨hel, hpl⟩ := hsm
    simp only at hel hpl hle
    clear hx hT hA2
    go_wp2_with fail
    (with_reducible refine CL1.out.mono ?_)
    clear CL1
    rintro _ W2 ⟨p, rfl, hO, b1, hab⟩
    have bb : Below W2.heap.size W2 ((W2.alloc (.cells zeroO 53)).setRow W2.heap.size (obArr o p)) := below_setRow ((Below.refl _ _).alloc (Nat.le_refl _) _) (Nat.le_refl _) _
    have HF : Hid (Vi w.heap.size g gv V (.slice (some ad) V.length cc) ((W2.alloc (.cells zeroO 53)).setRow W2.heap.size (obArr o p)) ∧ Arr ((W2.alloc (.cells zeroO 53)).setRow W2.heap.size (obArr o p)) W2.heap.size 53 (obArr o p) ∧ ObIn ((W2.alloc (.cells zeroO 53)).setRow W2.heap.size (obArr o p)) W2.heap.size o p ∧ W2.heap.size ≤ ((W2.alloc (.cells zeroO 53)).setRow W2.heap.size (obArr o p)).heap.size ∧ Below w.heap.size w ((W2.alloc (.cells zeroO 53)).setRow W2.heap.size (obArr o p))) :=
      ⟨(HV.out.bel b1).bel bb, (Arr.new _ _ _).row _, hO.below bb, bb.size, (hB.trans (b1.mono hB.size)).trans (bb.mono (Nat.le_trans hB.size b1.size))⟩
    have hwr2 : wr.heap.size ≤ W2.heap.size := b1.size
    clear g0 c0 HV b1 hO bb
    go_upto_region 7 with (refine wpList_store_row rfl 53 _ _ rfl W2.heap.size (obArr o p) rfl rfl 53 zeroO (Arr.new W2 _ _) (obInfo _ _) rfl (obArr_one _ _) ?_)
    refine wp_forget (fun W => Vi w.heap.size g gv V (.slice (some ad) V.length cc) W ∧ Arr W W2.heap.size 53 (obArr o p) ∧ ObIn W W2.heap.size o p ∧ W2.heap.size ≤ W.heap.size ∧ Below w.heap.size w W) (by exact HF.out) ?_
    clear HF
    rintro W3 ⟨hV3, hX, hO, hle3, hB3⟩
    generalize W2.heap.size = b at *
    rcases hle with rfl | rfl | rfl
    · by_cases hful : 400 < m + 1
      · obtain rfl : m = 400 := by omega
        have HQ : Hid (reachO G U = ([], 6)) := by show _ = _; rw [HG.out, if_pos rfl, if_pos hful]
        have CK := Lib.hid (Links_far o p W3 (hO.mono hle3) (by omega) (by omega))
        have hlk := linksL_len hel hpl
        generalize linksL o = K at *
        clear HG
        go_wp2_with (refine wpList_load_row rfl 53 _ rfl b rfl 53 _ (0, 0) _ hX Tryz.underlying53 rfl (obInfo o p) ?_)
        (with_reducible refine CK.out.mono ?_)
        clear CK
        rintro _ W4 ⟨A4, c4, rfl, hT4, b4, hA4⟩
        have C5 := Lib.hid (vadd_any (hV3.bel b4) K A4 c4 hT4 (fun a ea e => by have := hA4 a ea; have h2 : ad.block = a.block := Option.some.inj e; omega) (by omega))
        go_wp2_with fail
        (with_reducible refine C5.out.mono ?_)
        clear C5
        rintro _ W5 ⟨rfl, ⟨v', hV5⟩, b5⟩
        have hB5 := (hB3.trans (b4.mono hB3.size)).trans b5
        go_wp2_with fail
        go_ret2
        rw [HQ.out]
        exact ⟨none, 0, rfl, Txs.nil _ _ _, hB5⟩
      · have HQ : Hid (reachGo G (ub + 1 - (k + 1)) (addAll V (linksL o)) (k + 1) (m + 1) la wo = reachO G U) := by show _ = _; rw [HG.out, if_pos rfl, if_neg hful]
        have hmi : ¬ (400 : Int) < (m : Int) + 1 := by omega
        have CK := Lib.hid (Links_far o p W3 (hO.mono hle3) (by omega) (by omega))
        have hlk := linksL_len hel hpl
        generalize linksL o = K at *
        clear HG
        go_wp2_with (refine wpList_load_row rfl 53 _ rfl b rfl 53 _ (0, 0) _ hX Tryz.underlying53 rfl (obInfo o p) ?_)
        (with_reducible refine CK.out.mono ?_)
        clear CK
        rintro _ W4 ⟨A4, c4, rfl, hT4, b4, hA4⟩
        have C5 := Lib.hid (vadd_any (hV3.bel b4) K A4 c4 hT4 (fun a ea e => by have := hA4 a ea; have h2 : ad.block = a.block := Option.some.inj e; omega) (by omega))
        go_wp2_with fail
        (with_reducible refine C5.out.mono ?_)
        clear C5
        rintro _ W5 ⟨rfl, ⟨v', hV5⟩, b5⟩
        have hB5 := (hB3.trans (b4.mono hB3.size)).trans b5
        have hm1 : m + 1 ≤ 400 := by omega
        have hVk : k + 1 ≤ (addAll V K).length := by
          obtain ⟨Z, hZ⟩ := addAll_ext K V
          rw [hZ, List.length_append]
          omega
        have hVm : (addAll V K).length ≤ U.length + 64 * (m + 1) := by
          have ha := addAll_len K V
          omega
        have hkU : k < ub := by omega
        have HVk := Lib.hid hVk
        have HVm := Lib.hid hVm
        rw [show ((m : Int) + 1) = ((m + 1 : Nat) : Int) from by rw [Int.natCast_add]; rfl]
        clear hmi hVk hVm hful hm hVl hlk hel hpl
        generalize m + 1 = m2 at *
        have hmi : ¬ (400 : Int) < (m2 : Int) := by omega
        clear hX hO hV3 hab hT4 hA4 b4 b5 hle3 hB3
        generalize obArr o p = arr
        generalize K.length = kl
        have HK := Lib.hid hkU
        have HWK := Lib.hid (IntWalk.i64_in ((k : Int) + 1) (by omega))
        clear hul hV62 hlt hk hkU hi
        go_upto_region 5 with fail
        have hwk := HWK.out
        go_wp2_with fail
        go_roundw
        case rel =>
          exact ⟨k + 1, m2, la, wo, _, v', rfl, rfl, rfl, by rw [Int.natCast_add]; rfl, hm1, HVk.out, HVm.out, hV5, hB5, HQ.out⟩
        case measure =>
          have h9 := HK.out
          clear HK HVk HVm
          simp only [intOf]
          exact round_less h9
    · have HQ : Hid (reachGo G (ub + 1 - (k + 1)) V (k + 1) m true wo = reachO G U) := by show _ = _; rw [HG.out, if_neg (show ¬ ((o, (7 : Int)).2 = 0) from fun h => absurd (show (7 : Int) = 0 from h) (by decide)), if_pos rfl]
      have hmi : ¬ (400 : Int) < (m : Int) := by omega
      clear HG
      go_wp2_with fail
      go_roundw
      case rel => exact ⟨k + 1, m, true, wo, V, _, rfl, rfl, rfl, by rw [Int.natCast_add]; rfl, hm, hlt, hVl, hV3, hB3, HQ.out⟩
      case measure => simp [intOf]; omega
    · have HQ : Hid (reachGo G (ub + 1 - (k + 1)) V (k + 1) m la true = reachO G U) := by show _ = _; rw [HG.out, if_neg (show ¬ ((o, (2 : Int)).2 = 0) from fun h => absurd (show (2 : Int) = 0 from h) (by decide)), if_neg (show ¬ ((o, (2 : Int)).2 = 7) from fun h => absurd (show (2 : Int) = 7 from h) (by decide))]
      have hmi : ¬ (400 : Int) < (m : Int) := by omega
      clear HG
      go_wp2_with fail
      go_roundw
      case rel => exact ⟨k + 1, m, la, true, V, _, rfl, rfl, rfl, by rw [Int.natCast_add]; rfl, hm, hlt, hVl, hV3, hB3, HQ.out⟩
      case measure => simp [intOf]; omega
end Go.Proofs.YtmikfmcgddmplaaGreatDoor

/- load at a getter that looks into a map: contracts. -/
namespace Go.Proofs.YtmikfmcgddmplaaGreatDoor
open Go.RowKit
attribute [local go_sem] func_eq_nil

abbrev KT := ByteArray × ByteArray
def tx (M : List KT) : List KX := M.map fun x => (x.1, .string x.2)
def getT (k : ByteArray) : List KT → Option ByteArray
  | [] => none
  | x :: l => if k = x.1 then some x.2 else getT k l
def upT (k v : ByteArray) : List KT → List KT
  | [] => [(k, v)]
  | x :: l => if k = x.1 then (k, v) :: l else x :: upT k v l
def tellT (M : List KT) (id : ByteArray) : ByteArray × Int := match getT id M with
  | none => (⟨#[]⟩, 7)
  | some s => (s, 0)
theorem tx_look (k : ByteArray) : ∀ M : List KT, lookX (.string ⟨#[]⟩) k (tx M) = match getT k M with | none => .tuple #[.string ⟨#[]⟩, .bool false] | some s => .tuple #[.string s, .bool true]
  | [] => rfl
  | x :: l => by
    have ih := tx_look k l
    unfold lookX at ih ⊢
    unfold tx at ih ⊢
    rw [List.map_cons]
    unfold posX getT
    by_cases h : k = x.1
    · simp [h]
    · simp only [if_neg h]
      rw [← ih]
      cases posX k (List.map (fun x => (x.1, Value.string x.2)) l) with
      | none => rfl
      | some p => simp
theorem tx_up (k v : ByteArray) : ∀ M : List KT, upX k (.string v) (tx M) = tx (upT k v M)
  | [] => rfl
  | x :: l => by
    have ih := tx_up k v l
    have e : ∀ y : KX, posX k (y :: tx l) = if k = y.1 then some 0 else (posX k (tx l)).map (· + 1) := fun _ => rfl
    show upX k (.string v) ((x.1, .string x.2) :: tx l) = tx (upT k v (x :: l))
    unfold upT
    unfold upX at ih ⊢
    rw [e]
    by_cases h : k = x.1
    · simp [h, tx]
    · simp only [if_neg h]
      show _ = (x.1, Value.string x.2) :: tx (upT k v l)
      rw [← ih]
      cases posX k (tx l) <;> simp
theorem getT_up (k k' v : ByteArray) : ∀ M : List KT, getT k (upT k' v M) = if k = k' then some v else getT k M
  | [] => by unfold upT getT; rfl
  | x :: l => by
    have ih := getT_up k k' v l
    unfold upT
    by_cases h : k' = x.1
    · rw [if_pos h]
      unfold getT
      by_cases h2 : k = k'
      · simp [h2]
      · have : ¬ k = x.1 := fun e => h2 (e.trans h.symm)
        simp [h2, this]
    · rw [if_neg h]
      unfold getT
      by_cases h2 : k = x.1
      · have : ¬ k = k' := fun e => h (e.symm.trans h2)
        rw [if_pos h2, if_neg this, if_pos h2]
      · rw [if_neg h2, if_neg h2]
        exact ih
theorem zero_text (w : World) : (zeroValue 9).run Tryz.prog w = .ok (.string ⟨#[]⟩) w := by kernel_rfl
end Go.Proofs.YtmikfmcgddmplaaGreatDoor

/- store.Descends at a getter that looks into a map: its contract. -/
namespace Go.Proofs.YtmikfmcgddmplaaGreatDoor
open Go.RowKit
def DsRel_on (M : List KT) (id to : ByteArray) (base g gv : Nat) (w : World) (i : Value) (wr : World) : Prop :=
  ∃ (k : Nat) (V : List ByteArray) (v : Value), i = .int .i64 (k : Int) ∧ k ≤ 400 ∧ V.length ≤ 1 + 4 * k ∧ Vi base g gv V v wr ∧ Below w.heap.size w wr ∧ descGo (tellT M) to (401 - k) V k = desc (tellT M) id to
end Go.Proofs.YtmikfmcgddmplaaGreatDoor

/- load, Descends, Reach at law.tells$1: their contracts. -/
namespace Go.Proofs.YtmikfmcgddmplaaGreatDoor
open Go.RowKit
attribute [local go_sem] func_eq_nil

theorem getter_te (M : List KT) (id : ByteArray) (gm q : Nat) (w : World) (hq : Arr w q 58 #[.map (some gm)]) (hM : MapX w gm (tx M)) :
    Calls Tryz.prog 26 #[.string id, .pointer (some ⟨q, 0, none⟩)] w fun e w' => e = .returned (.tuple #[.string (tellT M id).1, .int .i64 (tellT M id).2]) ∧ Below w.heap.size w w' := by
  have c0 : w.cell? ⟨q, 0, none⟩ = some (.map (some gm)) := hq.cell 0
  have lk := run_lookX Tryz.underlying58 zero_text hM id
  rw [tx_look] at lk
  have HT : Hid (tellT M id = match getT id M with | none => (⟨#[]⟩, 7) | some s => (s, 0)) := rfl
  generalize tellT M id = Q at *
  cases hg : getT id M with
  | none =>
    rw [hg] at lk
    simp only at lk
    have HQ : Hid (Q = (⟨#[]⟩, 7)) := by show _ = _; rw [HT.out, hg]
    clear HT hg
    go_enter Tryz.func26, Tryz.ntmps26
    go_wp2_with fail
    go_ret2
    exact ⟨by rw [HQ.out]; rfl, Below.refl _ _⟩
  | some s =>
    rw [hg] at lk
    simp only at lk
    have HQ : Hid (Q = (s, 0)) := by show _ = _; rw [HT.out, hg]
    clear HT hg
    go_enter Tryz.func26, Tryz.ntmps26
    go_wp2_with fail
    go_ret2
    exact ⟨by rw [HQ.out]; rfl, Below.refl _ _⟩
set_option maxRecDepth 100000 in
set_option maxHeartbeats 1000000 in
theorem load_te (M : List KT) (id : ByteArray) (gm q : Nat) (w : World) (hq : Arr w q 58 #[.map (some gm)]) (hM : MapX w gm (tx M)) :
    Calls Tryz.prog 21 #[.func (.func 26) #[] #[.pointer (some ⟨q, 0, none⟩)], .string id] w (DEndA w (loadR (tellT M id)).1 (loadR (tellT M id)).2) := by
  have CG := fun V a b => Lib.hid (getter_te M id gm q V a b)
  generalize tellT M id = Q at *
  obtain ⟨s, e⟩ := Q
  have HR0 : Hid (loadR (s, e) = if e ≠ 0 then (Ob.none, 7) else if (decO s.data.toList).2 ≠ 0 then (Ob.none, 2) else ((decO s.data.toList).1, 0)) := rfl
  have CD := fun V => Lib.hid (Decode_far s V)
  generalize loadR (s, e) = R at *
  have hpp : ∀ x ∈ (decO s.data.toList).1.pars, x.size = 32 := dec_pars
  generalize decO s.data.toList = D at *
  obtain ⟨o, e2⟩ := D
  have hp : ∀ x ∈ o.pars, x.size = 32 := hpp
  clear hpp
  have hqlt := hq.lt
  go_enter Tryz.func21, Tryz.ntmps21
  go_upto_region 1 with fail
  refine wp_forget (Dx w) ⟨Arr.new _ _ _, (Below.refl _ _).alloc (Nat.le_refl _) _⟩ ?_
  intro W hW
  have C1 : Hid (Calls Tryz.prog 26 #[.string id, .pointer (some ⟨q, 0, none⟩)] W fun x w' => x = .returned (.tuple #[.string s, .int .i64 e]) ∧ Below W.heap.size W w') := CG W (hq.below hW.2 hqlt) (hM.below hW.2 hM.lt)
  clear CG
  go_wp2_with fail
  (with_reducible refine C1.out.mono ?_)
  clear C1
  rintro _ W1 ⟨rfl, b1⟩
  replace hW := hW.below b1
  clear b1 W
  by_cases he : e = 0
  case neg =>
    have hb : (e != 0) = true := by rw [bne_iff_ne]; exact he
    have HR : Hid (R = (Ob.none, 7)) := by show _ = _; rw [HR0.out, if_pos he]
    clear HR0 he
    go_wp2_with (refine wpList_store_row rfl 53 _ _ rfl w.heap.size (obArr Ob.none atNil) rfl rfl 53 zeroO hW.1 (obInfo _ _) rfl (obArr_one _ _) ?_)
    refine bodyPost_ret (v := .tuple #[.agg (obArr Ob.none atNil), .int .i64 7]) ?_ rfl (DEndA_eq HR.out (hW.noneA 7))
    rw [results_cell_tmp Tryz.results21]
    have hld := run_loadVar_row (P := Tryz.prog) _ _ _ 53 _ _ _ (hW.1.row (obArr Ob.none atNil)) Tryz.underlying53 rfl (obInfo Ob.none atNil)
    simp [asAddr, hld, Result.andThen]
  subst he
  have HR1 : Hid (R = if e2 ≠ 0 then (Ob.none, 2) else (o, 0)) := by show _ = _; rw [HR0.out, if_neg (fun h => h rfl)]
  clear HR0
  have C2 : Hid (Calls Tryz.prog 41 #[.string s] W1 (DEndA W1 o e2)) := CD W1
  clear CD
  go_wp2_with fail
  (with_reducible refine C2.out.mono ?_)
  clear C2
  rintro _ W2 ⟨p, rfl, hO, b1, hab⟩
  have hab2 : Above w.heap.size p := hab.mono (Nat.le_of_lt hW.1.lt)
  clear hab
  replace hW := hW.below b1
  clear b1 W1
  have hX : Arr ((W2.alloc (.cells zeroO 53)).setRow W2.heap.size (obArr o p)) W2.heap.size 53 (obArr o p) := (Arr.new _ _ _).row _
  have bb : Below W2.heap.size W2 ((W2.alloc (.cells zeroO 53)).setRow W2.heap.size (obArr o p)) := below_setRow ((Below.refl _ _).alloc (Nat.le_refl _) _) (Nat.le_refl _) _
  go_upto_region 7 with (refine wpList_store_row rfl 53 _ _ rfl W2.heap.size (obArr o p) rfl rfl 53 zeroO (Arr.new W2 _ _) (obInfo _ _) rfl (obArr_one _ _) ?_)
  refine wp_forget (fun W => Dx w W ∧ Arr W W2.heap.size 53 (obArr o p) ∧ ObIn W W2.heap.size o p ∧ w.heap.size < W2.heap.size) (by exact ⟨hW.below bb, hX, hO.below bb, hW.1.lt⟩) ?_
  clear hX bb hO hW
  generalize W2.heap.size = b at *
  clear W2
  rintro W ⟨hW, hX, hO, hlt⟩
  by_cases he : e2 = 0
  case neg =>
    have hb : (e2 != 0) = true := by rw [bne_iff_ne]; exact he
    have HR : Hid (R = (Ob.none, 2)) := by show _ = _; rw [HR1.out, if_pos he]
    clear HR1 he
    go_wp2_with (refine wpList_store_row rfl 53 _ _ rfl w.heap.size (obArr Ob.none atNil) rfl rfl 53 zeroO hW.1 (obInfo _ _) rfl (obArr_one _ _) ?_)
    refine bodyPost_ret (v := .tuple #[.agg (obArr Ob.none atNil), .int .i64 2]) ?_ rfl (DEndA_eq HR.out (hW.noneA 2))
    rw [results_cell_tmp Tryz.results21]
    have hld := run_loadVar_row (P := Tryz.prog) _ _ _ 53 _ _ _ (hW.1.row (obArr Ob.none atNil)) Tryz.underlying53 rfl (obInfo Ob.none atNil)
    simp [asAddr, hld, Result.andThen]
  subst he
  have HR : Hid (R = (o, 0)) := by show _ = _; rw [HR1.out, if_neg (fun h => h rfl)]
  clear HR1
  go_wp2_with (first | (refine wpList_load_row rfl 53 _ rfl b rfl 53 _ (0, 0) _ hX Tryz.underlying53 rfl (obInfo o p) ?_) | (refine wpList_store_row rfl 53 _ _ rfl w.heap.size (obArr o p) rfl rfl 53 zeroO hW.1 (obInfo _ _) rfl (obArr_one _ _) ?_))
  refine bodyPost_ret (v := .tuple #[.agg (obArr o p), .int .i64 0]) ?_ rfl (DEndA_eq HR.out ⟨p, rfl, ?_, below_setRow hW.2 (Nat.le_refl _) _, hab2⟩)
  · rw [results_cell_tmp Tryz.results21]
    have hld := run_loadVar_row (P := Tryz.prog) _ _ _ 53 _ _ _ (hW.1.row (obArr o p)) Tryz.underlying53 rfl (obInfo o p)
    simp [asAddr, hld, Result.andThen]
  · exact hO.off hW.1 hp (Nat.le_trans (Nat.le_of_lt hX.lt) (gb_row w.heap.size (obArr o p)).size) (gb_row _ _)
def DsRel_te (M : List KT) (id to : ByteArray) (base g gv : Nat) (w : World) (i : Value) (wr : World) : Prop :=
  ∃ (k : Nat) (V : List ByteArray) (v : Value), i = .int .i64 (k : Int) ∧ k ≤ 400 ∧ V.length ≤ 1 + 4 * k ∧ Vi base g gv V v wr ∧ Below w.heap.size w wr ∧ descGo (tellT M) to (401 - k) V k = desc (tellT M) id to
set_option maxRecDepth 100000 in
set_option maxHeartbeats 2000000 in
theorem Descends_te (M : List KT) (id to : ByteArray) (gm q : Nat) (w : World) (hq : Arr w q 58 #[.map (some gm)]) (hM : MapX w gm (tx M)) :
    Calls Tryz.prog 10 #[.func (.func 26) #[] #[.pointer (some ⟨q, 0, none⟩)], .string id, .string to] w fun e w' => e = .returned (.bool (desc (tellT M) id to)) ∧ Below w.heap.size w w' := by
  have hb1 : Below w.heap.size w (w.alloc (.cells #[.string id] 9)) := (Below.refl _ _).alloc (Nat.le_refl _) _
  have C1 : Hid (Calls Tryz.prog 20 #[.slice (some ⟨w.heap.size, 0, none⟩) 1 1] (w.alloc (.cells #[.string id] 9)) (NvEnd (w.alloc (.cells #[.string id] 9)) [id])) :=
    newVisits_any [id] (some ⟨w.heap.size, 0, none⟩) 1 (w.alloc (.cells #[.string id] 9)) (fun k x hx => by
      cases k with
      | zero =>
        have e : x = id := by simpa using hx.symm
        subst e
        exact ⟨_, rfl, by simp [Addr.add], (Arr.new w 9 #[.string x]).cell 0⟩
      | succ k => simp at hx) (by simp)
  have CL := fun W x a b => Lib.hid (load_te M x gm q W a b)
  go_enter Tryz.func10, Tryz.ntmps10
  go_wp2_with fail
  (with_reducible refine C1.out.mono ?_)
  clear C1
  rintro _ W0 ⟨g, gv, v0, rfl, hV0, b0⟩
  have hws : w.heap.size ≤ (w.alloc (.cells #[.string id] 9)).heap.size := hb1.size
  have h1 : Hid (DsRel_te M id to (w.alloc (.cells #[.string id] 9)).heap.size g gv w (.int .i64 0) W0) := ⟨0, [id], v0, rfl, by omega, by simp, hV0, hb1.trans (b0.mono hws), rfl⟩
  have hwbase := hws
  generalize (w.alloc (.cells #[.string id] 9)).heap.size = base at *
  clear hV0 b0 hb1
  go_wp2_with fail
  go_loopw [8] (fun i wr => DsRel_te M id to base g gv w i wr) (fun i _ => 400 - (intOf i).toNat)
  case atStart => exact h1.out
  case round =>
    clear h1 W0
    obtain ⟨k, V, v, rfl, hk, hVl, hV, hB, hG⟩ := hrel
    obtain ⟨A, cc, rfl, hcc, hT, hA2⟩ := own_texts hV.row
    have g0 : wr.cell? ⟨g, 0, none⟩ = some (.slice A V.length cc) := hV.box.cell 0
    have HV := Lib.hid hV
    clear hV
    by_cases hlt : k < min V.length 400
    case neg =>
      have hGF : Hid (desc (tellT M) id to = false) := by
        show _ = _
        rw [← hG, show 401 - k = (400 - k) + 1 from by omega, descGo, if_neg hlt]
      clear hG
      rcases Nat.lt_or_ge 400 V.length with hm | hm
      · have hmi : (400 : Int) < V.length := by omega
        have hni : ¬ (k : Int) < 400 := by omega
        go_wp2_with fail
        go_ret
        exact ⟨by rw [hGF.out]; rfl, hB⟩
      · have hmi : ¬ (400 : Int) < V.length := by omega
        have hni : ¬ k < V.length := by omega
        go_wp2_with fail
        go_ret
        exact ⟨by rw [hGF.out]; rfl, hB⟩
    have hkV : k < V.length := by omega
    have hx : V[k]? = some V[k] := List.getElem?_eq_getElem hkV
    obtain ⟨ad, ead, hbl, c0⟩ := hT k V[k] hx
    subst ead
    have hG2 : desc (tellT M) id to = if V[k] = to then true else descGo (tellT M) to (401 - (k + 1)) (addAll V (loadR (tellT M V[k])).1.pars) (k + 1) := by
      rw [← hG, show 401 - k = (401 - (k + 1)) + 1 from by omega, descGo, if_pos hlt, List.getD_eq_getElem?_getD, hx, Option.getD_some]
    clear hG
    have HG := Lib.hid hG2
    clear hG2
    generalize V[k] = x at *
    clear hx
    rcases Nat.lt_or_ge 400 V.length with hm | hm
    · have hmi : (400 : Int) < V.length := by omega
      have hki : (k : Int) < 400 := by omega
      by_cases hxt : x = to
      · have hb : (x.toList == to.toList) = true := by rw [hxt]; exact beq_self_eq_true _
        have hGT : Hid (desc (tellT M) id to = true) := by show _ = _; rw [HG.out, if_pos hxt]
        clear HG hxt
        go_wp2_with fail
        go_ret
        exact ⟨by rw [hGT.out]; rfl, hB⟩
      have hb : (x.toList == to.toList) = false := by
        rw [beq_eq_false_iff_ne]
        intro q
        rw [toList_data, toList_data] at q
        exact hxt (bytes_eq q)
      have HG1 : Hid (descGo (tellT M) to (401 - (k + 1)) (addAll V (loadR (tellT M x)).1.pars) (k + 1) = desc (tellT M) id to) := by show _ = _; rw [HG.out, if_neg hxt]
      have CL1 := CL wr x (hq.below hB hq.lt) (hM.below hB hM.lt)
      have hpl := loadR_pars (tellT M x)
      generalize loadR (tellT M x) = R at *
      obtain ⟨o, e⟩ := R
      clear HG hxt
      go_wp2_with fail
      (with_reducible refine CL1.out.mono ?_)
      clear CL1
      rintro _ W2 ⟨p, rfl, hO, b1, hab⟩
      have bb : Below W2.heap.size W2 ((W2.alloc (.cells zeroO 53)).setRow W2.heap.size (obArr o p)) := below_setRow ((Below.refl _ _).alloc (Nat.le_refl _) _) (Nat.le_refl _) _
      have HF : Hid (Vi base g gv V (.slice (some ad) V.length cc) ((W2.alloc (.cells zeroO 53)).setRow W2.heap.size (obArr o p)) ∧ Arr ((W2.alloc (.cells zeroO 53)).setRow W2.heap.size (obArr o p)) W2.heap.size 53 (obArr o p) ∧ ObIn ((W2.alloc (.cells zeroO 53)).setRow W2.heap.size (obArr o p)) W2.heap.size o p ∧ W2.heap.size ≤ ((W2.alloc (.cells zeroO 53)).setRow W2.heap.size (obArr o p)).heap.size ∧ Below w.heap.size w ((W2.alloc (.cells zeroO 53)).setRow W2.heap.size (obArr o p))) :=
        ⟨(HV.out.bel b1).bel bb, (Arr.new _ _ _).row _, hO.below bb, bb.size, (hB.trans (b1.mono hB.size)).trans (bb.mono (Nat.le_trans hB.size b1.size))⟩
      have hadl : ad.block < wr.heap.size := by
        have e : (ad.add k).block = ad.block := by unfold Addr.add; split <;> rfl
        rw [← e]; exact hbl
      clear g0 c0 HV hT hA2 b1 hO bb
      go_upto_region 8 with (refine wpList_store_row rfl 53 _ _ rfl W2.heap.size (obArr o p) rfl rfl 53 zeroO (Arr.new W2 _ _) (obInfo _ _) rfl (obArr_one _ _) ?_)
      refine wp_forget (fun W => Vi base g gv V (.slice (some ad) V.length cc) W ∧ Arr W W2.heap.size 53 (obArr o p) ∧ ObIn W W2.heap.size o p ∧ W2.heap.size ≤ W.heap.size ∧ Below w.heap.size w W) (by exact HF.out) ?_
      clear HF
      rintro W3 ⟨hV3, hX, hO, hle, hB3⟩
      generalize W2.heap.size = b at *
      have c4 : W3.cell? ⟨b, 4, none⟩ = some (.slice p.pa o.pars.length p.pc) := hX.cell 4
      have hpl2 : o.pars.length ≤ 4 := hpl
      have C2 := Lib.hid (vadd_any hV3 o.pars p.pa p.pc (hO.pars.mono hle) (fun a ea e => by have := hab.2 a ea; have h2 : ad.block = a.block := Option.some.inj e; omega) (by omega))
      have hwb : w.heap.size ≤ base := hwbase
      have hbs := hV3.hs
      clear hX hO hV3 hpl
      go_wp2_with fail
      (with_reducible refine C2.out.mono ?_)
      clear C2 c4
      rintro _ W4 ⟨rfl, ⟨v', hV4⟩, b4⟩
      go_wp2_with fail
      go_roundw
      case rel =>
        have hal := addAll_len o.pars V
        exact ⟨k + 1, _, v', by rw [Int.natCast_add]; rfl, by omega, by omega, hV4, hB3.trans (b4.mono hwb), HG1.out⟩
      case measure => simp [intOf]; omega
    · have hmi : ¬ (400 : Int) < V.length := by omega
      by_cases hxt : x = to
      · have hb : (x.toList == to.toList) = true := by rw [hxt]; exact beq_self_eq_true _
        have hGT : Hid (desc (tellT M) id to = true) := by show _ = _; rw [HG.out, if_pos hxt]
        clear HG hxt
        go_wp2_with fail
        go_ret
        exact ⟨by rw [hGT.out]; rfl, hB⟩
      have hb : (x.toList == to.toList) = false := by
        rw [beq_eq_false_iff_ne]
        intro q
        rw [toList_data, toList_data] at q
        exact hxt (bytes_eq q)
      have HG1 : Hid (descGo (tellT M) to (401 - (k + 1)) (addAll V (loadR (tellT M x)).1.pars) (k + 1) = desc (tellT M) id to) := by show _ = _; rw [HG.out, if_neg hxt]
      have CL1 := CL wr x (hq.below hB hq.lt) (hM.below hB hM.lt)
      have hpl := loadR_pars (tellT M x)
      generalize loadR (tellT M x) = R at *
      obtain ⟨o, e⟩ := R
      clear HG hxt
      go_wp2_with fail
      (with_reducible refine CL1.out.mono ?_)
      clear CL1
      rintro _ W2 ⟨p, rfl, hO, b1, hab⟩
      have bb : Below W2.heap.size W2 ((W2.alloc (.cells zeroO 53)).setRow W2.heap.size (obArr o p)) := below_setRow ((Below.refl _ _).alloc (Nat.le_refl _) _) (Nat.le_refl _) _
      have HF : Hid (Vi base g gv V (.slice (some ad) V.length cc) ((W2.alloc (.cells zeroO 53)).setRow W2.heap.size (obArr o p)) ∧ Arr ((W2.alloc (.cells zeroO 53)).setRow W2.heap.size (obArr o p)) W2.heap.size 53 (obArr o p) ∧ ObIn ((W2.alloc (.cells zeroO 53)).setRow W2.heap.size (obArr o p)) W2.heap.size o p ∧ W2.heap.size ≤ ((W2.alloc (.cells zeroO 53)).setRow W2.heap.size (obArr o p)).heap.size ∧ Below w.heap.size w ((W2.alloc (.cells zeroO 53)).setRow W2.heap.size (obArr o p))) :=
        ⟨(HV.out.bel b1).bel bb, (Arr.new _ _ _).row _, hO.below bb, bb.size, (hB.trans (b1.mono hB.size)).trans (bb.mono (Nat.le_trans hB.size b1.size))⟩
      have hadl : ad.block < wr.heap.size := by
        have e : (ad.add k).block = ad.block := by unfold Addr.add; split <;> rfl
        rw [← e]; exact hbl
      clear g0 c0 HV hT hA2 b1 hO bb
      go_upto_region 8 with (refine wpList_store_row rfl 53 _ _ rfl W2.heap.size (obArr o p) rfl rfl 53 zeroO (Arr.new W2 _ _) (obInfo _ _) rfl (obArr_one _ _) ?_)
      refine wp_forget (fun W => Vi base g gv V (.slice (some ad) V.length cc) W ∧ Arr W W2.heap.size 53 (obArr o p) ∧ ObIn W W2.heap.size o p ∧ W2.heap.size ≤ W.heap.size ∧ Below w.heap.size w W) (by exact HF.out) ?_
      clear HF
      rintro W3 ⟨hV3, hX, hO, hle, hB3⟩
      generalize W2.heap.size = b at *
      have c4 : W3.cell? ⟨b, 4, none⟩ = some (.slice p.pa o.pars.length p.pc) := hX.cell 4
      have hpl2 : o.pars.length ≤ 4 := hpl
      have C2 := Lib.hid (vadd_any hV3 o.pars p.pa p.pc (hO.pars.mono hle) (fun a ea e => by have := hab.2 a ea; have h2 : ad.block = a.block := Option.some.inj e; omega) (by omega))
      have hwb : w.heap.size ≤ base := hwbase
      have hbs := hV3.hs
      clear hX hO hV3 hpl
      go_wp2_with fail
      (with_reducible refine C2.out.mono ?_)
      clear C2 c4
      rintro _ W4 ⟨rfl, ⟨v', hV4⟩, b4⟩
      go_wp2_with fail
      go_roundw
      case rel =>
        have hal := addAll_len o.pars V
        exact ⟨k + 1, _, v', by rw [Int.natCast_add]; rfl, by omega, by omega, hV4, hB3.trans (b4.mono hwb), HG1.out⟩
      case measure => simp [intOf]; omega
def RhRel_te (G : ByteArray → ByteArray × Int) (U : List ByteArray) (ub base g gv : Nat) (w : World) (mv lv wv i : Value) (wr : World) : Prop :=
  ∃ (k m : Nat) (la wo : Bool) (V : List ByteArray) (v : Value), mv = .int .i64 (m : Int) ∧ lv = .bool la ∧ wv = .bool wo ∧ i = .int .i64 (k : Int) ∧ m ≤ 400 ∧ k ≤ V.length ∧ V.length ≤ U.length + 64 * m ∧ Vi base g gv V v wr ∧ Below w.heap.size w wr ∧
    reachGo G (ub + 1 - k) V k m la wo = reachO G U
set_option maxRecDepth 100000 in
set_option maxHeartbeats 4000000 in
theorem Reach_te (HSort : SortSaid) (M : List KT) (gm q : Nat) (w : World) (hq : Arr w q 58 #[.map (some gm)]) (hM : MapX w gm (tx M)) (U : List ByteArray) (UA : Option Addr) (uc : Nat) (hU : Txs w w.heap.size UA U) (hul : (U.length + 30000) * 16 ≤ 140737488355328) :
    Calls Tryz.prog 5 #[.func (.func 26) #[] #[.pointer (some ⟨q, 0, none⟩)], .slice UA U.length uc] w (RhEnd w (reachO (tellT M) U)) := by
  have CL := fun (W : World) (x : ByteArray) (b : Below w.heap.size w W) => Lib.hid (load_te M x gm q W (hq.below b hq.lt) (hM.below b hM.lt))
  have C1 : Hid (Calls Tryz.prog 20 #[.slice UA U.length uc] w (NvEnd w (addAll [] U))) := newVisits_any U UA uc w hU (by omega)
  have hal := addAll_len U []
  generalize hGG : tellT M = G at *
  clear hGG
  have hR0 : reachGo G (U.length + 30000 + 1) (addAll [] U) 0 0 false false = reachO G U := by unfold reachO; rfl
  obtain ⟨ub, hub⟩ : ∃ ub, ub = U.length + 30000 := ⟨_, rfl⟩
  rw [← hub] at hR0
  have hub2 : U.length + 26000 ≤ ub := by omega
  clear hub
  go_enter Tryz.func5, Tryz.ntmps5
  go_wp2_with fail
  (with_reducible refine C1.out.mono ?_)
  clear C1
  rintro _ W0 ⟨g, gv, v0, rfl, hV0, b0⟩
  have h1 : Hid (RhRel_te G U ub w.heap.size g gv w (.int .i64 0) (.bool false) (.bool false) (.int .i64 0) W0) := ⟨0, 0, false, false, addAll [] U, v0, rfl, rfl, rfl, rfl, by omega, Nat.zero_le _, by simpa using hal, hV0, b0, (by rw [Nat.sub_zero]; exact hR0)⟩
  clear hV0 b0 hal hR0
  go_wp2_with fail
  go_loopw [7, 8, 9, 10] (fun mv lv wv i wr => RhRel_te G U ub w.heap.size g gv w mv lv wv i wr) (fun _ _ _ i _ => ub - (intOf i).toNat)
  case atStart => exact h1.out
  case round =>
    clear h1 W0
    obtain ⟨k, m, la, wo, V, v, rfl, rfl, rfl, rfl, hm, hk, hVl, hV, hB, hG⟩ := hrel
    obtain ⟨A9, cc, rfl, hcc, hT, hA2⟩ := own_texts hV.row
    have g0 : wr.cell? ⟨g, 0, none⟩ = some (.slice A9 V.length cc) := hV.box.cell 0
    have HV := Lib.hid hV
    clear hV
    have hV62 : (V.length : Int) ≤ 140737488355328 := by omega
    by_cases hlt : k < V.length
    case neg =>
      obtain rfl : k = V.length := by omega
      have hi : ¬ (V.length : Int) < V.length := by omega
      have hGF : reachO G U = if la then ([], 7) else if wo then ([], 2) else (sortB V, 0) := by
        rw [← hG, show ub + 1 - V.length = (ub - V.length) + 1 from by omega, reachGo, if_neg hlt]
      clear hG
      cases la with
      | true =>
        have HQ : Hid (reachO G U = ([], 7)) := hGF
        clear hGF
        go_wp2_with fail
        go_ret2
        rw [HQ.out]
        exact ⟨none, 0, rfl, Txs.nil _ _ _, hB⟩
      | false =>
      cases wo with
      | true =>
        have HQ : Hid (reachO G U = ([], 2)) := hGF
        clear hGF
        go_wp2_with fail
        go_ret2
        rw [HQ.out]
        exact ⟨none, 0, rfl, Txs.nil _ _ _, hB⟩
      | false =>
      have HQ : Hid (reachO G U = (sortB V, 0)) := hGF
      have CS := Lib.hid (HSort V _ _ wr HV.out.row (by omega))
      clear hGF hT hA2
      go_wp2_with fail
      (with_reducible refine CS.out.mono ?_)
      clear CS
      rintro _ W2 ⟨rfl, hrow, hgr⟩
      have hne := own_ne HV.out.row HV.out.box (by decide)
      have hbox := HV.out.box.kept hgr (fun e => hne e.symm)
      have g2 : W2.cell? ⟨g, 0, none⟩ = some (.slice A9 V.length cc) := hbox.cell 0
      have hB2 : Below w.heap.size w W2 := hB.grown hgr hB.size (fun q hq => own_row_ge HV.out.row q hq)
      have hsl : (sortB V).length = V.length := sortB_len V
      have hrow2 : W2.ownsRow w.heap.size 9 1 (.slice A9 V.length cc) (sortB V).length ((sortB V).map sv) := by rw [hsl]; exact hrow
      obtain ⟨A8, c8, e8, _, hT8, _⟩ := own_texts hrow2
      rw [hsl] at e8
      cases e8
      clear g0 hbox hrow hrow2 hgr hne HV
      have HSl := Lib.hid hsl
      clear hsl
      go_wp2_with fail
      go_ret2
      rw [HQ.out]
      exact ⟨A9, cc, by rw [HSl.out]; rfl, hT8, hB2⟩
    have hi : (k : Int) < V.length := by omega
    have hx : V[k]? = some V[k] := List.getElem?_eq_getElem hlt
    obtain ⟨ad, ead, hbl, c0⟩ := hT k V[k] hx
    subst ead
    have hG2 : reachO G U = (if (loadR (G V[k])).2 = 0 then (if 400 < m + 1 then ([], 6) else reachGo G (ub + 1 - (k + 1)) (addAll V (linksL (loadR (G V[k])).1)) (k + 1) (m + 1) la wo)
       else if (loadR (G V[k])).2 = 7 then reachGo G (ub + 1 - (k + 1)) V (k + 1) m true wo else reachGo G (ub + 1 - (k + 1)) V (k + 1) m la true) := by
      rw [← hG, show ub + 1 - k = (ub + 1 - (k + 1)) + 1 from by omega, reachGo, if_pos hlt, List.getD_eq_getElem?_getD, hx, Option.getD_some]
    clear hG
    have HG := Lib.hid hG2
    clear hG2
    have hadl : ad.block < wr.heap.size := by
      have e : (ad.add k).block = ad.block := by unfold Addr.add; split <;> rfl
      rw [← e]; exact hbl
    have CL1 := CL wr V[k] hB
    have hsm := loadR_small (G V[k])
    have hle := loadR_err (G V[k])
    generalize V[k] = x at *
    generalize loadR (G x) = R at *
    obtain ⟨o, e⟩ := R
    obtain ⟨hel, hpl⟩ := hsm
    simp only at hel hpl hle
    clear hx hT hA2
    go_wp2_with fail
    (with_reducible refine CL1.out.mono ?_)
    clear CL1
    rintro _ W2 ⟨p, rfl, hO, b1, hab⟩
    have bb : Below W2.heap.size W2 ((W2.alloc (.cells zeroO 53)).setRow W2.heap.size (obArr o p)) := below_setRow ((Below.refl _ _).alloc (Nat.le_refl _) _) (Nat.le_refl _) _
    have HF : Hid (Vi w.heap.size g gv V (.slice (some ad) V.length cc) ((W2.alloc (.cells zeroO 53)).setRow W2.heap.size (obArr o p)) ∧ Arr ((W2.alloc (.cells zeroO 53)).setRow W2.heap.size (obArr o p)) W2.heap.size 53 (obArr o p) ∧ ObIn ((W2.alloc (.cells zeroO 53)).setRow W2.heap.size (obArr o p)) W2.heap.size o p ∧ W2.heap.size ≤ ((W2.alloc (.cells zeroO 53)).setRow W2.heap.size (obArr o p)).heap.size ∧ Below w.heap.size w ((W2.alloc (.cells zeroO 53)).setRow W2.heap.size (obArr o p))) :=
      ⟨(HV.out.bel b1).bel bb, (Arr.new _ _ _).row _, hO.below bb, bb.size, (hB.trans (b1.mono hB.size)).trans (bb.mono (Nat.le_trans hB.size b1.size))⟩
    have hwr2 : wr.heap.size ≤ W2.heap.size := b1.size
    clear g0 c0 HV b1 hO bb
    go_upto_region 7 with (refine wpList_store_row rfl 53 _ _ rfl W2.heap.size (obArr o p) rfl rfl 53 zeroO (Arr.new W2 _ _) (obInfo _ _) rfl (obArr_one _ _) ?_)
    refine wp_forget (fun W => Vi w.heap.size g gv V (.slice (some ad) V.length cc) W ∧ Arr W W2.heap.size 53 (obArr o p) ∧ ObIn W W2.heap.size o p ∧ W2.heap.size ≤ W.heap.size ∧ Below w.heap.size w W) (by exact HF.out) ?_
    clear HF
    rintro W3 ⟨hV3, hX, hO, hle3, hB3⟩
    generalize W2.heap.size = b at *
    rcases hle with rfl | rfl | rfl
    · by_cases hful : 400 < m + 1
      · obtain rfl : m = 400 := by omega
        have HQ : Hid (reachO G U = ([], 6)) := by show _ = _; rw [HG.out, if_pos rfl, if_pos hful]
        have CK := Lib.hid (Links_far o p W3 (hO.mono hle3) (by omega) (by omega))
        have hlk := linksL_len hel hpl
        generalize linksL o = K at *
        clear HG
        go_wp2_with (refine wpList_load_row rfl 53 _ rfl b rfl 53 _ (0, 0) _ hX Tryz.underlying53 rfl (obInfo o p) ?_)
        (with_reducible refine CK.out.mono ?_)
        clear CK
        rintro _ W4 ⟨A4, c4, rfl, hT4, b4, hA4⟩
        have C5 := Lib.hid (vadd_any (hV3.bel b4) K A4 c4 hT4 (fun a ea e => by have := hA4 a ea; have h2 : ad.block = a.block := Option.some.inj e; omega) (by omega))
        go_wp2_with fail
        (with_reducible refine C5.out.mono ?_)
        clear C5
        rintro _ W5 ⟨rfl, ⟨v', hV5⟩, b5⟩
        have hB5 := (hB3.trans (b4.mono hB3.size)).trans b5
        go_wp2_with fail
        go_ret2
        rw [HQ.out]
        exact ⟨none, 0, rfl, Txs.nil _ _ _, hB5⟩
      · have HQ : Hid (reachGo G (ub + 1 - (k + 1)) (addAll V (linksL o)) (k + 1) (m + 1) la wo = reachO G U) := by show _ = _; rw [HG.out, if_pos rfl, if_neg hful]
        have hmi : ¬ (400 : Int) < (m : Int) + 1 := by omega
        have CK := Lib.hid (Links_far o p W3 (hO.mono hle3) (by omega) (by omega))
        have hlk := linksL_len hel hpl
        generalize linksL o = K at *
        clear HG
        go_wp2_with (refine wpList_load_row rfl 53 _ rfl b rfl 53 _ (0, 0) _ hX Tryz.underlying53 rfl (obInfo o p) ?_)
        (with_reducible refine CK.out.mono ?_)
        clear CK
        rintro _ W4 ⟨A4, c4, rfl, hT4, b4, hA4⟩
        have C5 := Lib.hid (vadd_any (hV3.bel b4) K A4 c4 hT4 (fun a ea e => by have := hA4 a ea; have h2 : ad.block = a.block := Option.some.inj e; omega) (by omega))
        go_wp2_with fail
        (with_reducible refine C5.out.mono ?_)
        clear C5
        rintro _ W5 ⟨rfl, ⟨v', hV5⟩, b5⟩
        have hB5 := (hB3.trans (b4.mono hB3.size)).trans b5
        have hm1 : m + 1 ≤ 400 := by omega
        have hVk : k + 1 ≤ (addAll V K).length := by
          obtain ⟨Z, hZ⟩ := addAll_ext K V
          rw [hZ, List.length_append]
          omega
        have hVm : (addAll V K).length ≤ U.length + 64 * (m + 1) := by
          have ha := addAll_len K V
          omega
        have hkU : k < ub := by omega
        have HVk := Lib.hid hVk
        have HVm := Lib.hid hVm
        rw [show ((m : Int) + 1) = ((m + 1 : Nat) : Int) from by rw [Int.natCast_add]; rfl]
        clear hmi hVk hVm hful hm hVl hlk hel hpl
        generalize m + 1 = m2 at *
        have hmi : ¬ (400 : Int) < (m2 : Int) := by omega
        clear hX hO hV3 hab hT4 hA4 b4 b5 hle3 hB3
        generalize obArr o p = arr
        generalize K.length = kl
        have HK := Lib.hid hkU
        have HWK := Lib.hid (IntWalk.i64_in ((k : Int) + 1) (by omega))
        clear hul hV62 hlt hk hkU hi
        go_upto_region 5 with fail
        have hwk := HWK.out
        go_wp2_with fail
        go_roundw
        case rel =>
          exact ⟨k + 1, m2, la, wo, _, v', rfl, rfl, rfl, by rw [Int.natCast_add]; rfl, hm1, HVk.out, HVm.out, hV5, hB5, HQ.out⟩
        case measure =>
          have h9 := HK.out
          clear HK HVk HVm
          simp only [intOf]
          exact round_less h9
    · have HQ : Hid (reachGo G (ub + 1 - (k + 1)) V (k + 1) m true wo = reachO G U) := by show _ = _; rw [HG.out, if_neg (show ¬ ((o, (7 : Int)).2 = 0) from fun h => absurd (show (7 : Int) = 0 from h) (by decide)), if_pos rfl]
      have hmi : ¬ (400 : Int) < (m : Int) := by omega
      clear HG
      go_wp2_with fail
      go_roundw
      case rel => exact ⟨k + 1, m, true, wo, V, _, rfl, rfl, rfl, by rw [Int.natCast_add]; rfl, hm, hlt, hVl, hV3, hB3, HQ.out⟩
      case measure => simp [intOf]; omega
    · have HQ : Hid (reachGo G (ub + 1 - (k + 1)) V (k + 1) m la true = reachO G U) := by show _ = _; rw [HG.out, if_neg (show ¬ ((o, (2 : Int)).2 = 0) from fun h => absurd (show (2 : Int) = 0 from h) (by decide)), if_neg (show ¬ ((o, (2 : Int)).2 = 7) from fun h => absurd (show (2 : Int) = 7 from h) (by decide))]
      have hmi : ¬ (400 : Int) < (m : Int) := by omega
      clear HG
      go_wp2_with fail
      go_roundw
      case rel => exact ⟨k + 1, m, la, true, V, _, rfl, rfl, rfl, by rw [Int.natCast_add]; rfl, hm, hlt, hVl, hV3, hB3, HQ.out⟩
      case measure => simp [intOf]; omega
end Go.Proofs.YtmikfmcgddmplaaGreatDoor

/- Plain mathematics of the document's own reckoning: a ring of sixteen words; the choice and the majority in other words. No program is named here. -/
namespace Go.Proofs.YtmikfmcgddmplaaGreatDoor

theorem sched_keep (l : List UInt8) (n : Nat) : ∀ d i, i < n + 16 → (schedTo l (n + d)).getD i 0 = (schedTo l n).getD i 0 := by
  intro d
  induction d with
  | zero => intro i _; rfl
  | succ d ih =>
    intro i hi
    rw [← Nat.add_assoc, schedTo, List.getD_eq_getElem?_getD, List.getElem?_set_ne (by omega), ← List.getD_eq_getElem?_getD]
    exact ih i hi
theorem sched_rec (l : List UInt8) (n : Nat) (h : n < 48) : (schedTo l 48).getD (n + 16) 0 =
    (schedTo l 48).getD n 0 + sig0 ((schedTo l 48).getD (n + 1) 0) + (schedTo l 48).getD (n + 9) 0 + sig1 ((schedTo l 48).getD (n + 14) 0) := by
  have k := fun i hi => sched_keep l n (48 - n) i hi
  have k1 := sched_keep l (n + 1) (48 - (n + 1)) (n + 16) (by omega)
  rw [show n + (48 - n) = 48 from by omega] at k
  rw [show n + 1 + (48 - (n + 1)) = 48 from by omega] at k1
  rw [k n (by omega), k (n + 1) (by omega), k (n + 9) (by omega), k (n + 14) (by omega), k1, schedTo, List.getD_eq_getElem?_getD, List.getElem?_set_self (by rw [schedTo_length]; omega)]
  rfl

/-- which word lies at place j of the ring, m words having been taken in -/
def idx (m j : Nat) : Nat := m - 1 - (m - 1 - j) % 16
def ring (S : List UInt32) (m : Nat) : List UInt32 := (List.range 16).map fun j => S.getD (idx m j) 0
theorem ring_length (S : List UInt32) (m : Nat) : (ring S m).length = 16 := by simp [ring]
theorem ring_at (S : List UInt32) (m j : Nat) (h : j < 16) : (ring S m).getD j 0 = S.getD (idx m j) 0 := by
  simp [ring, h]
theorem ring_first (S : List UInt32) (h : S.length = 64) : ring S 16 = S.take 16 := by
  apply List.ext_getElem?
  intro j
  by_cases hj : j < 16
  · have e : idx 16 j = j := by unfold idx; omega
    simp [ring, hj, e]
    rw [List.getElem?_eq_getElem (by omega)]
    rfl
  · rw [List.getElem?_eq_none (by rw [ring_length]; omega), List.getElem?_eq_none (by simp; omega)]
theorem ring_own (S : List UInt32) (i : Nat) (h : 16 ≤ i) : (ring S i).getD (i % 16) 0 = S.getD (i - 16) 0 := by
  rw [ring_at _ _ _ (by omega)]; congr 1; unfold idx; omega
theorem ring_1 (S : List UInt32) (i : Nat) (h : 16 ≤ i) : (ring S i).getD ((i + 1) % 16) 0 = S.getD (i - 15) 0 := by
  rw [ring_at _ _ _ (by omega)]; congr 1; unfold idx; omega
theorem ring_9 (S : List UInt32) (i : Nat) (h : 16 ≤ i) : (ring S i).getD ((i + 9) % 16) 0 = S.getD (i - 7) 0 := by
  rw [ring_at _ _ _ (by omega)]; congr 1; unfold idx; omega
theorem ring_14 (S : List UInt32) (i : Nat) (h : 16 ≤ i) : (ring S i).getD ((i + 14) % 16) 0 = S.getD (i - 2) 0 := by
  rw [ring_at _ _ _ (by omega)]; congr 1; unfold idx; omega
theorem ring_next (S : List UInt32) (i : Nat) (h : 16 ≤ i) : (ring S i).set (i % 16) (S.getD i 0) = ring S (i + 1) := by
  apply List.ext_getElem?
  intro j
  rw [List.getElem?_set, ring_length]
  by_cases hj : j < 16
  · by_cases e : i % 16 = j
    · subst e
      have e2 : idx (i + 1) (i % 16) = i := by unfold idx; omega
      simp [ring, hj, e2]
    · have e2 : idx (i + 1) j = idx i j := by unfold idx; omega
      simp [ring, hj, e, e2]
  · rw [if_neg (by omega), List.getElem?_eq_none (by rw [ring_length]; omega), List.getElem?_eq_none (by rw [ring_length]; omega)]
theorem ring_new (S : List UInt32) (i : Nat) : (ring S (i + 1)).getD (i % 16) 0 = S.getD i 0 ∨ i < 16 := by
  by_cases h : i < 16
  · exact .inr h
  · rw [ring_at _ _ _ (by omega)]; left; congr 1; unfold idx; omega

theorem choice_eq (e f g : UInt32) : g ^^^ (e &&& (f ^^^ g)) = (e &&& f) ^^^ (~~~e &&& g) := by
  apply UInt32.toBitVec_inj.1
  apply BitVec.eq_of_getLsbD_eq
  intro i hi
  simp only [UInt32.toBitVec_xor, UInt32.toBitVec_and, UInt32.toBitVec_not, BitVec.getLsbD_xor, BitVec.getLsbD_and, BitVec.getLsbD_not, hi, decide_true, Bool.true_and]
  generalize e.toBitVec.getLsbD i = a
  generalize f.toBitVec.getLsbD i = b
  generalize g.toBitVec.getLsbD i = c
  cases a <;> cases b <;> cases c <;> rfl
theorem major_eq (a b c : UInt32) : (a &&& b) ||| (c &&& (a ||| b)) = (a &&& b) ^^^ (a &&& c) ^^^ (b &&& c) := by
  apply UInt32.toBitVec_inj.1
  apply BitVec.eq_of_getLsbD_eq
  intro i hi
  simp only [UInt32.toBitVec_xor, UInt32.toBitVec_and, UInt32.toBitVec_or, BitVec.getLsbD_xor, BitVec.getLsbD_and, BitVec.getLsbD_or]
  generalize a.toBitVec.getLsbD i = x
  generalize b.toBitVec.getLsbD i = y
  generalize c.toBitVec.getLsbD i = z
  cases x <;> cases y <;> cases z <;> rfl
/-- the round in the document's own words -/
theorem round_ref (k w : UInt32) (s : H8) :
    s.h + (rotr s.e 6 ^^^ rotr s.e 11 ^^^ rotr s.e 25) + (s.g ^^^ (s.e &&& (s.f ^^^ s.g))) + k + w = rx k w s ∧
    rx k w s + (rotr s.a 2 ^^^ rotr s.a 13 ^^^ rotr s.a 22) + ((s.a &&& s.b) ||| (s.c &&& (s.a ||| s.b))) = (round k w s).a := by
  constructor
  · rw [choice_eq]; rfl
  · rw [major_eq, UInt32.add_assoc]; rfl
end Go.Proofs.YtmikfmcgddmplaaGreatDoor
