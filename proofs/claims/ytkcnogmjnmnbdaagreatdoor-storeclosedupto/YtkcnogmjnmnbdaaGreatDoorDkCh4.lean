/- The change of Rename. -/
import Derived.Test.YtkcnogmjnmnbdaaGreatDoorDkCh3
namespace Go.Proofs.YtkcnogmjnmnbdaaGreatDoor
open Go.RowKit

set_option maxRecDepth 100000 in
set_option maxHeartbeats 1000000 in
theorem renameCh_any (L : List Fl) (n m : ByteArray) (hG : goodD L = true) (v : Value) (base p1 p2 : Nat) (V : World) (h : V.ownsRow base 73 3 v L.length (flCells L)) (hp1 : V.cell? ⟨p1, 0, none⟩ = some (.string m)) (hp2 : V.cell? ⟨p2, 0, none⟩ = some (.string n)) (hq1 : p1 < base) (_ : p2 < base) (hb : base ≤ V.heap.size) :
    Calls Tryz.prog 136 #[v, .pointer (some ⟨p1, 0, none⟩), .pointer (some ⟨p2, 0, none⟩)] V (ChEnd base (rnP L n m) V) := by
  obtain ⟨h4, hr, hall⟩ := (goodD_iff L).1 hG
  have CN := Lib.hid (Named_any m V)
  cases hnm : named m with
  | false =>
    have HR : Hid (rnP L n m = .error 2) := by show _ = _; unfold rnP; rw [hnm]; rfl
    rw [hnm] at CN
    go_enter Tryz.func136, Tryz.ntmps136
    go_wp2_with fail
    (with_reducible refine CN.out.mono ?_)
    rintro _ V ⟨rfl, rfl⟩
    go_wp2_with fail
    go_ret2
    rw [HR.out]
    exact ⟨⟨rfl, rfl⟩, Below.refl _ _⟩
  | true =>
    rw [hnm] at CN
    obtain ⟨A, c, rfl, hc, hF⟩ := own_files h
    have C1 := Lib.hid (find_any L n A c V hF (by omega) hr)
    cases hbn : hasN n L with
    | false =>
      have HR : Hid (rnP L n m = .error 7) := by
        show _ = _
        unfold hasN at hbn
        unfold rnP
        rw [hnm]
        cases hg : getF n L with
        | none => rfl
        | some f => rw [hg] at hbn; cases hbn
      rw [hbn] at C1
      clear hnm
      go_enter Tryz.func136, Tryz.ntmps136
      go_wp2_with fail
      (with_reducible refine CN.out.mono ?_)
      rintro _ V ⟨rfl, rfl⟩
      go_wp2_with fail
      (with_reducible refine C1.out.mono ?_)
      clear C1
      rintro _ V2 ⟨rfl, b2⟩
      go_wp2_with fail
      go_ret2
      rw [HR.out]
      exact ⟨⟨rfl, rfl⟩, b2.mono hb⟩
    | true =>
      obtain ⟨f, hgf, hx, hfn, hlt⟩ := has_some hr hbn
      have hdc := del_cut n L _ hr hbn
      have hdr := del_ris n L _ hr
      have hdl : (del n L).length ≤ 500 := by
        have : (del n L).length ≤ L.length := List.length_filter_le _ _
        omega
      have HR : Hid (rnP L n m = .ok (putL ⟨m, f.safe, f.tail⟩ (del n L))) := by
        show _ = _
        unfold rnP
        rw [hnm, hgf]
        rfl
      rw [hbn] at C1
      have CD := fun W v' h2 => Lib.hid (Delete_any L (low n L) hlt (by omega) v' base W h2)
      rw [← hdc] at CD
      have CP : ∀ W v' h2 h3, Hid (Calls Tryz.prog 137 #[v', .agg #[.string m, .string f.safe, .string f.tail]] W (PtEnd base (putL ⟨m, f.safe, f.tail⟩ (del n L)) W)) := fun W v' h2 h3 => put_any (del n L) ⟨m, f.safe, f.tail⟩ hdr hdl v' base W h2 h3
      have hlo : low n L ≤ 400 := by omega
      have hli : (low n L : Int) < L.length := by omega
      generalize low n L = i at *
      generalize rnP L n m = R at *
      have HX := Lib.hid hx
      clear hbn hgf hall hr hG hnm hdc hdr hdl hfn hx
      go_enter Tryz.func136, Tryz.ntmps136
      go_wp2_with fail
      (with_reducible refine CN.out.mono ?_)
      rintro _ V ⟨rfl, rfl⟩
      go_wp2_with fail
      (with_reducible refine C1.out.mono ?_)
      clear C1 CN
      rintro _ V2 ⟨rfl, b2⟩
      have h2 := dk_own_below h b2
      have bel2 := b2.mono hb
      have hb2 := Nat.le_trans hb b2.size
      have hF2 := hF.up b2
      obtain ⟨ad, rfl, hbk, c0, c1, c2⟩ := hF2 i f HX.out
      have g1 : V2.cell? ⟨p1, 0, none⟩ = some (.string m) := (bel2.cell (p := ⟨p1, 0, none⟩) hq1).trans hp1
      clear b2 h hF hp1 hp2 hF2
      have bb : Below V2.heap.size V2 ((V2.alloc (.cells flZero 73)).setRow V2.heap.size (flArr f)) := below_setRow ((Below.refl _ _).alloc (Nat.le_refl _) _) (Nat.le_refl _) _
      have AX : Arr ((V2.alloc (.cells flZero 73)).setRow V2.heap.size (flArr f)) V2.heap.size 73 (flArr f) := (Arr.new _ _ _).row _
      go_upto_region 7 with (refine wpList_store_row rfl 73 _ _ rfl V2.heap.size (flArr f) rfl rfl 73 flZero (Arr.new V2 _ _) (flInfo _) rfl (flArr_one _) ?_)
      refine wp_forget (fun W => Arr W V2.heap.size 73 (flArr f) ∧ Below V2.heap.size V2 W) (by exact ⟨AX, bb⟩) ?_
      clear bb AX c0 c1 c2 hbk
      rintro W ⟨AX, bW⟩
      have hW := dk_own_below h2 bW
      have bel3 := bel2.trans (bW.mono hb2)
      have hb3 := Nat.le_trans hb2 bW.size
      have g1' : W.cell? ⟨p1, 0, none⟩ = some (.string m) := (bW.cell (p := ⟨p1, 0, none⟩) (by show p1 < _; omega)).trans g1
      have hltq := AX.lt
      have hown : ∀ k, (Value.slice (some ad) L.length c).ownBlock = some k → k ≠ V2.heap.size := fun k hk e => by
        rcases h2.2 with ⟨e0, _⟩ | ⟨g, cap, cur, e0, _, hg, _⟩
        · cases e0
        · rw [e0] at hk
          have e1 : g = k := Option.some.inj hk
          have := (Array.getElem?_eq_some_iff.1 hg).1
          omega
      clear g1 bW h2 bel2
      generalize V2.heap.size = q at *
      have d0 : W.cell? ⟨q, 0, none⟩ = some (.string f.name) := AX.cell 0
      have e0 := AX.free 0
      have AY : Arr (W.setCell ⟨q, 0, none⟩ (.string m)) q 73 (flArr ⟨m, f.safe, f.tail⟩) := AX.put 0 (.string m)
      have kY : W.grownBy (W.setCell ⟨q, 0, none⟩ (.string m)) (some q) := gb_set _ _ _
      have hY := own_kp hW (Kp.gb kY) (fun k hk e => hown k hk (Option.some.inj e).symm)
      have bel4 := below_gb bel3 kY hb2 hb3
      have hb4 := Nat.le_trans hb3 kY.size
      go_upto_region 8 with fail
      refine wp_forget (fun W => Arr W q 73 (flArr ⟨m, f.safe, f.tail⟩) ∧ W.ownsRow base 73 3 (.slice (some ad) L.length c) L.length (flCells L) ∧ Below base V W ∧ base ≤ W.heap.size) (by exact ⟨AY, hY, bel4, hb4⟩) ?_
      clear AY hY bel4 hb4 kY AX hW d0 e0 g1' bel3 hltq hb3
      rintro W2 ⟨AY, hY, bel4, hb4⟩
      have C2 := CD W2 _ hY
      clear CD
      go_wp2_with fail
      (with_reducible refine C2.out.mono ?_)
      clear C2
      rintro _ W3 ⟨v', rfl, h3, k3⟩
      have bel5 := bel4.trans (grown_base hY hb4 k3)
      have AZ := AY.kept k3 (fun e => hown _ e.symm rfl)
      have hb5 := Nat.le_trans hb4 k3.size
      have c0 : W3.cell? ⟨q, 0, none⟩ = some (.string m) := AZ.cell 0
      have c1 : W3.cell? ⟨q, 1, none⟩ = some (.string f.safe) := AZ.cell 1
      have c2 : W3.cell? ⟨q, 2, none⟩ = some (.string f.tail) := AZ.cell 2
      have C3 := CP W3 v' h3 hb5
      clear CP AY hY AZ k3 bel4
      go_wp2_with fail
      (with_reducible refine C3.out.mono ?_)
      clear C3
      rintro _ W4 ⟨v4, rfl, h6, b6⟩
      go_wp2_with fail
      go_ret2
      rw [HR.out]
      exact ⟨⟨v4, rfl, h6⟩, bel5.trans b6⟩
end Go.Proofs.YtkcnogmjnmnbdaaGreatDoor
