/- ref.SameStrings at equal lists, law.WireReads: the walks. -/
import Derived.Test.YtpfafgmafgfokaaWTaken
namespace Go.Proofs.Ytpfafgmafgfokaa
open Go.RowKit

/-- a slice that reads as a list -/
def Lst (w : World) (v : Value) (xs : List Value) : Prop := ∃ A c, v = .slice A xs.length c ∧ ∀ k u, xs[k]? = some u → ∃ ad, A = some ad ∧ w.cell? (ad.add k) = some u
theorem cell_lt {w : World} {p : Addr} {v : Value} (h : w.cell? p = some v) : p.block < w.heap.size := by
  rcases Nat.lt_or_ge p.block w.heap.size with hlt | hge
  · exact hlt
  · simp [World.cell?, Array.getElem?_eq_none hge] at h
theorem Lst.below {w w' : World} {v : Value} {xs : List Value} (h : Lst w v xs) (k : Below w.heap.size w w') : Lst w' v xs := by
  obtain ⟨A, c, e, h⟩ := h
  refine ⟨A, c, e, fun i u hu => ?_⟩
  obtain ⟨ad, ea, hc⟩ := h i u hu
  exact ⟨ad, ea, (k.cell (cell_lt hc)).trans hc⟩
theorem lst_of_own {w : World} {base : Nat} {e : TypeId} {v : Value} {n : Nat} {xs : List Value} (h : w.ownsRow base e 1 v n xs) : Lst w v xs := by
  have hn : xs.length = n := by rw [h.1, Nat.mul_one]
  rcases h.2 with ⟨rfl, rfl⟩ | ⟨g, cap, cur, rfl, hb, hg, hnc, hcm, hcs, htake⟩
  · have : xs = [] := List.eq_nil_of_length_eq_zero hn
    subst this
    exact ⟨none, 0, rfl, fun k u h => by simp at h⟩
  · refine ⟨some ⟨g, 0, none⟩, cap, by rw [hn], fun k u hu => ⟨_, rfl, ?_⟩⟩
    have hadd : (⟨g, 0, none⟩ : Addr).add k = ⟨g, k, none⟩ := by unfold Addr.add; split <;> simp_all
    have hk : k < n := by rw [← hn]; exact (List.getElem?_eq_some_iff.1 hu).1
    rw [hadd, cell_of_row w g k cur e (0, 0) hg, ← hu, ← htake, List.getElem?_take_of_lt (by omega)]
    simp

set_option maxRecDepth 100000 in
set_option maxHeartbeats 1000000 in
theorem SameStrings_same (ts : List ByteArray) (hl : ts.length ≤ 281474976710656) (v v' : Value) (w : World) (h : Lst w v (ts.map sv)) (h' : Lst w v' (ts.map sv)) :
    Calls Try.prog 25 #[v, v'] w fun e w' => e = .returned (.bool true) ∧ Below w.heap.size w w' := by
  obtain ⟨A, c, rfl, hc⟩ := h
  obtain ⟨A', c', rfl, hc'⟩ := h'
  rw [List.length_map]
  go_enter Try.func25, Try.ntmps25
  go_wp2_with fail
  go_loopw [13] (fun i wr => ∃ k : Nat, k ≤ ts.length ∧ i = .int .i64 (k : Int) ∧ Below w.heap.size w wr) (fun i _ => ts.length - (intOf i).toNat)
  case atStart => exact ⟨0, Nat.zero_le _, rfl, Below.refl _ _⟩
  case round =>
    obtain ⟨k, hk, rfl, hB⟩ := hrel
    by_cases hlt : k < ts.length
    · have hm : (ts.map sv)[k]? = some (.string ts[k]) := by rw [List.getElem?_map, List.getElem?_eq_getElem hlt]; rfl
      obtain ⟨ad, rfl, g0⟩ := hc k _ hm
      obtain ⟨ad', rfl, g1⟩ := hc' k _ hm
      have d0 := (hB.cell (cell_lt g0)).trans g0
      have d1 := (hB.cell (cell_lt g1)).trans g1
      clear hc hc' hm g0 g1
      generalize ts[k] = x at *
      have hi : (k : Int) < ts.length := by omega
      have hi2 : 0 ≤ (k : Int) := by omega
      go_wp2_with fail
      go_quiet (fail)
      go_wp2_with fail
      exact ⟨⟨k + 1, hlt, by go_num, below_drewN hB _⟩, by simp [intOf]; omega⟩
    · have hi : ¬ (k : Int) < ts.length := by omega
      clear hc hc'
      go_wp2_with fail
      go_ret
      exact ⟨rfl, hB⟩
def RdRel (L : List TakeT) (s : ByteArray) (gr : Nat) (w : World) (vm vu i : Value) (wr : World) : Prop :=
  ∃ k : Nat, k ≤ L.length ∧ i = .int .i64 (k : Int) ∧ Rd wr gr (runR s (L.take k)).2.2.1 (runR s (L.take k)).2.2.2 ∧
    Two wr (gr + 1) vm vu (runR s (L.take k)).1 (runR s (L.take k)).2.1 ∧ Below gr w wr ∧ gr + 1 ≤ wr.heap.size

set_option maxRecDepth 100000 in
set_option maxHeartbeats 4000000 in
theorem WireReads_any (s : ByteArray) (hs : s.size ≤ 281474976710656) (L : List TakeT) (hl : L.length ≤ 8796093022207) (A : Option Addr) (c : Nat) (w : World) (hP : TakesIn w w.heap.size A L) :
    Calls Try.prog 5 #[.string s, .slice A L.length c] w fun e w' => e = .returned (.bool true) ∧ Below w.heap.size w w' := by
  obtain ⟨ii, hii, iz0, iz1, iz2⟩ := info_parts info_int
  obtain ⟨si, hsi, sz0, sz1, sz2⟩ := info_parts info_str
  have Hii := Lib.hid hii
  have Iz0 := Lib.hid iz0
  have Iz1 := Lib.hid iz1
  have Iz2 := Lib.hid iz2
  have Hsi := Lib.hid hsi
  have Sz0 := Lib.hid sz0
  have Sz1 := Lib.hid sz1
  have Sz2 := Lib.hid sz2
  clear hii iz0 iz1 iz2 hsi sz0 sz1 sz2
  go_enter Try.func5, Try.ntmps5
  go_wp2_with fail
  (with_reducible refine (Taken_any s hs L hl A c w hP).mono ?_)
  rintro _ w1 ⟨vn, vt, rfl, hT, b1⟩
  have hLn := lst_of_own hT.1
  have hLt := lst_of_own hT.2
  clear hT
  obtain ⟨An, cn, rfl, hcn⟩ := hLn
  rw [List.length_map]
  have HCN := Lib.hid hcn
  clear hcn
  go_wp2_with fail
  (with_reducible refine (Read_any s w1).mono ?_)
  rintro _ w2 ⟨rfl, hR0, b2⟩
  have hz0 : w1.heap.size + 1 ≤ w2.heap.size := hR0.lt
  generalize hgr : w1.heap.size = gr at *
  have HGR := Lib.hid hgr
  clear hgr
  go_wp2_with fail
  go_loopw [10, 11, 12] (fun vm vu i wr => RdRel L s gr w1 vm vu i wr) (fun _ _ i _ => L.length - (intOf i).toNat)
  case atStart => exact ⟨0, Nat.zero_le _, rfl, hR0, ⟨⟨rfl, .inl ⟨rfl, rfl⟩⟩, ⟨rfl, .inl ⟨rfl, rfl⟩⟩⟩, b2, hz0⟩
  case round =>
    clear hR0 b2 hz0 w2
    obtain ⟨k, hk, rfl, hR, h2, hB, hz⟩ := hrel
    obtain ⟨hsm, hlen⟩ := run_small s hs L k hk
    by_cases hlt : k < L.length
    · obtain ⟨ad, rfl, hbl, h0, h1⟩ := hP k L[k] (List.getElem?_eq_getElem hlt)
      have HRun := Lib.hid (run_take s L k hlt)
      generalize L[k] = x at *
      obtain ⟨kd, n⟩ := x
      simp only at h0 h1
      have hbg : (ad.add (k * 2)).block < gr := by have := b1.size; have := HGR.out; omega
      have g0 := (hB.cell hbg).trans ((b1.cell hbl).trans h0)
      have g1 := (hB.cell (p := ⟨(ad.add (k * 2)).block, (ad.add (k * 2)).off + 1, none⟩) hbg).trans ((b1.cell (p := ⟨(ad.add (k * 2)).block, (ad.add (k * 2)).off + 1, none⟩) hbl).trans h1)
      clear h0 h1 hP
      generalize hst : runR s (L.take k) = st at *
      obtain ⟨ns, ts, r, e⟩ := st
      simp only at hR h2 hsm hlen
      clear hst
      have hi : (k : Int) < L.length := by omega
      by_cases hk0 : kd = 0
      · subst hk0
        have q0 := (both_num r e (by omega)).2.1
        have HS : Hid (runR s (L.take (k + 1)) = (ns ++ [(stN r e).1], ts, (stN r e).2.1, (stN r e).2.2)) := by show _ = _; rw [HRun.out]; unfold stepR; rw [if_pos rfl]
        generalize (stN r e).1 = rn at *
        generalize (stN r e).2.1 = r2 at *
        generalize (stN r e).2.2 = e2 at *
        clear HRun
        go_wp2_with fail
        have q := q0 _ _ hR
        (with_reducible refine q.mono ?_)
        clear q q0
        rintro _ w2 ⟨rfl, hR2, k2⟩
        have h22 := h2.step k2 (Nat.lt_succ_self _)
        have hB2 := below_gb hB k2 (Nat.le_refl _) (Nat.le_of_lt hz)
        have hz2 : gr + 1 ≤ w2.heap.size := by have := k2.size; omega
        clear hR h2 k2
        go_wp2_with (at_builtin; refine wpList_append_lies _ rfl _ _ 36 rfl (gr + 1) 3 ii _ 1 8 Try.underlying36 Hii.out Iz0.out Iz1.out Iz2.out rfl (by decide) _ _ _ rfl (h22.1.alloc _) ⟨w2.heap.size, 0, none⟩ 1 1 [.int .i64 rn] rfl rfl (new_one w2 (.int .i64 rn) 3) (by intro u hu; simp at hu; subst hu; rfl) (by decide) (by unfold maxLen; omega) (by omega) (by simp; omega) _ rfl ?_)
        intro g3 cap3 w3 hown hgrow hat hg3
        go_wp2_with fail
        have hR3 : Rd w3 gr r2 e2 := Arr.kept (Arr.alloc hR2 _) hgrow (fun e1 => by have := own_row_ge h22.1 _ e1.symm; omega)
        have h23 := (h22.2.alloc (.cells #[.int .i64 rn] 3)).kept hgrow (own_apart h22.2 h22.1 (by decide))
        refine ⟨⟨k + 1, hlt, by go_num, ?_, ?_, ?_, ?_⟩, by simp [intOf]; omega⟩
        · rw [HS.out]; exact hR3
        · rw [HS.out]
          refine ⟨?_, h23⟩
          simp only [List.length_append, List.map_append]
          exact hown
        · exact (hB2.alloc (Nat.le_of_lt hz2) _).grown hgrow (by simp; omega) (fun q e1 => by have := own_row_ge h22.1 _ e1; omega)
        · have := hgrow.size; simp at this; omega
      · have hk0' : (kd == 0) = false := by rw [beq_eq_false_iff_ne]; exact hk0
        by_cases hk1 : kd = 1
        · subst hk1
          have q0 := (both_text r e (by omega)).2.1
          have HS : Hid (runR s (L.take (k + 1)) = (ns, ts ++ [(stT r e).1], (stT r e).2.1, (stT r e).2.2)) := by show _ = _; rw [HRun.out]; unfold stepR; rw [if_neg (by simp), if_pos rfl]
          generalize (stT r e).1 = rn at *
          generalize (stT r e).2.1 = r2 at *
          generalize (stT r e).2.2 = e2 at *
          clear HRun
          go_wp2_with fail
          have q := q0 _ _ hR
          (with_reducible refine q.mono ?_)
          clear q q0
          rintro _ w2 ⟨rfl, hR2, k2⟩
          have h22 := h2.step k2 (Nat.lt_succ_self _)
          have hB2 := below_gb hB k2 (Nat.le_refl _) (Nat.le_of_lt hz)
          have hz2 : gr + 1 ≤ w2.heap.size := by have := k2.size; omega
          clear hR h2 k2
          go_wp2_with (at_builtin; refine wpList_append_lies _ rfl _ _ 37 rfl (gr + 1) 9 si _ 1 16 Try.underlying37 Hsi.out Sz0.out Sz1.out Sz2.out rfl (by decide) _ _ _ rfl (h22.2.alloc _) ⟨w2.heap.size, 0, none⟩ 1 1 [.string rn] rfl rfl (new_one w2 (.string rn) 9) (by intro u hu; simp at hu; subst hu; rfl) (by decide) (by unfold maxLen; omega) (by omega) (by simp; omega) _ rfl ?_)
          intro g3 cap3 w3 hown hgrow hat hg3
          go_wp2_with fail
          have hR3 : Rd w3 gr r2 e2 := Arr.kept (Arr.alloc hR2 _) hgrow (fun e1 => by have := own_row_ge h22.2 _ e1.symm; omega)
          have h23 := (h22.1.alloc (.cells #[.string rn] 9)).kept hgrow (own_apart h22.1 h22.2 (by decide))
          refine ⟨⟨k + 1, hlt, by go_num, ?_, ?_, ?_, ?_⟩, by simp [intOf]; omega⟩
          · rw [HS.out]; exact hR3
          · rw [HS.out]
            refine ⟨h23, ?_⟩
            simp only [List.length_append, List.map_append]
            exact hown
          · exact (hB2.alloc (Nat.le_of_lt hz2) _).grown hgrow (by simp; omega) (fun q e1 => by have := own_row_ge h22.2 _ e1; omega)
          · have := hgrow.size; simp at this; omega
        · have hk1' : (kd == 1) = false := by rw [beq_eq_false_iff_ne]; exact hk1
          have q0 := (both_bytes r e n).2.1
          have HS : Hid (runR s (L.take (k + 1)) = (ns, ts ++ [(stB r e n).1], (stB r e n).2.1, (stB r e n).2.2)) := by show _ = _; rw [HRun.out]; unfold stepR; rw [if_neg hk0, if_neg hk1]
          generalize (stB r e n).1 = rn at *
          generalize (stB r e n).2.1 = r2 at *
          generalize (stB r e n).2.2 = e2 at *
          clear HRun
          go_wp2_with fail
          have q := q0 _ _ hR
          (with_reducible refine q.mono ?_)
          clear q q0
          rintro _ w2 ⟨rfl, hR2, k2⟩
          have h22 := h2.step k2 (Nat.lt_succ_self _)
          have hB2 := below_gb hB k2 (Nat.le_refl _) (Nat.le_of_lt hz)
          have hz2 : gr + 1 ≤ w2.heap.size := by have := k2.size; omega
          clear hR h2 k2
          go_wp2_with (at_builtin; refine wpList_append_lies _ rfl _ _ 37 rfl (gr + 1) 9 si _ 1 16 Try.underlying37 Hsi.out Sz0.out Sz1.out Sz2.out rfl (by decide) _ _ _ rfl (h22.2.alloc _) ⟨w2.heap.size, 0, none⟩ 1 1 [.string rn] rfl rfl (new_one w2 (.string rn) 9) (by intro u hu; simp at hu; subst hu; rfl) (by decide) (by unfold maxLen; omega) (by omega) (by simp; omega) _ rfl ?_)
          intro g3 cap3 w3 hown hgrow hat hg3
          go_wp2_with fail
          have hR3 : Rd w3 gr r2 e2 := Arr.kept (Arr.alloc hR2 _) hgrow (fun e1 => by have := own_row_ge h22.2 _ e1.symm; omega)
          have h23 := (h22.1.alloc (.cells #[.string rn] 9)).kept hgrow (own_apart h22.1 h22.2 (by decide))
          refine ⟨⟨k + 1, hlt, by go_num, ?_, ?_, ?_, ?_⟩, by simp [intOf]; omega⟩
          · rw [HS.out]; exact hR3
          · rw [HS.out]
            refine ⟨h23, ?_⟩
            simp only [List.length_append, List.map_append]
            exact hown
          · exact (hB2.alloc (Nat.le_of_lt hz2) _).grown hgrow (by simp; omega) (fun q e1 => by have := own_row_ge h22.2 _ e1; omega)
          · have := hgrow.size; simp at this; omega
    · obtain rfl : k = L.length := by omega
      rw [List.take_length] at *
      have hi : ¬ (L.length : Int) < L.length := by omega
      have hLm := lst_of_own h2.1
      have hLu := lst_of_own h2.2
      have hb1 : Below w1.heap.size w1 wr := by rw [HGR.out]; exact hB
      have hLt2 := hLt.below hb1
      have hB0 := b1.trans (hb1.mono b1.size)
      have hgw : w.heap.size ≤ gr := by have := b1.size; have := HGR.out; omega
      clear hP h2 hLt
      obtain ⟨Am, cm, rfl, hcm⟩ := hLm
      rw [List.length_map]
      have HCM := Lib.hid hcm
      clear hcm
      generalize runR s L = st at *
      obtain ⟨ns, ts, r, e⟩ := st
      simp only at *
      go_wp2_with fail
      (with_reducible refine (SameStrings_same ts (by omega) vt u11 wr hLt2 hLu).mono ?_)
      rintro _ w3 ⟨rfl, b3⟩
      have hR3 : Rd w3 gr r e := Arr.below hR b3 hR.lt
      have hB3 := hB0.trans (b3.mono hB0.size)
      go_wp2_with fail
      (with_reducible refine (Left_any gr r e w3 hR3).mono ?_)
      rintro _ w4 ⟨rfl, rfl⟩
      go_wp2_with fail
      (with_reducible refine (Bad_any gr r e w3 hR3).mono ?_)
      rintro _ w4 ⟨rfl, rfl⟩
      go_wp2_with fail
      have HM3 : Hid (∀ k u, (ns.map iv)[k]? = some u → ∃ ad, Am = some ad ∧ w3.cell? (ad.add k) = some u) := fun k u hu => by
        obtain ⟨ad, e1, e2⟩ := HCM.out k u hu
        exact ⟨ad, e1, (b3.cell (cell_lt e2)).trans e2⟩
      have HN3 : Hid (∀ k u, (ns.map iv)[k]? = some u → ∃ ad, An = some ad ∧ w3.cell? (ad.add k) = some u) := fun k u hu => by
        obtain ⟨ad, e1, e2⟩ := HCN.out k u hu
        have e3 := (hb1.cell (cell_lt e2)).trans e2
        exact ⟨ad, e1, (b3.cell (cell_lt e3)).trans e3⟩
      have hns : ns.length ≤ 8796093022207 := by omega
      clear hR3 hR hLu hLt2 HCM HCN hb1 hB0 hB b3 hz
      go_loopw [13] (fun i w4 => ∃ j : Nat, j ≤ ns.length ∧ i = .int .i64 (j : Int) ∧ Below w3.heap.size w3 w4) (fun i _ => ns.length - (intOf i).toNat)
      case atStart => exact ⟨0, Nat.zero_le _, rfl, Below.refl _ _⟩
      case round =>
        obtain ⟨j, hj, rfl, hB4⟩ := hrel
        have hB5 := hB3.trans (hB4.mono hB3.size)
        by_cases hlt2 : j < ns.length
        · have hm : (ns.map iv)[j]? = some (.int .i64 ns[j]) := by rw [List.getElem?_map, List.getElem?_eq_getElem hlt2]; rfl
          obtain ⟨ad, rfl, g0⟩ := HM3.out j _ hm
          obtain ⟨ad', rfl, g1⟩ := HN3.out j _ hm
          have d0 := (hB4.cell (cell_lt g0)).trans g0
          have d1 := (hB4.cell (cell_lt g1)).trans g1
          clear HM3 HN3 hm g0 g1
          generalize ns[j] = x at *
          have hi3 : (j : Int) < ns.length := by omega
          have hi4 : 0 ≤ (j : Int) := by omega
          go_wp2_with fail
          go_quiet (fail)
          go_wp2_with fail
          exact ⟨⟨j + 1, hlt2, by go_num, below_drewN hB4 _⟩, by simp [intOf]; omega⟩
        · have hi3 : ¬ (j : Int) < ns.length := by omega
          clear HM3 HN3
          go_wp2_with fail
          (with_reducible refine (lawPuts_any _).mono ?_)
          rintro _ w5 ⟨rfl, b5⟩
          go_wp2_with fail
          go_ret
          exact ⟨rfl, hB5.trans (b5.mono hB5.size)⟩
end Go.Proofs.Ytpfafgmafgfokaa
