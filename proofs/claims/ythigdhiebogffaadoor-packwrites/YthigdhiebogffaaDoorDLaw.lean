/- Texts in one: DRefApply, DLaw. -/
import Derived.Test.YthigdhiebogffaaDoorDApply
import Derived.Deep.Cut
/- The document's own Apply: its contract. -/
namespace Go.Proofs.YthigdhiebogffaaDoor
open Go.RowKit

/-- the loop: what was appended, what is left -/
def RefApRel (base : List UInt8) (will : Nat) (R : List UInt8 × Int) (w : World) (v : Value) (wr : World) : Prop :=
  ∃ (o l : List UInt8) (f : Nat), v = .string (bs o) ∧ Cu wr w.heap.size (bs l) 0 ∧ Below w.heap.size w wr ∧
    l.length ≤ f ∧ l.length ≤ 281474976710656 ∧ appD base will f o l = R ∧ o.length ≤ will
theorem bs_add (x y : List UInt8) : bs x ++ bs y = bs (x ++ y) := by
  apply bytes_eq
  rw [append_list, bs_list, bs_list, bs_list]

set_option maxRecDepth 100000 in
set_option maxHeartbeats 4000000 in
theorem RefApply_l (b : ByteArray) (L : List UInt8) (hb : b.size ≤ 281474976710656) (hL : L.length ≤ 281474976710656) (w : World) :
    Calls Tryd.prog 31 #[.string b, .string (bs L)] w fun x w' => x = .returned (.tuple #[.string (bs (applyD b.data.toList L).1), .int .i64 (applyD b.data.toList L).2]) ∧ Below w.heap.size w w' := by
  have r1 : Cu (w.alloc (.cells #[.string (bs L), .int .i64 0] 54)) w.heap.size (bs L) 0 := Arr.new _ _ _
  have b1 : Below w.heap.size w (w.alloc (.cells #[.string (bs L), .int .i64 0] 54)) := (Below.refl _ _).alloc (Nat.le_refl _) _
  cases h1 : rdNum L with
  | none =>
    have e1 : applyD b.data.toList L = ([], 2) := by unfold applyD; rw [h1]
    rw [e1]
    clear e1
    go_enter Tryd.func31, Tryd.ntmps31
    go_upto_region 2 with fail
    refine wp_forget (fun W => Cu W w.heap.size (bs L) 0 ∧ Below w.heap.size w W) ⟨r1, b1⟩ ?_
    clear r1 b1
    rintro w1 ⟨r1, b1⟩
    have q := cu_none hL h1 w.heap.size w1 r1
    go_wp2_with fail
    (with_reducible refine q.mono ?_)
    clear q
    rintro _ w2 ⟨rfl, r2, g2⟩
    have q := cnumber_bad w.heap.size (bs L) 2 (by decide) w2 r2
    go_wp2_with fail
    (with_reducible refine q.mono ?_)
    clear q
    rintro _ w3 ⟨rfl, r3, g3⟩
    have c1 := r3.c1
    go_wp2_with fail
    go_ret2
    exact ⟨rfl, below_gb b1 (gb_trans g2 g3) (Nat.le_refl _) b1.size⟩
  | some y =>
    obtain ⟨was, d1⟩ := y
    have k1 := rdNum_less h1
    have k2 := rdNum_lt h1
    have hd1 : d1.length ≤ 281474976710656 := by omega
    cases h2 : rdNum d1 with
    | none =>
      have e1 : applyD b.data.toList L = ([], 2) := by unfold applyD; rw [h1]; simp only; rw [h2]
      rw [e1]
      clear e1
      go_enter Tryd.func31, Tryd.ntmps31
      go_upto_region 2 with fail
      refine wp_forget (fun W => Cu W w.heap.size (bs L) 0 ∧ Below w.heap.size w W) ⟨r1, b1⟩ ?_
      clear r1 b1
      rintro w1 ⟨r1, b1⟩
      have q := cu_some hL h1 w.heap.size w1 r1
      go_wp2_with fail
      (with_reducible refine q.mono ?_)
      clear q
      rintro _ w2 ⟨rfl, r2, g2⟩
      have q := cu_none hd1 h2 w.heap.size w2 r2
      go_wp2_with fail
      (with_reducible refine q.mono ?_)
      clear q
      rintro _ w3 ⟨rfl, r3, g3⟩
      have c1 := r3.c1
      go_wp2_with fail
      go_ret2
      exact ⟨rfl, below_gb b1 (gb_trans g2 g3) (Nat.le_refl _) b1.size⟩
    | some z =>
      obtain ⟨will, d2⟩ := z
      have k3 := rdNum_less h2
      have k4 := rdNum_lt h2
      have hd2 : d2.length ≤ 281474976710656 := by omega
      have e1 : applyD b.data.toList L = if was ≠ b.size then ([], 11) else if 8192 < will then ([], 1) else appD b.data.toList will d2.length [] d2 := by
        unfold applyD
        rw [h1]
        simp only
        rw [h2]
        simp only [list_len]
      rw [e1]
      clear e1
      by_cases hw : was = b.size
      · rw [if_neg (by simpa using hw)]
        subst hw
        by_cases hw2 : 8192 < will
        · rw [if_pos hw2]
          have hw3 : (8192 : Int) < will := by omega
          go_enter Tryd.func31, Tryd.ntmps31
          go_upto_region 2 with fail
          refine wp_forget (fun W => Cu W w.heap.size (bs L) 0 ∧ Below w.heap.size w W) ⟨r1, b1⟩ ?_
          clear r1 b1
          rintro w1 ⟨r1, b1⟩
          have q := cu_some hL h1 w.heap.size w1 r1
          go_wp2_with fail
          (with_reducible refine q.mono ?_)
          clear q
          rintro _ w2 ⟨rfl, r2, g2⟩
          have q := cu_some hd1 h2 w.heap.size w2 r2
          go_wp2_with fail
          (with_reducible refine q.mono ?_)
          clear q
          rintro _ w3 ⟨rfl, r3, g3⟩
          have c1 := r3.c1
          go_wp2_with fail
          go_ret2
          exact ⟨rfl, below_gb b1 (gb_trans g2 g3) (Nat.le_refl _) b1.size⟩
        · rw [if_neg hw2]
          have hw3 : ¬ (8192 : Int) < will := by omega
          obtain ⟨R, hR⟩ : ∃ R, appD b.data.toList will d2.length [] d2 = R := ⟨_, rfl⟩
          rw [hR]
          have HR := Lib.hid hR
          clear hR
          go_enter Tryd.func31, Tryd.ntmps31
          go_upto_region 2 with fail
          refine wp_forget (fun W => Cu W w.heap.size (bs L) 0 ∧ Below w.heap.size w W) ⟨r1, b1⟩ ?_
          clear r1 b1
          rintro w1 ⟨r1, b1⟩
          have q := cu_some hL h1 w.heap.size w1 r1
          go_wp2_with fail
          (with_reducible refine q.mono ?_)
          clear q
          rintro _ w2 ⟨rfl, r2, g2⟩
          have q := cu_some hd1 h2 w.heap.size w2 r2
          go_wp2_with fail
          (with_reducible refine q.mono ?_)
          clear q
          rintro _ w3 ⟨rfl, r3, g3⟩
          have b3 := below_gb b1 (gb_trans g2 g3) (Nat.le_refl _) b1.size
          have c1 := r3.c1
          clear r1 r2 g2 g3 b1 w1 w2 k1 k2 k3 h1 h2 hL hd1
          go_wp2_with fail
          go_loopw [9] (fun v wr => RefApRel b.data.toList will R w v wr) (fun _ wr => leftN wr w.heap.size)
          case atStart => exact ⟨[], d2, d2.length, rfl, r3, b3, Nat.le_refl _, hd2, HR.out, Nat.zero_le _⟩
          case round =>
            clear c1 r3 b3 w3 hd2 HR d2
            obtain ⟨o, l, f, rfl, hR, hB, hf, hl, hA, how⟩ := hrel
            have HL := Lib.hid (leftN_cu hR)
            have c0 := hR.c0
            have hos : (bs o).size = o.length := bs_size o
            by_cases hl0 : l = []
            · subst hl0
              rw [appD_end] at hA
              rw [show bs ([] : List UInt8) = ⟨#[]⟩ from rfl] at c0
              by_cases hlt : o.length < will
              · rw [if_pos hlt] at hA
                subst hA
                have hlt2 : ((bs o).size : Int) < will := by omega
                clear hos
                generalize bs o = X at *
                go_wp2_with fail
                go_ret2
                exact ⟨rfl, hB⟩
              · rw [if_neg hlt] at hA
                subst hA
                have hlt2 : ¬ ((bs o).size : Int) < will := by omega
                clear hos
                generalize hXo : bs o = X at *
                have HXo := Lib.hid hXo
                clear hXo
                go_wp2_with fail
                go_ret2
                have hXo := HXo.out
                subst hXo
                exact ⟨rfl, hB⟩
            · obtain ⟨f', rfl, hf', hA'⟩ := appD_more (base := b.data.toList) (will := will) (o := o) hl0 hf
              rw [hA'] at hA
              clear hA'
              have hle : (bs l).toList.isEmpty = false := by
                rw [toList_bs]
                cases l with
                | nil => exact absurd rfl hl0
                | cons => rfl
              cases h1 : rdNum l with
              | none =>
                rw [show opD b.data.toList l = (2, [], []) from by unfold opD; rw [h1]] at hA
                rw [if_pos (by decide)] at hA
                subst hA
                have q := cu_none hl h1 w.heap.size wr hR
                have q2 := fun W h => ctake_bad w.heap.size (bs l) 0 2 (by decide) (by decide) W h
                generalize bs l = S at *
                go_wp2_with fail
                (with_reducible refine q.mono ?_)
                clear q
                rintro _ w1 ⟨rfl, r1, g1⟩
                go_wp2_with fail
                (with_reducible refine (q2 w1 r1).mono ?_)
                clear q2
                rintro _ w2 ⟨rfl, r2, g2⟩
                have c1 := r2.c1
                clear c0
                go_wp2_with fail
                go_ret2
                exact ⟨rfl, below_gb hB (gb_trans g1 g2) (Nat.le_refl _) hB.size⟩
              | some y =>
                obtain ⟨op, l1⟩ := y
                have k1 := rdNum_less h1
                have k2 := rdNum_lt h1
                have hl1 : l1.length ≤ 281474976710656 := by omega
                obtain ⟨n, hn⟩ : ∃ n, n = op / 2 := ⟨_, rfl⟩
                have q := cu_some hl h1 w.heap.size wr hR
                have hls : (bs l).size = l.length := bs_size l
                by_cases ho : op % 2 = 1
                · obtain rfl : op = 2 * n + 1 := by omega
                  clear hn
                  have hdiv : (2 * (n : Int) + 1) / 2 = n := by omega
                  cases h2 : rdNum l1 with
                  | none =>
                    rw [show opD b.data.toList l = (2, [], []) from by unfold opD; rw [h1]; simp only; rw [if_pos ho, h2]] at hA
                    rw [if_pos (by decide)] at hA
                    subst hA
                    generalize bs l = S at *
                    go_wp2_with fail
                    (with_reducible refine q.mono ?_)
                    clear q
                    rintro _ w1 ⟨rfl, r1, g1⟩
                    have q := cu_none hl1 h2 w.heap.size w1 r1
                    go_wp2_with fail
                    (with_reducible refine q.mono ?_)
                    clear q
                    rintro _ w2 ⟨rfl, r2, g2⟩
                    have c1 := r2.c1
                    clear c0
                    go_wp2_with fail
                    go_ret2
                    exact ⟨rfl, below_gb hB (gb_trans g1 g2) (Nat.le_refl _) hB.size⟩
                  | some z =>
                    obtain ⟨k, l2⟩ := z
                    have k3 := rdNum_less h2
                    have k4 := rdNum_lt h2
                    by_cases hr : b.data.toList.length < k ∨ b.data.toList.length - k < n
                    · rw [show opD b.data.toList l = (3, [], []) from by
                        unfold opD
                        rw [h1]
                        simp only
                        rw [if_pos ho, h2]
                        simp only
                        rw [if_pos (by rw [show (2 * n + 1) / 2 = n from by omega]; exact hr)]] at hA
                      rw [if_pos (by decide)] at hA
                      subst hA
                      rw [list_len] at hr
                      generalize bs l = S at *
                      go_wp2_with fail
                      (with_reducible refine q.mono ?_)
                      clear q
                      rintro _ w1 ⟨rfl, r1, g1⟩
                      have q := cu_some hl1 h2 w.heap.size w1 r1
                      go_wp2_with fail
                      (with_reducible refine q.mono ?_)
                      clear q
                      rintro _ w2 ⟨rfl, r2, g2⟩
                      have c1 := r2.c1
                      clear c0
                      by_cases hkb : (b.size : Int) < k
                      · clear hr
                        go_wp2_with fail
                        go_ret2
                        exact ⟨rfl, below_gb hB (gb_trans g1 g2) (Nat.le_refl _) hB.size⟩
                      · have hkn : (b.size : Int) - k < n := by omega
                        clear hr
                        go_wp2_with fail
                        go_ret2
                        exact ⟨rfl, below_gb hB (gb_trans g1 g2) (Nat.le_refl _) hB.size⟩
                    · rw [show opD b.data.toList l = (0, (b.data.toList.drop k).take n, l2) from by
                        unfold opD
                        rw [h1]
                        simp only
                        rw [if_pos ho, h2]
                        simp only
                        rw [show (2 * n + 1) / 2 = n from by omega, if_neg hr]] at hA
                      have hXe : bs ((b.data.toList.drop k).take n) = b.extract k (k + n) := by
                        rw [← bs_mid, bs_of]
                      have hxl : ((b.data.toList.drop k).take n).length = n := by
                        rw [List.length_take, List.length_drop]
                        omega
                      rw [list_len] at hr
                      generalize (b.data.toList.drop k).take n = x at *
                      have hxs : (b.extract k (k + n)).size = n := by rw [← hXe, bs_size, hxl]
                      have hkb : ¬ (b.size : Int) < k := by omega
                      have hkn : ¬ (b.size : Int) - k < n := by omega
                      have hk2 : (k : Int) ≤ k + n := by omega
                      have hk3 : (k : Int) + n ≤ b.size := by omega
                      have hk4 : ((k : Int) + n).toNat = k + n := by omega
                      clear hr
                      generalize bs l = S at *
                      go_wp2_with fail
                      (with_reducible refine q.mono ?_)
                      clear q
                      rintro _ w1 ⟨rfl, r1, g1⟩
                      have q := cu_some hl1 h2 w.heap.size w1 r1
                      go_wp2_with fail
                      (with_reducible refine q.mono ?_)
                      clear q
                      rintro _ w2 ⟨rfl, rr, g2⟩
                      have hB2 := below_gb hB (gb_trans g1 g2) (Nat.le_refl _) hB.size
                      clear c0 g1 g2 hB r1
                      have c1 := rr.c1
                      have c0 := rr.c0
                      have HM := Lib.hid (leftN_cu rr)
                      rw [if_neg (by simp)] at hA
                      by_cases hn0 : n = 0
                      · have hn1 : ((n : Int) == 0) = true := by simp [hn0]
                        rw [if_pos (.inl (List.eq_nil_of_length_eq_zero (by rw [hxl, hn0])))] at hA
                        subst hA
                        clear hxs hxl hos hXe
                        go_wp2_with fail
                        go_ret2
                        exact ⟨rfl, hB2⟩
                      · have hn1 : ((n : Int) == 0) = false := by rw [beq_eq_false_iff_ne]; omega
                        by_cases hlt : will - o.length < n
                        · rw [if_pos (.inr (by rw [hxl]; exact hlt))] at hA
                          subst hA
                          have hYs : (bs o).size ≤ 8192 := by rw [hos]; omega
                          have hlt2 : (will : Int) - (bs o).size < n := by rw [hos]; omega
                          clear hxs hxl hos hXe
                          generalize bs o = Y at *
                          go_wp2_with fail
                          go_ret2
                          exact ⟨rfl, hB2⟩
                        · rw [if_neg (by rw [hxl]; rintro (h | h); rw [h] at hxl; exact hn0 hxl.symm; exact hlt h)] at hA
                          have hYs : (bs o).size ≤ 8192 := by rw [hos]; omega
                          have hlt2 : ¬ (will : Int) - (bs o).size < n := by rw [hos]; omega
                          have hb1 : (bs o).size + n ≤ 8192 := by rw [hos]; omega
                          have HA := Lib.hid (bs_add o x)
                          have HO : Hid (o.length + x.length ≤ will) := Lib.hid (by rw [hxl]; omega)
                          rw [hXe] at HA
                          clear hxs hxl hos hXe
                          generalize bs o = Y at *
                          go_wp2_with fail
                          go_roundw
                          case rel => exact ⟨o ++ x, l2, f', by rw [← HA.out], rr, hB2, by omega, by omega, hA, by rw [List.length_append]; exact HO.out⟩
                          case measure =>
                            rw [HM.out, HL.out, bs_size, hls]
                            omega
                · obtain rfl : op = 2 * n := by omega
                  clear hn
                  by_cases hr : l1.length < n
                  · rw [show opD b.data.toList l = (2, [], []) from by
                      unfold opD
                      rw [h1]
                      simp only
                      rw [if_neg ho, if_pos (by omega)]] at hA
                    rw [if_pos (by decide)] at hA
                    subst hA
                    generalize bs l = S at *
                    go_wp2_with fail
                    (with_reducible refine q.mono ?_)
                    clear q
                    rintro _ w1 ⟨rfl, r1, g1⟩
                    have q := ctake_no w.heap.size (bs l1) (n : Int) (Or.inr (by rw [bs_size]; omega)) w1 r1
                    go_wp2_with fail
                    (with_reducible refine q.mono ?_)
                    clear q
                    rintro _ w2 ⟨rfl, r2, g2⟩
                    have c1 := r2.c1
                    clear c0
                    go_wp2_with fail
                    go_ret2
                    exact ⟨rfl, below_gb hB (gb_trans g1 g2) (Nat.le_refl _) hB.size⟩
                  · rw [show opD b.data.toList l = (0, l1.take n, l1.drop n) from by
                      unfold opD
                      rw [h1]
                      simp only
                      rw [if_neg ho, show 2 * n / 2 = n from by omega, if_neg hr]] at hA
                    have hdl : (l1.drop n).length ≤ l1.length := by rw [List.length_drop]; omega
                    have q2 := fun W h => cu_take (l := l1) (n := n) (by omega) w.heap.size W h
                    have hxl : (l1.take n).length = n := by rw [List.length_take]; omega
                    generalize l1.take n = x at *
                    generalize l1.drop n = l2 at *
                    have hxs : (bs x).size = n := by rw [bs_size, hxl]
                    clear hr
                    generalize bs l = S at *
                    go_wp2_with fail
                    (with_reducible refine q.mono ?_)
                    clear q
                    rintro _ w1 ⟨rfl, r1, g1⟩
                    go_wp2_with fail
                    (with_reducible refine (q2 w1 r1).mono ?_)
                    clear q2
                    rintro _ w2 ⟨rfl, rr, g2⟩
                    have hB2 := below_gb hB (gb_trans g1 g2) (Nat.le_refl _) hB.size
                    clear c0 g1 g2 hB r1
                    have c1 := rr.c1
                    have c0 := rr.c0
                    have HM := Lib.hid (leftN_cu rr)
                    rw [if_neg (by simp)] at hA
                    by_cases hn0 : n = 0
                    · have hn1 : ((n : Int) == 0) = true := by simp [hn0]
                      rw [if_pos (.inl (List.eq_nil_of_length_eq_zero (by rw [hxl, hn0])))] at hA
                      subst hA
                      clear hxs hxl hos
                      generalize bs x = X at *
                      go_wp2_with fail
                      go_ret2
                      exact ⟨rfl, hB2⟩
                    · have hn1 : ((n : Int) == 0) = false := by rw [beq_eq_false_iff_ne]; omega
                      by_cases hlt : will - o.length < n
                      · rw [if_pos (.inr (by rw [hxl]; exact hlt))] at hA
                        subst hA
                        have hYs : (bs o).size ≤ 8192 := by rw [hos]; omega
                        have hlt2 : (will : Int) - (bs o).size < (bs x).size := by rw [hxs, hos]; omega
                        clear hxs hxl hos
                        generalize bs x = X at *
                        generalize bs o = Y at *
                        go_wp2_with fail
                        go_ret2
                        exact ⟨rfl, hB2⟩
                      · rw [if_neg (by rw [hxl]; rintro (h | h); rw [h] at hxl; exact hn0 hxl.symm; exact hlt h)] at hA
                        have hYs : (bs o).size ≤ 8192 := by rw [hos]; omega
                        have hlt2 : ¬ (will : Int) - (bs o).size < (bs x).size := by rw [hxs, hos]; omega
                        have hb1 : (bs o).size + (bs x).size ≤ 8192 := by rw [hxs, hos]; omega
                        have HA := Lib.hid (bs_add o x)
                        have HO : Hid (o.length + x.length ≤ will) := Lib.hid (by rw [hxl]; omega)
                        clear hxs hxl hos
                        generalize bs x = X at *
                        generalize bs o = Y at *
                        go_wp2_with fail
                        go_roundw
                        case rel => exact ⟨o ++ x, l2, f', by rw [← HA.out], rr, hB2, by omega, by omega, hA, by rw [List.length_append]; exact HO.out⟩
                        case measure =>
                          rw [HM.out, HL.out, bs_size, hls]
                          omega
      · rw [if_pos (by simpa using hw)]
        have hw3 : ((was : Int) != (b.size : Int)) = true := by rw [bne_iff_ne]; omega
        go_enter Tryd.func31, Tryd.ntmps31
        go_upto_region 2 with fail
        refine wp_forget (fun W => Cu W w.heap.size (bs L) 0 ∧ Below w.heap.size w W) ⟨r1, b1⟩ ?_
        clear r1 b1
        rintro w1 ⟨r1, b1⟩
        have q := cu_some hL h1 w.heap.size w1 r1
        go_wp2_with fail
        (with_reducible refine q.mono ?_)
        clear q
        rintro _ w2 ⟨rfl, r2, g2⟩
        have q := cu_some hd1 h2 w.heap.size w2 r2
        go_wp2_with fail
        (with_reducible refine q.mono ?_)
        clear q
        rintro _ w3 ⟨rfl, r3, g3⟩
        have c1 := r3.c1
        go_wp2_with fail
        go_ret2
        exact ⟨rfl, below_gb b1 (gb_trans g2 g3) (Nat.le_refl _) b1.size⟩
end Go.Proofs.YthigdhiebogffaaDoor

/- law.deltas, keep.deltas, law.DeltaApplies: the walks. -/
namespace Go.Proofs.YthigdhiebogffaaDoor
open Go.RowKit

theorem Apply_any (b d : ByteArray) (hb : b.size ≤ 281474976710656) (hd : d.size ≤ 281474976710656) (w : World) :
    Calls Tryd.prog 68 #[.string b, .string d] w fun x w' => x = .returned (.tuple #[.string (bs (applyD b.data.toList d.data.toList).1), .int .i64 (applyD b.data.toList d.data.toList).2]) ∧ Below w.heap.size w w' := by
  have q := Apply_l b d.data.toList hb hd w
  rw [bs_of] at q
  exact q
theorem RefApply_any (b d : ByteArray) (hb : b.size ≤ 281474976710656) (hd : d.size ≤ 281474976710656) (w : World) :
    Calls Tryd.prog 31 #[.string b, .string d] w fun x w' => x = .returned (.tuple #[.string (bs (applyD b.data.toList d.data.toList).1), .int .i64 (applyD b.data.toList d.data.toList).2]) ∧ Below w.heap.size w w' := by
  have q := RefApply_l b d.data.toList hb hd w
  rw [bs_of] at q
  exact q
theorem deltaAbc : applyD [97, 98, 99] [3, 2, 5, 1] = ([98, 99], 0) := by decide +kernel
theorem deltaAbc_any (w : World) : Calls Tryd.prog 68 #[.string ⟨#[97, 98, 99]⟩, .string ⟨#[3, 2, 5, 1]⟩] w fun x w' => x = .returned (.tuple #[.string ⟨#[98, 99]⟩, .int .i64 0]) ∧ Below w.heap.size w w' := by
  have q := Apply_any ⟨#[97, 98, 99]⟩ ⟨#[3, 2, 5, 1]⟩ (by decide) (by decide) w
  rw [show (⟨#[97, 98, 99]⟩ : ByteArray).data.toList = [97, 98, 99] from rfl, show (⟨#[3, 2, 5, 1]⟩ : ByteArray).data.toList = [3, 2, 5, 1] from rfl, deltaAbc] at q
  exact q
end Go.Proofs.YthigdhiebogffaaDoor
