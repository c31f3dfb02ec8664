/- delta.Apply: its contract. -/
import Derived.Test.YthigdhiebogffaaDoorDPiece
import Derived.Lib.AppendStr
namespace Go.Proofs.YthigdhiebogffaaDoor
open Go.RowKit

/-- how many bytes a text in a cell has -/
def leftN (w : World) (g : Nat) : Nat := match w.cell? ⟨g, 0, none⟩ with
  | some (.string s) => s.size
  | _ => 0
theorem leftN_rd {w : World} {g : Nat} {s : ByteArray} {e : Int} (h : Rd w g s e) : leftN w g = s.size := by
  unfold leftN
  rw [h.c0]
theorem leftN_cu {w : World} {g : Nat} {s : ByteArray} {e : Int} (h : Cu w g s e) : leftN w g = s.size := by
  unfold leftN
  rw [h.c0]
theorem appD_more {base o l : List UInt8} {will f : Nat} (hl : l ≠ []) (hf : l.length ≤ f) : ∃ f', f = f' + 1 ∧ l.length ≤ f' + 1 ∧ appD base will f o l =
    (if (opD base l).1 ≠ 0 then ([], (opD base l).1) else if (opD base l).2.1 = [] ∨ will - o.length < (opD base l).2.1.length then ([], 2) else appD base will f' (o ++ (opD base l).2.1) (opD base l).2.2) := by
  cases l with
  | nil => exact absurd rfl hl
  | cons b l =>
    cases f with
    | zero => simp at hf
    | succ f' => exact ⟨f', rfl, hf, by rw [appD]⟩
theorem appD_end {base o : List UInt8} {will f : Nat} : appD base will f o [] = if o.length < will then ([], 2) else (o, 0) := by
  cases f <;> rw [appD]
theorem strCells_bs (x : List UInt8) : Lib.strCells (bs x) = x.map bv := rfl

theorem toList_bs (l : List UInt8) : (bs l).toList = l := by rw [toList_data, bs_list]
theorem own_kept {w w' : World} {B g k n cap : Nat} {e : TypeId} {xs : List Value} (h : w.ownsRow B e 1 (.slice (some ⟨g, 0, none⟩) n cap) n xs) (hg : w.grownBy w' (some k)) (hk : k < B) :
    w'.ownsRow B e 1 (.slice (some ⟨g, 0, none⟩) n cap) n xs := by
  refine ⟨h.1, ?_⟩
  rcases h.2 with ⟨h', _⟩ | ⟨g', cap', cur, h', hb, hh, hnc, hcm, hcs, htake⟩
  · simp at h'
  · simp only [Value.slice.injEq, Option.some.injEq, Addr.mk.injEq, and_true, true_and] at h'
    obtain ⟨rfl, rfl⟩ := h'
    exact .inr ⟨g, cap, cur, rfl, hb, (hg.block g (Array.getElem?_eq_some_iff.1 hh).1 (fun e => by cases e; omega)).trans hh, hnc, hcm, hcs, htake⟩
theorem own_shape {w : World} {B n : Nat} {e : TypeId} {v : Value} {xs : List Value} (h : w.ownsRow B e 1 v n xs) (hv : v ≠ .slice none 0 0) : ∃ g cap, v = .slice (some ⟨g, 0, none⟩) n cap := by
  rcases h.2 with ⟨h', _⟩ | ⟨g', cap', cur, h', hb, hh, hnc, hcm, hcs, htake⟩
  · exact absurd h' hv
  · exact ⟨g', cap', h'⟩
theorem own_block {w : World} {B g n cap : Nat} {e : TypeId} {xs : List Value} (h : w.ownsRow B e 1 (.slice (some ⟨g, 0, none⟩) n cap) n xs) : B ≤ g := by
  rcases h.2 with ⟨h', _⟩ | ⟨g', cap', cur, h', hb, hh, hnc, hcm, hcs, htake⟩
  · simp at h'
  · simp only [Value.slice.injEq, Option.some.injEq, Addr.mk.injEq, and_true, true_and] at h'
    obtain ⟨rfl, rfl⟩ := h'
    exact hb

def ApRel (base : List UInt8) (will : Nat) (R : List UInt8 × Int) (w : World) (v : Value) (wr : World) : Prop :=
  ∃ (o l : List UInt8) (f g cap : Nat), v = .slice (some ⟨g, 0, none⟩) o.length cap ∧ wr.ownsRow (w.heap.size + 1) 5 1 v o.length (o.map bv) ∧ Rd wr w.heap.size (bs l) 0 ∧ Below w.heap.size w wr ∧
    l.length ≤ f ∧ l.length ≤ 281474976710656 ∧ appD base will f o l = R ∧ o.length ≤ will

set_option maxRecDepth 100000 in
set_option maxHeartbeats 2000000 in
theorem Apply_l (b : ByteArray) (L : List UInt8) (hb : b.size ≤ 281474976710656) (hL : L.length ≤ 281474976710656) (w : World) :
    Calls Tryd.prog 68 #[.string b, .string (bs L)] w fun x w' => x = .returned (.tuple #[.string (bs (applyD b.data.toList L).1), .int .i64 (applyD b.data.toList L).2]) ∧ Below w.heap.size w w' := by
  have q0 := Read_any (bs L) w
  cases h1 : rdNum L with
  | none =>
    have e1 : applyD b.data.toList L = ([], 2) := by unfold applyD; rw [h1]
    rw [e1]
    clear e1
    go_enter Tryd.func68, Tryd.ntmps68
    go_wp2_with fail
    (with_reducible refine q0.mono ?_)
    clear q0
    rintro _ w1 ⟨rfl, r1, b1⟩
    have q := rd_none hL h1 w.heap.size w1 r1
    go_wp2_with fail
    (with_reducible refine q.mono ?_)
    clear q
    rintro _ w2 ⟨rfl, r2, g2⟩
    have q := Number_bad w.heap.size (bs L) 2 (by decide) w2 r2
    go_wp2_with fail
    (with_reducible refine q.mono ?_)
    clear q
    rintro _ w3 ⟨rfl, r3, g3⟩
    have q := Bad_any w.heap.size (bs L) 2 w3 r3
    go_wp2_with fail
    (with_reducible refine q.mono ?_)
    clear q
    rintro _ w4 ⟨rfl, rfl⟩
    go_wp2_with fail
    go_ret2
    exact ⟨rfl, below_gb b1 (gb_trans g2 g3) (Nat.le_refl _) b1.size⟩
  | some y =>
    obtain ⟨was, d1⟩ := y
    have k1 := rdNum_less h1
    have k2 := rdNum_lt h1
    have hd1 : d1.length ≤ 281474976710656 := by omega
    cases h2 : rdNum d1 with
    | none =>
      have e1 : applyD b.data.toList L = ([], 2) := by unfold applyD; rw [h1]; simp only; rw [h2]
      rw [e1]
      clear e1
      go_enter Tryd.func68, Tryd.ntmps68
      go_wp2_with fail
      (with_reducible refine q0.mono ?_)
      clear q0
      rintro _ w1 ⟨rfl, r1, b1⟩
      have q := rd_some hL h1 w.heap.size w1 r1
      go_wp2_with fail
      (with_reducible refine q.mono ?_)
      clear q
      rintro _ w2 ⟨rfl, r2, g2⟩
      have q := rd_none hd1 h2 w.heap.size w2 r2
      go_wp2_with fail
      (with_reducible refine q.mono ?_)
      clear q
      rintro _ w3 ⟨rfl, r3, g3⟩
      have q := Bad_any w.heap.size (bs d1) 2 w3 r3
      go_wp2_with fail
      (with_reducible refine q.mono ?_)
      clear q
      rintro _ w4 ⟨rfl, rfl⟩
      go_wp2_with fail
      go_ret2
      exact ⟨rfl, below_gb b1 (gb_trans g2 g3) (Nat.le_refl _) b1.size⟩
    | some z =>
      obtain ⟨will, d2⟩ := z
      have k3 := rdNum_less h2
      have k4 := rdNum_lt h2
      have hd2 : d2.length ≤ 281474976710656 := by omega
      have e1 : applyD b.data.toList L = if was ≠ b.size then ([], 11) else if 8192 < will then ([], 1) else appD b.data.toList will d2.length [] d2 := by
        unfold applyD
        rw [h1]
        simp only
        rw [h2]
        simp only [list_len]
      rw [e1]
      clear e1
      by_cases hw : was = b.size
      · rw [if_neg (by simpa using hw)]
        subst hw
        by_cases hw2 : 8192 < will
        · rw [if_pos hw2]
          have hw3 : (8192 : Int) < will := by omega
          go_enter Tryd.func68, Tryd.ntmps68
          go_wp2_with fail
          (with_reducible refine q0.mono ?_)
          clear q0
          rintro _ w1 ⟨rfl, r1, b1⟩
          have q := rd_some hL h1 w.heap.size w1 r1
          go_wp2_with fail
          (with_reducible refine q.mono ?_)
          clear q
          rintro _ w2 ⟨rfl, r2, g2⟩
          have q := rd_some hd1 h2 w.heap.size w2 r2
          go_wp2_with fail
          (with_reducible refine q.mono ?_)
          clear q
          rintro _ w3 ⟨rfl, r3, g3⟩
          have q := Bad_any w.heap.size (bs d2) 0 w3 r3
          go_wp2_with fail
          (with_reducible refine q.mono ?_)
          clear q
          rintro _ w4 ⟨rfl, rfl⟩
          go_wp2_with fail
          go_ret2
          exact ⟨rfl, below_gb b1 (gb_trans g2 g3) (Nat.le_refl _) b1.size⟩
        · rw [if_neg hw2]
          have hw3 : ¬ (8192 : Int) < will := by omega
          obtain ⟨i, hi, hz0, hz1, hz2⟩ := info_parts info_u8
          have Hi := Lib.hid hi
          have Hz0 := Lib.hid hz0
          have Hz1 := Lib.hid hz1
          have Hz2 := Lib.hid hz2
          clear hi hz0 hz1 hz2
          obtain ⟨R, hR⟩ : ∃ R, appD b.data.toList will d2.length [] d2 = R := ⟨_, rfl⟩
          rw [hR]
          have HR := Lib.hid hR
          clear hR
          go_enter Tryd.func68, Tryd.ntmps68
          go_wp2_with fail
          (with_reducible refine q0.mono ?_)
          clear q0
          rintro _ w1 ⟨rfl, r1, b1⟩
          have q := rd_some hL h1 w.heap.size w1 r1
          go_wp2_with fail
          (with_reducible refine q.mono ?_)
          clear q
          rintro _ w2 ⟨rfl, r2, g2⟩
          have q := rd_some hd1 h2 w.heap.size w2 r2
          go_wp2_with fail
          (with_reducible refine q.mono ?_)
          clear q
          rintro _ w3 ⟨rfl, r3, g3⟩
          have q := Bad_any w.heap.size (bs d2) 0 w3 r3
          go_wp2_with fail
          (with_reducible refine q.mono ?_)
          clear q
          rintro _ w4 ⟨rfl, rfl⟩
          have b3 := below_gb b1 (gb_trans g2 g3) (Nat.le_refl _) b1.size
          clear r1 r2 g2 g3 b1 w1 w2 k1 k2 k3 h1 h2 hL hd1
          have hz3 := Arr.lt r3
          go_wp2_with (at_make; refine wpList_make_own _ rfl _ _ 78 rfl (w.heap.size + 1) 5 i _ 1 Tryd.underlying78 Hi.out Hz0.out Hz1.out _ _ _ will rfl rfl rfl (by rw [Hz2.out]; omega) (by unfold maxLen; omega) (by omega) ?_)
          intro w5 hown hgrow
          have r5 : Rd w5 w.heap.size (bs d2) 0 := Arr.kept r3 hgrow (fun e => by cases e)
          have b5 : Below w.heap.size w w5 := b3.grown hgrow b3.size (fun _ e => by cases e)
          clear hgrow
          go_wp2_with fail
          go_loopw [9] (fun v wr => ApRel b.data.toList will R w v wr) (fun _ wr => leftN wr w.heap.size)
          case atStart => exact ⟨[], d2, d2.length, w3.heap.size, will, rfl, hown, r5, b5, Nat.le_refl _, hd2, HR.out, Nat.zero_le _⟩
          case round =>
            clear hown r5 b5 r3 b3 w5 hd2 HR hz3 d2
            obtain ⟨o, l, f, g, cap, rfl, hO, hR, hB, hf, hl, hA, how⟩ := hrel
            have HL := Lib.hid (leftN_rd hR)
            have q := Left_any w.heap.size (bs l) 0 wr hR
            rw [bs_size] at q
            by_cases hl0 : l = []
            · subst hl0
              rw [appD_end] at hA
              by_cases hlt : o.length < will
              · rw [if_pos hlt] at hA
                subst hA
                have hlt2 : (o.length : Int) < will := by omega
                go_wp2_with fail
                (with_reducible refine q.mono ?_)
                clear q
                rintro _ w1 ⟨rfl, rfl⟩
                go_wp2_with fail
                go_ret2
                exact ⟨rfl, hB⟩
              · rw [if_neg hlt] at hA
                subst hA
                have hlt2 : ¬ (o.length : Int) < will := by omega
                have hc := run_bytes_own (P := Tryd.prog) hO
                rw [← run_convert_bytes_string wr 78 9 5 _ _ _ Tryd.underlying78 Tryd.underlying5 Tryd.underlying9] at hc
                go_wp2_with fail
                (with_reducible refine q.mono ?_)
                clear q
                rintro _ w1 ⟨rfl, rfl⟩
                go_wp2_with fail
                go_ret2
                exact ⟨rfl, hB⟩
            · obtain ⟨f', rfl, hf', hA'⟩ := appD_more (base := b.data.toList) (will := will) (o := o) hl0 hf
              rw [hA'] at hA
              clear hA'
              have hpos : (0 : Int) < l.length := by have := List.length_pos_iff.2 hl0; omega
              have q2 := readPiece_any b l w.heap.size hb hl wr hR
              have hless := opD_less b.data.toList l
              generalize opD b.data.toList l = O at *
              obtain ⟨e, x, r⟩ := O
              simp only at hA hless
              go_wp2_with fail
              (with_reducible refine q.mono ?_)
              clear q
              rintro _ w1 ⟨rfl, rfl⟩
              go_wp2_with fail
              (with_reducible refine q2.mono ?_)
              clear q2
              rintro _ w1 ⟨rfl, r1, g1⟩
              by_cases he : e = 0
              · subst he
                have hRd := r1 rfl
                have hB1 := below_gb hB g1 (Nat.le_refl _) hB.size
                have hO1 := own_kept hO g1 (Nat.lt_succ_self _)
                rw [if_neg (by simp)] at hA
                have hlr := hless rfl
                clear r1 g1 hR hB hO hless
                by_cases hx : x = []
                · subst hx
                  rw [if_pos (.inl rfl)] at hA
                  subst hA
                  rw [show bs ([] : List UInt8) = ⟨#[]⟩ from rfl]
                  go_wp2_with fail
                  go_ret2
                  exact ⟨rfl, hB1⟩
                · have hxe : (bs x).toList.isEmpty = false := by
                    rw [toList_bs]
                    cases x with
                    | nil => exact absurd rfl hx
                    | cons => rfl
                  have hxs : (bs x).size = x.length := bs_size x
                  have HX : Hid (Lib.strCells (bs x) = x.map bv) := Lib.hid (strCells_bs x)
                  have HX2 : Hid (bs x = bs x) := Lib.hid rfl
                  by_cases hlt : will - o.length < x.length
                  · rw [if_pos (.inr hlt)] at hA
                    subst hA
                    have hlt2 : (will : Int) - o.length < (bs x).size := by rw [hxs]; omega
                    clear hxs HX HX2
                    generalize bs x = X at *
                    go_wp2_with fail
                    go_ret2
                    exact ⟨rfl, hB1⟩
                  · rw [if_neg (by rintro (h | h); exact hx h; exact hlt h)] at hA
                    have hlt2 : ¬ (will : Int) - o.length < (bs x).size := by rw [hxs]; omega
                    have hz : w.heap.size + 1 ≤ w1.heap.size := Arr.lt hRd
                    have hgb := own_block hO1
                    generalize bs x = X at *
                    go_wp2_with (at_builtin; refine Lib.wpList_append_own_string _ rfl _ _ 78 9 rfl (w.heap.size + 1) 5 i Tryd.underlying78 Tryd.underlying9 Hi.out Hz0.out Hz1.out Hz2.out _ _ _ rfl hO1 X rfl (by unfold maxLen; omega) (by omega) hz ?_)
                    intro v' w2 hO2 g2 hnn
                    rw [HX.out, ← List.map_append] at hO2
                    rw [show o.length + x.length = (o ++ x).length from (List.length_append).symm] at hO2
                    obtain ⟨g', cap', rfl⟩ := own_shape hO2 hnn
                    have hR2 : Rd w2 w.heap.size (bs r) 0 := Arr.kept hRd g2 (fun e => by have e2 : w.heap.size = g := Option.some.inj e; omega)
                    have hB2 : Below w.heap.size w w2 := below_gb (g := g) hB1 g2 (by omega) hB1.size
                    have HM := Lib.hid (leftN_rd hR2)
                    clear hnn g2 hRd hB1 hO1
                    go_wp2_with fail
                    go_roundw
                    case rel => exact ⟨o ++ x, r, f', g', cap', rfl, hO2, hR2, hB2, by omega, by omega, hA, by rw [List.length_append]; omega⟩
                    case measure =>
                      rw [HM.out, HL.out, bs_size, bs_size]
                      exact hlr
              · rw [if_pos he] at hA
                subst hA
                have he2 : (e != 0) = true := by rw [bne_iff_ne]; exact he
                clear hless
                go_wp2_with fail
                go_ret2
                exact ⟨rfl, below_gb hB g1 (Nat.le_refl _) hB.size⟩
      · rw [if_pos (by simpa using hw)]
        have hw3 : ((was : Int) != (b.size : Int)) = true := by rw [bne_iff_ne]; omega
        go_enter Tryd.func68, Tryd.ntmps68
        go_wp2_with fail
        (with_reducible refine q0.mono ?_)
        clear q0
        rintro _ w1 ⟨rfl, r1, b1⟩
        have q := rd_some hL h1 w.heap.size w1 r1
        go_wp2_with fail
        (with_reducible refine q.mono ?_)
        clear q
        rintro _ w2 ⟨rfl, r2, g2⟩
        have q := rd_some hd1 h2 w.heap.size w2 r2
        go_wp2_with fail
        (with_reducible refine q.mono ?_)
        clear q
        rintro _ w3 ⟨rfl, r3, g3⟩
        have q := Bad_any w.heap.size (bs d2) 0 w3 r3
        go_wp2_with fail
        (with_reducible refine q.mono ?_)
        clear q
        rintro _ w4 ⟨rfl, rfl⟩
        go_wp2_with fail
        go_ret2
        exact ⟨rfl, below_gb b1 (gb_trans g2 g3) (Nat.le_refl _) b1.size⟩
end Go.Proofs.YthigdhiebogffaaDoor
