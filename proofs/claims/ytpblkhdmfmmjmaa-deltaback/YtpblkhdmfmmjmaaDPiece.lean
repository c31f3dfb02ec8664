/- delta.readPiece: its contract. -/
import Derived.Test.YtpblkhdmfmmjmaaDRd
namespace Go.Proofs.Ytpblkhdmfmmjmaa
open Go.RowKit

/-- behind a read of an operation: the error, the bytes; what is left where nothing went wrong -/
def Pc (w : World) (g : Nat) (o : Int × List UInt8 × List UInt8) (x : Ending) (w' : World) : Prop :=
  x = .returned (.tuple #[.string (bs o.2.1), .int .i64 o.1]) ∧ (o.1 = 0 → Rd w' g (bs o.2.2) 0) ∧ w.grownBy w' (some g)

set_option maxRecDepth 100000 in
theorem readPiece_any (b : ByteArray) (l : List UInt8) (g : Nat) (hb : b.size ≤ 281474976710656) (hl : l.length ≤ 281474976710656) (w : World) (h : Rd w g (bs l) 0) :
    Calls Try.prog 16 #[.pointer (some ⟨g, 0, none⟩), .string b] w (Pc w g (opD b.data.toList l)) := by
  cases h1 : rdNum l with
  | none =>
    have e1 : opD b.data.toList l = (2, [], []) := by unfold opD; rw [h1]
    rw [e1]
    have q := rd_none hl h1 g w h
    clear e1
    go_enter Try.func16, Try.ntmps16
    go_wp2_with fail
    (with_reducible refine q.mono ?_)
    clear q
    rintro _ w1 ⟨rfl, r1, g1⟩
    have q := Bytes_bad g (bs l) 0 2 (by decide) w1 r1
    go_wp2_with fail
    (with_reducible refine q.mono ?_)
    clear q
    rintro _ w2 ⟨rfl, r2, g2⟩
    have q := Bad_any g (bs l) 2 w2 r2
    go_wp2_with fail
    (with_reducible refine q.mono ?_)
    clear q
    rintro _ w3 ⟨rfl, rfl⟩
    go_wp2_with fail
    go_ret2
    exact ⟨rfl, (fun e => absurd e (by decide)), gb_trans g1 g2⟩
  | some y =>
    obtain ⟨op, l1⟩ := y
    have hop := rdNum_lt h1
    have hlt := rdNum_less h1
    have q := rd_some hl h1 g w h
    obtain ⟨n, hn⟩ : ∃ n, n = op / 2 := ⟨_, rfl⟩
    by_cases ho : op % 2 = 1
    · obtain rfl : op = 2 * n + 1 := by omega
      clear hn
      cases h2 : rdNum l1 with
      | none =>
        have e1 : opD b.data.toList l = (2, [], []) := by
          unfold opD
          rw [h1]
          simp only
          rw [if_pos ho, h2]
        rw [e1]
        clear e1
        go_enter Try.func16, Try.ntmps16
        go_wp2_with fail
        (with_reducible refine q.mono ?_)
        clear q
        rintro _ w1 ⟨rfl, r1, g1⟩
        have q := rd_none (by omega) h2 g w1 r1
        go_wp2_with fail
        (with_reducible refine q.mono ?_)
        clear q
        rintro _ w2 ⟨rfl, r2, g2⟩
        have q := Bad_any g (bs l1) 2 w2 r2
        go_wp2_with fail
        (with_reducible refine q.mono ?_)
        clear q
        rintro _ w3 ⟨rfl, rfl⟩
        go_wp2_with fail
        go_ret2
        exact ⟨rfl, (fun e => absurd e (by decide)), gb_trans g1 g2⟩
      | some z =>
        obtain ⟨k, l2⟩ := z
        have hk := rdNum_lt h2
        have hlt2 := rdNum_less h2
        by_cases hr : b.data.toList.length < k ∨ b.data.toList.length - k < n
        · have e1 : opD b.data.toList l = (3, [], []) := by
            unfold opD
            rw [h1]
            simp only
            rw [if_pos ho, h2]
            simp only
            rw [if_pos (by rw [show (2 * n + 1) / 2 = n from by omega]; exact hr)]
          rw [e1]
          clear e1
          rw [list_len] at hr
          go_enter Try.func16, Try.ntmps16
          go_wp2_with fail
          (with_reducible refine q.mono ?_)
          clear q
          rintro _ w1 ⟨rfl, r1, g1⟩
          have q := rd_some (by omega) h2 g w1 r1
          go_wp2_with fail
          (with_reducible refine q.mono ?_)
          clear q
          rintro _ w2 ⟨rfl, r2, g2⟩
          have q := Bad_any g (bs l2) 0 w2 r2
          go_wp2_with fail
          (with_reducible refine q.mono ?_)
          clear q
          rintro _ w3 ⟨rfl, rfl⟩
          by_cases hkb : (b.size : Int) < k
          · clear hr
            go_wp2_with fail
            go_ret2
            exact ⟨rfl, (fun e => absurd e (by decide)), gb_trans g1 g2⟩
          · have hkn : (b.size : Int) - k < n := by omega
            clear hr
            go_wp2_with fail
            go_ret2
            exact ⟨rfl, (fun e => absurd e (by decide)), gb_trans g1 g2⟩
        · have e1 : opD b.data.toList l = (0, (b.data.toList.drop k).take n, l2) := by
            unfold opD
            rw [h1]
            simp only
            rw [if_pos ho, h2]
            simp only
            rw [show (2 * n + 1) / 2 = n from by omega, if_neg hr]
          have e2 : Hid (bs ((b.data.toList.drop k).take n) = b.extract k (k + n)) := by
            show _ = _
            rw [← bs_mid, bs_of]
          rw [e1]
          clear e1
          rw [list_len] at hr
          have hkb : ¬ (b.size : Int) < k := by omega
          have hkn : ¬ (b.size : Int) - k < n := by omega
          have hk2 : (k : Int) ≤ k + n := by omega
          have hk3 : (k : Int) + n ≤ b.size := by omega
          have hk4 : ((k : Int) + n).toNat = k + n := by omega
          clear hr
          go_enter Try.func16, Try.ntmps16
          go_wp2_with fail
          (with_reducible refine q.mono ?_)
          clear q
          rintro _ w1 ⟨rfl, r1, g1⟩
          have q := rd_some (by omega) h2 g w1 r1
          go_wp2_with fail
          (with_reducible refine q.mono ?_)
          clear q
          rintro _ w2 ⟨rfl, r2, g2⟩
          have q := Bad_any g (bs l2) 0 w2 r2
          go_wp2_with fail
          (with_reducible refine q.mono ?_)
          clear q
          rintro _ w3 ⟨rfl, rfl⟩
          go_wp2_with fail
          go_ret2
          exact ⟨by simp only [show (2 * n + 1) / 2 = n from by omega, e2.out]; rfl, (fun _ => r2), gb_trans g1 g2⟩
    · obtain rfl : op = 2 * n := by omega
      clear hn
      by_cases hr : l1.length < n
      · have e1 : opD b.data.toList l = (2, [], []) := by
          unfold opD
          rw [h1]
          simp only
          rw [if_neg ho, if_pos (by omega)]
        rw [e1]
        clear e1
        go_enter Try.func16, Try.ntmps16
        go_wp2_with fail
        (with_reducible refine q.mono ?_)
        clear q
        rintro _ w1 ⟨rfl, r1, g1⟩
        have q := Bytes_no g (bs l1) (n : Int) (Or.inr (by rw [bs_size]; omega)) w1 r1
        go_wp2_with fail
        (with_reducible refine q.mono ?_)
        clear q
        rintro _ w2 ⟨rfl, r2, g2⟩
        have q := Bad_any g (bs l1) 2 w2 r2
        go_wp2_with fail
        (with_reducible refine q.mono ?_)
        clear q
        rintro _ w3 ⟨rfl, rfl⟩
        go_wp2_with fail
        go_ret2
        exact ⟨rfl, (fun e => absurd e (by decide)), gb_trans g1 g2⟩
      · have e1 : opD b.data.toList l = (0, l1.take n, l1.drop n) := by
          unfold opD
          rw [h1]
          simp only
          rw [if_neg ho, show 2 * n / 2 = n from by omega, if_neg hr]
        rw [e1]
        clear e1
        go_enter Try.func16, Try.ntmps16
        go_wp2_with fail
        (with_reducible refine q.mono ?_)
        clear q
        rintro _ w1 ⟨rfl, r1, g1⟩
        have q := rd_take (l := l1) (n := n) (by omega) g w1 r1
        go_wp2_with fail
        (with_reducible refine q.mono ?_)
        clear q
        rintro _ w2 ⟨rfl, r2, g2⟩
        have q := Bad_any g (bs (l1.drop n)) 0 w2 r2
        go_wp2_with fail
        (with_reducible refine q.mono ?_)
        clear q
        rintro _ w3 ⟨rfl, rfl⟩
        go_wp2_with fail
        go_ret2
        exact ⟨rfl, (fun _ => r2), gb_trans g1 g2⟩
end Go.Proofs.Ytpblkhdmfmmjmaa
