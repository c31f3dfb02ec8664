/- Texts in one: MkClash, MkClashB, OPick. -/
import Derived.Test.YtejapjmlofekfaaDoorOSame
import Derived.Test.YtejapjmlofekfaaDoorProg
import Derived.Test.YtejapjmlofekfaaDoorMem
/- slices.Equal at []string, merkle.clash, Clash: their contracts. -/
namespace Go.Proofs.YtejapjmlofekfaaDoor
open Go.RowKit

set_option maxRecDepth 100000 in
set_option maxHeartbeats 1000000 in
theorem Equal_any (T U : List ByteArray) (hl : T.length ≤ 281474976710656) (hu : U.length ≤ 281474976710656) (A A' : Option Addr) (c c' : Nat) (w : World) (hP : Txs w w.heap.size A T) (hQ : Txs w w.heap.size A' U) :
    Calls Tryd.prog 50 #[.slice A T.length c, .slice A' U.length c'] w fun e w' => e = .returned (.bool (decide (T = U))) ∧ Below w.heap.size w w' := by
  by_cases hlen : T.length = U.length
  · have hlb : ((T.length : Int) != U.length) = false := by rw [hlen]; simp
    rw [hlen] at hlb ⊢
    go_enter Tryd.func50, Tryd.ntmps50
    go_wp2_with fail
    go_loopw [13] (fun i wr => ∃ k : Nat, k ≤ U.length ∧ i = .int .i64 (k : Int) ∧ T.take k = U.take k ∧ Below w.heap.size w wr) (fun i _ => U.length - (intOf i).toNat)
    case atStart => exact ⟨0, Nat.zero_le _, rfl, rfl, Below.refl _ _⟩
    case round =>
      obtain ⟨k, hk, rfl, ht, hB⟩ := hrel
      have HT := Lib.hid ht
      clear ht
      by_cases hlt : k < U.length
      · have hlt2 : k < T.length := by omega
        obtain ⟨ad, rfl, hbl, h0⟩ := hP k T[k] (List.getElem?_eq_getElem hlt2)
        obtain ⟨ad2, rfl, hbl2, h1⟩ := hQ k U[k] (List.getElem?_eq_getElem hlt)
        have g0 := (hB.cell hbl).trans h0
        have g1 := (hB.cell hbl2).trans h1
        have hi : (k : Int) < U.length := by omega
        have HS := Lib.hid (fun e => take_eq_step HT.out hlt2 hlt e)
        have HN : Hid (T[k] ≠ U[k] → T ≠ U) := fun h e => by subst e; exact h rfl
        clear h0 h1 hP hQ HT
        generalize T[k] = x at *
        generalize U[k] = y at *
        cases hq : x.toList == y.toList
        · have hne : Hid (decide (T = U) = false) := decide_eq_false (HN.out (fun e => by rw [e] at hq; simp at hq))
          clear HS HN hlb
          go_wp2_with fail
          go_quiet (fail)
          go_wp2_with fail
          go_ret
          exact ⟨by rw [hne.out]; rfl, below_drewN hB _⟩
        · have HS2 := Lib.hid (HS.out ((eqB_iff x y).1 hq))
          clear HS HN hlb
          go_wp2_with fail
          go_quiet (fail)
          go_wp2_with fail
          refine ⟨⟨k + 1, hlt, by go_num, HS2.out, below_drewN hB _⟩, by simp [intOf]; omega⟩
      · obtain rfl : k = U.length := by omega
        have hi : ¬ (U.length : Int) < U.length := by omega
        have heq : Hid (decide (T = U) = true) := decide_eq_true (by have := HT.out; rwa [List.take_length, List.take_of_length_le (by omega)] at this)
        clear hP hQ HT hlb
        go_wp2_with fail
        go_ret
        exact ⟨by rw [heq.out]; rfl, hB⟩
  · have hlb : ((T.length : Int) != U.length) = true := by rw [bne_iff_ne]; omega
    have hne : Hid (decide (T = U) = false) := decide_eq_false (fun e => hlen (by rw [e]))
    clear hP hQ hlen
    go_enter Tryd.func50, Tryd.ntmps50
    go_wp2_with fail
    go_ret
    exact ⟨by rw [hne.out]; rfl, Below.refl _ _⟩
/-- what clash leaves: two unlike texts with one sum -/
def XEnd (w : World) (e : Ending) (w' : World) : Prop := ∃ x y, e = .returned (.tuple #[.string x, .string y]) ∧ x ≠ y ∧ dg x = dg y ∧ x.size ≤ 281474976710656 ∧ y.size ≤ 281474976710656 ∧ Below w.heap.size w w'
theorem app_inj {a b c d : ByteArray} (h : a ++ b = c ++ d) (hl : a.size = c.size) : a = c ∧ b = d := by
  have h1 : (a ++ b).data.toList = (c ++ d).data.toList := by rw [h]
  rw [append_list, append_list] at h1
  have h2 := List.append_inj h1 (by simpa using hl)
  exact ⟨bytes_eq h2.1, bytes_eq h2.2⟩
theorem leafT_inj {a b : ByteArray} (h : leafT a = leafT b) : a = b := (app_inj h rfl).2
theorem nodeT_inj {a b c d : ByteArray} (h : nodeT a b = nodeT c d) (hl : a.size = c.size) : a = c ∧ b = d := by
  unfold nodeT at h
  have h1 := app_inj h (by rw [ByteArray.size_append, ByteArray.size_append, hl])
  exact ⟨(app_inj h1.1 rfl).2, h1.2⟩
theorem leafT_big (a : ByteArray) (h : a.size ≤ 140737488355328) : (leafT a).size ≤ 281474976710656 := by
  unfold leafT; rw [ByteArray.size_append, show (⟨#[0]⟩ : ByteArray).size = 1 from rfl]; omega
theorem nodeT_big (a b : ByteArray) (ha : a.size = 32) (hb : b.size = 32) : (nodeT a b).size ≤ 281474976710656 := by
  unfold nodeT; rw [ByteArray.size_append, ByteArray.size_append, show (⟨#[1]⟩ : ByteArray).size = 1 from rfl]; omega
theorem leafText_q (s : ByteArray) (hs : s.size ≤ 281474976710656) (w : World) :
    Calls Tryd.prog 42 #[.string s] w fun e w' => e = .returned (.string (leafT s)) ∧ w' = w := (leafText_any s hs w).mono fun _ _ ⟨a, b⟩ => ⟨a, b.symm⟩
set_option maxRecDepth 100000 in
set_option maxHeartbeats 1000000 in
theorem clash_any : ∀ (N : Nat) (T U : List ByteArray), T.length ≤ N → U.length = T.length → T ≠ U → rootL T = rootL U → T.length ≤ 140737488355328 → Short T → Short U → ∀ (A A' : Option Addr) (c c' : Nat) (w : World), Txs w w.heap.size A T → Txs w w.heap.size A' U → T.length ≤ c → T.length ≤ c' → Tab w →
    Calls Tryd.prog 51 #[.slice A T.length c, .slice A' T.length c'] w (XEnd w)
  | N, [], U, _, hlen, hne, _, _, _, _, A, A', c, c', w, _, _, _, _, _ => by
    exact absurd (List.eq_nil_of_length_eq_zero hlen).symm hne
  | N, [x], U, _, hlen, hne, hr, _, hsT, hsU, A, A', c, c', w, hT, hU, _, _, ht => by
    match U, hlen with
    | [y], _ =>
      rw [rootL_one, rootL_one] at hr
      have hxy : x ≠ y := fun e => hne (by rw [e])
      obtain ⟨ad, rfl, _, h0⟩ := hT 0 x rfl
      obtain ⟨ad', rfl, _, h1⟩ := hU 0 y rfl
      rw [show ad.add 0 = ad from by simp [Addr.add]] at h0
      rw [show ad'.add 0 = ad' from by simp [Addr.add]] at h1
      have hx := hsT x List.mem_cons_self
      have hy := hsU y List.mem_cons_self
      have HF : Hid (leafT x ≠ leafT y ∧ dg (leafT x) = dg (leafT y)) := ⟨fun e => hxy (leafT_inj e), hr⟩
      have h0d : w.drew.cell? ad = some (.string x) := h0
      have h1d : w.drew.cell? ad' = some (.string y) := h1
      have hx' : x.size ≤ 281474976710656 := by omega
      have hy' : y.size ≤ 281474976710656 := by omega
      have b1 : Hid (Below w.heap.size w w.drew) := below_drewN (Below.refl _ _) 1
      clear hr hxy hne hT hU hsT hsU
      go_enter Tryd.func51, Tryd.ntmps51
      go_wp2_with fail
      go_quiet ((go_at_call 42; first | exact Calls.quiet_of_same (leafText_q x hx' _) | exact Calls.quiet_of_same (leafText_q y hy' _)))
      all_goals
        go_wp2_with fail
        go_ret2
        exact ⟨leafT x, leafT y, rfl, HF.out.1, HF.out.2, leafT_big x hx, leafT_big y hy, below_drewN (Below.refl _ _) _⟩
  | N + 1, x :: y :: l, U, hN, hlen, hne, hr, hm, hsT, hsU, A, A', c, c', w, hT, hU, hc, hc', ht => by
    generalize hL : x :: y :: l = T at *
    have h2 : 2 ≤ T.length := by rw [← hL]; simp
    obtain ⟨ad, rfl, g1, g2⟩ := hT 0 T[0] (List.getElem?_eq_getElem (by omega))
    obtain ⟨ad', rfl, g3, g4⟩ := hU 0 U[0] (List.getElem?_eq_getElem (by omega))
    clear hL g1 g2 g3 g4
    have k1 := spl_lt h2
    have k0 := spl_pos T.length
    have C0 := fun W => Lib.hid (split_any T.length h2 (by omega) W)
    have e1 : (T.take (spl T.length)).length = spl T.length := by rw [List.length_take]; omega
    have e2 : (T.drop (spl T.length)).length = T.length - spl T.length := by rw [List.length_drop]
    have f1 : (U.take (spl T.length)).length = spl T.length := by rw [List.length_take]; omega
    have f2 : (U.drop (spl T.length)).length = T.length - spl T.length := by rw [List.length_drop]; omega
    have hrT := rootL_two h2
    have hrU := rootL_two (l := U) (by omega)
    rw [hlen] at hrU
    have C1 : ∀ W, Hid (Txs W W.heap.size (some ad) T → Tab W → Calls Tryd.prog 12 #[.slice (some ad) (spl T.length) c] W (TEnd W (rootL (T.take (spl T.length))))) := fun W p q => by
      have := Root_any _ (T.take (spl T.length)) (Nat.le_refl _) (by omega) (hsT.take _) (some ad) c W (p.take _) (by omega) q
      rw [e1] at this
      exact this
    have C2 : ∀ W, Hid (Txs W W.heap.size (some ad) T → Tab W → Calls Tryd.prog 12 #[.slice (some (ad.add (spl T.length))) (T.length - spl T.length) (c - spl T.length)] W (TEnd W (rootL (T.drop (spl T.length))))) := fun W p q => by
      have := Root_any _ (T.drop (spl T.length)) (Nat.le_refl _) (by omega) (hsT.drop _) (some (ad.add (spl T.length))) (c - spl T.length) W (p.drop _) (by omega) q
      rw [e2] at this
      exact this
    have D1 : ∀ W, Hid (Txs W W.heap.size (some ad') U → Tab W → Calls Tryd.prog 12 #[.slice (some ad') (spl T.length) c'] W (TEnd W (rootL (U.take (spl T.length))))) := fun W p q => by
      have := Root_any _ (U.take (spl T.length)) (Nat.le_refl _) (by omega) (hsU.take _) (some ad') c' W (p.take _) (by omega) q
      rw [f1] at this
      exact this
    have D2 : ∀ W, Hid (Txs W W.heap.size (some ad') U → Tab W → Calls Tryd.prog 12 #[.slice (some (ad'.add (spl T.length))) (T.length - spl T.length) (c' - spl T.length)] W (TEnd W (rootL (U.drop (spl T.length))))) := fun W p q => by
      have := Root_any _ (U.drop (spl T.length)) (Nat.le_refl _) (by omega) (hsU.drop _) (some (ad'.add (spl T.length))) (c' - spl T.length) W (p.drop _) (by omega) q
      rw [f2] at this
      exact this
    have CE : ∀ W, Hid (Txs W W.heap.size (some ad) T → Txs W W.heap.size (some ad') U → Calls Tryd.prog 50 #[.slice (some ad) (spl T.length) c, .slice (some ad') (spl T.length) c'] W fun e w' => e = .returned (.bool (decide (T.take (spl T.length) = U.take (spl T.length)))) ∧ Below W.heap.size W w') := fun W p q => by
      have := Equal_any (T.take (spl T.length)) (U.take (spl T.length)) (by omega) (by omega) (some ad) (some ad') c c' W (p.take _) (q.take _)
      rw [e1, f1] at this
      exact this
    have ih := clash_any N
    have R1 : ∀ W, Hid (T.take (spl T.length) ≠ U.take (spl T.length) → rootL (T.take (spl T.length)) = rootL (U.take (spl T.length)) → Txs W W.heap.size (some ad) T → Txs W W.heap.size (some ad') U → Tab W → Calls Tryd.prog 51 #[.slice (some ad) (spl T.length) c, .slice (some ad') (spl T.length) c'] W (XEnd W)) := fun W h h' p q r => by
      have := ih (T.take (spl T.length)) (U.take (spl T.length)) (by omega) (by omega) h h' (by omega) (hsT.take _) (hsU.take _) (some ad) (some ad') c c' W (p.take _) (q.take _) (by omega) (by omega) r
      rw [e1] at this
      exact this
    have R2 : ∀ W, Hid (T.drop (spl T.length) ≠ U.drop (spl T.length) → rootL (T.drop (spl T.length)) = rootL (U.drop (spl T.length)) → Txs W W.heap.size (some ad) T → Txs W W.heap.size (some ad') U → Tab W → Calls Tryd.prog 51 #[.slice (some (ad.add (spl T.length))) (T.length - spl T.length) (c - spl T.length), .slice (some (ad'.add (spl T.length))) (T.length - spl T.length) (c' - spl T.length)] W (XEnd W)) := fun W h h' p q r => by
      have := ih (T.drop (spl T.length)) (U.drop (spl T.length)) (by omega) (by omega) h h' (by omega) (hsT.drop _) (hsU.drop _) (some (ad.add (spl T.length))) (some (ad'.add (spl T.length))) (c - spl T.length) (c' - spl T.length) W (p.drop _) (q.drop _) (by omega) (by omega) r
      rw [e2] at this
      exact this
    have HNE : Hid (T.take (spl T.length) = U.take (spl T.length) → T.drop (spl T.length) ≠ U.drop (spl T.length)) := fun a b => hne (by rw [← List.take_append_drop (spl T.length) T, ← List.take_append_drop (spl T.length) U, a, b])
    have z1 := rootL_size (T.take (spl T.length))
    have z2 := rootL_size (T.drop (spl T.length))
    have z3 := rootL_size (U.take (spl T.length))
    have z4 := rootL_size (U.drop (spl T.length))
    have HD : Hid (nodeD (rootL (T.take (spl T.length))) (rootL (T.drop (spl T.length))) = nodeD (rootL (U.take (spl T.length))) (rootL (U.drop (spl T.length)))) := by
      show _ = _
      rw [← hrT, ← hrU, hr]
    clear ih e1 e2 f1 f2 hrT hrU hr hne hsT hsU
    generalize spl T.length = k at *
    generalize rootL (T.take k) = ra at *
    generalize rootL (T.drop k) = rb at *
    generalize rootL (U.take k) = rc at *
    generalize rootL (U.drop k) = rd at *
    have HI : Hid (nodeT ra rb = nodeT rc rd → ra = rc ∧ rb = rd) := fun h => nodeT_inj h (by rw [z1, z3])
    have Z1 := Lib.hid (nodeT_big ra rb z1 z2)
    have Z2 := Lib.hid (nodeT_big rc rd z3 z4)
    have za : ra.size ≤ 281474976710656 := by omega
    have zb : rb.size ≤ 281474976710656 := by omega
    have zc : rc.size ≤ 281474976710656 := by omega
    have zd : rd.size ≤ 281474976710656 := by omega
    clear z1 z2 z3 z4
    have N1 := fun W => Lib.hid (nodeText_any ra rb za zb W)
    have N2 := fun W => Lib.hid (nodeText_any rc rd zc zd W)
    clear za zb zc zd
    have HDt : Hid (dg (nodeT ra rb) = dg (nodeT rc rd)) := HD
    clear HD
    generalize nodeT ra rb = xa at *
    generalize nodeT rc rd = xb at *
    have n1 : ¬ ((T.length : Int) = 1) := by omega
    have n2 : ¬ (c = k) := by omega
    have n3 : k ≤ c := by omega
    have n4 : k ≤ T.length := by omega
    have n5 : ¬ (c' = k) := by omega
    have n6 : k ≤ c' := by omega
    have HT := Lib.hid hT
    have HU := Lib.hid hU
    have ht1 := Lib.hid ht
    clear hT hU ht
    clear hlen
    generalize hn : T.length = n at *
    have Hn := Lib.hid hn
    clear hn
    go_enter Tryd.func51, Tryd.ntmps51
    go_wp2_with fail
    (with_reducible refine (C0 _).out.mono ?_)
    rintro _ w1 ⟨rfl, rfl⟩
    have HTd : Hid (Txs w1.drew w1.drew.heap.size (some ad) T) := HT
    have HUd : Hid (Txs w1.drew w1.drew.heap.size (some ad') U) := HU
    have htd : Hid (Tab w1.drew) := ht1
    have b1 : Below w1.heap.size w1 w1.drew := below_drewN (Below.refl _ _) 1
    have B1 := Lib.hid b1
    clear b1
    have Cd := C1 w1.drew
    go_wp2_with fail
    go_region_law (first
      | (go_simp; go_at_call 12; (with_reducible refine (Cd.out HTd.out htd.out).mono ?_); rintro _ w2 ⟨rfl, b2⟩
         have HT2 := Lib.hid ((HTd.out.below b2).mono b2.size); have HU2 := Lib.hid ((HUd.out.below b2).mono b2.size); have ht2 := Lib.hid (htd.out.below b2 htd.out.1); have B2 := Lib.hid (B1.out.trans (b2.mono B1.out.size)))
      | (go_simp; go_at_call 12; (with_reducible refine ((C2 _).out HT2.out ht2.out).mono ?_); rintro _ w3 ⟨rfl, b3⟩
         have HT3 := Lib.hid ((HT2.out.below b3).mono b3.size); have HU3 := Lib.hid ((HU2.out.below b3).mono b3.size); have ht3 := Lib.hid (ht2.out.below b3 ht2.out.1); have B3 := Lib.hid (B2.out.trans (b3.mono B2.out.size)))
      | (go_simp; go_at_call 43; (with_reducible refine (N1 _).out.mono ?_); rintro _ _ ⟨rfl, rfl⟩)
      | (go_simp; go_at_call 12; (with_reducible refine ((D1 _).out HU3.out ht3.out).mono ?_); rintro _ w4 ⟨rfl, b4⟩
         have HT4 := Lib.hid ((HT3.out.below b4).mono b4.size); have HU4 := Lib.hid ((HU3.out.below b4).mono b4.size); have ht4 := Lib.hid (ht3.out.below b4 ht3.out.1); have B4 := Lib.hid (B3.out.trans (b4.mono B3.out.size)))
      | (go_simp; go_at_call 12; (with_reducible refine ((D2 _).out HU4.out ht4.out).mono ?_); rintro _ w5 ⟨rfl, b5⟩
         have HT5 := Lib.hid ((HT4.out.below b5).mono b5.size); have HU5 := Lib.hid ((HU4.out.below b5).mono b5.size); have ht5 := Lib.hid (ht4.out.below b5 ht4.out.1); have B5 := Lib.hid (B4.out.trans (b5.mono B4.out.size)))
      | (go_simp; go_at_call 43; (with_reducible refine (N2 _).out.mono ?_); rintro _ _ ⟨rfl, rfl⟩))
    all_goals
      cases hq : xa.toList == xb.toList
      · go_wp2_with fail
        go_ret2
        exact ⟨xa, xb, rfl, ne_toList hq, HDt.out, Z1.out, Z2.out, B5.out⟩
      · have hq2 := Lib.hid (HI.out (eq_toList hq))
        have HT6 : Hid (Txs w5.drew w5.drew.heap.size (some ad) T) := HT5
        have HU6 : Hid (Txs w5.drew w5.drew.heap.size (some ad') U) := HU5
        have ht6 : Hid (Tab w5.drew) := ht5
        have b6 : Below w5.heap.size w5 w5.drew := below_drewN (Below.refl _ _) 1
        have B6 := Lib.hid (B5.out.trans (b6.mono B5.out.size))
        clear b6
        have CEd := CE w5.drew
        by_cases hd : T.take k = U.take k
        · rw [decide_eq_true hd] at CEd
          have hdd := Lib.hid (HNE.out hd)
          clear hd
          go_wp2_with fail
          go_region_law (go_simp; go_at_call 50; (with_reducible refine (CEd.out HT6.out HU6.out).mono ?_); rintro _ w7 ⟨rfl, b7⟩; have HT7 := Lib.hid ((HT6.out.below b7).mono b7.size); have HU7 := Lib.hid ((HU6.out.below b7).mono b7.size); have ht7 := Lib.hid (ht6.out.below b7 ht6.out.1); have B7 := Lib.hid (B6.out.trans (b7.mono B6.out.size)))
          have HT8 : Hid (Txs w7.drew w7.drew.heap.size (some ad) T) := HT7
          have HU8 : Hid (Txs w7.drew w7.drew.heap.size (some ad') U) := HU7
          have ht8 : Hid (Tab w7.drew) := ht7
          have b8 : Below w7.heap.size w7 w7.drew := below_drewN (Below.refl _ _) 1
          have B8 := Lib.hid (B7.out.trans (b8.mono B7.out.size))
          clear b8
          have Rq := R2 w7.drew
          go_wp2_with fail
          go_region_law (go_simp; go_at_call 51; (with_reducible refine (Rq.out hdd.out hq2.out.2 HT8.out HU8.out ht8.out).mono ?_); rintro _ w9 ⟨x', y', rfl, x1, x2, x3, x4, b9⟩)
          go_wp2_with fail
          go_ret2
          exact ⟨x', y', rfl, x1, x2, x3, x4, B8.out.trans (b9.mono B8.out.size)⟩
        · rw [decide_eq_false hd] at CEd
          have hdd := Lib.hid hd
          clear hd
          go_wp2_with fail
          go_region_law (go_simp; go_at_call 50; (with_reducible refine (CEd.out HT6.out HU6.out).mono ?_); rintro _ w7 ⟨rfl, b7⟩; have HT7 := Lib.hid ((HT6.out.below b7).mono b7.size); have HU7 := Lib.hid ((HU6.out.below b7).mono b7.size); have ht7 := Lib.hid (ht6.out.below b7 ht6.out.1); have B7 := Lib.hid (B6.out.trans (b7.mono B6.out.size)))
          have HT8 : Hid (Txs w7.drew w7.drew.heap.size (some ad) T) := HT7
          have HU8 : Hid (Txs w7.drew w7.drew.heap.size (some ad') U) := HU7
          have ht8 : Hid (Tab w7.drew) := ht7
          have b8 : Below w7.heap.size w7 w7.drew := below_drewN (Below.refl _ _) 1
          have B8 := Lib.hid (B7.out.trans (b8.mono B7.out.size))
          clear b8
          have Rq := R1 w7.drew
          go_wp2_with fail
          go_region_law (go_simp; go_at_call 51; (with_reducible refine (Rq.out hdd.out hq2.out.1 HT8.out HU8.out ht8.out).mono ?_); rintro _ w9 ⟨x', y', rfl, x1, x2, x3, x4, b9⟩)
          go_wp2_with fail
          go_ret2
          exact ⟨x', y', rfl, x1, x2, x3, x4, B8.out.trans (b9.mono B8.out.size)⟩
end Go.Proofs.YtejapjmlofekfaaDoor

/- merkle.Clash: its contract; keep.clash, keep.half, ref.parting. -/
namespace Go.Proofs.YtejapjmlofekfaaDoor
open Go.RowKit

/-- what Clash leaves where there is none -/
def NEnd (w : World) (e : Ending) (w' : World) : Prop := e = .returned (.tuple #[.string ⟨#[]⟩, .string ⟨#[]⟩]) ∧ Below w.heap.size w w'
set_option maxRecDepth 100000 in
set_option maxHeartbeats 1000000 in
theorem Clash_no (T U : List ByteArray) (h : ¬ (T.length = U.length ∧ T ≠ U ∧ rootL T = rootL U)) (hm : T.length ≤ 140737488355328) (hmU : U.length ≤ 140737488355328) (hsT : Short T) (hsU : Short U) (A A' : Option Addr) (c c' : Nat) (w : World) (hT : Txs w w.heap.size A T) (hU : Txs w w.heap.size A' U) (hc : T.length ≤ c) (hc' : U.length ≤ c') (ht : Tab w) :
    Calls Tryd.prog 33 #[.slice A T.length c, .slice A' U.length c'] w (NEnd w) := by
  by_cases hl : T.length = U.length
  case neg =>
    have hlb : ((T.length : Int) != U.length) = true := by rw [bne_iff_ne]; omega
    clear h hl hT hU
    go_enter Tryd.func33, Tryd.ntmps33
    go_wp2_with fail
    go_ret2
    exact ⟨rfl, Below.refl _ _⟩
  have CE := Lib.hid (Equal_any T U (by omega) (by omega) A A' c c' w hT hU)
  have C1 : ∀ W, Hid (Txs W W.heap.size A T → Tab W → Calls Tryd.prog 12 #[.slice A T.length c] W (TEnd W (rootL T))) := fun W p q => Root_any _ T (Nat.le_refl _) hm hsT A c W p hc q
  have C2 : ∀ W, Hid (Txs W W.heap.size A' U → Tab W → Calls Tryd.prog 12 #[.slice A' U.length c'] W (TEnd W (rootL U))) := fun W p q => Root_any _ U (Nat.le_refl _) hmU hsU A' c' W p hc' q
  rw [hl] at CE C1 ⊢
  have hlb : ((U.length : Int) != U.length) = false := by simp
  by_cases he : T = U
  · rw [decide_eq_true he] at CE
    clear h hl hT hU C1 C2 he
    go_enter Tryd.func33, Tryd.ntmps33
    go_wp2_with fail
    (with_reducible refine CE.out.mono ?_)
    rintro _ w1 ⟨rfl, b1⟩
    go_wp2_with fail
    go_ret2
    exact ⟨rfl, b1⟩
  · rw [decide_eq_false he] at CE
    have hr : rootL T ≠ rootL U := fun e => h ⟨hl, he, e⟩
    generalize rootL T = r at *
    generalize rootL U = r' at *
    have hq : (r.toList == r'.toList) = false := by
      cases hq : r.toList == r'.toList
      · rfl
      · exact absurd (eq_toList hq) hr
    have HT := Lib.hid hT
    have HU := Lib.hid hU
    have ht1 := Lib.hid ht
    clear h hl hT hU he hr ht
    go_enter Tryd.func33, Tryd.ntmps33
    go_wp2_with fail
    (with_reducible refine CE.out.mono ?_)
    rintro _ w1 ⟨rfl, b1⟩
    have HT2 := Lib.hid ((HT.out.below b1).mono b1.size)
    have HU2 := Lib.hid ((HU.out.below b1).mono b1.size)
    have ht2 := Lib.hid (ht1.out.below b1 ht1.out.1)
    go_wp2_with fail
    (with_reducible refine ((C1 _).out HT2.out ht2.out).mono ?_)
    rintro _ w2 ⟨rfl, b2⟩
    have HU3 := Lib.hid ((HU2.out.below b2).mono b2.size)
    have ht3 := Lib.hid (ht2.out.below b2 ht2.out.1)
    go_wp2_with fail
    (with_reducible refine ((C2 _).out HU3.out ht3.out).mono ?_)
    rintro _ w3 ⟨rfl, b3⟩
    go_wp2_with fail
    go_ret2
    have b12 := b1.trans (b2.mono b1.size)
    exact ⟨rfl, b12.trans (b3.mono b12.size)⟩
set_option maxRecDepth 100000 in
set_option maxHeartbeats 1000000 in
theorem Clash_yes (T U : List ByteArray) (hl : T.length = U.length) (he : T ≠ U) (hr : rootL T = rootL U) (hm : T.length ≤ 140737488355328) (hsT : Short T) (hsU : Short U) (A A' : Option Addr) (c c' : Nat) (w : World) (hT : Txs w w.heap.size A T) (hU : Txs w w.heap.size A' U) (hc : T.length ≤ c) (hc' : U.length ≤ c') (ht : Tab w) :
    Calls Tryd.prog 33 #[.slice A T.length c, .slice A' U.length c'] w (XEnd w) := by
  have CE := Lib.hid (Equal_any T U (by omega) (by omega) A A' c c' w hT hU)
  rw [decide_eq_false he] at CE
  have C1 : ∀ W, Hid (Txs W W.heap.size A T → Tab W → Calls Tryd.prog 12 #[.slice A T.length c] W (TEnd W (rootL T))) := fun W p q => Root_any _ T (Nat.le_refl _) hm hsT A c W p hc q
  have C2 : ∀ W, Hid (Txs W W.heap.size A' U → Tab W → Calls Tryd.prog 12 #[.slice A' U.length c'] W (TEnd W (rootL U))) := fun W p q => Root_any _ U (Nat.le_refl _) (by omega) hsU A' c' W p hc' q
  have C3 : ∀ W, Hid (Txs W W.heap.size A T → Txs W W.heap.size A' U → Tab W → Calls Tryd.prog 51 #[.slice A T.length c, .slice A' T.length c'] W (XEnd W)) := fun W p q r => clash_any _ T U (Nat.le_refl _) hl.symm he hr hm hsT hsU A A' c c' W p q hc (by omega) r
  rw [hl] at CE C1 C3 ⊢
  have hlb : ((U.length : Int) != U.length) = false := by simp
  rw [hr] at C1
  generalize rootL U = r' at *
  have HT := Lib.hid hT
  have HU := Lib.hid hU
  have ht1 := Lib.hid ht
  clear hl hT hU he hr ht
  go_enter Tryd.func33, Tryd.ntmps33
  go_wp2_with fail
  (with_reducible refine CE.out.mono ?_)
  rintro _ w1 ⟨rfl, b1⟩
  have HT2 := Lib.hid ((HT.out.below b1).mono b1.size)
  have HU2 := Lib.hid ((HU.out.below b1).mono b1.size)
  have ht2 := Lib.hid (ht1.out.below b1 ht1.out.1)
  go_wp2_with fail
  (with_reducible refine ((C1 _).out HT2.out ht2.out).mono ?_)
  rintro _ w2 ⟨rfl, b2⟩
  have HT3 := Lib.hid ((HT2.out.below b2).mono b2.size)
  have HU3 := Lib.hid ((HU2.out.below b2).mono b2.size)
  have ht3 := Lib.hid (ht2.out.below b2 ht2.out.1)
  go_wp2_with fail
  (with_reducible refine ((C2 _).out HU3.out ht3.out).mono ?_)
  rintro _ w3 ⟨rfl, b3⟩
  have HT4 := Lib.hid ((HT3.out.below b3).mono b3.size)
  have HU4 := Lib.hid ((HU3.out.below b3).mono b3.size)
  have ht4 := Lib.hid (ht3.out.below b3 ht3.out.1)
  go_wp2_with fail
  (with_reducible refine ((C3 _).out HT4.out HU4.out ht4.out).mono ?_)
  rintro _ w4 ⟨x, y, rfl, x1, x2, x3, x4, b4⟩
  go_wp2_with fail
  go_ret2
  have b12 := b1.trans (b2.mono b1.size)
  have b13 := b12.trans (b3.mono b12.size)
  exact ⟨x, y, rfl, x1, x2, x3, x4, b13.trans (b4.mono b13.size)⟩
/-- do two unlike texts have one sum -/
def clashB (a b : ByteArray) : Bool := decide (a ≠ b ∧ dg a = dg b)
theorem kclash_any (a b : ByteArray) (ha : a.size < 1152921504606846976) (hb : b.size < 1152921504606846976) (w : World) (ht : Tab w) :
    Calls Tryd.prog 35 #[.string a, .string b] w (BEnd w (clashB a b)) := by
  have C1 := Lib.hid (Sum_any a ha w ht)
  have C2 : ∀ W, Hid (Tab W → Calls Tryd.prog 30 #[.string b] W fun e w' => e = .returned (.string (dg b)) ∧ Below W.heap.size W w') := fun W q => Sum_any b hb W q
  change Hid (Calls Tryd.prog 30 #[.string a] w fun e w' => e = .returned (.string (dg a)) ∧ Below w.heap.size w w') at C1
  unfold clashB
  generalize dg a = x at *
  generalize dg b = y at *
  cases hq : a.toList == b.toList
  · have hne := Lib.hid (ne_toList hq)
    have ht1 := Lib.hid ht
    clear ht
    cases hr : x.toList == y.toList
    · have HF : Hid (decide (a ≠ b ∧ x = y) = false) := decide_eq_false (fun h => ne_toList hr h.2)
      go_enter Tryd.func35, Tryd.ntmps35
      go_wp2_with fail
      (with_reducible refine C1.out.mono ?_)
      rintro _ w1 ⟨rfl, b1⟩
      have ht2 := Lib.hid (ht1.out.below b1 ht1.out.1)
      go_wp2_with fail
      (with_reducible refine ((C2 _).out ht2.out).mono ?_)
      rintro _ w2 ⟨rfl, b2⟩
      go_wp2_with fail
      go_ret
      exact ⟨by rw [HF.out]; rfl, b1.trans (b2.mono b1.size)⟩
    · have HF : Hid (decide (a ≠ b ∧ x = y) = true) := decide_eq_true ⟨hne.out, eq_toList hr⟩
      go_enter Tryd.func35, Tryd.ntmps35
      go_wp2_with fail
      (with_reducible refine C1.out.mono ?_)
      rintro _ w1 ⟨rfl, b1⟩
      have ht2 := Lib.hid (ht1.out.below b1 ht1.out.1)
      go_wp2_with fail
      (with_reducible refine ((C2 _).out ht2.out).mono ?_)
      rintro _ w2 ⟨rfl, b2⟩
      go_wp2_with fail
      go_ret
      exact ⟨by rw [HF.out]; rfl, b1.trans (b2.mono b1.size)⟩
  · have HF : Hid (decide (a ≠ b ∧ x = y) = false) := decide_eq_false (fun h => h.1 (eq_toList hq))
    clear C1 C2
    go_enter Tryd.func35, Tryd.ntmps35
    go_wp2_with fail
    go_ret
    exact ⟨by rw [HF.out]; rfl, Below.refl _ _⟩
/-- where the search for the parting stands -/
def PtRel (n : Nat) (w : World) (a : Value) (wr : World) : Prop := ∃ j : Nat, a = .int .i64 ((2 ^ j : Nat) : Int) ∧ 2 ^ j < n ∧ wr = w
set_option maxRecDepth 100000 in
theorem parting_any (n : Nat) (h2 : 2 ≤ n) (hn : n ≤ 4611686018427387904) (w : World) :
    Calls Tryd.prog 38 #[.int .i64 (n : Int)] w fun e w' => e = .returned (.int .i64 ((spl n : Nat) : Int)) ∧ w' = w := by
  have h1 : Hid (PtRel n w (.int .i64 1) w) := ⟨0, rfl, by omega, rfl⟩
  go_enter Tryd.func38, Tryd.ntmps38
  go_wp2_with fail
  go_loopw [3] (fun a wr => PtRel n w a wr) (fun a _ => n - (intOf a).toNat)
  case atStart => exact h1.out
  case round =>
    clear h1
    obtain ⟨j, rfl, hj, rfl⟩ := hrel
    have hp := Nat.two_pow_pos j
    have HJ := Lib.hid (spl_of (n := n) hj)
    have HP : Hid (2 ^ (j + 1) = 2 ^ j * 2) := Nat.pow_succ 2 j
    by_cases hlt : 2 ^ j * 2 < n
    · generalize hx : 2 ^ j = x at *
      clear hx
      have hlt2 : (x : Int) + x < n := by omega
      go_wp2_with fail
      refine ⟨⟨j + 1, ?_, by rw [HP.out]; exact hlt, rfl⟩, by simp [intOf]; omega⟩
      rw [HP.out]
      congr 1
      omega
    · have he : Hid (spl n = 2 ^ j) := HJ.out (by rw [HP.out]; omega)
      generalize hx : 2 ^ j = x at *
      clear hx HJ HP
      have hlt2 : ¬ ((x : Int) + x < n) := by omega
      go_wp2_with fail
      go_ret
      exact ⟨by rw [he.out]; rfl, rfl⟩
set_option maxRecDepth 100000 in
theorem half_any (n : Nat) (h2 : 2 ≤ n) (hn : n ≤ 4611686018427387904) (w : World) :
    Calls Tryd.prog 49 #[.int .i64 (n : Int)] w fun e w' => e = .returned (.int .i64 ((spl n : Nat) : Int)) ∧ w' = w := by
  have h1 : Hid (PtRel n w (.int .i64 1) w) := ⟨0, rfl, by omega, rfl⟩
  go_enter Tryd.func49, Tryd.ntmps49
  go_wp2_with fail
  go_loopw [3] (fun a wr => PtRel n w a wr) (fun a _ => n - (intOf a).toNat)
  case atStart => exact h1.out
  case round =>
    clear h1
    obtain ⟨j, rfl, hj, rfl⟩ := hrel
    have hp := Nat.two_pow_pos j
    have HJ := Lib.hid (spl_of (n := n) hj)
    have HP : Hid (2 ^ (j + 1) = 2 ^ j * 2) := Nat.pow_succ 2 j
    by_cases hlt : 2 ^ j * 2 < n
    · generalize hx : 2 ^ j = x at *
      clear hx
      have hlt2 : 2 * (x : Int) < n := by omega
      go_wp2_with fail
      refine ⟨⟨j + 1, ?_, by rw [HP.out]; exact hlt, rfl⟩, by simp [intOf]; omega⟩
      rw [HP.out, Int.natCast_mul]
      rfl
    · have he : Hid (spl n = 2 ^ j) := HJ.out (by rw [HP.out]; omega)
      generalize hx : 2 ^ j = x at *
      clear hx HJ HP
      have hlt2 : ¬ (2 * (x : Int) < n) := by omega
      go_wp2_with fail
      go_ret
      exact ⟨by rw [he.out]; rfl, rfl⟩
end Go.Proofs.YtejapjmlofekfaaDoor

/- keep.pick: its contract. -/
namespace Go.Proofs.YtejapjmlofekfaaDoor
open Go.RowKit

def pk (k n : Int) : Int := if k.tmod n < 0 then k.tmod n + n else k.tmod n
theorem pk_in (k : Int) (n : Nat) (hn : 0 < n) : 0 ≤ pk k n ∧ pk k n < n := by
  have h1 := Int.tmod_lt_of_pos k (b := (n : Int)) (by omega)
  have h2 := Int.lt_tmod_of_pos k (b := (n : Int)) (by omega)
  unfold pk
  split <;> omega
theorem pick_any (k : Int) (n : Nat) (hn : 0 < n) (hn2 : n ≤ 281474976710656) (w : World) :
    Calls Tryd.prog 31 #[.int .i64 k, .int .i64 (n : Int)] w fun e w' => e = .returned (.int .i64 (pk k n)) ∧ w = w' := by
  have h1 := Int.tmod_lt_of_pos k (b := (n : Int)) (by omega)
  have h2 := Int.lt_tmod_of_pos k (b := (n : Int)) (by omega)
  by_cases h : k.tmod n < 0
  · have HP : Hid (pk k n = k.tmod n + n) := by show _ = _; unfold pk; rw [if_pos h]
    have hw : wrap64 (k.tmod n + n) = k.tmod n + n := IntWalk.wrap64_in _ (by omega)
    go_enter Tryd.func31, Tryd.ntmps31
    go_wp2_with fail
    go_ret
    exact ⟨by rw [HP.out]; rfl, rfl⟩
  · have HP : Hid (pk k n = k.tmod n) := by show _ = _; unfold pk; rw [if_neg h]
    go_enter Tryd.func31, Tryd.ntmps31
    go_wp2_with fail
    go_ret
    exact ⟨by rw [HP.out]; rfl, rfl⟩

end Go.Proofs.YtejapjmlofekfaaDoor
