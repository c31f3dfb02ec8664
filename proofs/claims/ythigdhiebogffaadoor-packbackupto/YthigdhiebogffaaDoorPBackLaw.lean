/- keep.PackBack: the walk. -/
import Derived.Test.YthigdhiebogffaaDoorPReads
namespace Go.Proofs.YthigdhiebogffaaDoor
open Go.RowKit

theorem bulk_take {l : List ByteArray} {k : Nat} {x : ByteArray} (h : l[k]? = some x) : bulk (l.take (k + 1)) = bulk (l.take k) + (x.size + 3) := by rw [take_next h, bulk_app]
theorem bulk_mono (l : List ByteArray) (k : Nat) : bulk (l.take k) ≤ bulk l := by
  induction l generalizing k with
  | nil => simp [bulk]
  | cons x l ih =>
    cases k with
    | zero => simp [bulk]
    | succ k =>
      rw [List.take_succ_cons, bulk, bulk]
      have := ih k
      omega
/-- behind the loop that adds the sizes up -/
theorem packs_end {w W : World} (bel : Below w.heap.size w W) (ht : Tab W) : Calls Tryd.prog 15 #[] W fun e w' => e = .returned (.bool true) ∧ Below w.heap.size w w' :=
  (packs_keep W ht).mono fun _ _ ⟨h1, h2⟩ => ⟨h1, bel.trans (h2.mono bel.size)⟩

set_option maxRecDepth 100000 in
set_option maxHeartbeats 4000000 in
theorem PackBack_any (l O M : List ByteArray) (lA oA mA : Option Addr) (lcp oc mc : Nat) (w : World) (hlx : Txs w w.heap.size lA l) (hO : Txs w w.heap.size oA O) (hM : Txs w w.heap.size mA M) (_ : ∀ x ∈ l, x.size ≤ 140737488355328) (hz : ∀ x ∈ O, x.size ≤ 140737488355328) (hzm : ∀ x ∈ M, x.size ≤ 140737488355328)
    (hll : l.length ≤ 10000000) (hol : O.length ≤ 10000000) (hml : M.length ≤ 10000000) (ht : Tab w) :
    Calls Tryd.prog 5 #[.slice lA l.length lcp, .slice oA O.length oc, .slice mA M.length mc] w fun e w' => e = .returned (.bool true) ∧ Below w.heap.size w w' := by
  obtain ⟨si, hsi, sz0, sz1, sz2⟩ := info_parts info_str
  have Hsi := Lib.hid hsi
  have Sz0 := Lib.hid sz0
  have Sz1 := Lib.hid sz1
  have Sz2 := Lib.hid sz2
  clear hsi sz0 sz1 sz2
  have q := Lib.hid (Write_any l O lA oA lcp oc w hlx hO hz (by omega) (by omega) ht)
  by_cases hm : mayP l O = 0
  case neg =>
    have hm' : (mayP l O != 0) = true := by simpa using hm
    go_enter Tryd.func5, Tryd.ntmps5
    go_wp2_with fail
    (with_reducible refine q.out.mono ?_)
    clear q
    intro x w1 hx
    unfold WEnd WEndR at hx
    rw [if_pos hm] at hx
    obtain ⟨rfl, b1⟩ := hx
    generalize mayP l O = e at *
    have ht1 := ht.below b1 ht.1
    go_wp2_with fail
    (with_reducible refine (packs_keep w1 ht1).mono ?_)
    rintro _ w2 ⟨rfl, b2⟩
    go_wp2_with fail
    go_ret
    exact ⟨rfl, b1.trans (b2.mono b1.size)⟩
  obtain ⟨ha, hn4, ho4⟩ := addOk_may hm
  go_enter Tryd.func5, Tryd.ntmps5
  go_wp2_with fail
  (with_reducible refine q.out.mono ?_)
  clear q
  intro x w1 hx
  unfold WEnd WEndR at hx
  rw [hm, if_neg (by simp)] at hx
  obtain ⟨⟨D, b, hP, hz8, rfl⟩, b1⟩ := hx
  have hfl := front_len hP hz8 hn4
  have hbl := bulk_le _ hz8
  have HBack : Hid (readP (front l.length b ++ sha (front l.length b)) (M ++ O).reverse = (l, 0)) := read_back hP ha hz8 hn4
  have ht1 := ht.below b1 ht.1
  have hS2 : (bs (front l.length b ++ sha (front l.length b))).size ≤ bulk l + 35 := by rw [bs_size]; exact hfl.1
  have hlist := bs_list (front l.length b ++ sha (front l.length b))
  generalize front l.length b ++ sha (front l.length b) = fs at *
  generalize bs fs = S at *
  subst hlist
  clear hm ha hfl hP hz8
  have n1 : News w1 mA M.length (M.map sv) := ((hM.below b1).mono b1.size).news
  go_wp2_with (at_builtin; refine wpList_app _ rfl _ _ 22 rfl w1.heap.size 9 si _ 1 16 Tryd.underlying22 Hsi.out Sz0.out Sz1.out Sz2.out rfl (by decide) _ _ _ rfl (own_nil _ _ _ _) mA M.length mc (M.map sv) rfl (by rw [List.length_map]; omega) n1 (sv_one _) (by unfold maxLen; omega) (by omega) (Nat.le_refl _) ?_)
  intro v2 w2 hown2 hg2
  have b2 : Below w1.heap.size w1 w2 := (Below.refl _ _).grown hg2 (Nat.le_refl _) (by intro k hk; cases hk)
  have bel2 := b1.trans (b2.mono b1.size)
  have n2 : News w2 oA O.length (O.map sv) := ((hO.below bel2).mono bel2.size).news
  clear n1 hg2
  go_wp2_with (at_builtin; refine wpList_app _ rfl _ _ 22 rfl w1.heap.size 9 si _ 1 16 Tryd.underlying22 Hsi.out Sz0.out Sz1.out Sz2.out rfl (by decide) _ _ _ rfl hown2 oA O.length oc (O.map sv) rfl (by rw [List.length_map]; omega) n2 (sv_one _) (by unfold maxLen; omega) (by omega) b2.size ?_)
  intro v3 w3 hown3 hg3
  have b3 : Below w1.heap.size w1 w3 := b2.grown hg3 b2.size (fun k hk => own_row_ge hown2 k hk)
  have bel3 := b1.trans (b3.mono b1.size)
  have hown3' : w3.ownsRow w1.heap.size 9 1 v3 (M ++ O).length ((M ++ O).map sv) := by rw [List.length_append, List.map_append]; exact hown3
  obtain ⟨A3, c3, hv3, _, t3, _⟩ := own_texts hown3'
  subst hv3
  have ht3 := ht.below bel3 ht.1
  clear n2 hg3 hown2 hown3 hown3' b2 b3 bel2 b1 ht1
  have hzz : ∀ x ∈ M ++ O, x.size ≤ 140737488355328 := fun x hx => by
    rcases List.mem_append.1 hx with h | h
    · exact hzm x h
    · exact hz x h
  have C1 := Lib.hid (Read_pack S (M ++ O) A3 c3 w3 (by omega) t3 hzz (by rw [List.length_append]; omega) ht3)
  rw [List.length_append] at C1
  clear hzz
  rw [HBack.out] at C1
  clear HBack
  go_wp2_with fail
  (with_reducible refine C1.out.mono ?_)
  clear C1
  rintro _ w4 ⟨A4, c4, rfl, hc4, t4, b4⟩
  have bel4 := bel3.trans (b4.mono bel3.size)
  have ht4 := ht3.below b4 ht3.1
  simp only at t4 hc4 ⊢
  clear bel3 ht3 b4 t3
  go_wp2_with fail
  go_loopw [11, 12] (fun vs i wr => ∃ k : Nat, k ≤ l.length ∧ i = .int .i64 (k : Int) ∧ vs = .int .i64 ((bulk (l.take k) : Nat) : Int) ∧ wr = w4) (fun _ i _ => l.length - (intOf i).toNat)
  case atStart => exact ⟨0, Nat.zero_le _, rfl, rfl, rfl⟩
  case round =>
    obtain ⟨k, hk, rfl, rfl, rfl⟩ := hrel
    have hbk := bulk_mono l k
    by_cases hlt : k < l.length
    · have hi : (k : Int) < l.length := by omega
      have hx : l[k]? = some l[k] := List.getElem?_eq_getElem hlt
      obtain ⟨ad, hA, hbl2, h0⟩ := hlx k l[k] hx
      subst hA
      have g0 := (bel4.cell hbl2).trans h0
      have HB := Lib.hid (bulk_take hx)
      have hbk2 := bulk_mono l (k + 1)
      rw [HB.out] at hbk2
      generalize l[k] = x at *
      generalize bulk (l.take k) = bk at *
      go_wp2_with fail
      go_roundw
      case rel => exact ⟨k + 1, hlt, by rw [Int.natCast_add]; rfl, by rw [HB.out]; simp only [Int.natCast_add]; rfl, (by first | rfl | trivial)⟩
      case measure => simp [intOf]; omega
    · obtain rfl : k = l.length := by omega
      have hi : ¬ (l.length : Int) < l.length := by omega
      rw [List.take_length] at hbk ⊢
      have hfit : (S.size : Int) ≤ (bulk l : Int) + 40 := by omega
      generalize bulk l = bk at *
      have CS := Lib.hid (keepStrings_any l l (by omega) (by omega) A4 lA c4 lcp wr t4 ((hlx.below bel4).mono bel4.size))
      simp only [decide_true] at CS
      go_wp2_with fail
      (with_reducible refine CS.out.mono ?_)
      clear CS
      rintro _ wq ⟨rfl, bq⟩
      have belq := bel4.trans (bq.mono bel4.size)
      have htq := ht4.below bq ht4.1
      go_wp2_with fail
      (with_reducible refine (packs_keep wq htq).mono ?_)
      rintro _ w9 ⟨rfl, b9⟩
      go_wp2_with fail
      go_ret
      exact ⟨rfl, belq.trans (b9.mono belq.size)⟩
end Go.Proofs.YthigdhiebogffaaDoor
