/- keep.PackBack: the walk. -/
import Derived.Test.YtoklgliepepbgaaDoorPTwins
namespace Go.Proofs.YtoklgliepepbgaaDoor
open Go.RowKit

theorem bulk_take {l : List ByteArray} {k : Nat} {x : ByteArray} (h : l[k]? = some x) : bulk (l.take (k + 1)) = bulk (l.take k) + (x.size + 3) := by rw [take_next h, bulk_app]
theorem bulk_mono (l : List ByteArray) (k : Nat) : bulk (l.take k) ≤ bulk l := by
  induction l generalizing k with
  | nil => simp [bulk]
  | cons x l ih =>
    cases k with
    | zero => simp [bulk]
    | succ k =>
      rw [List.take_succ_cons, bulk, bulk]
      have := ih k
      omega
section
variable {P : Program} (w : World)
/-- append of a list that may be nil, where the guard says yes -/
theorem wpList_app_w {ops : Array Oper} {rest : List Oper} {o : Oper} {a : Act} {Q : Exit → Act → World → Prop} (hwt : Region.wanted o (yielded ops a.tmps) = true) (s x : Operand) (t : TypeId)
    (ho : o.op = .call { callee := .builtin .append, args := #[s, x], argTypes := #[t, t] })
    (base : Nat) (e : TypeId) (i : TypeInfo) (z : Value) (size bytes : Nat) (ht : P.underlying t = some (.slice e)) (hi : P.info? e = some i) (hz : i.zero = some z)
    (hsize : i.size = size) (hby : i.bytes = bytes) (hzs : z.cells.size = size) (hsz : 0 < size)
    (v : Value) (n : Nat) (xs : List Value) (hs : a.eval s = v) (hown : w.ownsRow base e size v n xs)
    (A : Option Addr) (m c : Nat) (news : List Value) (hx : a.eval x = .slice A m c) (hl : news.length = m * size) (hnews : News w A m news) (h1 : ∀ u ∈ news, u.oneCell' = true)
    (h63 : n + m ≤ maxLen) (hbytes : (n + m) * bytes ≤ 140737488355328) (hbase : base ≤ w.heap.size)
    (h : ∀ v' w', w'.ownsRow base e size v' (n + m) (xs ++ news) → w.grownBy w' v.ownBlock → wpList P ops Q rest (a.put o.dst v') w') : wpList P ops Q (o :: rest) a w :=
  BigFrame.wpList_want hwt fun _ hK => wp_app w s x t ho base e i z size bytes ht hi hz hsize hby hzs hsz v n xs hs hown A m c news hx hl hnews h1 h63 hbytes hbase fun v' w' h2 h3 => hK _ _ (h v' w' h2 h3)
end
/-- behind the loop that adds the sizes up -/
theorem packs_end {w W : World} (bel : Below w.heap.size w W) (ht : Tab W) : Calls Tryd.prog 15 #[] W fun e w' => e = .returned (.bool true) ∧ Below w.heap.size w w' :=
  (packs_keep W ht).mono fun _ _ ⟨h1, h2⟩ => ⟨h1, bel.trans (h2.mono bel.size)⟩

set_option maxRecDepth 100000 in
set_option maxHeartbeats 4000000 in
theorem PackBack_any (l O M : List ByteArray) (lA oA mA : Option Addr) (lcp oc mc : Nat) (w : World) (hlx : Txs w w.heap.size lA l) (hO : Txs w w.heap.size oA O) (hM : Txs w w.heap.size mA M) (hzl : ∀ x ∈ l, x.size ≤ 140737488355328) (hz : ∀ x ∈ O, x.size ≤ 140737488355328) (hzm : ∀ x ∈ M, x.size ≤ 140737488355328)
    (hll : l.length ≤ 10000000) (hol : O.length ≤ 10000000) (hml : M.length ≤ 10000000) (ht : Tab w) :
    Calls Tryd.prog 5 #[.slice lA l.length lcp, .slice oA O.length oc, .slice mA M.length mc] w fun e w' => e = .returned (.bool true) ∧ Below w.heap.size w w' := by
  obtain ⟨si, hsi, sz0, sz1, sz2⟩ := info_parts info_str
  have Hsi := Lib.hid hsi
  have Sz0 := Lib.hid sz0
  have Sz1 := Lib.hid sz1
  have Sz2 := Lib.hid sz2
  clear hsi sz0 sz1 sz2
  have q := Lib.hid (Write_any l O lA oA lcp oc w hlx hO hz (by omega) (by omega) ht)
  by_cases hm : mayP l O = 0
  case neg =>
    have hm' : (mayP l O != 0) = true := by simpa using hm
    go_enter Tryd.func5, Tryd.ntmps5
    go_wp2_with fail
    (with_reducible refine q.out.mono ?_)
    clear q
    intro x w1 hx
    unfold WEnd WEndR at hx
    rw [if_pos hm] at hx
    obtain ⟨rfl, b1⟩ := hx
    generalize mayP l O = e at *
    have ht1 := ht.below b1 ht.1
    go_wp2_with fail
    (with_reducible refine (packs_keep w1 ht1).mono ?_)
    rintro _ w2 ⟨rfl, b2⟩
    go_wp2_with fail
    go_ret
    exact ⟨rfl, b1.trans (b2.mono b1.size)⟩
  obtain ⟨ha, hn4, ho4⟩ := addOk_may hm
  go_enter Tryd.func5, Tryd.ntmps5
  go_wp2_with fail
  (with_reducible refine q.out.mono ?_)
  clear q
  intro x w1 hx
  unfold WEnd WEndR at hx
  rw [hm, if_neg (by simp)] at hx
  obtain ⟨⟨D, b, hP, hz8, rfl⟩, b1⟩ := hx
  have hfl := front_len hP hz8 hn4
  have hbl := bulk_le _ hz8
  have HBack : Hid ((∀ b ∈ O, lastId (idOf b) (M ++ O) = some b) → readP (front l.length b ++ sha (front l.length b)) (M ++ O) = (l, 0)) := fun h => read_back hP ha hz8 hn4 h
  have ht1 := ht.below b1 ht.1
  have hS2 : (bs (front l.length b ++ sha (front l.length b))).size ≤ bulk l + 35 := by rw [bs_size]; exact hfl.1
  have hlist := bs_list (front l.length b ++ sha (front l.length b))
  generalize front l.length b ++ sha (front l.length b) = fs at *
  generalize bs fs = S at *
  subst hlist
  clear hm ha hfl hP hz8
  have n1 : News w1 mA M.length (M.map sv) := ((hM.below b1).mono b1.size).news
  go_wp2_with (at_builtin; refine wpList_app _ rfl _ _ 22 rfl w1.heap.size 9 si _ 1 16 Tryd.underlying22 Hsi.out Sz0.out Sz1.out Sz2.out rfl (by decide) _ _ _ rfl (own_nil _ _ _ _) mA M.length mc (M.map sv) rfl (by rw [List.length_map]; omega) n1 (sv_one _) (by unfold maxLen; omega) (by omega) (Nat.le_refl _) ?_)
  intro v2 w2 hown2 hg2
  have b2 : Below w1.heap.size w1 w2 := (Below.refl _ _).grown hg2 (Nat.le_refl _) (by intro k hk; cases hk)
  have bel2 := b1.trans (b2.mono b1.size)
  have n2 : News w2 oA O.length (O.map sv) := ((hO.below bel2).mono bel2.size).news
  clear n1 hg2
  go_wp2_with (at_builtin; refine wpList_app _ rfl _ _ 22 rfl w1.heap.size 9 si _ 1 16 Tryd.underlying22 Hsi.out Sz0.out Sz1.out Sz2.out rfl (by decide) _ _ _ rfl hown2 oA O.length oc (O.map sv) rfl (by rw [List.length_map]; omega) n2 (sv_one _) (by unfold maxLen; omega) (by omega) b2.size ?_)
  intro v3 w3 hown3 hg3
  have b3 : Below w1.heap.size w1 w3 := b2.grown hg3 b2.size (fun k hk => own_row_ge hown2 k hk)
  have bel3 := b1.trans (b3.mono b1.size)
  have hown3' : w3.ownsRow w1.heap.size 9 1 v3 (M ++ O).length ((M ++ O).map sv) := by rw [List.length_append, List.map_append]; exact hown3
  obtain ⟨A3, c3, hv3, _, t3, _⟩ := own_texts hown3'
  subst hv3
  have ht3 := ht.below bel3 ht.1
  clear n2 hg3 hown2 hown3 hown3' b2 b3 bel2 b1 ht1
  have hzz : ∀ x ∈ M ++ O, x.size ≤ 140737488355328 := fun x hx => by
    rcases List.mem_append.1 hx with h | h
    · exact hzm x h
    · exact hz x h
  have C1 := Lib.hid (Read_pack S (M ++ O) A3 c3 w3 (by omega) t3 hzz (by rw [List.length_append]; omega) ht3)
  rw [List.length_append] at C1
  clear hzz
  have hrl := readP_len S.data.toList (M ++ O)
  generalize hRR : readP S.data.toList (M ++ O) = R at *
  obtain ⟨T2, E⟩ := R
  have HRR := Lib.hid hRR
  clear hRR
  simp only at hrl
  go_wp2_with fail
  (with_reducible refine C1.out.mono ?_)
  clear C1
  rintro _ w4 ⟨A4, c4, rfl, hc4, t4, b4⟩
  have bel4 := bel3.trans (b4.mono bel3.size)
  have ht4 := ht3.below b4 ht3.1
  simp only at t4 hc4 ⊢
  clear bel3 ht3 b4 t3
  go_wp2_with fail
  go_loopw [11, 12] (fun vs i wr => ∃ k : Nat, k ≤ l.length ∧ i = .int .i64 (k : Int) ∧ vs = .int .i64 ((bulk (l.take k) : Nat) : Int) ∧ wr = w4) (fun _ i _ => l.length - (intOf i).toNat)
  case atStart => exact ⟨0, Nat.zero_le _, rfl, rfl, rfl⟩
  case round =>
    obtain ⟨k, hk, rfl, rfl, rfl⟩ := hrel
    have hbk := bulk_mono l k
    by_cases hlt : k < l.length
    · have hi : (k : Int) < l.length := by omega
      have hx : l[k]? = some l[k] := List.getElem?_eq_getElem hlt
      obtain ⟨ad, hA, hbl2, h0⟩ := hlx k l[k] hx
      subst hA
      have g0 := (bel4.cell hbl2).trans h0
      have HB := Lib.hid (bulk_take hx)
      have hbk2 := bulk_mono l (k + 1)
      rw [HB.out] at hbk2
      generalize l[k] = x at *
      generalize bulk (l.take k) = bk at *
      go_wp2_with fail
      go_roundw
      case rel => exact ⟨k + 1, hlt, by rw [Int.natCast_add]; rfl, by rw [HB.out]; simp only [Int.natCast_add]; rfl, (by first | rfl | trivial)⟩
      case measure => simp [intOf]; omega
    · obtain rfl : k = l.length := by omega
      have hi : ¬ (l.length : Int) < l.length := by omega
      rw [List.take_length] at hbk ⊢
      have hfit : (S.size : Int) ≤ (bulk l : Int) + 40 := by omega
      generalize bulk l = bk at *
      by_cases hE : E = 0
      · subst hE
        have CS := Lib.hid (keepStrings_any T2 l (by omega) (by omega) A4 lA c4 lcp wr t4 ((hlx.below bel4).mono bel4.size))
        cases hd : decide (T2 = l)
        · rw [hd] at CS
          have HNot : Hid (((T2, (0 : Int)) : List ByteArray × Int) ≠ (l, 0)) := fun e => by
            have := of_decide_eq_false hd
            exact this (Prod.mk.inj e).1
          clear hd
          go_wp2_with fail
          (with_reducible refine CS.out.mono ?_)
          clear CS
          rintro _ wq ⟨rfl, bq⟩
          replace bel4 := bel4.trans (bq.mono bel4.size)
          clear t4 ht4 bq
          have n5 : News wq lA l.length (l.map sv) := ((hlx.below bel4).mono bel4.size).news
          go_wp2_with (at_builtin; refine wpList_app_w _ rfl _ _ 22 rfl wq.heap.size 9 si _ 1 16 Tryd.underlying22 Hsi.out Sz0.out Sz1.out Sz2.out rfl (by decide) _ _ _ rfl (own_nil _ _ _ _) lA l.length lcp (l.map sv) rfl (by rw [List.length_map]; omega) n5 (sv_one _) (by unfold maxLen; omega) (by omega) (Nat.le_refl _) ?_)
          intro v5 w5 hown5 hg5
          have b5 : Below wq.heap.size wq w5 := (Below.refl _ _).grown hg5 (Nat.le_refl _) (by intro k hk; cases hk)
          have bel5 := bel4.trans (b5.mono bel4.size)
          have n6 : News w5 oA O.length (O.map sv) := ((hO.below bel5).mono bel5.size).news
          clear n5 hg5
          go_wp2_with (at_builtin; refine wpList_app_w _ rfl _ _ 22 rfl wq.heap.size 9 si _ 1 16 Tryd.underlying22 Hsi.out Sz0.out Sz1.out Sz2.out rfl (by decide) _ _ _ rfl hown5 oA O.length oc (O.map sv) rfl (by rw [List.length_map]; omega) n6 (sv_one _) (by unfold maxLen; omega) (by omega) b5.size ?_)
          intro v6 w6 hown6 hg6
          have b6 : Below wq.heap.size wq w6 := b5.grown hg6 b5.size (fun k hk => own_row_ge hown5 k hk)
          have bel6 := bel4.trans (b6.mono bel4.size)
          have n7 : News w6 mA M.length (M.map sv) := ((hM.below bel6).mono bel6.size).news
          clear n6 hg6 hown5 bel5 b5
          go_wp2_with (at_builtin; refine wpList_app_w _ rfl _ _ 22 rfl wq.heap.size 9 si _ 1 16 Tryd.underlying22 Hsi.out Sz0.out Sz1.out Sz2.out rfl (by decide) _ _ _ rfl hown6 mA M.length mc (M.map sv) rfl (by rw [List.length_map]; omega) n7 (sv_one _) (by unfold maxLen; omega) (by omega) b6.size ?_)
          intro v7 w7 hown7 hg7
          have b7 : Below wq.heap.size wq w7 := b6.grown hg7 b6.size (fun k hk => own_row_ge hown6 k hk)
          have bel7 := bel4.trans (b7.mono bel4.size)
          have hown7' : w7.ownsRow wq.heap.size 9 1 v7 (l ++ (O ++ M)).length ((l ++ (O ++ M)).map sv) := by rw [List.length_append, List.length_append, ← Nat.add_assoc, List.map_append, List.map_append]; exact hown7
          obtain ⟨A7, c7, hv7, _, t7, _⟩ := own_texts hown7'
          subst hv7
          have ht7 := ht.below bel7 ht.1
          clear n7 hg7 hown6 hown7 hown7' b6 bel6 b7
          have CT := Lib.hid (twins_any (l ++ (O ++ M)) A7 c7 (by simp only [List.length_append]; omega) (fun x hx => by
            rcases List.mem_append.1 hx with h | h
            · exact hzl x h
            · rcases List.mem_append.1 h with h | h
              · exact hz x h
              · exact hzm x h) w7 t7 ht7)
          rw [List.length_append, List.length_append] at CT
          go_wp2_with fail
          (with_reducible refine CT.out.mono ?_)
          clear CT
          rintro _ w8 ⟨⟨r, rfl, hr⟩, b8⟩
          obtain rfl : r = true := by
            cases r with
            | true => rfl
            | false =>
              have hH := twin_or (O := O) (M := M) (L := l ++ (O ++ M)) (fun x hx => by
                rcases List.mem_append.1 hx with h | h
                · exact List.mem_append_right _ (List.mem_append_right _ h)
                · exact List.mem_append_right _ (List.mem_append_left _ h)) (hr rfl)
              exact absurd (HBack.out hH) HNot.out
          have bel8 := bel7.trans (b8.mono bel7.size)
          have ht8 := ht.below bel8 ht.1
          clear hr b8 bel7 ht7 t7
          go_wp2_with fail
          (with_reducible refine (packs_keep w8 ht8).mono ?_)
          rintro _ w9 ⟨rfl, b9⟩
          go_wp2_with fail
          go_ret
          exact ⟨rfl, bel8.trans (b9.mono bel8.size)⟩
        · rw [hd] at CS
          clear hd HBack HRR
          go_wp2_with fail
          (with_reducible refine CS.out.mono ?_)
          clear CS
          rintro _ wq ⟨rfl, bq⟩
          have belq := bel4.trans (bq.mono bel4.size)
          have htq := ht4.below bq ht4.1
          go_wp2_with fail
          (with_reducible refine (packs_keep wq htq).mono ?_)
          rintro _ w9 ⟨rfl, b9⟩
          go_wp2_with fail
          go_ret
          exact ⟨rfl, belq.trans (b9.mono belq.size)⟩
      · have hE' : (E == 0) = false := by rw [beq_eq_false_iff_ne]; exact hE
        have HNot : Hid (((T2, E) : List ByteArray × Int) ≠ (l, 0)) := fun e => hE (Prod.mk.inj e).2
        clear hE
        have n5 : News wr lA l.length (l.map sv) := ((hlx.below bel4).mono bel4.size).news
        go_wp2_with (at_builtin; refine wpList_app_w _ rfl _ _ 22 rfl wr.heap.size 9 si _ 1 16 Tryd.underlying22 Hsi.out Sz0.out Sz1.out Sz2.out rfl (by decide) _ _ _ rfl (own_nil _ _ _ _) lA l.length lcp (l.map sv) rfl (by rw [List.length_map]; omega) n5 (sv_one _) (by unfold maxLen; omega) (by omega) (Nat.le_refl _) ?_)
        intro v5 w5 hown5 hg5
        have b5 : Below wr.heap.size wr w5 := (Below.refl _ _).grown hg5 (Nat.le_refl _) (by intro k hk; cases hk)
        have bel5 := bel4.trans (b5.mono bel4.size)
        have n6 : News w5 oA O.length (O.map sv) := ((hO.below bel5).mono bel5.size).news
        clear n5 hg5
        go_wp2_with (at_builtin; refine wpList_app_w _ rfl _ _ 22 rfl wr.heap.size 9 si _ 1 16 Tryd.underlying22 Hsi.out Sz0.out Sz1.out Sz2.out rfl (by decide) _ _ _ rfl hown5 oA O.length oc (O.map sv) rfl (by rw [List.length_map]; omega) n6 (sv_one _) (by unfold maxLen; omega) (by omega) b5.size ?_)
        intro v6 w6 hown6 hg6
        have b6 : Below wr.heap.size wr w6 := b5.grown hg6 b5.size (fun k hk => own_row_ge hown5 k hk)
        have bel6 := bel4.trans (b6.mono bel4.size)
        have n7 : News w6 mA M.length (M.map sv) := ((hM.below bel6).mono bel6.size).news
        clear n6 hg6 hown5 bel5 b5
        go_wp2_with (at_builtin; refine wpList_app_w _ rfl _ _ 22 rfl wr.heap.size 9 si _ 1 16 Tryd.underlying22 Hsi.out Sz0.out Sz1.out Sz2.out rfl (by decide) _ _ _ rfl hown6 mA M.length mc (M.map sv) rfl (by rw [List.length_map]; omega) n7 (sv_one _) (by unfold maxLen; omega) (by omega) b6.size ?_)
        intro v7 w7 hown7 hg7
        have b7 : Below wr.heap.size wr w7 := b6.grown hg7 b6.size (fun k hk => own_row_ge hown6 k hk)
        have bel7 := bel4.trans (b7.mono bel4.size)
        have hown7' : w7.ownsRow wr.heap.size 9 1 v7 (l ++ (O ++ M)).length ((l ++ (O ++ M)).map sv) := by rw [List.length_append, List.length_append, ← Nat.add_assoc, List.map_append, List.map_append]; exact hown7
        obtain ⟨A7, c7, hv7, _, t7, _⟩ := own_texts hown7'
        subst hv7
        have ht7 := ht.below bel7 ht.1
        clear n7 hg7 hown6 hown7 hown7' b6 bel6 b7
        have CT := Lib.hid (twins_any (l ++ (O ++ M)) A7 c7 (by simp only [List.length_append]; omega) (fun x hx => by
          rcases List.mem_append.1 hx with h | h
          · exact hzl x h
          · rcases List.mem_append.1 h with h | h
            · exact hz x h
            · exact hzm x h) w7 t7 ht7)
        rw [List.length_append, List.length_append] at CT
        go_wp2_with fail
        (with_reducible refine CT.out.mono ?_)
        clear CT
        rintro _ w8 ⟨⟨r, rfl, hr⟩, b8⟩
        obtain rfl : r = true := by
          cases r with
          | true => rfl
          | false =>
            have hH := twin_or (O := O) (M := M) (L := l ++ (O ++ M)) (fun x hx => by
              rcases List.mem_append.1 hx with h | h
              · exact List.mem_append_right _ (List.mem_append_right _ h)
              · exact List.mem_append_right _ (List.mem_append_left _ h)) (hr rfl)
            exact absurd (HBack.out hH) HNot.out
        have bel8 := bel7.trans (b8.mono bel7.size)
        have ht8 := ht.below bel8 ht.1
        clear hr b8 bel7 ht7 t7
        go_wp2_with fail
        (with_reducible refine (packs_keep w8 ht8).mono ?_)
        rintro _ w9 ⟨rfl, b9⟩
        go_wp2_with fail
        go_ret
        exact ⟨rfl, bel8.trans (b9.mono bel8.size)⟩
end Go.Proofs.YtoklgliepepbgaaDoor
