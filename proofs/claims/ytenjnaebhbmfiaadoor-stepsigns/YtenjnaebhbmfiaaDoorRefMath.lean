/- Texts in one: SpRefG, SpRefB, RefMath. -/
import Derived.Test.YtenjnaebhbmfiaaDoorSpSearch
import Derived.Test.YtenjnaebhbmfiaaDoorRfRefB
import Derived.Test.YtenjnaebhbmfiaaDoorWLaw
import Derived.Deep.RegionHeld3
import Derived.Test.YtenjnaebhbmfiaaDoorShb
/- ref.GoodStep: its contract. -/
namespace Go.Proofs.YtenjnaebhbmfiaaDoor
open Go.RowKit

/-- where the document's own loop stands -/
def GrRelS (w : World) (s : Sp) (p : SpAt) (v i : Value) (wr : World) : Prop :=
  ∃ (k : Nat) (b : Int), k ≤ s.who.length ∧ v = .int .i64 b ∧ i = .int .i64 (k : Int) ∧ Sx w s p wr ∧ gdS (-1) s.prs = gdS b (s.prs.drop k)
set_option maxRecDepth 100000 in
set_option maxHeartbeats 1000000 in
theorem GoodStep_any (s : Sp) (p : SpAt) (w : World) (hP : SpIn w w.heap.size s p) (hr : s.ref.size ≤ 140737488355328) (hb : s.who.length ≤ 140737488355328) (_ : s.seals.length ≤ 140737488355328) :
    Calls Tryd.prog 15 #[.agg (spArr s p)] w fun e w' => e = .returned (.int .i64 (spGood s)) ∧ Below w.heap.size w w' := by
  obtain ⟨wa, wc, sa, sc⟩ := p
  have h1 := Lib.hid (Sx.start hP)
  have CN := Lib.hid (fun V => RefNameR_any s.ref (by omega) V)
  have CO := Lib.hid (fun V => maybe_any s.old V)
  have CI := Lib.hid (fun V => maybe_any s.new V)
  have HQ := same_lists s.old s.new
  have hG : spGood s = if !spForm s then 2 else if 8 < s.who.length ∨ s.seals.length ≠ s.who.length then 6 else gdS (-1) s.prs := rfl
  unfold spForm at hG
  have HG := Lib.hid hG
  clear hG
  generalize spGood s = G at *
  generalize hA : spArr s ⟨wa, wc, sa, sc⟩ = arr at *
  have HA := Lib.hid hA
  clear hA
  go_enter Tryd.func15, Tryd.ntmps15
  go_upto_region 1 with fail
  refine wp_forget (Sx w s ⟨wa, wc, sa, sc⟩) h1.out ?_
  clear h1 hP
  intro W hW
  have hA := HA.out
  clear HA
  subst hA
  obtain ⟨c0, _, _, _, _⟩ := hW.c
  cases hn : namedR s.ref
  · rw [hn] at CN HG
    go_wp2_with fail
    (with_reducible refine (CN.out W).mono ?_)
    rintro _ V ⟨rfl, b1⟩
    have hV := hW.below b1
    go_wp2_with fail
    go_ret
    exact ⟨by rw [HG.out]; rfl, hV.2.2⟩
  rw [hn] at CN HG
  cases ho : isId s.old
  · rw [ho] at CO HG
    go_wp2_with fail
    (with_reducible refine (CN.out W).mono ?_)
    rintro _ V ⟨rfl, b1⟩
    have hV := hW.below b1
    clear c0 b1 hW
    obtain ⟨_, c1, _, _, _⟩ := hV.c
    go_wp2_with fail
    (with_reducible refine (CO.out V).mono ?_)
    rintro _ V ⟨rfl, rfl⟩
    go_wp2_with fail
    go_ret
    exact ⟨by rw [HG.out]; rfl, hV.2.2⟩
  rw [ho] at CO HG
  cases hi : isId s.new
  · rw [hi] at CI HG
    go_wp2_with fail
    (with_reducible refine (CN.out W).mono ?_)
    rintro _ V ⟨rfl, b1⟩
    have hV := hW.below b1
    clear c0 b1 hW
    obtain ⟨_, c1, c2, _, _⟩ := hV.c
    go_wp2_with fail
    (with_reducible refine (CO.out V).mono ?_)
    rintro _ V ⟨rfl, rfl⟩
    go_wp2_with fail
    (with_reducible refine (CI.out _).mono ?_)
    rintro _ V ⟨rfl, rfl⟩
    go_wp2_with fail
    go_ret
    exact ⟨by rw [HG.out]; rfl, hV.2.2⟩
  rw [hi] at CI HG
  by_cases he : s.old = s.new
  · rw [decide_eq_true he] at HG HQ
    clear he
    go_wp2_with fail
    (with_reducible refine (CN.out W).mono ?_)
    rintro _ V ⟨rfl, b1⟩
    have hV := hW.below b1
    clear c0 b1 hW
    obtain ⟨_, c1, c2, _, _⟩ := hV.c
    go_wp2_with fail
    (with_reducible refine (CO.out V).mono ?_)
    rintro _ V ⟨rfl, rfl⟩
    go_wp2_with fail
    (with_reducible refine (CI.out _).mono ?_)
    rintro _ V ⟨rfl, rfl⟩
    go_wp2_with fail
    go_ret
    exact ⟨by rw [HG.out]; rfl, hV.2.2⟩
  rw [decide_eq_false he] at HG HQ
  clear he hn ho hi
  have HG2 : Hid (G = if 8 < s.who.length ∨ s.seals.length ≠ s.who.length then 6 else gdS (-1) s.prs) := HG.out
  clear HG
  by_cases h8 : 8 < s.who.length
  · have HG3 : Hid (G = 6) := by show _ = _; rw [HG2.out, if_pos (.inl h8)]
    have hi8 : (8 : Int) < s.who.length := by omega
    go_wp2_with fail
    (with_reducible refine (CN.out W).mono ?_)
    rintro _ V ⟨rfl, b1⟩
    have hV := hW.below b1
    clear c0 b1 hW
    obtain ⟨_, c1, c2, c3, _⟩ := hV.c
    go_wp2_with fail
    (with_reducible refine (CO.out V).mono ?_)
    rintro _ V ⟨rfl, rfl⟩
    go_wp2_with fail
    (with_reducible refine (CI.out _).mono ?_)
    rintro _ V ⟨rfl, rfl⟩
    go_wp2_with fail
    go_ret
    exact ⟨by rw [HG3.out]; rfl, hV.2.2⟩
  have hi8 : ¬ (8 : Int) < s.who.length := by omega
  by_cases hl : s.seals.length ≠ s.who.length
  · have HG3 : Hid (G = 6) := by show _ = _; rw [HG2.out, if_pos (.inr hl)]
    have hli : ((s.seals.length : Int) != s.who.length) = true := by rw [bne_iff_ne]; omega
    go_wp2_with fail
    (with_reducible refine (CN.out W).mono ?_)
    rintro _ V ⟨rfl, b1⟩
    have hV := hW.below b1
    clear c0 b1 hW
    obtain ⟨_, c1, c2, c3, c4⟩ := hV.c
    go_wp2_with fail
    (with_reducible refine (CO.out V).mono ?_)
    rintro _ V ⟨rfl, rfl⟩
    go_wp2_with fail
    (with_reducible refine (CI.out _).mono ?_)
    rintro _ V ⟨rfl, rfl⟩
    go_wp2_with fail
    go_ret
    exact ⟨by rw [HG3.out]; rfl, hV.2.2⟩
  replace hl : s.seals.length = s.who.length := Decidable.byContradiction hl
  have hli : ((s.seals.length : Int) != s.who.length) = false := by rw [hl]; simp
  have HG3 : Hid (G = gdS (-1) s.prs) := by show _ = _; rw [HG2.out, if_neg (by omega)]
  clear HG2
  go_wp2_with fail
  (with_reducible refine (CN.out W).mono ?_)
  rintro _ V ⟨rfl, b1⟩
  have hV := hW.below b1
  clear c0 b1 hW
  obtain ⟨_, c1, c2, c3, c4⟩ := hV.c
  go_wp2_with fail
  (with_reducible refine (CO.out V).mono ?_)
  rintro _ V ⟨rfl, rfl⟩
  go_wp2_with fail
  (with_reducible refine (CI.out _).mono ?_)
  rintro _ V ⟨rfl, rfl⟩
  go_wp2_with fail
  have hst : Hid (GrRelS w s ⟨wa, wc, sa, sc⟩ (.int .i64 (-1)) (.int .i64 0) V) := ⟨0, -1, Nat.zero_le _, rfl, rfl, hV, by rw [List.drop_zero]⟩
  clear hV c1 c2 c3 c4 CN CO CI HQ
  go_loopw [3, 45] (fun b i wr => GrRelS w s ⟨wa, wc, sa, sc⟩ b i wr) (fun _ i _ => s.who.length - (intOf i).toNat)
  case atStart => exact hst.out
  case round =>
    clear hst
    obtain ⟨k, b, hk, rfl, rfl, hX, hE⟩ := hrel
    by_cases hlt : k < s.who.length
    · have hj : (k : Int) < s.who.length := by omega
      have hlt2 : k < s.seals.length := by omega
      obtain ⟨ad, rfl, hbl, g0⟩ := hX.2.1.nums k s.who[k] (List.getElem?_eq_getElem hlt)
      obtain ⟨ad2, rfl, hbl2, g1⟩ := hX.2.1.txs k s.seals[k] (List.getElem?_eq_getElem hlt2)
      rw [prs_next hl hlt, gdS] at hE
      simp only at hE
      generalize s.who[k] = x at *
      generalize s.seals[k] = t at *
      have HE := Lib.hid hE
      clear hE
      obtain ⟨_, _, _, c3, c4⟩ := hX.c
      by_cases hxb : x ≤ b
      · have HE2 : Hid (gdS (-1) s.prs = 3) := by show _ = _; rw [HE.out, if_pos (.inl hxb)]
        clear HE
        go_wp2_with fail
        go_ret
        exact ⟨by rw [HG3.out, HE2.out]; rfl, hX.2.2⟩
      by_cases hx7 : 7 < x
      · have HE2 : Hid (gdS (-1) s.prs = 3) := by show _ = _; rw [HE.out, if_pos (.inr hx7)]
        clear HE
        go_wp2_with fail
        go_ret
        exact ⟨by rw [HG3.out, HE2.out]; rfl, hX.2.2⟩
      by_cases ht : t.size ≠ 32
      · have hti : ((t.size : Int) != 32) = true := by rw [bne_iff_ne]; omega
        have HE2 : Hid (gdS (-1) s.prs = 2) := by show _ = _; rw [HE.out, if_neg (by omega), if_pos ht]
        clear HE
        go_wp2_with fail
        go_ret
        exact ⟨by rw [HG3.out, HE2.out]; rfl, hX.2.2⟩
      · have hti : ((t.size : Int) != 32) = false := by rw [bne_eq_false_iff_eq]; omega
        have HE2 : Hid (gdS (-1) s.prs = gdS x (s.prs.drop (k + 1))) := by show _ = _; rw [HE.out, if_neg (by omega), if_neg ht]
        clear HE
        go_wp2_with fail
        go_roundw
        case rel => exact ⟨k + 1, x, hlt, rfl, by rw [Int.natCast_add]; rfl, hX, HE2.out⟩
        case measure => simp [intOf]; omega
    · obtain rfl : k = s.who.length := by omega
      have hj : ¬ (s.who.length : Int) < s.who.length := by omega
      have hd : s.prs.drop s.who.length = [] := List.drop_of_length_le (Nat.le_of_eq (prs_len hl))
      rw [hd] at hE
      have HE := Lib.hid hE
      clear hE
      obtain ⟨_, _, _, c3, c4⟩ := hX.c
      go_wp2_with fail
      go_ret
      exact ⟨by rw [HG3.out, HE.out]; rfl, hX.2.2⟩
end Go.Proofs.YtenjnaebhbmfiaaDoor

/- ref.Body: its contract. -/
namespace Go.Proofs.YtenjnaebhbmfiaaDoor
open Go.RowKit

theorem sp_txt (s : ByteArray) : bs (num s.size) ++ s = bs (txt s) := by
  apply bytes_eq
  rw [append_list, bs_list, bs_list]
  rfl
theorem sp_app (a b : List UInt8) : bs a ++ bs b = bs (a ++ b) := by
  apply bytes_eq
  rw [append_list, bs_list, bs_list, bs_list]
theorem spText_bs (s : ByteArray) (hs : s.size ≤ 281474976710656) (w : World) :
    Calls Tryd.prog 32 #[.string s] w fun e w' => e = .returned (.string (bs (txt s))) ∧ Below w.heap.size w w' := by
  have q := RefText_any s hs w
  rw [sp_txt] at q
  exact q
set_option maxRecDepth 100000 in
set_option maxHeartbeats 4000000 in
theorem RefBody_any (i : Int) (s : Sp) (p : SpAt) (w : World) :
    Calls Tryd.prog 16 #[.int .i64 i, .agg (spArr s p)] w fun e w' => e = .returned (.tuple #[.string (spBody i s).1, .int .i64 (spBody i s).2]) ∧ Below w.heap.size w w' := by
  have hE : spBody i s = if i < 0 ∨ 199 < i then (⟨#[]⟩, 3) else if spLong s then (⟨#[]⟩, 1) else (bs (spBodyL i.toNat s), 0) := rfl
  have HE := Lib.hid hE
  clear hE
  generalize spBody i s = R at *
  have h1 : Hid (Arr (w.alloc (.cells (spArr s p) 25)) w.heap.size 25 (spArr s p) ∧ Below w.heap.size w (w.alloc (.cells (spArr s p) 25))) := ⟨Arr.new _ _ _, (Below.refl _ _).alloc (Nat.le_refl _) _⟩
  by_cases h0 : i < 0
  · have HE2 : Hid (R = (⟨#[]⟩, 3)) := by show _ = _; rw [HE.out, if_pos (.inl h0)]
    clear HE h1
    generalize hA : spArr s p = arr at *
    go_enter Tryd.func16, Tryd.ntmps16
    go_wp2_with fail
    go_ret2
    exact ⟨by rw [HE2.out]; rfl, (Below.refl _ _).alloc (Nat.le_refl _) _⟩
  by_cases h2 : 199 < i
  · have HE2 : Hid (R = (⟨#[]⟩, 3)) := by show _ = _; rw [HE.out, if_pos (.inr (by omega))]
    clear HE h1
    generalize hA : spArr s p = arr at *
    go_enter Tryd.func16, Tryd.ntmps16
    go_wp2_with fail
    go_ret2
    exact ⟨by rw [HE2.out]; rfl, (Below.refl _ _).alloc (Nat.le_refl _) _⟩
  have HE2 : Hid (R = if spLong s then (⟨#[]⟩, 1) else (bs (spBodyL i.toNat s), 0)) := by show _ = _; rw [HE.out, if_neg (by omega)]
  clear HE
  obtain ⟨n, rfl⟩ := Int.eq_ofNat_of_zero_le (show 0 ≤ i by omega)
  rw [Int.toNat_natCast] at HE2
  have hl : spLong s = (4096 < s.ref.size ∨ 4096 < s.old.size ∨ 4096 < s.new.size) := rfl
  generalize hA : spArr s p = arr at *
  have HA := Lib.hid hA
  clear hA
  go_enter Tryd.func16, Tryd.ntmps16
  go_upto_region 3 with fail
  refine wp_forget (fun W => Arr W w.heap.size 25 arr ∧ Below w.heap.size w W) h1.out ?_
  clear h1
  rintro W ⟨AX, b0⟩
  have hA := HA.out
  clear HA
  subst hA
  have c0 : W.cell? ⟨w.heap.size, 0, none⟩ = some (.string s.ref) := AX.cell 0
  have c1 : W.cell? ⟨w.heap.size, 1, none⟩ = some (.string s.old) := AX.cell 1
  have c2 : W.cell? ⟨w.heap.size, 2, none⟩ = some (.string s.new) := AX.cell 2
  by_cases l1 : 4096 < s.ref.size
  · have HE3 : Hid (R = (⟨#[]⟩, 1)) := by show _ = _; rw [HE2.out, if_pos (by rw [hl]; exact .inl l1)]
    have li : (4096 : Int) < s.ref.size := by omega
    clear HE2 hl
    go_wp2_with fail
    go_ret2
    exact ⟨by rw [HE3.out]; rfl, b0⟩
  have li1 : ¬ (4096 : Int) < s.ref.size := by omega
  by_cases l2 : 4096 < s.old.size
  · have HE3 : Hid (R = (⟨#[]⟩, 1)) := by show _ = _; rw [HE2.out, if_pos (by rw [hl]; exact .inr (.inl l2))]
    have li : (4096 : Int) < s.old.size := by omega
    clear HE2 hl
    go_wp2_with fail
    go_ret2
    exact ⟨by rw [HE3.out]; rfl, b0⟩
  have li2 : ¬ (4096 : Int) < s.old.size := by omega
  by_cases l3 : 4096 < s.new.size
  · have HE3 : Hid (R = (⟨#[]⟩, 1)) := by show _ = _; rw [HE2.out, if_pos (by rw [hl]; exact .inr (.inr l3))]
    have li : (4096 : Int) < s.new.size := by omega
    clear HE2 hl
    go_wp2_with fail
    go_ret2
    exact ⟨by rw [HE3.out]; rfl, b0⟩
  have li3 : ¬ (4096 : Int) < s.new.size := by omega
  have HE3 : Hid (R = (bs (num n) ++ bs (txt s.ref) ++ bs (txt s.old) ++ bs (txt s.new), 0)) := by
    show _ = _
    rw [HE2.out, if_neg (by rw [hl]; omega), sp_app, sp_app, sp_app]
    rfl
  have CN := Lib.hid (RefNumber_yes n (by omega))
  have C1 := Lib.hid (spText_bs s.ref (by omega))
  have C2 := Lib.hid (spText_bs s.old (by omega))
  have C3 := Lib.hid (spText_bs s.new (by omega))
  have n0 : (bs (num n)).size ≤ 9 := by rw [bs_size]; exact num_len9 _ (by omega)
  have n1 : (bs (txt s.ref)).size ≤ 4099 := by rw [bs_size]; exact txt_len _ (by omega)
  have n2 : (bs (txt s.old)).size ≤ 4099 := by rw [bs_size]; exact txt_len _ (by omega)
  have n3 : (bs (txt s.new)).size ≤ 4099 := by rw [bs_size]; exact txt_len _ (by omega)
  generalize bs (num n) = T0 at *
  generalize bs (txt s.ref) = T1 at *
  generalize bs (txt s.old) = T2 at *
  generalize bs (txt s.new) = T3 at *
  clear HE2 hl
  have k1 : ¬ (9223372036854775807 < T0.size + T1.size) := by omega
  have k2 : ¬ (9223372036854775807 < T0.size + T1.size + T2.size) := by omega
  have k3 : ¬ (9223372036854775807 < T0.size + T1.size + T2.size + T3.size) := by omega
  go_wp2_with fail
  go_region_held (fun w' => w'.cell? ⟨w.heap.size, 0, none⟩ = some (.string s.ref) ∧ w'.cell? ⟨w.heap.size, 1, none⟩ = some (.string s.old) ∧ w'.cell? ⟨w.heap.size, 2, none⟩ = some (.string s.new))
    (first | exact ⟨c0, c1, c2⟩ | exact hV1 | exact hV2 | exact hV3 | exact hV4)
    (first
      | (go_at_call 31
         (with_reducible refine (CN.out _).mono ?_)
         rintro _ W4 ⟨rfl, b4⟩
         have hY4 := AX.drew.below b4 AX.lt
         have hV1 := (⟨hY4.cell 0, hY4.cell 1, hY4.cell 2⟩ : W4.cell? ⟨w.heap.size, 0, none⟩ = some (.string s.ref) ∧ W4.cell? ⟨w.heap.size, 1, none⟩ = some (.string s.old) ∧ W4.cell? ⟨w.heap.size, 2, none⟩ = some (.string s.new)))
      | (go_at_call 32
         (with_reducible refine (C1.out _).mono ?_)
         rintro _ W5 ⟨rfl, b5⟩
         have hY5 := hY4.below b5 hY4.lt
         have hV2 := (⟨hY5.cell 0, hY5.cell 1, hY5.cell 2⟩ : W5.cell? ⟨w.heap.size, 0, none⟩ = some (.string s.ref) ∧ W5.cell? ⟨w.heap.size, 1, none⟩ = some (.string s.old) ∧ W5.cell? ⟨w.heap.size, 2, none⟩ = some (.string s.new)))
      | (go_at_call 32
         (with_reducible refine (C2.out _).mono ?_)
         rintro _ W6 ⟨rfl, b6⟩
         have hY6 := hY5.below b6 hY5.lt
         have hV3 := (⟨hY6.cell 0, hY6.cell 1, hY6.cell 2⟩ : W6.cell? ⟨w.heap.size, 0, none⟩ = some (.string s.ref) ∧ W6.cell? ⟨w.heap.size, 1, none⟩ = some (.string s.old) ∧ W6.cell? ⟨w.heap.size, 2, none⟩ = some (.string s.new)))
      | (go_at_call 32
         (with_reducible refine (C3.out _).mono ?_)
         rintro _ W7 ⟨rfl, b7⟩
         have hY7 := hY6.below b7 hY6.lt
         have hV4 := (⟨hY7.cell 0, hY7.cell 1, hY7.cell 2⟩ : W7.cell? ⟨w.heap.size, 0, none⟩ = some (.string s.ref) ∧ W7.cell? ⟨w.heap.size, 1, none⟩ = some (.string s.old) ∧ W7.cell? ⟨w.heap.size, 2, none⟩ = some (.string s.new))))
  all_goals
    go_wp2_with fail
    go_ret2
    have bb4 : Below w.heap.size w W4 := b0.drew.trans (b4.mono b0.drew.size)
    have bb5 := bb4.trans (b5.mono bb4.size)
    have bb6 := bb5.trans (b6.mono bb5.size)
    exact ⟨by rw [HE3.out]; rfl, bb6.trans (b7.mono bb6.size)⟩
end Go.Proofs.YtenjnaebhbmfiaaDoor

/- Plain mathematics of the document's own reckoning: a ring of sixteen words; the choice and the majority in other words. No program is named here. -/
namespace Go.Proofs.YtenjnaebhbmfiaaDoor

theorem sched_keep (l : List UInt8) (n : Nat) : ∀ d i, i < n + 16 → (schedTo l (n + d)).getD i 0 = (schedTo l n).getD i 0 := by
  intro d
  induction d with
  | zero => intro i _; rfl
  | succ d ih =>
    intro i hi
    rw [← Nat.add_assoc, schedTo, List.getD_eq_getElem?_getD, List.getElem?_set_ne (by omega), ← List.getD_eq_getElem?_getD]
    exact ih i hi
theorem sched_rec (l : List UInt8) (n : Nat) (h : n < 48) : (schedTo l 48).getD (n + 16) 0 =
    (schedTo l 48).getD n 0 + sig0 ((schedTo l 48).getD (n + 1) 0) + (schedTo l 48).getD (n + 9) 0 + sig1 ((schedTo l 48).getD (n + 14) 0) := by
  have k := fun i hi => sched_keep l n (48 - n) i hi
  have k1 := sched_keep l (n + 1) (48 - (n + 1)) (n + 16) (by omega)
  rw [show n + (48 - n) = 48 from by omega] at k
  rw [show n + 1 + (48 - (n + 1)) = 48 from by omega] at k1
  rw [k n (by omega), k (n + 1) (by omega), k (n + 9) (by omega), k (n + 14) (by omega), k1, schedTo, List.getD_eq_getElem?_getD, List.getElem?_set_self (by rw [schedTo_length]; omega)]
  rfl

/-- which word lies at place j of the ring, m words having been taken in -/
def idx (m j : Nat) : Nat := m - 1 - (m - 1 - j) % 16
def ring (S : List UInt32) (m : Nat) : List UInt32 := (List.range 16).map fun j => S.getD (idx m j) 0
theorem ring_length (S : List UInt32) (m : Nat) : (ring S m).length = 16 := by simp [ring]
theorem ring_at (S : List UInt32) (m j : Nat) (h : j < 16) : (ring S m).getD j 0 = S.getD (idx m j) 0 := by
  simp [ring, h]
theorem ring_first (S : List UInt32) (h : S.length = 64) : ring S 16 = S.take 16 := by
  apply List.ext_getElem?
  intro j
  by_cases hj : j < 16
  · have e : idx 16 j = j := by unfold idx; omega
    simp [ring, hj, e]
    rw [List.getElem?_eq_getElem (by omega)]
    rfl
  · rw [List.getElem?_eq_none (by rw [ring_length]; omega), List.getElem?_eq_none (by simp; omega)]
theorem ring_own (S : List UInt32) (i : Nat) (h : 16 ≤ i) : (ring S i).getD (i % 16) 0 = S.getD (i - 16) 0 := by
  rw [ring_at _ _ _ (by omega)]; congr 1; unfold idx; omega
theorem ring_1 (S : List UInt32) (i : Nat) (h : 16 ≤ i) : (ring S i).getD ((i + 1) % 16) 0 = S.getD (i - 15) 0 := by
  rw [ring_at _ _ _ (by omega)]; congr 1; unfold idx; omega
theorem ring_9 (S : List UInt32) (i : Nat) (h : 16 ≤ i) : (ring S i).getD ((i + 9) % 16) 0 = S.getD (i - 7) 0 := by
  rw [ring_at _ _ _ (by omega)]; congr 1; unfold idx; omega
theorem ring_14 (S : List UInt32) (i : Nat) (h : 16 ≤ i) : (ring S i).getD ((i + 14) % 16) 0 = S.getD (i - 2) 0 := by
  rw [ring_at _ _ _ (by omega)]; congr 1; unfold idx; omega
theorem ring_next (S : List UInt32) (i : Nat) (h : 16 ≤ i) : (ring S i).set (i % 16) (S.getD i 0) = ring S (i + 1) := by
  apply List.ext_getElem?
  intro j
  rw [List.getElem?_set, ring_length]
  by_cases hj : j < 16
  · by_cases e : i % 16 = j
    · subst e
      have e2 : idx (i + 1) (i % 16) = i := by unfold idx; omega
      simp [ring, hj, e2]
    · have e2 : idx (i + 1) j = idx i j := by unfold idx; omega
      simp [ring, hj, e, e2]
  · rw [if_neg (by omega), List.getElem?_eq_none (by rw [ring_length]; omega), List.getElem?_eq_none (by rw [ring_length]; omega)]
theorem ring_new (S : List UInt32) (i : Nat) : (ring S (i + 1)).getD (i % 16) 0 = S.getD i 0 ∨ i < 16 := by
  by_cases h : i < 16
  · exact .inr h
  · rw [ring_at _ _ _ (by omega)]; left; congr 1; unfold idx; omega

theorem choice_eq (e f g : UInt32) : g ^^^ (e &&& (f ^^^ g)) = (e &&& f) ^^^ (~~~e &&& g) := by
  apply UInt32.toBitVec_inj.1
  apply BitVec.eq_of_getLsbD_eq
  intro i hi
  simp only [UInt32.toBitVec_xor, UInt32.toBitVec_and, UInt32.toBitVec_not, BitVec.getLsbD_xor, BitVec.getLsbD_and, BitVec.getLsbD_not, hi, decide_true, Bool.true_and]
  generalize e.toBitVec.getLsbD i = a
  generalize f.toBitVec.getLsbD i = b
  generalize g.toBitVec.getLsbD i = c
  cases a <;> cases b <;> cases c <;> rfl
theorem major_eq (a b c : UInt32) : (a &&& b) ||| (c &&& (a ||| b)) = (a &&& b) ^^^ (a &&& c) ^^^ (b &&& c) := by
  apply UInt32.toBitVec_inj.1
  apply BitVec.eq_of_getLsbD_eq
  intro i hi
  simp only [UInt32.toBitVec_xor, UInt32.toBitVec_and, UInt32.toBitVec_or, BitVec.getLsbD_xor, BitVec.getLsbD_and, BitVec.getLsbD_or]
  generalize a.toBitVec.getLsbD i = x
  generalize b.toBitVec.getLsbD i = y
  generalize c.toBitVec.getLsbD i = z
  cases x <;> cases y <;> cases z <;> rfl
/-- the round in the document's own words -/
theorem round_ref (k w : UInt32) (s : H8) :
    s.h + (rotr s.e 6 ^^^ rotr s.e 11 ^^^ rotr s.e 25) + (s.g ^^^ (s.e &&& (s.f ^^^ s.g))) + k + w = rx k w s ∧
    rx k w s + (rotr s.a 2 ^^^ rotr s.a 13 ^^^ rotr s.a 22) + ((s.a &&& s.b) ||| (s.c &&& (s.a ||| s.b))) = (round k w s).a := by
  constructor
  · rw [choice_eq]; rfl
  · rw [major_eq, UInt32.add_assoc]; rfl
end Go.Proofs.YtenjnaebhbmfiaaDoor
