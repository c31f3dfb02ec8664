/- Texts in one: SpRefG, SpWrite, SpCcI, SpCcT, SpCat. -/
import Derived.Test.YtbpmgpbmeganoaaDoorDkCh2
import Derived.Test.YtbpmgpbmeganoaaDoorRfRefB
import Derived.Test.YtbpmgpbmeganoaaDoorSpMem
import Derived.Test.YtbpmgpbmeganoaaDoorRfConcat
/- ref.GoodStep: its contract. -/
namespace Go.Proofs.YtbpmgpbmeganoaaDoor
open Go.RowKit

/-- where the document's own loop stands -/
def GrRelS (w : World) (s : Sp) (p : SpAt) (v i : Value) (wr : World) : Prop :=
  ∃ (k : Nat) (b : Int), k ≤ s.who.length ∧ v = .int .i64 b ∧ i = .int .i64 (k : Int) ∧ Sx w s p wr ∧ gdS (-1) s.prs = gdS b (s.prs.drop k)
set_option maxRecDepth 100000 in
set_option maxHeartbeats 1000000 in
theorem GoodStep_any (s : Sp) (p : SpAt) (w : World) (hP : SpIn w w.heap.size s p) (hr : s.ref.size ≤ 140737488355328) (hb : s.who.length ≤ 140737488355328) (_ : s.seals.length ≤ 140737488355328) :
    Calls Tryd.prog 19 #[.agg (spArr s p)] w fun e w' => e = .returned (.int .i64 (spGood s)) ∧ Below w.heap.size w w' := by
  obtain ⟨wa, wc, sa, sc⟩ := p
  have h1 := Lib.hid (Sx.start hP)
  have CN := Lib.hid (fun V => RefNameR_any s.ref (by omega) V)
  have CO := Lib.hid (fun V => maybe_any s.old V)
  have CI := Lib.hid (fun V => maybe_any s.new V)
  have HQ := same_lists s.old s.new
  have hG : spGood s = if !spForm s then 2 else if 8 < s.who.length ∨ s.seals.length ≠ s.who.length then 6 else gdS (-1) s.prs := rfl
  unfold spForm at hG
  have HG := Lib.hid hG
  clear hG
  generalize spGood s = G at *
  generalize hA : spArr s ⟨wa, wc, sa, sc⟩ = arr at *
  have HA := Lib.hid hA
  clear hA
  go_enter Tryd.func19, Tryd.ntmps19
  go_upto_region 1 with fail
  refine wp_forget (Sx w s ⟨wa, wc, sa, sc⟩) h1.out ?_
  clear h1 hP
  intro W hW
  have hA := HA.out
  clear HA
  subst hA
  obtain ⟨c0, _, _, _, _⟩ := hW.c
  cases hn : namedR s.ref
  · rw [hn] at CN HG
    go_wp2_with fail
    (with_reducible refine (CN.out W).mono ?_)
    rintro _ V ⟨rfl, b1⟩
    have hV := hW.below b1
    go_wp2_with fail
    go_ret
    exact ⟨by rw [HG.out]; rfl, hV.2.2⟩
  rw [hn] at CN HG
  cases ho : isId s.old
  · rw [ho] at CO HG
    go_wp2_with fail
    (with_reducible refine (CN.out W).mono ?_)
    rintro _ V ⟨rfl, b1⟩
    have hV := hW.below b1
    clear c0 b1 hW
    obtain ⟨_, c1, _, _, _⟩ := hV.c
    go_wp2_with fail
    (with_reducible refine (CO.out V).mono ?_)
    rintro _ V ⟨rfl, rfl⟩
    go_wp2_with fail
    go_ret
    exact ⟨by rw [HG.out]; rfl, hV.2.2⟩
  rw [ho] at CO HG
  cases hi : isId s.new
  · rw [hi] at CI HG
    go_wp2_with fail
    (with_reducible refine (CN.out W).mono ?_)
    rintro _ V ⟨rfl, b1⟩
    have hV := hW.below b1
    clear c0 b1 hW
    obtain ⟨_, c1, c2, _, _⟩ := hV.c
    go_wp2_with fail
    (with_reducible refine (CO.out V).mono ?_)
    rintro _ V ⟨rfl, rfl⟩
    go_wp2_with fail
    (with_reducible refine (CI.out _).mono ?_)
    rintro _ V ⟨rfl, rfl⟩
    go_wp2_with fail
    go_ret
    exact ⟨by rw [HG.out]; rfl, hV.2.2⟩
  rw [hi] at CI HG
  by_cases he : s.old = s.new
  · rw [decide_eq_true he] at HG HQ
    clear he
    go_wp2_with fail
    (with_reducible refine (CN.out W).mono ?_)
    rintro _ V ⟨rfl, b1⟩
    have hV := hW.below b1
    clear c0 b1 hW
    obtain ⟨_, c1, c2, _, _⟩ := hV.c
    go_wp2_with fail
    (with_reducible refine (CO.out V).mono ?_)
    rintro _ V ⟨rfl, rfl⟩
    go_wp2_with fail
    (with_reducible refine (CI.out _).mono ?_)
    rintro _ V ⟨rfl, rfl⟩
    go_wp2_with fail
    go_ret
    exact ⟨by rw [HG.out]; rfl, hV.2.2⟩
  rw [decide_eq_false he] at HG HQ
  clear he hn ho hi
  have HG2 : Hid (G = if 8 < s.who.length ∨ s.seals.length ≠ s.who.length then 6 else gdS (-1) s.prs) := HG.out
  clear HG
  by_cases h8 : 8 < s.who.length
  · have HG3 : Hid (G = 6) := by show _ = _; rw [HG2.out, if_pos (.inl h8)]
    have hi8 : (8 : Int) < s.who.length := by omega
    go_wp2_with fail
    (with_reducible refine (CN.out W).mono ?_)
    rintro _ V ⟨rfl, b1⟩
    have hV := hW.below b1
    clear c0 b1 hW
    obtain ⟨_, c1, c2, c3, _⟩ := hV.c
    go_wp2_with fail
    (with_reducible refine (CO.out V).mono ?_)
    rintro _ V ⟨rfl, rfl⟩
    go_wp2_with fail
    (with_reducible refine (CI.out _).mono ?_)
    rintro _ V ⟨rfl, rfl⟩
    go_wp2_with fail
    go_ret
    exact ⟨by rw [HG3.out]; rfl, hV.2.2⟩
  have hi8 : ¬ (8 : Int) < s.who.length := by omega
  by_cases hl : s.seals.length ≠ s.who.length
  · have HG3 : Hid (G = 6) := by show _ = _; rw [HG2.out, if_pos (.inr hl)]
    have hli : ((s.seals.length : Int) != s.who.length) = true := by rw [bne_iff_ne]; omega
    go_wp2_with fail
    (with_reducible refine (CN.out W).mono ?_)
    rintro _ V ⟨rfl, b1⟩
    have hV := hW.below b1
    clear c0 b1 hW
    obtain ⟨_, c1, c2, c3, c4⟩ := hV.c
    go_wp2_with fail
    (with_reducible refine (CO.out V).mono ?_)
    rintro _ V ⟨rfl, rfl⟩
    go_wp2_with fail
    (with_reducible refine (CI.out _).mono ?_)
    rintro _ V ⟨rfl, rfl⟩
    go_wp2_with fail
    go_ret
    exact ⟨by rw [HG3.out]; rfl, hV.2.2⟩
  replace hl : s.seals.length = s.who.length := Decidable.byContradiction hl
  have hli : ((s.seals.length : Int) != s.who.length) = false := by rw [hl]; simp
  have HG3 : Hid (G = gdS (-1) s.prs) := by show _ = _; rw [HG2.out, if_neg (by omega)]
  clear HG2
  go_wp2_with fail
  (with_reducible refine (CN.out W).mono ?_)
  rintro _ V ⟨rfl, b1⟩
  have hV := hW.below b1
  clear c0 b1 hW
  obtain ⟨_, c1, c2, c3, c4⟩ := hV.c
  go_wp2_with fail
  (with_reducible refine (CO.out V).mono ?_)
  rintro _ V ⟨rfl, rfl⟩
  go_wp2_with fail
  (with_reducible refine (CI.out _).mono ?_)
  rintro _ V ⟨rfl, rfl⟩
  go_wp2_with fail
  have hst : Hid (GrRelS w s ⟨wa, wc, sa, sc⟩ (.int .i64 (-1)) (.int .i64 0) V) := ⟨0, -1, Nat.zero_le _, rfl, rfl, hV, by rw [List.drop_zero]⟩
  clear hV c1 c2 c3 c4 CN CO CI HQ
  go_loopw [3, 45] (fun b i wr => GrRelS w s ⟨wa, wc, sa, sc⟩ b i wr) (fun _ i _ => s.who.length - (intOf i).toNat)
  case atStart => exact hst.out
  case round =>
    clear hst
    obtain ⟨k, b, hk, rfl, rfl, hX, hE⟩ := hrel
    by_cases hlt : k < s.who.length
    · have hj : (k : Int) < s.who.length := by omega
      have hlt2 : k < s.seals.length := by omega
      obtain ⟨ad, rfl, hbl, g0⟩ := hX.2.1.nums k s.who[k] (List.getElem?_eq_getElem hlt)
      obtain ⟨ad2, rfl, hbl2, g1⟩ := hX.2.1.txs k s.seals[k] (List.getElem?_eq_getElem hlt2)
      rw [prs_next hl hlt, gdS] at hE
      simp only at hE
      generalize s.who[k] = x at *
      generalize s.seals[k] = t at *
      have HE := Lib.hid hE
      clear hE
      obtain ⟨_, _, _, c3, c4⟩ := hX.c
      by_cases hxb : x ≤ b
      · have HE2 : Hid (gdS (-1) s.prs = 3) := by show _ = _; rw [HE.out, if_pos (.inl hxb)]
        clear HE
        go_wp2_with fail
        go_ret
        exact ⟨by rw [HG3.out, HE2.out]; rfl, hX.2.2⟩
      by_cases hx7 : 7 < x
      · have HE2 : Hid (gdS (-1) s.prs = 3) := by show _ = _; rw [HE.out, if_pos (.inr hx7)]
        clear HE
        go_wp2_with fail
        go_ret
        exact ⟨by rw [HG3.out, HE2.out]; rfl, hX.2.2⟩
      by_cases ht : t.size ≠ 32
      · have hti : ((t.size : Int) != 32) = true := by rw [bne_iff_ne]; omega
        have HE2 : Hid (gdS (-1) s.prs = 2) := by show _ = _; rw [HE.out, if_neg (by omega), if_pos ht]
        clear HE
        go_wp2_with fail
        go_ret
        exact ⟨by rw [HG3.out, HE2.out]; rfl, hX.2.2⟩
      · have hti : ((t.size : Int) != 32) = false := by rw [bne_eq_false_iff_eq]; omega
        have HE2 : Hid (gdS (-1) s.prs = gdS x (s.prs.drop (k + 1))) := by show _ = _; rw [HE.out, if_neg (by omega), if_neg ht]
        clear HE
        go_wp2_with fail
        go_roundw
        case rel => exact ⟨k + 1, x, hlt, rfl, by rw [Int.natCast_add]; rfl, hX, HE2.out⟩
        case measure => simp [intOf]; omega
    · obtain rfl : k = s.who.length := by omega
      have hj : ¬ (s.who.length : Int) < s.who.length := by omega
      have hd : s.prs.drop s.who.length = [] := List.drop_of_length_le (Nat.le_of_eq (prs_len hl))
      rw [hd] at hE
      have HE := Lib.hid hE
      clear hE
      obtain ⟨_, _, _, c3, c4⟩ := hX.c
      go_wp2_with fail
      go_ret
      exact ⟨by rw [HG3.out, HE.out]; rfl, hX.2.2⟩
end Go.Proofs.YtbpmgpbmeganoaaDoor

/- step.writeChange, Body, goodBody: contracts. -/
namespace Go.Proofs.YtbpmgpbmeganoaaDoor
open Go.RowKit

/-- a writer of these bytes, or one that was given too long a text -/
def WX (w : World) (g : Nat) : Option (List UInt8) → Prop
  | some l => WL w g l
  | none => WBad w g 1
theorem WX.below {w w' : World} {g : Nat} {st : Option (List UInt8)} (h : WX w g st) (k : Below w.heap.size w w') : WX w' g st := by
  cases st with
  | none => exact WBad.below h k
  | some l => exact WL.below h k
theorem WX.lt {w : World} {g : Nat} {st : Option (List UInt8)} (h : WX w g st) : g < w.heap.size := by
  cases st with
  | none => obtain ⟨v, n, ha⟩ := h; exact ha.lt
  | some l => exact WL.lt h
def txX (t : ByteArray) : Option (List UInt8) → Option (List UInt8)
  | none => none
  | some l => if t.size ≤ 4096 then some (l ++ txt t) else none
def WxEnd (w : World) (g : Nat) (st : Option (List UInt8)) (x : Ending) (w' : World) : Prop := x = .returned (.tuple #[]) ∧ WX w' g st ∧ w.grownBy w' (some g)
def ShortX (n : Nat) (st : Option (List UInt8)) : Prop := ∀ l, st = some l → l.length ≤ n
theorem txX_short {n : Nat} {st : Option (List UInt8)} (t : ByteArray) (h : ShortX n st) : ShortX (n + 4099) (txX t st) := fun l hl => by
  cases st with
  | none => cases hl
  | some l0 =>
    unfold txX at hl
    simp only at hl
    split at hl
    · rename_i ht
      cases hl
      have := txt_len t ht
      have := h l0 rfl
      rw [List.length_append]
      omega
    · cases hl
theorem wx_text (g : Nat) (st : Option (List UInt8)) (t : ByteArray) (hs : ShortX 281474976710656 st) (w : World) (h : WX w g st) :
    Calls Tryd.prog 69 #[.pointer (some ⟨g, 0, none⟩), .string t] w (WxEnd w g (txX t st)) := by
  cases st with
  | none =>
    by_cases ht : t.size ≤ 4096
    · exact (WText_bad g t _ 1 0 (by decide) (putTextIs_yes ⟨#[]⟩ t (by decide) ht) w h).mono fun _ _ q => q
    · exact (WText_bad g t _ 1 1 (by decide) (putTextIs_no ⟨#[]⟩ t (by omega)) w h).mono fun _ _ q => q
  | some l =>
    by_cases ht : t.size ≤ 4096
    · rw [show txX t (some l) = some (l ++ txt t) from if_pos ht]
      exact (wl_text g l t ht (hs l rfl) w h).mono fun _ _ q => q
    · rw [show txX t (some l) = none from if_neg ht]
      obtain ⟨ps, h1, _⟩ := h
      exact (WText_err g ps t _ 1 (by decide) (putTextIs_no ⟨#[]⟩ t (by omega)) w h1).mono fun _ _ q => q
/-- the box of a step beside a writer -/
def Sw (g b : Nat) (s : Sp) (p : SpAt) (W : World) : Prop := Arr W b 25 (spArr s p) ∧ b ≠ g ∧ b < W.heap.size
theorem Sw.kept {g b : Nat} {s : Sp} {p : SpAt} {W W' : World} (h : Sw g b s p W) (k : W.grownBy W' (some g)) : Sw g b s p W' :=
  ⟨h.1.kept k (fun e => h.2.1 (by cases e; rfl)), h.2.1, Nat.lt_of_lt_of_le h.2.2 k.size⟩
def chX (s : Sp) (st : Option (List UInt8)) : Option (List UInt8) := txX s.new (txX s.old (txX s.ref st))
theorem chX_short {n : Nat} {st : Option (List UInt8)} (s : Sp) (h : ShortX n st) : ShortX (n + 4099 + 4099 + 4099) (chX s st) := txX_short _ (txX_short _ (txX_short _ h))
theorem chX_ok (s : Sp) (h : ¬ spLong s) (l : List UInt8) : chX s (some l) = some (l ++ chL s) := by
  unfold spLong at h
  unfold chX chL
  rw [show txX s.ref (some l) = some (l ++ txt s.ref) from if_pos (by omega)]
  rw [show txX s.old (some (l ++ txt s.ref)) = some (l ++ txt s.ref ++ txt s.old) from if_pos (by omega)]
  rw [show txX s.new (some (l ++ txt s.ref ++ txt s.old)) = some (l ++ txt s.ref ++ txt s.old ++ txt s.new) from if_pos (by omega)]
  simp only [List.append_assoc]
theorem chX_no (s : Sp) (h : spLong s) (l : List UInt8) : chX s (some l) = none := by
  unfold spLong at h
  unfold chX
  by_cases h1 : s.ref.size ≤ 4096
  · rw [show txX s.ref (some l) = some (l ++ txt s.ref) from if_pos h1]
    by_cases h2 : s.old.size ≤ 4096
    · rw [show txX s.old (some (l ++ txt s.ref)) = some (l ++ txt s.ref ++ txt s.old) from if_pos h2]
      exact if_neg (by omega)
    · rw [show txX s.old (some (l ++ txt s.ref)) = none from if_neg h2]; rfl
  · rw [show txX s.ref (some l) = none from if_neg h1]; rfl
set_option maxRecDepth 100000 in
theorem writeChange_any (s : Sp) (p : SpAt) (g : Nat) (st : Option (List UInt8)) (hs : ShortX 1000 st) (w : World) (h : WX w g st) :
    Calls Tryd.prog 37 #[.pointer (some ⟨g, 0, none⟩), .agg (spArr s p)] w (WxEnd w g (chX s st)) := by
  have hg := h.lt
  have h1 : Hid (Sw g w.heap.size s p (w.alloc (.cells (spArr s p) 25)) ∧ WX (w.alloc (.cells (spArr s p) 25)) g st ∧ w.grownBy (w.alloc (.cells (spArr s p) 25)) (some g)) :=
    ⟨⟨Arr.new _ _ _, by omega, by simp⟩, h.below ((Below.refl _ _).alloc (Nat.le_refl _) _), gb_alloc _⟩
  have hs0 : ShortX 281474976710656 st := fun l hl => by have := hs l hl; omega
  have hs1 : ShortX 281474976710656 (txX s.ref st) := fun l hl => by have := txX_short s.ref hs l hl; omega
  have hs2 : ShortX 281474976710656 (txX s.old (txX s.ref st)) := fun l hl => by have := txX_short s.old (txX_short s.ref hs) l hl; omega
  have C0 : Hid (∀ W, WX W g st → Calls Tryd.prog 69 #[.pointer (some ⟨g, 0, none⟩), .string s.ref] W (WxEnd W g (txX s.ref st))) := fun W h => wx_text g st s.ref hs0 W h
  have C1 : Hid (∀ W, WX W g (txX s.ref st) → Calls Tryd.prog 69 #[.pointer (some ⟨g, 0, none⟩), .string s.old] W (WxEnd W g (txX s.old (txX s.ref st)))) := fun W h => wx_text g _ s.old hs1 W h
  have C2 : Hid (∀ W, WX W g (txX s.old (txX s.ref st)) → Calls Tryd.prog 69 #[.pointer (some ⟨g, 0, none⟩), .string s.new] W (WxEnd W g (chX s st))) := fun W h => wx_text g _ s.new hs2 W h
  clear h hs hs0 hs1 hs2
  generalize hb : w.heap.size = b at *
  generalize hA : spArr s p = arr at *
  have HA := Lib.hid hA
  clear hA
  generalize txX s.old (txX s.ref st) = st2 at *
  generalize txX s.ref st = st1 at *
  generalize chX s st = st3 at *
  go_enter Tryd.func37, Tryd.ntmps37
  go_upto_region 1 with fail
  refine wp_forget (fun W => Sw g b s p W ∧ WX W g st ∧ w.grownBy W (some g)) h1.out ?_
  clear h1
  rintro W ⟨hX, hW, hK⟩
  have c0 : W.cell? ⟨b, 0, none⟩ = some (.string s.ref) := hX.1.cell 0
  go_wp2_with fail
  (with_reducible refine (C0.out W hW).mono ?_)
  rintro _ W2 ⟨rfl, h2, k2⟩
  replace hX := hX.kept k2
  replace hK := gb_trans hK k2
  clear hW c0 k2
  have c1 : W2.cell? ⟨b, 1, none⟩ = some (.string s.old) := hX.1.cell 1
  go_wp2_with fail
  (with_reducible refine (C1.out W2 h2).mono ?_)
  rintro _ W3 ⟨rfl, h3, k3⟩
  replace hX := hX.kept k3
  replace hK := gb_trans hK k3
  clear h2 c1 k3
  have c2 : W3.cell? ⟨b, 2, none⟩ = some (.string s.new) := hX.1.cell 2
  go_wp2_with fail
  (with_reducible refine (C2.out W3 h3).mono ?_)
  rintro _ W4 ⟨rfl, h4, k4⟩
  go_wp2_with fail
  go_end0
  exact ⟨rfl, h4, gb_trans hK k4⟩
/-- where Body stands, its writer made -/
def Bd (w : World) (b g : Nat) (s : Sp) (p : SpAt) (st : Option (List UInt8)) (W : World) : Prop := Arr W b 25 (spArr s p) ∧ b ≠ g ∧ w.heap.size ≤ g ∧ Below w.heap.size w W ∧ WX W g st
theorem Bd.wrote {w W W' : World} {b g : Nat} {s : Sp} {p : SpAt} {st st' : Option (List UInt8)} (h : Bd w b g s p st W) (h' : WX W' g st') (k : W.grownBy W' (some g)) : Bd w b g s p st' W' :=
  ⟨h.1.kept k (fun e => h.2.1 (by cases e; rfl)), h.2.1, h.2.2.1, below_gb h.2.2.2.1 k h.2.2.1 h.2.2.2.1.size, h'⟩
theorem num_short (n : Nat) (h : n < 4611686018427387904) (l : List UInt8) (hl : l.length ≤ 500) : ShortX 1000 (some (l ++ num n)) := fun l' h' => by
  cases h'
  have := num_len9 n h
  rw [List.length_append]
  omega
set_option maxRecDepth 100000 in
set_option maxHeartbeats 1000000 in
theorem Body_any (i : Int) (s : Sp) (p : SpAt) (w : World) :
    Calls Tryd.prog 16 #[.int .i64 i, .agg (spArr s p)] w fun e w' => e = .returned (.tuple #[.string (spBody i s).1, .int .i64 (spBody i s).2]) ∧ Below w.heap.size w w' := by
  have hE : spBody i s = if i < 0 ∨ 199 < i then (⟨#[]⟩, 3) else if spLong s then (⟨#[]⟩, 1) else (bs (spBodyL i.toNat s), 0) := rfl
  have HE := Lib.hid hE
  clear hE
  generalize spBody i s = R at *
  by_cases h0 : i < 0
  · have HE2 : Hid (R = (⟨#[]⟩, 3)) := by show _ = _; rw [HE.out, if_pos (.inl h0)]
    clear HE
    generalize hA : spArr s p = arr at *
    go_enter Tryd.func16, Tryd.ntmps16
    go_wp2_with fail
    go_ret2
    exact ⟨by rw [HE2.out]; rfl, (Below.refl _ _).alloc (Nat.le_refl _) _⟩
  by_cases h2 : 200 ≤ i
  · have HE2 : Hid (R = (⟨#[]⟩, 3)) := by show _ = _; rw [HE.out, if_pos (.inr (by omega))]
    clear HE
    generalize hA : spArr s p = arr at *
    go_enter Tryd.func16, Tryd.ntmps16
    go_wp2_with fail
    go_ret2
    exact ⟨by rw [HE2.out]; rfl, (Below.refl _ _).alloc (Nat.le_refl _) _⟩
  have HE2 : Hid (R = if spLong s then (⟨#[]⟩, 1) else (bs (spBodyL i.toNat s), 0)) := by show _ = _; rw [HE.out, if_neg (by omega)]
  clear HE
  obtain ⟨n, rfl⟩ := Int.eq_ofNat_of_zero_le (show 0 ≤ i by omega)
  rw [Int.toNat_natCast] at HE2
  have hn : n < 4611686018427387904 := by omega
  have h1 : Hid (Bd w w.heap.size (w.heap.size + 1) s p (some []) ((w.alloc (.cells (spArr s p) 25)).alloc (.cells #[.pointer none, .int .i64 0, .int .i64 0] 60))) := by
    have A0 : Arr (w.alloc (.cells (spArr s p) 25)) w.heap.size 25 (spArr s p) := Arr.new _ _ _
    have b0 : Below w.heap.size w (w.alloc (.cells (spArr s p) 25)) := (Below.refl _ _).alloc (Nat.le_refl _) _
    have hz : (w.alloc (.cells (spArr s p) 25)).heap.size = w.heap.size + 1 := World.size_alloc _ _
    generalize w.alloc (.cells (spArr s p) 25) = V at *
    have q : WL (V.alloc (.cells #[.pointer none, .int .i64 0, .int .i64 0] 60)) V.heap.size [] := ⟨[], ⟨.pointer none, Arr.new _ _ _, rfl⟩, rfl⟩
    rw [hz] at q
    exact ⟨A0.below ((Below.refl _ _).alloc (Nat.le_refl _) _) A0.lt, by omega, by omega, b0.alloc b0.size _, q⟩
  have CW := Lib.hid (fun g W st hs h => writeChange_any s p g st hs W h)
  generalize hb : w.heap.size = b at *
  generalize hA : spArr s p = arr at *
  have HA := Lib.hid hA
  clear hA
  go_enter Tryd.func16, Tryd.ntmps16
  go_upto_region 4 with fail
  refine wp_forget (Bd w b (b + 1) s p (some [])) (by rw [← hb] at h1 ⊢; exact h1.out) ?_
  clear h1
  generalize b + 1 = g
  intro W hW
  have hA := HA.out
  clear HA
  subst hA
  have C0 := Lib.hid (wl_number g [] n hn (by simp) W hW.2.2.2.2)
  go_wp2_with fail
  (with_reducible refine C0.out.mono ?_)
  clear C0
  rintro _ W2 ⟨rfl, h2, k2⟩
  have hW2 : Bd w b g s p (some ([] ++ num n)) W2 := hW.wrote h2 k2
  clear hW h2 k2
  have C1 := Lib.hid (CW.out g W2 _ (num_short n hn [] (by simp)) hW2.2.2.2.2)
  go_wp2_with (refine wpList_load_row rfl 25 _ rfl b rfl 25 _ (0, 0) _ hW2.1 Tryd.underlying25 rfl (spInfo s p) ?_)
  (with_reducible refine C1.out.mono ?_)
  clear C1
  rintro _ W3 ⟨rfl, h3, k3⟩
  have hW3 := hW2.wrote h3 k3
  clear hW2 h3 k3
  by_cases hl : spLong s
  · rw [if_pos hl] at HE2
    rw [chX_no s hl] at hW3
    have C2 := Lib.hid (Done_bad g 1 (by decide) W3 hW3.2.2.2.2)
    go_wp2_with fail
    (with_reducible refine C2.out.mono ?_)
    rintro _ W4 ⟨rfl, b4⟩
    go_wp2_with fail
    go_ret2
    exact ⟨by rw [HE2.out]; rfl, by rw [← hb] at hW3 ⊢; exact hW3.2.2.2.1.trans (b4.mono hW3.2.2.2.1.size)⟩
  · rw [if_neg hl] at HE2
    rw [chX_ok s hl, List.nil_append] at hW3
    have hL : num n ++ chL s = spBodyL n s := by unfold chL spBodyL; simp only [List.append_assoc]
    rw [hL] at hW3
    obtain ⟨ps, hok, hps⟩ := hW3.2.2.2.2
    have hlen : (cat ps).length ≤ 281474976710656 := by
      rw [hps]
      unfold spLong at hl
      have := num_len9 n hn
      have := txt_len s.ref (by omega)
      have := txt_len s.old (by omega)
      have := txt_len s.new (by omega)
      unfold spBodyL
      simp only [List.length_append]
      omega
    have C2 := Lib.hid (Done_ok g ps hlen W3 hok)
    rw [hps] at C2
    generalize bs (spBodyL n s) = B at *
    go_wp2_with fail
    (with_reducible refine C2.out.mono ?_)
    rintro _ W4 ⟨rfl, b4⟩
    go_wp2_with fail
    go_ret2
    exact ⟨by rw [HE2.out]; rfl, by rw [← hb] at hW3 ⊢; exact hW3.2.2.2.1.trans (b4.mono hW3.2.2.2.1.size)⟩
set_option maxRecDepth 100000 in
theorem goodBody_any (i : Int) (s : Sp) (p : SpAt) (w : World) (hP : SpIn w w.heap.size s p) (hb : s.who.length ≤ 140737488355328) (hb2 : s.seals.length ≤ 140737488355328) :
    Calls Tryd.prog 57 #[.int .i64 i, .agg (spArr s p)] w fun e w' => e = .returned (.tuple #[.string (spGB i s).1, .int .i64 (spGB i s).2]) ∧ Below w.heap.size w w' := by
  have h1 := Lib.hid (Sx.start hP)
  have CG := Lib.hid (fun V h => SpGood_any s p V h hb hb2)
  have CB := Lib.hid (fun V => Body_any i s p V)
  have hE : spGB i s = if spGood s ≠ 0 then (⟨#[]⟩, spGood s) else spBody i s := rfl
  have HE := Lib.hid hE
  clear hE hP
  generalize spGB i s = R at *
  generalize spGood s = G at *
  generalize spBody i s = B at *
  generalize hA : spArr s p = arr at *
  have HA := Lib.hid hA
  clear hA
  go_enter Tryd.func57, Tryd.ntmps57
  go_upto_region 1 with fail
  refine wp_forget (Sx w s p) h1.out ?_
  clear h1
  intro W hW
  have hA := HA.out
  clear HA
  subst hA
  go_wp2_with (refine wpList_load_row rfl 25 _ rfl w.heap.size rfl 25 _ (0, 0) _ hW.1 Tryd.underlying25 rfl (spInfo s p) ?_)
  have C := Lib.hid (CG.out W hW.up)
  clear CG
  (with_reducible refine C.out.mono ?_)
  rintro _ W2 ⟨rfl, b2⟩
  have hW2 := hW.below b2
  clear hW b2 C
  cases hG : G != 0
  case true =>
    have hG2 : G ≠ 0 := by simpa using hG
    rw [if_pos hG2] at HE
    go_wp2_with fail
    go_ret2
    exact ⟨by rw [HE.out]; rfl, hW2.2.2⟩
  have hG2 : G = 0 := by simpa using hG
  subst hG2
  rw [if_neg (by simp)] at HE
  clear hG
  go_wp2_with (refine wpList_load_row rfl 25 _ rfl w.heap.size rfl 25 _ (0, 0) _ hW2.1 Tryd.underlying25 rfl (spInfo s p) ?_)
  have C := Lib.hid (CB.out W2)
  (with_reducible refine C.out.mono ?_)
  rintro _ W3 ⟨rfl, b3⟩
  go_wp2_with fail
  go_ret2
  exact ⟨by rw [HE.out]; rfl, (hW2.below b3).2.2⟩
end Go.Proofs.YtbpmgpbmeganoaaDoor

/- slices.Grow at nil, slices.Concat, of lists of numbers: contracts (wip/tools/genconc.py). -/
namespace Go.Proofs.YtbpmgpbmeganoaaDoor
open Go.RowKit

set_option maxRecDepth 100000 in
theorem Grow_anyI (n : Nat) (hn : n ≤ 1000) (W : World) :
    Calls Tryd.prog 82 #[.slice none 0 0, .int .i64 (n : Int)] W fun e W' => ∃ v, e = .returned v ∧ W'.ownsRow W.heap.size 3 1 v 0 [] ∧ Below W.heap.size W W' := by
  by_cases h0 : n = 0
  · subst h0
    go_enter Tryd.func82, Tryd.ntmps82
    go_wp2_with fail
    go_ret
    exact ⟨_, rfl, own_nil _ _ _ _, Below.refl _ _⟩
  obtain ⟨si, hsi, sz0, sz1, sz2⟩ := info_parts info_int
  have hrun : ∀ ty, (Builtin.append_ #[22, 3] ty #[.slice none 0 0, .int .i64 (n : Int)]).run Tryd.prog W = .ok (.slice (some ⟨W.heap.size, 0, none⟩) n (grownCap W n 0 3)) (W.drew.alloc (.cells (Builtin.zeroCells #[.int .i64 0] n ++ Builtin.zeroCells #[.int .i64 0] (grownCap W n 0 3 - n)) 3)) := fun ty =>
    run_append_zeros_nil (P := Tryd.prog) W 22 3 ty 3 si _ .i64 .i64 Tryd.underlying22 Tryd.underlying3 hsi sz0 0 n (by omega) (by omega) (by omega) (by omega) (by rw [sz2]; omega) (by rw [sz2]; exact growslice_fits (by omega) (by omega))
  have hgc := grownCap_ge W n 0 3
  have hgm := grownCap_le_maxLen W n 0 3 (by unfold maxLen; omega)
  generalize grownCap W n 0 3 = cap at *
  have hZ : (Builtin.zeroCells #[.int .i64 0] n ++ Builtin.zeroCells #[.int .i64 0] (cap - n)).size = cap * 1 := by
    rw [Array.size_append, size_zeroCells, size_zeroCells]
    show n * 1 + (cap - n) * 1 = _
    omega
  generalize Builtin.zeroCells #[.int .i64 0] n ++ Builtin.zeroCells #[.int .i64 0] (cap - n) = Z at *
  have A2 : Arr (W.drew.alloc (.cells Z 3)) W.heap.size 3 Z := Arr.new_at _ _ _ rfl
  have bel2 : Below W.heap.size W (W.drew.alloc (.cells Z 3)) := ((Below.refl _ W).drew).alloc (Nat.le_refl _) _
  generalize W.drew.alloc (.cells Z 3) = W2 at *
  have HE : Hid (∃ v, Ending.returned (.slice (some ⟨W.heap.size, 0, none⟩) 0 cap) = .returned v ∧ W2.ownsRow W.heap.size 3 1 v 0 [] ∧ Below W.heap.size W W2) :=
    ⟨_, rfl, ⟨rfl, .inr ⟨W.heap.size, cap, Z, rfl, Nat.le_refl _, A2, Nat.zero_le _, hgm, hZ, by simp⟩⟩, bel2⟩
  have b1 : (0 : Int) < n := by omega
  have b2 : ¬ (n : Int) < 0 := by omega
  have b3 : (n : Int) ≤ 1000 := by omega
  have b4 : (0 : Int) ≤ cap := by omega
  clear hsi sz0 sz1 sz2 hZ A2 bel2 hn
  go_enter Tryd.func82, Tryd.ntmps82
  go_wp2_with (at_builtin; refine Lib.wpList_append_run _ rfl _ _ _ _ rfl _ _ rfl rfl _ _ (hrun _) ?_)
  go_ret
  exact HE.out
/-- pieces: slices of refs, each where it lies -/
abbrev PcI := Option Addr × List Int × Nat
def catPI (Ps : List PcI) : List Int := (Ps.map (·.2.1)).flatten
theorem catP_nextI (Ps : List PcI) (k : Nat) (p : PcI) (h : Ps[k]? = some p) : catPI (Ps.take (k + 1)) = catPI (Ps.take k) ++ p.2.1 := by
  obtain ⟨hk, rfl⟩ := List.getElem?_eq_some_iff.1 h
  unfold catPI
  rw [List.take_succ_eq_append_getElem hk, List.map_append, List.flatten_append]
  simp
theorem catP_leI (Ps : List PcI) (k : Nat) : (catPI (Ps.take k)).length ≤ (catPI Ps).length := by
  have h : catPI Ps = catPI (Ps.take k) ++ catPI (Ps.drop k) := by
    unfold catPI
    rw [← List.flatten_append, ← List.map_append, List.take_append_drop]
  rw [h, List.length_append]
  omega
def PcsI (W : World) (B g : Nat) (Ps : List PcI) : Prop := ∀ k p, Ps[k]? = some p → W.cell? ⟨g, k, none⟩ = some (.slice p.1 p.2.1.length p.2.2) ∧ NumsA W B p.1 p.2.1
theorem PcsI.below {W W' : World} {B g : Nat} {Ps : List PcI} (h : PcsI W B g Ps) (hg : g < B) (b : Below B W W') : PcsI W' B g Ps := fun k p hp => by
  obtain ⟨h1, h2⟩ := h k p hp
  exact ⟨(b.cell (p := ⟨g, k, none⟩) hg).trans h1, h2.below b⟩
def CcRel1I (Ps : List PcI) (W : World) (z i : Value) (wr : World) : Prop :=
  ∃ k : Nat, k ≤ Ps.length ∧ z = .int .i64 ((catPI (Ps.take k)).length : Int) ∧ i = .int .i64 (k : Int) ∧ W = wr
def CcRel2I (Ps : List PcI) (W : World) (B : Nat) (v i : Value) (wr : World) : Prop :=
  ∃ k : Nat, k ≤ Ps.length ∧ wr.ownsRow B 3 1 v (catPI (Ps.take k)).length ((catPI (Ps.take k)).map iv) ∧ i = .int .i64 (k : Int) ∧ Below B W wr
set_option maxRecDepth 100000 in
set_option maxHeartbeats 1000000 in
theorem Concat_anyI (Ps : List PcI) (hm : Ps.length ≤ 100) (ht : (catPI Ps).length ≤ 1000) (g : Nat) (W : World) (hg : g < W.heap.size) (hP : PcsI W W.heap.size g Ps) :
    Calls Tryd.prog 59 #[.slice (some ⟨g, 0, none⟩) Ps.length Ps.length] W fun e W' => ∃ v, e = .returned v ∧ W'.ownsRow W.heap.size 3 1 v (catPI Ps).length ((catPI Ps).map iv) ∧ Below W.heap.size W W' := by
  have hle := fun k => catP_leI Ps k
  have HN := Lib.hid (fun k p h => catP_nextI Ps k p h)
  have hs1 : Hid (CcRel1I Ps W (.int .i64 0) (.int .i64 0) W) := ⟨0, Nat.zero_le _, rfl, rfl, rfl⟩
  go_enter Tryd.func59, Tryd.ntmps59
  go_wp2_with fail
  go_loopw [3, 11] (fun z i wr => CcRel1I Ps W z i wr) (fun _ i _ => Ps.length - (intOf i).toNat)
  case atStart => exact hs1.out
  case round =>
    clear hs1
    obtain ⟨k, hk, rfl, rfl, rfl⟩ := hrel
    by_cases hlt : k < Ps.length
    · have hj : (k : Int) < Ps.length := by omega
      have hx := List.getElem?_eq_getElem hlt
      obtain ⟨hc, _⟩ := hP _ _ hx
      have H1 : Hid (catPI (Ps.take (k + 1)) = catPI (Ps.take k) ++ Ps[k].2.1) := HN.out _ _ hx
      have l1 : (catPI (Ps.take k)).length + Ps[k].2.1.length ≤ 1000 := by
        have := hle (k + 1)
        rw [H1.out, List.length_append] at this
        omega
      have l2 : ((catPI (Ps.take k)).length : Int) + (Ps[k].2.1.length : Int) ≤ 1000 := by omega
      have l3 : ¬ ((catPI (Ps.take k)).length : Int) + (Ps[k].2.1.length : Int) < 0 := by omega
      clear hle hx
      go_wp2_with fail
      go_roundw
      case rel => exact ⟨k + 1, hlt, by rw [H1.out, List.length_append, Int.natCast_add], by rw [Int.natCast_add]; rfl, rfl⟩
      case measure => simp [intOf]; omega
    · obtain rfl : k = Ps.length := by omega
      have hj : ¬ (Ps.length : Int) < Ps.length := by omega
      rw [List.take_length]
      have C := Lib.hid (Grow_anyI (catPI Ps).length ht W)
      clear hle
      go_wp2_with fail
      (with_reducible refine C.out.mono ?_)
      clear C
      rintro _ w2 ⟨v, rfl, hown, b2⟩
      have hs2 : Hid (CcRel2I Ps W W.heap.size v (.int .i64 0) w2) := ⟨0, Nat.zero_le _, hown, rfl, b2⟩
      clear hown b2
      go_wp2_with fail
      go_loopw [6, 27] (fun v i w3 => CcRel2I Ps W W.heap.size v i w3) (fun _ i _ => Ps.length - (intOf i).toNat)
      case atStart => exact hs2.out
      case round =>
        clear hs2
        obtain ⟨k, hk, hown, rfl, b3⟩ := hrel
        by_cases hlt : k < Ps.length
        · have hj : (k : Int) < Ps.length := by omega
          have hx := List.getElem?_eq_getElem hlt
          obtain ⟨hc, hR⟩ := hP.below hg b3 _ _ hx
          have H1 : Hid (catPI (Ps.take (k + 1)) = catPI (Ps.take k) ++ Ps[k].2.1) := HN.out _ _ hx
          have l1 : (catPI (Ps.take k)).length + Ps[k].2.1.length ≤ 1000 := by
            have := catP_leI Ps (k + 1)
            rw [H1.out, List.length_append] at this
            omega
          obtain ⟨si, hsi, sz0, sz1, sz2⟩ := info_parts info_int
          have Hsi := Lib.hid hsi
          have Sz0 := Lib.hid sz0
          have Sz1 := Lib.hid sz1
          have Sz2 := Lib.hid sz2
          have HW := Lib.hid hR.news
          have HO := Lib.hid hown
          have HB := Lib.hid b3
          clear hsi sz0 sz1 sz2 hx hR hown
          go_wp2_with (at_builtin; refine wpList_app _ rfl _ _ 22 rfl W.heap.size 3 si _ 1 8 Tryd.underlying22 Hsi.out Sz0.out Sz1.out Sz2.out rfl (by decide) _ _ _ rfl HO.out Ps[k].1 Ps[k].2.1.length Ps[k].2.2 (Ps[k].2.1.map iv) rfl (by rw [List.length_map, Nat.mul_one]) HW.out (iv_one _) (by unfold maxLen; omega) (by omega) b3.size ?_)
          intro v' w' h1 h2
          have b4 : Below W.heap.size W w' := b3.grown h2 b3.size (fun q hq => own_at HO.out q hq)
          have h3 : Hid (w'.ownsRow W.heap.size 3 1 v' (catPI (Ps.take (k + 1))).length ((catPI (Ps.take (k + 1))).map iv)) := by
            show World.ownsRow _ _ _ _ _ _ _
            rw [H1.out, List.map_append, List.length_append]
            exact h1
          clear h1 h2 b3
          go_wp2_with fail
          go_roundw
          case rel => exact ⟨k + 1, hlt, h3.out, by rw [Int.natCast_add]; rfl, b4⟩
          case measure => simp [intOf]; omega
        · obtain rfl : k = Ps.length := by omega
          have hj : ¬ (Ps.length : Int) < Ps.length := by omega
          rw [List.take_length] at hown
          have HO := Lib.hid hown
          clear hown
          go_wp2_with fail
          go_ret
          exact ⟨_, rfl, HO.out, b3⟩
end Go.Proofs.YtbpmgpbmeganoaaDoor

/- slices.Grow at nil, slices.Concat, of lists of texts: contracts (wip/tools/genconc.py). -/
namespace Go.Proofs.YtbpmgpbmeganoaaDoor
open Go.RowKit

set_option maxRecDepth 100000 in
theorem Grow_anyT (n : Nat) (hn : n ≤ 1000) (W : World) :
    Calls Tryd.prog 83 #[.slice none 0 0, .int .i64 (n : Int)] W fun e W' => ∃ v, e = .returned v ∧ W'.ownsRow W.heap.size 9 1 v 0 [] ∧ Below W.heap.size W W' := by
  by_cases h0 : n = 0
  · subst h0
    go_enter Tryd.func83, Tryd.ntmps83
    go_wp2_with fail
    go_ret
    exact ⟨_, rfl, own_nil _ _ _ _, Below.refl _ _⟩
  obtain ⟨si, hsi, sz0, sz1, sz2⟩ := info_parts info_str
  have hrun : ∀ ty, (Builtin.append_ #[23, 3] ty #[.slice none 0 0, .int .i64 (n : Int)]).run Tryd.prog W = .ok (.slice (some ⟨W.heap.size, 0, none⟩) n (grownCap W n 0 9)) (W.drew.alloc (.cells (Builtin.zeroCells #[.string ⟨#[]⟩] n ++ Builtin.zeroCells #[.string ⟨#[]⟩] (grownCap W n 0 9 - n)) 9)) := fun ty =>
    run_append_zeros_nil (P := Tryd.prog) W 23 3 ty 9 si _ .i64 .i64 Tryd.underlying23 Tryd.underlying3 hsi sz0 0 n (by omega) (by omega) (by omega) (by omega) (by rw [sz2]; omega) (by rw [sz2]; exact growslice_fits (by omega) (by omega))
  have hgc := grownCap_ge W n 0 9
  have hgm := grownCap_le_maxLen W n 0 9 (by unfold maxLen; omega)
  generalize grownCap W n 0 9 = cap at *
  have hZ : (Builtin.zeroCells #[.string ⟨#[]⟩] n ++ Builtin.zeroCells #[.string ⟨#[]⟩] (cap - n)).size = cap * 1 := by
    rw [Array.size_append, size_zeroCells, size_zeroCells]
    show n * 1 + (cap - n) * 1 = _
    omega
  generalize Builtin.zeroCells #[.string ⟨#[]⟩] n ++ Builtin.zeroCells #[.string ⟨#[]⟩] (cap - n) = Z at *
  have A2 : Arr (W.drew.alloc (.cells Z 9)) W.heap.size 9 Z := Arr.new_at _ _ _ rfl
  have bel2 : Below W.heap.size W (W.drew.alloc (.cells Z 9)) := ((Below.refl _ W).drew).alloc (Nat.le_refl _) _
  generalize W.drew.alloc (.cells Z 9) = W2 at *
  have HE : Hid (∃ v, Ending.returned (.slice (some ⟨W.heap.size, 0, none⟩) 0 cap) = .returned v ∧ W2.ownsRow W.heap.size 9 1 v 0 [] ∧ Below W.heap.size W W2) :=
    ⟨_, rfl, ⟨rfl, .inr ⟨W.heap.size, cap, Z, rfl, Nat.le_refl _, A2, Nat.zero_le _, hgm, hZ, by simp⟩⟩, bel2⟩
  have b1 : (0 : Int) < n := by omega
  have b2 : ¬ (n : Int) < 0 := by omega
  have b3 : (n : Int) ≤ 1000 := by omega
  have b4 : (0 : Int) ≤ cap := by omega
  clear hsi sz0 sz1 sz2 hZ A2 bel2 hn
  go_enter Tryd.func83, Tryd.ntmps83
  go_wp2_with (at_builtin; refine Lib.wpList_append_run _ rfl _ _ _ _ rfl _ _ rfl rfl _ _ (hrun _) ?_)
  go_ret
  exact HE.out
/-- pieces: slices of refs, each where it lies -/
abbrev PcT := Option Addr × List ByteArray × Nat
def catPT (Ps : List PcT) : List ByteArray := (Ps.map (·.2.1)).flatten
theorem catP_nextT (Ps : List PcT) (k : Nat) (p : PcT) (h : Ps[k]? = some p) : catPT (Ps.take (k + 1)) = catPT (Ps.take k) ++ p.2.1 := by
  obtain ⟨hk, rfl⟩ := List.getElem?_eq_some_iff.1 h
  unfold catPT
  rw [List.take_succ_eq_append_getElem hk, List.map_append, List.flatten_append]
  simp
theorem catP_leT (Ps : List PcT) (k : Nat) : (catPT (Ps.take k)).length ≤ (catPT Ps).length := by
  have h : catPT Ps = catPT (Ps.take k) ++ catPT (Ps.drop k) := by
    unfold catPT
    rw [← List.flatten_append, ← List.map_append, List.take_append_drop]
  rw [h, List.length_append]
  omega
def PcsT (W : World) (B g : Nat) (Ps : List PcT) : Prop := ∀ k p, Ps[k]? = some p → W.cell? ⟨g, k, none⟩ = some (.slice p.1 p.2.1.length p.2.2) ∧ Txs W B p.1 p.2.1
theorem PcsT.below {W W' : World} {B g : Nat} {Ps : List PcT} (h : PcsT W B g Ps) (hg : g < B) (b : Below B W W') : PcsT W' B g Ps := fun k p hp => by
  obtain ⟨h1, h2⟩ := h k p hp
  exact ⟨(b.cell (p := ⟨g, k, none⟩) hg).trans h1, h2.below b⟩
def CcRel1T (Ps : List PcT) (W : World) (z i : Value) (wr : World) : Prop :=
  ∃ k : Nat, k ≤ Ps.length ∧ z = .int .i64 ((catPT (Ps.take k)).length : Int) ∧ i = .int .i64 (k : Int) ∧ W = wr
def CcRel2T (Ps : List PcT) (W : World) (B : Nat) (v i : Value) (wr : World) : Prop :=
  ∃ k : Nat, k ≤ Ps.length ∧ wr.ownsRow B 9 1 v (catPT (Ps.take k)).length ((catPT (Ps.take k)).map sv) ∧ i = .int .i64 (k : Int) ∧ Below B W wr
set_option maxRecDepth 100000 in
set_option maxHeartbeats 1000000 in
theorem Concat_anyT (Ps : List PcT) (hm : Ps.length ≤ 100) (ht : (catPT Ps).length ≤ 1000) (g : Nat) (W : World) (hg : g < W.heap.size) (hP : PcsT W W.heap.size g Ps) :
    Calls Tryd.prog 60 #[.slice (some ⟨g, 0, none⟩) Ps.length Ps.length] W fun e W' => ∃ v, e = .returned v ∧ W'.ownsRow W.heap.size 9 1 v (catPT Ps).length ((catPT Ps).map sv) ∧ Below W.heap.size W W' := by
  have hle := fun k => catP_leT Ps k
  have HN := Lib.hid (fun k p h => catP_nextT Ps k p h)
  have hs1 : Hid (CcRel1T Ps W (.int .i64 0) (.int .i64 0) W) := ⟨0, Nat.zero_le _, rfl, rfl, rfl⟩
  go_enter Tryd.func60, Tryd.ntmps60
  go_wp2_with fail
  go_loopw [3, 11] (fun z i wr => CcRel1T Ps W z i wr) (fun _ i _ => Ps.length - (intOf i).toNat)
  case atStart => exact hs1.out
  case round =>
    clear hs1
    obtain ⟨k, hk, rfl, rfl, rfl⟩ := hrel
    by_cases hlt : k < Ps.length
    · have hj : (k : Int) < Ps.length := by omega
      have hx := List.getElem?_eq_getElem hlt
      obtain ⟨hc, _⟩ := hP _ _ hx
      have H1 : Hid (catPT (Ps.take (k + 1)) = catPT (Ps.take k) ++ Ps[k].2.1) := HN.out _ _ hx
      have l1 : (catPT (Ps.take k)).length + Ps[k].2.1.length ≤ 1000 := by
        have := hle (k + 1)
        rw [H1.out, List.length_append] at this
        omega
      have l2 : ((catPT (Ps.take k)).length : Int) + (Ps[k].2.1.length : Int) ≤ 1000 := by omega
      have l3 : ¬ ((catPT (Ps.take k)).length : Int) + (Ps[k].2.1.length : Int) < 0 := by omega
      clear hle hx
      go_wp2_with fail
      go_roundw
      case rel => exact ⟨k + 1, hlt, by rw [H1.out, List.length_append, Int.natCast_add], by rw [Int.natCast_add]; rfl, rfl⟩
      case measure => simp [intOf]; omega
    · obtain rfl : k = Ps.length := by omega
      have hj : ¬ (Ps.length : Int) < Ps.length := by omega
      rw [List.take_length]
      have C := Lib.hid (Grow_anyT (catPT Ps).length ht W)
      clear hle
      go_wp2_with fail
      (with_reducible refine C.out.mono ?_)
      clear C
      rintro _ w2 ⟨v, rfl, hown, b2⟩
      have hs2 : Hid (CcRel2T Ps W W.heap.size v (.int .i64 0) w2) := ⟨0, Nat.zero_le _, hown, rfl, b2⟩
      clear hown b2
      go_wp2_with fail
      go_loopw [6, 27] (fun v i w3 => CcRel2T Ps W W.heap.size v i w3) (fun _ i _ => Ps.length - (intOf i).toNat)
      case atStart => exact hs2.out
      case round =>
        clear hs2
        obtain ⟨k, hk, hown, rfl, b3⟩ := hrel
        by_cases hlt : k < Ps.length
        · have hj : (k : Int) < Ps.length := by omega
          have hx := List.getElem?_eq_getElem hlt
          obtain ⟨hc, hR⟩ := hP.below hg b3 _ _ hx
          have H1 : Hid (catPT (Ps.take (k + 1)) = catPT (Ps.take k) ++ Ps[k].2.1) := HN.out _ _ hx
          have l1 : (catPT (Ps.take k)).length + Ps[k].2.1.length ≤ 1000 := by
            have := catP_leT Ps (k + 1)
            rw [H1.out, List.length_append] at this
            omega
          obtain ⟨si, hsi, sz0, sz1, sz2⟩ := info_parts info_str
          have Hsi := Lib.hid hsi
          have Sz0 := Lib.hid sz0
          have Sz1 := Lib.hid sz1
          have Sz2 := Lib.hid sz2
          have HW := Lib.hid hR.news
          have HO := Lib.hid hown
          have HB := Lib.hid b3
          clear hsi sz0 sz1 sz2 hx hR hown
          go_wp2_with (at_builtin; refine wpList_app _ rfl _ _ 23 rfl W.heap.size 9 si _ 1 16 Tryd.underlying23 Hsi.out Sz0.out Sz1.out Sz2.out rfl (by decide) _ _ _ rfl HO.out Ps[k].1 Ps[k].2.1.length Ps[k].2.2 (Ps[k].2.1.map sv) rfl (by rw [List.length_map, Nat.mul_one]) HW.out (sv_one _) (by unfold maxLen; omega) (by omega) b3.size ?_)
          intro v' w' h1 h2
          have b4 : Below W.heap.size W w' := b3.grown h2 b3.size (fun q hq => own_at HO.out q hq)
          have h3 : Hid (w'.ownsRow W.heap.size 9 1 v' (catPT (Ps.take (k + 1))).length ((catPT (Ps.take (k + 1))).map sv)) := by
            show World.ownsRow _ _ _ _ _ _ _
            rw [H1.out, List.map_append, List.length_append]
            exact h1
          clear h1 h2 b3
          go_wp2_with fail
          go_roundw
          case rel => exact ⟨k + 1, hlt, h3.out, by rw [Int.natCast_add]; rfl, b4⟩
          case measure => simp [intOf]; omega
        · obtain rfl : k = Ps.length := by omega
          have hj : ¬ (Ps.length : Int) < Ps.length := by omega
          rw [List.take_length] at hown
          have HO := Lib.hid hown
          clear hown
          go_wp2_with fail
          go_ret
          exact ⟨_, rfl, HO.out, b3⟩
end Go.Proofs.YtbpmgpbmeganoaaDoor

/- Lists of numbers, of texts: parts, and three pieces joined, the middle one new. -/
namespace Go.Proofs.YtbpmgpbmeganoaaDoor
open Go.RowKit

theorem own_lessS {w : World} {base B : Nat} {e : TypeId} {size : Nat} {v : Value} {n : Nat} {xs : List Value} (h : w.ownsRow base e size v n xs) (hb : B ≤ base) : w.ownsRow B e size v n xs := by
  refine ⟨h.1, ?_⟩
  rcases h.2 with hn | ⟨g, cap, cur, hv, hbs, rest⟩
  · exact .inl hn
  · exact .inr ⟨g, cap, cur, hv, Nat.le_trans hb hbs, rest⟩
theorem cat_threeI (w : World) (X Y : List Int) (r : Int) (A A' : Option Addr) (c c' x y : Nat) (hx : x = X.length) (hy : y = Y.length) (hl : X.length + Y.length ≤ 900) (W : World) (b : Below w.heap.size w W) (h : NumsA w w.heap.size A X) (h' : NumsA w w.heap.size A' Y) :
    Calls Tryd.prog 59 #[.slice (some ⟨W.heap.size + 1, 0, none⟩) 3 3] ((W.alloc (.cells #[.int .i64 r] 3)).alloc (.cells #[.slice A x c, .slice (some ⟨W.heap.size, 0, none⟩) 1 1, .slice A' y c'] 22)) fun e W' => ∃ v, e = .returned v ∧ W'.ownsRow w.heap.size 3 1 v (X ++ r :: Y).length ((X ++ r :: Y).map iv) ∧ Below w.heap.size w W' := by
  subst hx hy
  have A1 : Arr (W.alloc (.cells #[.int .i64 r] 3)) W.heap.size 3 #[.int .i64 r] := Arr.new _ _ _
  have b1 : Below w.heap.size w (W.alloc (.cells #[.int .i64 r] 3)) := b.alloc b.size _
  have hz : (W.alloc (.cells #[.int .i64 r] 3)).heap.size = W.heap.size + 1 := World.size_alloc _ _
  generalize W.alloc (.cells #[.int .i64 r] 3) = U at *
  have A0 : Arr (U.alloc (.cells #[.slice A X.length c, .slice (some ⟨W.heap.size, 0, none⟩) 1 1, .slice A' Y.length c'] 22)) U.heap.size 22 #[.slice A X.length c, .slice (some ⟨W.heap.size, 0, none⟩) 1 1, .slice A' Y.length c'] := Arr.new _ _ _
  have bu : Below U.heap.size U (U.alloc (.cells #[.slice A X.length c, .slice (some ⟨W.heap.size, 0, none⟩) 1 1, .slice A' Y.length c'] 22)) := (Below.refl _ _).alloc (Nat.le_refl _) _
  have bb := b1.trans (bu.mono b1.size)
  replace A1 := A1.below bu A1.lt
  have hlt := A0.lt
  rw [hz] at A0 hlt
  have hg : W.heap.size ≥ w.heap.size := b.size
  generalize U.alloc (.cells #[.slice A X.length c, .slice (some ⟨W.heap.size, 0, none⟩) 1 1, .slice A' Y.length c'] 22) = V at *
  have e : catPI [(A, X, c), (some ⟨W.heap.size, 0, none⟩, [r], 1), (A', Y, c')] = X ++ r :: Y := by simp [catPI]
  have q := Concat_anyI [(A, X, c), (some ⟨W.heap.size, 0, none⟩, [r], 1), (A', Y, c')] (by simp) (by rw [e, List.length_append, List.length_cons]; omega) (W.heap.size + 1) V hlt (fun k p hp => by
    match k, hp with
    | 0, hp => obtain rfl := Option.some.inj hp; exact ⟨A0.cell 0, (h.below bb).mono bb.size⟩
    | 1, hp =>
      obtain rfl := Option.some.inj hp
      refine ⟨A0.cell 1, fun k x hx => ?_⟩
      match k, hx with
      | 0, hx => obtain rfl := Option.some.inj hx; exact ⟨_, rfl, A1.lt, A1.cell 0⟩
      | k + 1, hx => simp at hx
    | 2, hp => obtain rfl := Option.some.inj hp; exact ⟨A0.cell 2, (h'.below bb).mono bb.size⟩
    | k + 3, hp => simp at hp)
  rw [e] at q
  refine q.mono ?_
  rintro e W' ⟨v, rfl, h1, h2⟩
  exact ⟨v, rfl, own_lessS h1 bb.size, bb.trans (h2.mono bb.size)⟩
/-- the same in a region that draws -/
theorem cat_drewI (w : World) (X Y : List Int) (r : Int) (A A' : Option Addr) (c c' x y : Nat) (hx : x = X.length) (hy : y = Y.length) (hl : X.length + Y.length ≤ 900) (W : World) (b : Below w.heap.size w W) (h : NumsA w w.heap.size A X) (h' : NumsA w w.heap.size A' Y) :
    Calls Tryd.prog 59 #[.slice (some ⟨W.heap.size + 1, 0, none⟩) 3 3] ((W.alloc (.cells #[.int .i64 r] 3)).alloc (.cells #[.slice A x c, .slice (some ⟨W.heap.size, 0, none⟩) 1 1, .slice A' y c'] 22)).drew fun e W' => ∃ v, e = .returned v ∧ W'.ownsRow w.heap.size 3 1 v (X ++ r :: Y).length ((X ++ r :: Y).map iv) ∧ Below w.heap.size w W' :=
  cat_threeI w X Y r A A' c c' x y hx hy hl W.drew b.drew h h'
theorem NumsA.drop' {w : World} {B : Nat} {ad : Addr} {L : List Int} (h : NumsA w B (some ad) L) (k : Nat) : NumsA w B (some (ad.add k)) (L.drop k) := fun j x hx => by
  rw [List.getElem?_drop] at hx
  obtain ⟨a, e, hb, h0⟩ := h (k + j) x hx
  cases e
  refine ⟨_, rfl, ?_⟩
  rw [Addr.add_add]
  exact ⟨hb, h0⟩
theorem NumsA.take' {w : World} {B : Nat} {A : Option Addr} {L : List Int} (h : NumsA w B A L) (k : Nat) : NumsA w B A (L.take k) := fun j x hx => by
  rw [List.getElem?_take] at hx
  split at hx
  · exact h j x hx
  · cases hx
theorem NumsA.rest' {w : World} {B : Nat} {ad : Addr} {L : List Int} (h : NumsA w B (some ad) L) (k c : Nat) (hc : L.length ≤ c) : NumsA w B (if c = k then some ad else some (ad.add k)) (L.drop k) := by
  by_cases e : c = k
  · rw [List.drop_of_length_le (by omega)]
    exact NumsA.nil _ _ _
  · rw [if_neg e]
    exact h.drop' k
theorem cat_threeT (w : World) (X Y : List ByteArray) (r : ByteArray) (A A' : Option Addr) (c c' x y : Nat) (hx : x = X.length) (hy : y = Y.length) (hl : X.length + Y.length ≤ 900) (W : World) (b : Below w.heap.size w W) (h : Txs w w.heap.size A X) (h' : Txs w w.heap.size A' Y) :
    Calls Tryd.prog 60 #[.slice (some ⟨W.heap.size + 1, 0, none⟩) 3 3] ((W.alloc (.cells #[.string r] 9)).alloc (.cells #[.slice A x c, .slice (some ⟨W.heap.size, 0, none⟩) 1 1, .slice A' y c'] 23)) fun e W' => ∃ v, e = .returned v ∧ W'.ownsRow w.heap.size 9 1 v (X ++ r :: Y).length ((X ++ r :: Y).map sv) ∧ Below w.heap.size w W' := by
  subst hx hy
  have A1 : Arr (W.alloc (.cells #[.string r] 9)) W.heap.size 9 #[.string r] := Arr.new _ _ _
  have b1 : Below w.heap.size w (W.alloc (.cells #[.string r] 9)) := b.alloc b.size _
  have hz : (W.alloc (.cells #[.string r] 9)).heap.size = W.heap.size + 1 := World.size_alloc _ _
  generalize W.alloc (.cells #[.string r] 9) = U at *
  have A0 : Arr (U.alloc (.cells #[.slice A X.length c, .slice (some ⟨W.heap.size, 0, none⟩) 1 1, .slice A' Y.length c'] 23)) U.heap.size 23 #[.slice A X.length c, .slice (some ⟨W.heap.size, 0, none⟩) 1 1, .slice A' Y.length c'] := Arr.new _ _ _
  have bu : Below U.heap.size U (U.alloc (.cells #[.slice A X.length c, .slice (some ⟨W.heap.size, 0, none⟩) 1 1, .slice A' Y.length c'] 23)) := (Below.refl _ _).alloc (Nat.le_refl _) _
  have bb := b1.trans (bu.mono b1.size)
  replace A1 := A1.below bu A1.lt
  have hlt := A0.lt
  rw [hz] at A0 hlt
  have hg : W.heap.size ≥ w.heap.size := b.size
  generalize U.alloc (.cells #[.slice A X.length c, .slice (some ⟨W.heap.size, 0, none⟩) 1 1, .slice A' Y.length c'] 23) = V at *
  have e : catPT [(A, X, c), (some ⟨W.heap.size, 0, none⟩, [r], 1), (A', Y, c')] = X ++ r :: Y := by simp [catPT]
  have q := Concat_anyT [(A, X, c), (some ⟨W.heap.size, 0, none⟩, [r], 1), (A', Y, c')] (by simp) (by rw [e, List.length_append, List.length_cons]; omega) (W.heap.size + 1) V hlt (fun k p hp => by
    match k, hp with
    | 0, hp => obtain rfl := Option.some.inj hp; exact ⟨A0.cell 0, (h.below bb).mono bb.size⟩
    | 1, hp =>
      obtain rfl := Option.some.inj hp
      refine ⟨A0.cell 1, fun k x hx => ?_⟩
      match k, hx with
      | 0, hx => obtain rfl := Option.some.inj hx; exact ⟨_, rfl, A1.lt, A1.cell 0⟩
      | k + 1, hx => simp at hx
    | 2, hp => obtain rfl := Option.some.inj hp; exact ⟨A0.cell 2, (h'.below bb).mono bb.size⟩
    | k + 3, hp => simp at hp)
  rw [e] at q
  refine q.mono ?_
  rintro e W' ⟨v, rfl, h1, h2⟩
  exact ⟨v, rfl, own_lessS h1 bb.size, bb.trans (h2.mono bb.size)⟩
/-- the same in a region that draws -/
theorem cat_drewT (w : World) (X Y : List ByteArray) (r : ByteArray) (A A' : Option Addr) (c c' x y : Nat) (hx : x = X.length) (hy : y = Y.length) (hl : X.length + Y.length ≤ 900) (W : World) (b : Below w.heap.size w W) (h : Txs w w.heap.size A X) (h' : Txs w w.heap.size A' Y) :
    Calls Tryd.prog 60 #[.slice (some ⟨W.heap.size + 1, 0, none⟩) 3 3] ((W.alloc (.cells #[.string r] 9)).alloc (.cells #[.slice A x c, .slice (some ⟨W.heap.size, 0, none⟩) 1 1, .slice A' y c'] 23)).drew fun e W' => ∃ v, e = .returned v ∧ W'.ownsRow w.heap.size 9 1 v (X ++ r :: Y).length ((X ++ r :: Y).map sv) ∧ Below w.heap.size w W' :=
  cat_threeT w X Y r A A' c c' x y hx hy hl W.drew b.drew h h'
theorem Txs.drop' {w : World} {B : Nat} {ad : Addr} {L : List ByteArray} (h : Txs w B (some ad) L) (k : Nat) : Txs w B (some (ad.add k)) (L.drop k) := fun j x hx => by
  rw [List.getElem?_drop] at hx
  obtain ⟨a, e, hb, h0⟩ := h (k + j) x hx
  cases e
  refine ⟨_, rfl, ?_⟩
  rw [Addr.add_add]
  exact ⟨hb, h0⟩
theorem Txs.take' {w : World} {B : Nat} {A : Option Addr} {L : List ByteArray} (h : Txs w B A L) (k : Nat) : Txs w B A (L.take k) := fun j x hx => by
  rw [List.getElem?_take] at hx
  split at hx
  · exact h j x hx
  · cases hx
theorem Txs.rest' {w : World} {B : Nat} {ad : Addr} {L : List ByteArray} (h : Txs w B (some ad) L) (k c : Nat) (hc : L.length ≤ c) : Txs w B (if c = k then some ad else some (ad.add k)) (L.drop k) := by
  by_cases e : c = k
  · rw [List.drop_of_length_le (by omega)]
    exact Txs.nil _ _ _
  · rw [if_neg e]
    exact h.drop' k
end Go.Proofs.YtbpmgpbmeganoaaDoor
