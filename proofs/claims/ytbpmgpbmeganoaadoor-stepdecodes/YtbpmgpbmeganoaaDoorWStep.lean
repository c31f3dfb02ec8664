/- Texts in one: SpRefG, SpWrite, SpGB, WRefGet, WRefText, WStep. -/
import Derived.Test.YtbpmgpbmeganoaaDoorDkCh4
import Derived.Test.YtbpmgpbmeganoaaDoorRfRefB
import Derived.Test.YtbpmgpbmeganoaaDoorWLaw
import Derived.Test.YtbpmgpbmeganoaaDoorWRead
/- ref.GoodStep: its contract. -/
namespace Go.Proofs.YtbpmgpbmeganoaaDoor
open Go.RowKit

/-- where the document's own loop stands -/
def GrRelS (w : World) (s : Sp) (p : SpAt) (v i : Value) (wr : World) : Prop :=
  ∃ (k : Nat) (b : Int), k ≤ s.who.length ∧ v = .int .i64 b ∧ i = .int .i64 (k : Int) ∧ Sx w s p wr ∧ gdS (-1) s.prs = gdS b (s.prs.drop k)
set_option maxRecDepth 100000 in
set_option maxHeartbeats 1000000 in
theorem GoodStep_any (s : Sp) (p : SpAt) (w : World) (hP : SpIn w w.heap.size s p) (hr : s.ref.size ≤ 140737488355328) (hb : s.who.length ≤ 140737488355328) (_ : s.seals.length ≤ 140737488355328) :
    Calls Tryd.prog 19 #[.agg (spArr s p)] w fun e w' => e = .returned (.int .i64 (spGood s)) ∧ Below w.heap.size w w' := by
  obtain ⟨wa, wc, sa, sc⟩ := p
  have h1 := Lib.hid (Sx.start hP)
  have CN := Lib.hid (fun V => RefNameR_any s.ref (by omega) V)
  have CO := Lib.hid (fun V => maybe_any s.old V)
  have CI := Lib.hid (fun V => maybe_any s.new V)
  have HQ := same_lists s.old s.new
  have hG : spGood s = if !spForm s then 2 else if 8 < s.who.length ∨ s.seals.length ≠ s.who.length then 6 else gdS (-1) s.prs := rfl
  unfold spForm at hG
  have HG := Lib.hid hG
  clear hG
  generalize spGood s = G at *
  generalize hA : spArr s ⟨wa, wc, sa, sc⟩ = arr at *
  have HA := Lib.hid hA
  clear hA
  go_enter Tryd.func19, Tryd.ntmps19
  go_upto_region 1 with fail
  refine wp_forget (Sx w s ⟨wa, wc, sa, sc⟩) h1.out ?_
  clear h1 hP
  intro W hW
  have hA := HA.out
  clear HA
  subst hA
  obtain ⟨c0, _, _, _, _⟩ := hW.c
  cases hn : namedR s.ref
  · rw [hn] at CN HG
    go_wp2_with fail
    (with_reducible refine (CN.out W).mono ?_)
    rintro _ V ⟨rfl, b1⟩
    have hV := hW.below b1
    go_wp2_with fail
    go_ret
    exact ⟨by rw [HG.out]; rfl, hV.2.2⟩
  rw [hn] at CN HG
  cases ho : isId s.old
  · rw [ho] at CO HG
    go_wp2_with fail
    (with_reducible refine (CN.out W).mono ?_)
    rintro _ V ⟨rfl, b1⟩
    have hV := hW.below b1
    clear c0 b1 hW
    obtain ⟨_, c1, _, _, _⟩ := hV.c
    go_wp2_with fail
    (with_reducible refine (CO.out V).mono ?_)
    rintro _ V ⟨rfl, rfl⟩
    go_wp2_with fail
    go_ret
    exact ⟨by rw [HG.out]; rfl, hV.2.2⟩
  rw [ho] at CO HG
  cases hi : isId s.new
  · rw [hi] at CI HG
    go_wp2_with fail
    (with_reducible refine (CN.out W).mono ?_)
    rintro _ V ⟨rfl, b1⟩
    have hV := hW.below b1
    clear c0 b1 hW
    obtain ⟨_, c1, c2, _, _⟩ := hV.c
    go_wp2_with fail
    (with_reducible refine (CO.out V).mono ?_)
    rintro _ V ⟨rfl, rfl⟩
    go_wp2_with fail
    (with_reducible refine (CI.out _).mono ?_)
    rintro _ V ⟨rfl, rfl⟩
    go_wp2_with fail
    go_ret
    exact ⟨by rw [HG.out]; rfl, hV.2.2⟩
  rw [hi] at CI HG
  by_cases he : s.old = s.new
  · rw [decide_eq_true he] at HG HQ
    clear he
    go_wp2_with fail
    (with_reducible refine (CN.out W).mono ?_)
    rintro _ V ⟨rfl, b1⟩
    have hV := hW.below b1
    clear c0 b1 hW
    obtain ⟨_, c1, c2, _, _⟩ := hV.c
    go_wp2_with fail
    (with_reducible refine (CO.out V).mono ?_)
    rintro _ V ⟨rfl, rfl⟩
    go_wp2_with fail
    (with_reducible refine (CI.out _).mono ?_)
    rintro _ V ⟨rfl, rfl⟩
    go_wp2_with fail
    go_ret
    exact ⟨by rw [HG.out]; rfl, hV.2.2⟩
  rw [decide_eq_false he] at HG HQ
  clear he hn ho hi
  have HG2 : Hid (G = if 8 < s.who.length ∨ s.seals.length ≠ s.who.length then 6 else gdS (-1) s.prs) := HG.out
  clear HG
  by_cases h8 : 8 < s.who.length
  · have HG3 : Hid (G = 6) := by show _ = _; rw [HG2.out, if_pos (.inl h8)]
    have hi8 : (8 : Int) < s.who.length := by omega
    go_wp2_with fail
    (with_reducible refine (CN.out W).mono ?_)
    rintro _ V ⟨rfl, b1⟩
    have hV := hW.below b1
    clear c0 b1 hW
    obtain ⟨_, c1, c2, c3, _⟩ := hV.c
    go_wp2_with fail
    (with_reducible refine (CO.out V).mono ?_)
    rintro _ V ⟨rfl, rfl⟩
    go_wp2_with fail
    (with_reducible refine (CI.out _).mono ?_)
    rintro _ V ⟨rfl, rfl⟩
    go_wp2_with fail
    go_ret
    exact ⟨by rw [HG3.out]; rfl, hV.2.2⟩
  have hi8 : ¬ (8 : Int) < s.who.length := by omega
  by_cases hl : s.seals.length ≠ s.who.length
  · have HG3 : Hid (G = 6) := by show _ = _; rw [HG2.out, if_pos (.inr hl)]
    have hli : ((s.seals.length : Int) != s.who.length) = true := by rw [bne_iff_ne]; omega
    go_wp2_with fail
    (with_reducible refine (CN.out W).mono ?_)
    rintro _ V ⟨rfl, b1⟩
    have hV := hW.below b1
    clear c0 b1 hW
    obtain ⟨_, c1, c2, c3, c4⟩ := hV.c
    go_wp2_with fail
    (with_reducible refine (CO.out V).mono ?_)
    rintro _ V ⟨rfl, rfl⟩
    go_wp2_with fail
    (with_reducible refine (CI.out _).mono ?_)
    rintro _ V ⟨rfl, rfl⟩
    go_wp2_with fail
    go_ret
    exact ⟨by rw [HG3.out]; rfl, hV.2.2⟩
  replace hl : s.seals.length = s.who.length := Decidable.byContradiction hl
  have hli : ((s.seals.length : Int) != s.who.length) = false := by rw [hl]; simp
  have HG3 : Hid (G = gdS (-1) s.prs) := by show _ = _; rw [HG2.out, if_neg (by omega)]
  clear HG2
  go_wp2_with fail
  (with_reducible refine (CN.out W).mono ?_)
  rintro _ V ⟨rfl, b1⟩
  have hV := hW.below b1
  clear c0 b1 hW
  obtain ⟨_, c1, c2, c3, c4⟩ := hV.c
  go_wp2_with fail
  (with_reducible refine (CO.out V).mono ?_)
  rintro _ V ⟨rfl, rfl⟩
  go_wp2_with fail
  (with_reducible refine (CI.out _).mono ?_)
  rintro _ V ⟨rfl, rfl⟩
  go_wp2_with fail
  have hst : Hid (GrRelS w s ⟨wa, wc, sa, sc⟩ (.int .i64 (-1)) (.int .i64 0) V) := ⟨0, -1, Nat.zero_le _, rfl, rfl, hV, by rw [List.drop_zero]⟩
  clear hV c1 c2 c3 c4 CN CO CI HQ
  go_loopw [3, 45] (fun b i wr => GrRelS w s ⟨wa, wc, sa, sc⟩ b i wr) (fun _ i _ => s.who.length - (intOf i).toNat)
  case atStart => exact hst.out
  case round =>
    clear hst
    obtain ⟨k, b, hk, rfl, rfl, hX, hE⟩ := hrel
    by_cases hlt : k < s.who.length
    · have hj : (k : Int) < s.who.length := by omega
      have hlt2 : k < s.seals.length := by omega
      obtain ⟨ad, rfl, hbl, g0⟩ := hX.2.1.nums k s.who[k] (List.getElem?_eq_getElem hlt)
      obtain ⟨ad2, rfl, hbl2, g1⟩ := hX.2.1.txs k s.seals[k] (List.getElem?_eq_getElem hlt2)
      rw [prs_next hl hlt, gdS] at hE
      simp only at hE
      generalize s.who[k] = x at *
      generalize s.seals[k] = t at *
      have HE := Lib.hid hE
      clear hE
      obtain ⟨_, _, _, c3, c4⟩ := hX.c
      by_cases hxb : x ≤ b
      · have HE2 : Hid (gdS (-1) s.prs = 3) := by show _ = _; rw [HE.out, if_pos (.inl hxb)]
        clear HE
        go_wp2_with fail
        go_ret
        exact ⟨by rw [HG3.out, HE2.out]; rfl, hX.2.2⟩
      by_cases hx7 : 7 < x
      · have HE2 : Hid (gdS (-1) s.prs = 3) := by show _ = _; rw [HE.out, if_pos (.inr hx7)]
        clear HE
        go_wp2_with fail
        go_ret
        exact ⟨by rw [HG3.out, HE2.out]; rfl, hX.2.2⟩
      by_cases ht : t.size ≠ 32
      · have hti : ((t.size : Int) != 32) = true := by rw [bne_iff_ne]; omega
        have HE2 : Hid (gdS (-1) s.prs = 2) := by show _ = _; rw [HE.out, if_neg (by omega), if_pos ht]
        clear HE
        go_wp2_with fail
        go_ret
        exact ⟨by rw [HG3.out, HE2.out]; rfl, hX.2.2⟩
      · have hti : ((t.size : Int) != 32) = false := by rw [bne_eq_false_iff_eq]; omega
        have HE2 : Hid (gdS (-1) s.prs = gdS x (s.prs.drop (k + 1))) := by show _ = _; rw [HE.out, if_neg (by omega), if_neg ht]
        clear HE
        go_wp2_with fail
        go_roundw
        case rel => exact ⟨k + 1, x, hlt, rfl, by rw [Int.natCast_add]; rfl, hX, HE2.out⟩
        case measure => simp [intOf]; omega
    · obtain rfl : k = s.who.length := by omega
      have hj : ¬ (s.who.length : Int) < s.who.length := by omega
      have hd : s.prs.drop s.who.length = [] := List.drop_of_length_le (Nat.le_of_eq (prs_len hl))
      rw [hd] at hE
      have HE := Lib.hid hE
      clear hE
      obtain ⟨_, _, _, c3, c4⟩ := hX.c
      go_wp2_with fail
      go_ret
      exact ⟨by rw [HG3.out, HE.out]; rfl, hX.2.2⟩
end Go.Proofs.YtbpmgpbmeganoaaDoor

/- step.writeChange, Body, goodBody: contracts. -/
namespace Go.Proofs.YtbpmgpbmeganoaaDoor
open Go.RowKit

/-- a writer of these bytes, or one that was given too long a text -/
def WX (w : World) (g : Nat) : Option (List UInt8) → Prop
  | some l => WL w g l
  | none => WBad w g 1
theorem WX.below {w w' : World} {g : Nat} {st : Option (List UInt8)} (h : WX w g st) (k : Below w.heap.size w w') : WX w' g st := by
  cases st with
  | none => exact WBad.below h k
  | some l => exact WL.below h k
theorem WX.lt {w : World} {g : Nat} {st : Option (List UInt8)} (h : WX w g st) : g < w.heap.size := by
  cases st with
  | none => obtain ⟨v, n, ha⟩ := h; exact ha.lt
  | some l => exact WL.lt h
def txX (t : ByteArray) : Option (List UInt8) → Option (List UInt8)
  | none => none
  | some l => if t.size ≤ 4096 then some (l ++ txt t) else none
def WxEnd (w : World) (g : Nat) (st : Option (List UInt8)) (x : Ending) (w' : World) : Prop := x = .returned (.tuple #[]) ∧ WX w' g st ∧ w.grownBy w' (some g)
def ShortX (n : Nat) (st : Option (List UInt8)) : Prop := ∀ l, st = some l → l.length ≤ n
theorem txX_short {n : Nat} {st : Option (List UInt8)} (t : ByteArray) (h : ShortX n st) : ShortX (n + 4099) (txX t st) := fun l hl => by
  cases st with
  | none => cases hl
  | some l0 =>
    unfold txX at hl
    simp only at hl
    split at hl
    · rename_i ht
      cases hl
      have := txt_len t ht
      have := h l0 rfl
      rw [List.length_append]
      omega
    · cases hl
theorem wx_text (g : Nat) (st : Option (List UInt8)) (t : ByteArray) (hs : ShortX 281474976710656 st) (w : World) (h : WX w g st) :
    Calls Tryd.prog 69 #[.pointer (some ⟨g, 0, none⟩), .string t] w (WxEnd w g (txX t st)) := by
  cases st with
  | none =>
    by_cases ht : t.size ≤ 4096
    · exact (WText_bad g t _ 1 0 (by decide) (putTextIs_yes ⟨#[]⟩ t (by decide) ht) w h).mono fun _ _ q => q
    · exact (WText_bad g t _ 1 1 (by decide) (putTextIs_no ⟨#[]⟩ t (by omega)) w h).mono fun _ _ q => q
  | some l =>
    by_cases ht : t.size ≤ 4096
    · rw [show txX t (some l) = some (l ++ txt t) from if_pos ht]
      exact (wl_text g l t ht (hs l rfl) w h).mono fun _ _ q => q
    · rw [show txX t (some l) = none from if_neg ht]
      obtain ⟨ps, h1, _⟩ := h
      exact (WText_err g ps t _ 1 (by decide) (putTextIs_no ⟨#[]⟩ t (by omega)) w h1).mono fun _ _ q => q
/-- the box of a step beside a writer -/
def Sw (g b : Nat) (s : Sp) (p : SpAt) (W : World) : Prop := Arr W b 25 (spArr s p) ∧ b ≠ g ∧ b < W.heap.size
theorem Sw.kept {g b : Nat} {s : Sp} {p : SpAt} {W W' : World} (h : Sw g b s p W) (k : W.grownBy W' (some g)) : Sw g b s p W' :=
  ⟨h.1.kept k (fun e => h.2.1 (by cases e; rfl)), h.2.1, Nat.lt_of_lt_of_le h.2.2 k.size⟩
def chX (s : Sp) (st : Option (List UInt8)) : Option (List UInt8) := txX s.new (txX s.old (txX s.ref st))
theorem chX_short {n : Nat} {st : Option (List UInt8)} (s : Sp) (h : ShortX n st) : ShortX (n + 4099 + 4099 + 4099) (chX s st) := txX_short _ (txX_short _ (txX_short _ h))
theorem chX_ok (s : Sp) (h : ¬ spLong s) (l : List UInt8) : chX s (some l) = some (l ++ chL s) := by
  unfold spLong at h
  unfold chX chL
  rw [show txX s.ref (some l) = some (l ++ txt s.ref) from if_pos (by omega)]
  rw [show txX s.old (some (l ++ txt s.ref)) = some (l ++ txt s.ref ++ txt s.old) from if_pos (by omega)]
  rw [show txX s.new (some (l ++ txt s.ref ++ txt s.old)) = some (l ++ txt s.ref ++ txt s.old ++ txt s.new) from if_pos (by omega)]
  simp only [List.append_assoc]
theorem chX_no (s : Sp) (h : spLong s) (l : List UInt8) : chX s (some l) = none := by
  unfold spLong at h
  unfold chX
  by_cases h1 : s.ref.size ≤ 4096
  · rw [show txX s.ref (some l) = some (l ++ txt s.ref) from if_pos h1]
    by_cases h2 : s.old.size ≤ 4096
    · rw [show txX s.old (some (l ++ txt s.ref)) = some (l ++ txt s.ref ++ txt s.old) from if_pos h2]
      exact if_neg (by omega)
    · rw [show txX s.old (some (l ++ txt s.ref)) = none from if_neg h2]; rfl
  · rw [show txX s.ref (some l) = none from if_neg h1]; rfl
set_option maxRecDepth 100000 in
theorem writeChange_any (s : Sp) (p : SpAt) (g : Nat) (st : Option (List UInt8)) (hs : ShortX 1000 st) (w : World) (h : WX w g st) :
    Calls Tryd.prog 37 #[.pointer (some ⟨g, 0, none⟩), .agg (spArr s p)] w (WxEnd w g (chX s st)) := by
  have hg := h.lt
  have h1 : Hid (Sw g w.heap.size s p (w.alloc (.cells (spArr s p) 25)) ∧ WX (w.alloc (.cells (spArr s p) 25)) g st ∧ w.grownBy (w.alloc (.cells (spArr s p) 25)) (some g)) :=
    ⟨⟨Arr.new _ _ _, by omega, by simp⟩, h.below ((Below.refl _ _).alloc (Nat.le_refl _) _), gb_alloc _⟩
  have hs0 : ShortX 281474976710656 st := fun l hl => by have := hs l hl; omega
  have hs1 : ShortX 281474976710656 (txX s.ref st) := fun l hl => by have := txX_short s.ref hs l hl; omega
  have hs2 : ShortX 281474976710656 (txX s.old (txX s.ref st)) := fun l hl => by have := txX_short s.old (txX_short s.ref hs) l hl; omega
  have C0 : Hid (∀ W, WX W g st → Calls Tryd.prog 69 #[.pointer (some ⟨g, 0, none⟩), .string s.ref] W (WxEnd W g (txX s.ref st))) := fun W h => wx_text g st s.ref hs0 W h
  have C1 : Hid (∀ W, WX W g (txX s.ref st) → Calls Tryd.prog 69 #[.pointer (some ⟨g, 0, none⟩), .string s.old] W (WxEnd W g (txX s.old (txX s.ref st)))) := fun W h => wx_text g _ s.old hs1 W h
  have C2 : Hid (∀ W, WX W g (txX s.old (txX s.ref st)) → Calls Tryd.prog 69 #[.pointer (some ⟨g, 0, none⟩), .string s.new] W (WxEnd W g (chX s st))) := fun W h => wx_text g _ s.new hs2 W h
  clear h hs hs0 hs1 hs2
  generalize hb : w.heap.size = b at *
  generalize hA : spArr s p = arr at *
  have HA := Lib.hid hA
  clear hA
  generalize txX s.old (txX s.ref st) = st2 at *
  generalize txX s.ref st = st1 at *
  generalize chX s st = st3 at *
  go_enter Tryd.func37, Tryd.ntmps37
  go_upto_region 1 with fail
  refine wp_forget (fun W => Sw g b s p W ∧ WX W g st ∧ w.grownBy W (some g)) h1.out ?_
  clear h1
  rintro W ⟨hX, hW, hK⟩
  have c0 : W.cell? ⟨b, 0, none⟩ = some (.string s.ref) := hX.1.cell 0
  go_wp2_with fail
  (with_reducible refine (C0.out W hW).mono ?_)
  rintro _ W2 ⟨rfl, h2, k2⟩
  replace hX := hX.kept k2
  replace hK := gb_trans hK k2
  clear hW c0 k2
  have c1 : W2.cell? ⟨b, 1, none⟩ = some (.string s.old) := hX.1.cell 1
  go_wp2_with fail
  (with_reducible refine (C1.out W2 h2).mono ?_)
  rintro _ W3 ⟨rfl, h3, k3⟩
  replace hX := hX.kept k3
  replace hK := gb_trans hK k3
  clear h2 c1 k3
  have c2 : W3.cell? ⟨b, 2, none⟩ = some (.string s.new) := hX.1.cell 2
  go_wp2_with fail
  (with_reducible refine (C2.out W3 h3).mono ?_)
  rintro _ W4 ⟨rfl, h4, k4⟩
  go_wp2_with fail
  go_end0
  exact ⟨rfl, h4, gb_trans hK k4⟩
/-- where Body stands, its writer made -/
def Bd (w : World) (b g : Nat) (s : Sp) (p : SpAt) (st : Option (List UInt8)) (W : World) : Prop := Arr W b 25 (spArr s p) ∧ b ≠ g ∧ w.heap.size ≤ g ∧ Below w.heap.size w W ∧ WX W g st
theorem Bd.wrote {w W W' : World} {b g : Nat} {s : Sp} {p : SpAt} {st st' : Option (List UInt8)} (h : Bd w b g s p st W) (h' : WX W' g st') (k : W.grownBy W' (some g)) : Bd w b g s p st' W' :=
  ⟨h.1.kept k (fun e => h.2.1 (by cases e; rfl)), h.2.1, h.2.2.1, below_gb h.2.2.2.1 k h.2.2.1 h.2.2.2.1.size, h'⟩
theorem num_short (n : Nat) (h : n < 4611686018427387904) (l : List UInt8) (hl : l.length ≤ 500) : ShortX 1000 (some (l ++ num n)) := fun l' h' => by
  cases h'
  have := num_len9 n h
  rw [List.length_append]
  omega
set_option maxRecDepth 100000 in
set_option maxHeartbeats 1000000 in
theorem Body_any (i : Int) (s : Sp) (p : SpAt) (w : World) :
    Calls Tryd.prog 16 #[.int .i64 i, .agg (spArr s p)] w fun e w' => e = .returned (.tuple #[.string (spBody i s).1, .int .i64 (spBody i s).2]) ∧ Below w.heap.size w w' := by
  have hE : spBody i s = if i < 0 ∨ 199 < i then (⟨#[]⟩, 3) else if spLong s then (⟨#[]⟩, 1) else (bs (spBodyL i.toNat s), 0) := rfl
  have HE := Lib.hid hE
  clear hE
  generalize spBody i s = R at *
  by_cases h0 : i < 0
  · have HE2 : Hid (R = (⟨#[]⟩, 3)) := by show _ = _; rw [HE.out, if_pos (.inl h0)]
    clear HE
    generalize hA : spArr s p = arr at *
    go_enter Tryd.func16, Tryd.ntmps16
    go_wp2_with fail
    go_ret2
    exact ⟨by rw [HE2.out]; rfl, (Below.refl _ _).alloc (Nat.le_refl _) _⟩
  by_cases h2 : 200 ≤ i
  · have HE2 : Hid (R = (⟨#[]⟩, 3)) := by show _ = _; rw [HE.out, if_pos (.inr (by omega))]
    clear HE
    generalize hA : spArr s p = arr at *
    go_enter Tryd.func16, Tryd.ntmps16
    go_wp2_with fail
    go_ret2
    exact ⟨by rw [HE2.out]; rfl, (Below.refl _ _).alloc (Nat.le_refl _) _⟩
  have HE2 : Hid (R = if spLong s then (⟨#[]⟩, 1) else (bs (spBodyL i.toNat s), 0)) := by show _ = _; rw [HE.out, if_neg (by omega)]
  clear HE
  obtain ⟨n, rfl⟩ := Int.eq_ofNat_of_zero_le (show 0 ≤ i by omega)
  rw [Int.toNat_natCast] at HE2
  have hn : n < 4611686018427387904 := by omega
  have h1 : Hid (Bd w w.heap.size (w.heap.size + 1) s p (some []) ((w.alloc (.cells (spArr s p) 25)).alloc (.cells #[.pointer none, .int .i64 0, .int .i64 0] 60))) := by
    have A0 : Arr (w.alloc (.cells (spArr s p) 25)) w.heap.size 25 (spArr s p) := Arr.new _ _ _
    have b0 : Below w.heap.size w (w.alloc (.cells (spArr s p) 25)) := (Below.refl _ _).alloc (Nat.le_refl _) _
    have hz : (w.alloc (.cells (spArr s p) 25)).heap.size = w.heap.size + 1 := World.size_alloc _ _
    generalize w.alloc (.cells (spArr s p) 25) = V at *
    have q : WL (V.alloc (.cells #[.pointer none, .int .i64 0, .int .i64 0] 60)) V.heap.size [] := ⟨[], ⟨.pointer none, Arr.new _ _ _, rfl⟩, rfl⟩
    rw [hz] at q
    exact ⟨A0.below ((Below.refl _ _).alloc (Nat.le_refl _) _) A0.lt, by omega, by omega, b0.alloc b0.size _, q⟩
  have CW := Lib.hid (fun g W st hs h => writeChange_any s p g st hs W h)
  generalize hb : w.heap.size = b at *
  generalize hA : spArr s p = arr at *
  have HA := Lib.hid hA
  clear hA
  go_enter Tryd.func16, Tryd.ntmps16
  go_upto_region 4 with fail
  refine wp_forget (Bd w b (b + 1) s p (some [])) (by rw [← hb] at h1 ⊢; exact h1.out) ?_
  clear h1
  generalize b + 1 = g
  intro W hW
  have hA := HA.out
  clear HA
  subst hA
  have C0 := Lib.hid (wl_number g [] n hn (by simp) W hW.2.2.2.2)
  go_wp2_with fail
  (with_reducible refine C0.out.mono ?_)
  clear C0
  rintro _ W2 ⟨rfl, h2, k2⟩
  have hW2 : Bd w b g s p (some ([] ++ num n)) W2 := hW.wrote h2 k2
  clear hW h2 k2
  have C1 := Lib.hid (CW.out g W2 _ (num_short n hn [] (by simp)) hW2.2.2.2.2)
  go_wp2_with (refine wpList_load_row rfl 25 _ rfl b rfl 25 _ (0, 0) _ hW2.1 Tryd.underlying25 rfl (spInfo s p) ?_)
  (with_reducible refine C1.out.mono ?_)
  clear C1
  rintro _ W3 ⟨rfl, h3, k3⟩
  have hW3 := hW2.wrote h3 k3
  clear hW2 h3 k3
  by_cases hl : spLong s
  · rw [if_pos hl] at HE2
    rw [chX_no s hl] at hW3
    have C2 := Lib.hid (Done_bad g 1 (by decide) W3 hW3.2.2.2.2)
    go_wp2_with fail
    (with_reducible refine C2.out.mono ?_)
    rintro _ W4 ⟨rfl, b4⟩
    go_wp2_with fail
    go_ret2
    exact ⟨by rw [HE2.out]; rfl, by rw [← hb] at hW3 ⊢; exact hW3.2.2.2.1.trans (b4.mono hW3.2.2.2.1.size)⟩
  · rw [if_neg hl] at HE2
    rw [chX_ok s hl, List.nil_append] at hW3
    have hL : num n ++ chL s = spBodyL n s := by unfold chL spBodyL; simp only [List.append_assoc]
    rw [hL] at hW3
    obtain ⟨ps, hok, hps⟩ := hW3.2.2.2.2
    have hlen : (cat ps).length ≤ 281474976710656 := by
      rw [hps]
      unfold spLong at hl
      have := num_len9 n hn
      have := txt_len s.ref (by omega)
      have := txt_len s.old (by omega)
      have := txt_len s.new (by omega)
      unfold spBodyL
      simp only [List.length_append]
      omega
    have C2 := Lib.hid (Done_ok g ps hlen W3 hok)
    rw [hps] at C2
    generalize bs (spBodyL n s) = B at *
    go_wp2_with fail
    (with_reducible refine C2.out.mono ?_)
    rintro _ W4 ⟨rfl, b4⟩
    go_wp2_with fail
    go_ret2
    exact ⟨by rw [HE2.out]; rfl, by rw [← hb] at hW3 ⊢; exact hW3.2.2.2.1.trans (b4.mono hW3.2.2.2.1.size)⟩
set_option maxRecDepth 100000 in
theorem goodBody_any (i : Int) (s : Sp) (p : SpAt) (w : World) (hP : SpIn w w.heap.size s p) (hb : s.who.length ≤ 140737488355328) (hb2 : s.seals.length ≤ 140737488355328) :
    Calls Tryd.prog 57 #[.int .i64 i, .agg (spArr s p)] w fun e w' => e = .returned (.tuple #[.string (spGB i s).1, .int .i64 (spGB i s).2]) ∧ Below w.heap.size w w' := by
  have h1 := Lib.hid (Sx.start hP)
  have CG := Lib.hid (fun V h => SpGood_any s p V h hb hb2)
  have CB := Lib.hid (fun V => Body_any i s p V)
  have hE : spGB i s = if spGood s ≠ 0 then (⟨#[]⟩, spGood s) else spBody i s := rfl
  have HE := Lib.hid hE
  clear hE hP
  generalize spGB i s = R at *
  generalize spGood s = G at *
  generalize spBody i s = B at *
  generalize hA : spArr s p = arr at *
  have HA := Lib.hid hA
  clear hA
  go_enter Tryd.func57, Tryd.ntmps57
  go_upto_region 1 with fail
  refine wp_forget (Sx w s p) h1.out ?_
  clear h1
  intro W hW
  have hA := HA.out
  clear HA
  subst hA
  go_wp2_with (refine wpList_load_row rfl 25 _ rfl w.heap.size rfl 25 _ (0, 0) _ hW.1 Tryd.underlying25 rfl (spInfo s p) ?_)
  have C := Lib.hid (CG.out W hW.up)
  clear CG
  (with_reducible refine C.out.mono ?_)
  rintro _ W2 ⟨rfl, b2⟩
  have hW2 := hW.below b2
  clear hW b2 C
  cases hG : G != 0
  case true =>
    have hG2 : G ≠ 0 := by simpa using hG
    rw [if_pos hG2] at HE
    go_wp2_with fail
    go_ret2
    exact ⟨by rw [HE.out]; rfl, hW2.2.2⟩
  have hG2 : G = 0 := by simpa using hG
  subst hG2
  rw [if_neg (by simp)] at HE
  clear hG
  go_wp2_with (refine wpList_load_row rfl 25 _ rfl w.heap.size rfl 25 _ (0, 0) _ hW2.1 Tryd.underlying25 rfl (spInfo s p) ?_)
  have C := Lib.hid (CB.out W2)
  (with_reducible refine C.out.mono ?_)
  rintro _ W3 ⟨rfl, b3⟩
  go_wp2_with fail
  go_ret2
  exact ⟨by rw [HE.out]; rfl, (hW2.below b3).2.2⟩
end Go.Proofs.YtbpmgpbmeganoaaDoor

/- A valid step's body; a region that draws its order. -/
namespace Go.Proofs.YtbpmgpbmeganoaaDoor
open Go.RowKit

theorem spGB_small (i : Int) (s : Sp) (_ : (spGB i s).2 = 0) : (spGB i s).1.size ≤ 20000 := by
  unfold spGB
  split
  · exact Nat.zero_le _
  · unfold spBody
    split
    · exact Nat.zero_le _
    · split
      · exact Nat.zero_le _
      · rename_i h2
        unfold spLong at h2
        have := num_len9 i.toNat (by omega)
        have := txt_len s.ref (by omega)
        have := txt_len s.old (by omega)
        have := txt_len s.new (by omega)
        simp only [bs_size, spBodyL, List.length_append]
        omega
theorem spGB_good {i : Int} {s : Sp} (h : (spGB i s).2 = 0) : spGood s = 0 := by
  unfold spGB at h
  by_cases hg : spGood s = 0
  · exact hg
  · rw [if_pos hg] at h
    exact h
/-- a region that draws its order: whatever the order, the same act and a world of this kind -/
theorem wp_met {P : Program} {c : Code} {K : Act → World → Prop} {Q : Exit → Act → World → Prop} {a : Act} {w : World} {act : Option Addr → Nat → World → Act} (R : Option Addr → Nat → World → Prop)
    (h : ∀ K' : Act → World → Prop, (∀ A c U V, R A c V → K' (act A c U) V) → c.wp P (Exit.then K' Q) a w) (k : ∀ A c U V, R A c V → Exit.then K Q .normal (act A c U) V) : c.wp P (Exit.then K Q) a w := h K k
theorem wp_meet {P : Program} {c : Code} {K : Act → World → Prop} {Q : Exit → Act → World → Prop} {a : Act} {w : World} {act : World → Act} (R : World → Prop)
    (h : ∀ K' : Act → World → Prop, (∀ U V, R V → K' (act U) V) → c.wp P (Exit.then K' Q) a w) (k : ∀ U V, R V → Exit.then K Q .normal (act U) V) : c.wp P (Exit.then K Q) a w := h K k
theorem below_cell {V : World} {p : Addr} {u : Value} (h : V.cell? p = some u) (hl : p.block < V.heap.size) {o : Obj} : (V.alloc o).drew.cell? p = some u := (((Below.refl V.heap.size V).alloc (Nat.le_refl _) o).cell hl).trans h
end Go.Proofs.YtbpmgpbmeganoaaDoor

/- ref.Get, ref.GetText: their contracts. -/
namespace Go.Proofs.YtbpmgpbmeganoaaDoor
open Go.RowKit

theorem last_num (n : Nat) (h : 1 < (num n).length) : lastOf (num n) ≠ 0 := by
  rcases (num_ended n).2.1 with h1 | h1
  · omega
  · exact h1
def RGRel (s : ByteArray) (w : World) (n p i : Value) (wr : World) : Prop :=
  ∃ k : Nat, k ≤ s.size ∧ k ≤ 8 ∧ i = .int .i64 (k : Int) ∧ p = .int .i64 ((128 ^ k : Nat) : Int) ∧ n = .int .i64 (val (s.data.toList.take k) : Int) ∧ (∀ x ∈ s.data.toList.take k, 128 ≤ x.toNat) ∧ Below w.heap.size w wr

theorem sum_groups (v b p v2 : Nat) (hp : p ≤ 72057594037927936) (hv : v < p) (h : v2 = v + b % 128 * p) :
    wrap64 ((v : Int) + wrap64 ((b : Int) % 128 * (p : Int))) = (v2 : Int) := by
  have hx : b % 128 * p ≤ 127 * 72057594037927936 := Nat.mul_le_mul (by omega) hp
  have e : (b : Int) % 128 * (p : Int) = ((b % 128 * p : Nat) : Int) := by simp
  rw [e, IntWalk.wrap64_in ((b % 128 * p : Nat) : Int) (by omega), IntWalk.wrap64_in _ (by omega), h]
  omega
/-- what Number makes of what was read is what stands there, just where the last byte is not idle -/
theorem same_bytes (s : ByteArray) (k : Nat) (h : k < s.size) (ho : ∀ x ∈ s.data.toList.take k, 128 ≤ x.toNat) (hb : s[k].toNat < 128) :
    if 0 < k ∧ s[k].toNat = 0 then ((bs (num (val (s.data.toList.take (k + 1))))).toList == (s.extract 0 (k + 1)).toList) = false else bs (num (val (s.data.toList.take (k + 1)))) = s.extract 0 (k + 1) := by
  have he := ended_snoc _ _ ho hb
  rw [← take_snoc s k h] at he
  have hl : (s.data.toList.take (k + 1)).length = k + 1 := by rw [List.length_take]; have : s.data.toList.length = s.size := rfl; omega
  have hlast : lastOf (s.data.toList.take (k + 1)) = s[k].toNat := by rw [take_snoc s k h, lastOf_snoc]
  split
  · rename_i hc
    rw [beq_eq_false_iff_ne]
    intro e
    rw [ByteArray.toList_eq, ByteArray.toList_eq, bs_list, extract_drop, List.drop_zero, Nat.sub_zero] at e
    have h1 := last_num (val (s.data.toList.take (k + 1))) (by rw [e, hl]; omega)
    rw [e, hlast] at h1
    exact h1 hc.2
  · rename_i hc
    rw [(val_ended _ he (by rw [hl, hlast]; omega)).1, bs_extract]

set_option maxRecDepth 100000 in
set_option maxHeartbeats 1000000 in
theorem RefGet_any (s : ByteArray) (hs : s.size ≤ 281474976710656) (w : World) :
    Calls Tryd.prog 79 #[.string s] w fun e w' => GR (got s.data.toList) e ∧ Below w.heap.size w w' := by
  go_enter Tryd.func79, Tryd.ntmps79
  go_wp2_with fail
  go_loopw [5, 6, 7] (fun n p i wr => RGRel s w n p i wr) (fun _ _ i _ => 9 - (intOf i).toNat)
  case atStart => exact ⟨0, by omega, by omega, rfl, rfl, rfl, (fun x hx => by simp at hx), Below.refl _ _⟩
  case round =>
    obtain ⟨k, hk, hk8, rfl, rfl, rfl, ho, hB⟩ := hrel
    have HO := Lib.hid ho
    clear ho
    by_cases hlt : k < s.size
    · have h1 : (k : Int) < 9 := by omega
      have h2 : (k : Int) < s.size := by omega
      have hb := s[k].toNat_lt
      have hv := val_lt (s.data.toList.take k)
      rw [List.length_take, Nat.min_eq_left (show k ≤ s.data.toList.length from hk)] at hv
      have hp : (128 : Nat) ^ k ≤ 72057594037927936 := by
        have : (128 : Nat) ^ k ≤ 128 ^ 8 := Nat.pow_le_pow_right (by decide) (by omega)
        omega
      have hp7 : k < 8 → (128 : Nat) ^ k ≤ 562949953421312 := fun h => by
        have : (128 : Nat) ^ k ≤ 128 ^ 7 := Nat.pow_le_pow_right (by decide) (by omega)
        omega
      have hp8 : k = 8 → (128 : Nat) ^ k = 72057594037927936 := fun h => by subst h; rfl
      have HPS : Hid ((128 : Nat) ^ (k + 1) = 128 ^ k * 128) := by show _ = _; rw [Nat.pow_succ]
      have hv2 : val (s.data.toList.take (k + 1)) = val (s.data.toList.take k) + s[k].toNat % 128 * 128 ^ k := by
        rw [take_snoc s k hlt, val_snoc, List.length_take, Nat.min_eq_left (show k ≤ s.data.toList.length from hk)]
      have hj := sum_groups _ _ _ _ hp hv hv2
      by_cases hg : 128 ≤ s[k].toNat
      · have HG : Hid (k = 8 → got s.data.toList = none) := fun h8 => got_open s 9 (.inr rfl) (by omega) (by
          rw [show 9 = k + 1 from by omega, take_snoc s k hlt]
          intro x hx
          rw [List.mem_append, List.mem_singleton] at hx
          rcases hx with hx | rfl
          · exact HO.out x hx
          · exact hg) (by omega)
        have hg' : 128 ≤ (s[k].toNat : Int) := by omega
        clear hv2 hv
        generalize val (s.data.toList.take k) = v at *
        generalize hV2 : val (s.data.toList.take (k + 1)) = v2 at *
        have HV2 := Lib.hid hV2
        clear hV2
        by_cases h8 : k = 8
        · have HG2 := Lib.hid (HG.out h8)
          have h8' : ((k : Int) == 8) = true := by rw [beq_iff_eq]; omega
          have hg2 : 64 ≤ (s[k].toNat : Int) := by omega
          clear hp8 hp7 HG h8 HPS
          generalize (128 : Nat) ^ k = p at *
          go_wp2_with fail
          go_ret3
          exact ⟨GR_none rfl HG2.out, hB⟩
        · have hp' := hp7 (by omega)
          have h8' : ((k : Int) == 8) = false := by rw [beq_eq_false_iff_ne]; omega
          have h8'' : (k : Int) < 8 := by omega
          have hk7 : k < 8 := by omega
          clear hp8 hp7 HG h8 hp
          generalize hP : (128 : Nat) ^ k = p at *
          have HP := Lib.hid hP
          clear hP
          go_wp2_with fail
          refine ⟨⟨k + 1, hlt, hk7, by go_num, by rw [HPS.out]; go_num, by rw [HV2.out, hj], ?_, hB⟩, by simp [intOf]; omega⟩
          intro x hx
          rw [take_snoc s k hlt, List.mem_append, List.mem_singleton] at hx
          rcases hx with hx | rfl
          · exact HO.out x hx
          · exact hg
      · have hg' : (s[k].toNat : Int) < 128 := by omega
        have HG := Lib.hid (got_at s k hlt (by omega) HO.out (by omega))
        have HS := Lib.hid (same_bytes s k hlt HO.out (by omega))
        have hmod : s[k].toNat % 128 = s[k].toNat := by omega
        rw [hmod] at hv2
        clear hmod
        by_cases h8 : k = 8 ∧ 64 ≤ s[k].toNat
        · obtain ⟨e8, h64⟩ := h8
          have hpe := hp8 e8
          have hbig : 4611686018427387904 ≤ val (s.data.toList.take (k + 1)) := by
            rw [hv2, hpe]; omega
          have HG2 : Hid (got s.data.toList = none) := by show _ = _; rw [HG.out, if_pos (.inr hbig)]
          have h8' : ((k : Int) == 8) = true := by rw [beq_iff_eq]; omega
          have hg2 : 64 ≤ (s[k].toNat : Int) := by omega
          clear HG HS hp8 hp7 hbig hpe hv2 HPS hv e8 h64
          generalize val (s.data.toList.take k) = v at *
          generalize val (s.data.toList.take (k + 1)) = v2 at *
          generalize (128 : Nat) ^ k = p at *
          go_wp2_with fail
          go_ret3
          exact ⟨GR_none rfl HG2.out, hB⟩
        · have hsmall : val (s.data.toList.take (k + 1)) < 4611686018427387904 := by
            rw [hv2]
            by_cases e8 : k = 8
            · rw [hp8 e8] at hv ⊢
              omega
            · have h7 := hp7 (by omega)
              have hx : s[k].toNat * 128 ^ k ≤ 127 * 562949953421312 := Nat.mul_le_mul (by omega) h7
              omega
          have h8' : ((k : Int) == 8) = false ∨ (((k : Int) == 8) = true ∧ ¬ (64 ≤ (s[k].toNat : Int))) := by
            by_cases e : k = 8
            · exact .inr ⟨by rw [beq_iff_eq]; omega, by omega⟩
            · exact .inl (by rw [beq_eq_false_iff_ne]; omega)
          have HN := Lib.hid (RefNumber_yes _ hsmall)
          have w1 : IntKind.i64.wrap ((k : Int) + 1) = (k : Int) + 1 := IntWalk.i64_in _ (by omega)
          have w2 : ((k : Int) + 1).toNat = k + 1 := by omega
          have w3 : (k : Int) + 1 ≤ s.size := by omega
          have w4 : 0 ≤ (k : Int) + 1 := by omega
          have W1 := Lib.hid w1
          have W2 := Lib.hid w2
          clear w1 w2 hp8 hp7 HPS hv hv2 h8
          by_cases hz : 0 < k ∧ s[k].toNat = 0
          · have hne := HS.out
            rw [if_pos hz] at hne
            have HG2 : Hid (got s.data.toList = none) := by show _ = _; rw [HG.out, if_pos (.inl hz)]
            have HNE := Lib.hid hne
            clear HG HS hz hsmall hne HO
            generalize val (s.data.toList.take k) = v at *
            generalize val (s.data.toList.take (k + 1)) = v2 at *
            generalize (128 : Nat) ^ k = p at *
            generalize bs (num v2) = x at *
            rcases h8' with h8' | ⟨h8', h8''⟩
            all_goals
              go_wp2_with fail
              try rw [hj]
              clear hp hj
              have w1 := W1.out
              have w2 := W2.out
              have hne := HNE.out
              go_region_with (first
                | (go_at_call 42
                   (with_reducible refine (HN.out _).mono ?_)
                   rintro e w5 ⟨rfl, b5⟩))
              all_goals
                clear w1 w2 hne
                go_wp2_with fail
                go_ret3
                exact ⟨GR_none rfl HG2.out, (hB.drew).trans (b5.mono (by have := hB.size; simpa using this))⟩
          · have heq := HS.out
            rw [if_neg hz] at heq
            have HG2 : Hid (got s.data.toList = some (val (s.data.toList.take (k + 1)), k + 1)) := by show _ = _; rw [HG.out, if_neg (by omega)]
            rw [heq] at HN
            clear HG HS hz hsmall heq HO
            generalize val (s.data.toList.take k) = v at *
            generalize val (s.data.toList.take (k + 1)) = v2 at *
            generalize (128 : Nat) ^ k = p at *
            rcases h8' with h8' | ⟨h8', h8''⟩
            all_goals
              go_wp2_with fail
              try rw [hj]
              clear hp hj
              have w1 := W1.out
              have w2 := W2.out
              go_region_with (first
                | (go_at_call 42
                   (with_reducible refine (HN.out _).mono ?_)
                   rintro e w5 ⟨rfl, b5⟩))
              all_goals
                clear w1 w2
                go_wp2_with fail
                go_ret3
                exact ⟨GR_some (by go_num) HG2.out, (hB.drew).trans (b5.mono (by have := hB.size; simpa using this))⟩
    · have HG := Lib.hid (got_open s k (by omega) hk HO.out (by omega))
      have h2 : ¬ (k : Int) < s.size := by omega
      clear HO
      generalize (128 : Nat) ^ k = p at *
      go_wp2_with fail
      go_ret3
      exact ⟨GR_none rfl HG.out, hB⟩
end Go.Proofs.YtbpmgpbmeganoaaDoor

/- ref.GetText: its contract; both read alike. -/
namespace Go.Proofs.YtbpmgpbmeganoaaDoor
open Go.RowKit

def RefGetIs (s : ByteArray) (n k : Nat) (e : Int) : Prop := ∀ W, Calls Tryd.prog 79 #[.string s] W fun x w' => x = .returned (.tuple #[.int .i64 (n : Int), .int .i64 (k : Int), .int .i64 e]) ∧ Below W.heap.size W w'
theorem refGetIs_some (s : ByteArray) (hs : s.size ≤ 281474976710656) (n k : Nat) (h : got s.data.toList = some (n, k)) : RefGetIs s n k 0 := fun W => by
  have q := RefGet_any s hs W
  rw [h] at q
  exact q
theorem refGetIs_none (s : ByteArray) (hs : s.size ≤ 281474976710656) (h : got s.data.toList = none) : RefGetIs s 0 0 2 := fun W => by
  have q := RefGet_any s hs W
  rw [h] at q
  exact q
def RefGetTextIs (s r : ByteArray) (k : Nat) (e : Int) : Prop := ∀ W, Calls Tryd.prog 78 #[.string s] W fun x w' => x = .returned (.tuple #[.string r, .int .i64 (k : Int), .int .i64 e]) ∧ Below W.heap.size W w'

set_option maxRecDepth 100000 in
theorem refText_none (s : ByteArray) (hs : s.size ≤ 281474976710656) (h : got s.data.toList = none) : RefGetTextIs s ⟨#[]⟩ 0 2 := fun w => by
  have C := refGetIs_none s hs h
  clear h
  go_enter Tryd.func78, Tryd.ntmps78
  go_wp2_with fail
  have c1 := C w
  (with_reducible refine c1.mono ?_)
  clear c1
  rintro e w1 ⟨rfl, b1⟩
  go_wp2_with fail
  go_ret3
  exact ⟨rfl, b1⟩
set_option maxRecDepth 100000 in
theorem refText_long (s : ByteArray) (hs : s.size ≤ 281474976710656) (n k : Nat) (h : got s.data.toList = some (n, k)) (hn : 4096 < n) : RefGetTextIs s ⟨#[]⟩ 0 1 := fun w => by
  have C := refGetIs_some s hs n k h
  have hn1 : (4096 : Int) < n := by omega
  clear h
  go_enter Tryd.func78, Tryd.ntmps78
  go_wp2_with fail
  have c1 := C w
  (with_reducible refine c1.mono ?_)
  clear c1
  rintro e w1 ⟨rfl, b1⟩
  go_wp2_with fail
  go_ret3
  exact ⟨rfl, b1⟩
set_option maxRecDepth 100000 in
theorem refText_short (s : ByteArray) (hs : s.size ≤ 281474976710656) (n k : Nat) (h : got s.data.toList = some (n, k)) (hn : n ≤ 4096) (hl : s.size < k + n) : RefGetTextIs s ⟨#[]⟩ 0 2 := fun w => by
  have C := refGetIs_some s hs n k h
  have hk : k ≤ 9 := (got_some _ _ _ h).2.2.2.1
  have hn1 : ¬ ((4096 : Int) < n) := by omega
  have hn2 : ((s.size : Int) - k) < n := by omega
  clear h
  go_enter Tryd.func78, Tryd.ntmps78
  go_wp2_with fail
  have c1 := C w
  (with_reducible refine c1.mono ?_)
  clear c1
  rintro e w1 ⟨rfl, b1⟩
  go_wp2_with fail
  go_ret3
  exact ⟨rfl, b1⟩
set_option maxRecDepth 100000 in
theorem refText_yes (s : ByteArray) (hs : s.size ≤ 281474976710656) (n k : Nat) (h : got s.data.toList = some (n, k)) (hn : n ≤ 4096) (hl : k + n ≤ s.size) : RefGetTextIs s (s.extract k (k + n)) (k + n) 0 := fun w => by
  have C := refGetIs_some s hs n k h
  have hk : k ≤ 9 := (got_some _ _ _ h).2.2.2.1
  have hn1 : ¬ ((4096 : Int) < n) := by omega
  have hn2 : ¬ ((s.size : Int) - k) < n := by omega
  clear h
  go_enter Tryd.func78, Tryd.ntmps78
  go_wp2_with fail
  have c1 := C w
  (with_reducible refine c1.mono ?_)
  clear c1
  rintro e w1 ⟨rfl, b1⟩
  go_wp2_with fail
  go_ret3
  exact ⟨rfl, b1⟩

/-- both read a number alike -/
theorem gets_alike (s : ByteArray) (hs : s.size ≤ 281474976710656) : ∃ (n k : Nat) (e : Int), GetIs s n k e ∧ RefGetIs s n k e ∧ k ≤ s.size := by
  cases hg : got s.data.toList with
  | none => exact ⟨0, 0, 2, getIs_none s hs hg, refGetIs_none s hs hg, Nat.zero_le _⟩
  | some nk =>
    obtain ⟨n, k⟩ := nk
    exact ⟨n, k, 0, getIs_some s hs n k hg, refGetIs_some s hs n k hg, (got_some _ _ _ hg).2.2.2.2⟩
/-- both read a text alike -/
theorem texts_alike (s : ByteArray) (hs : s.size ≤ 281474976710656) : ∃ (r : ByteArray) (k : Nat) (e : Int), TextIs s r k e ∧ RefGetTextIs s r k e ∧ k ≤ s.size := by
  cases hg : got s.data.toList with
  | none => exact ⟨_, 0, 2, text_none s hs hg, refText_none s hs hg, Nat.zero_le _⟩
  | some nk =>
    obtain ⟨n, k⟩ := nk
    by_cases h1 : 4096 < n
    · exact ⟨_, 0, 1, text_long s hs n k hg h1, refText_long s hs n k hg h1, Nat.zero_le _⟩
    · by_cases h2 : s.size < k + n
      · exact ⟨_, 0, 2, text_short s hs n k hg (by omega) h2, refText_short s hs n k hg (by omega) h2, Nat.zero_le _⟩
      · exact ⟨_, k + n, 0, text_yes s hs n k hg (by omega) (by omega), refText_yes s hs n k hg (by omega) (by omega), by omega⟩
end Go.Proofs.YtbpmgpbmeganoaaDoor

/- A reader and the document's own cursor, step by step: both answer alike. -/
namespace Go.Proofs.YtbpmgpbmeganoaaDoor
open Go.RowKit

/-- the document's own cursor: what is left, what went wrong -/
def Cu (w : World) (g : Nat) (s : ByteArray) (e : Int) : Prop := Arr w g 78 #[.string s, .int .i64 e]
theorem Cu.c0 {w : World} {g : Nat} {s : ByteArray} {e : Int} (h : Cu w g s e) : w.cell? ⟨g, 0, none⟩ = some (.string s) := h.cell 0
theorem Cu.c1 {w : World} {g : Nat} {s : ByteArray} {e : Int} (h : Cu w g s e) : w.cell? ⟨g, 1, none⟩ = some (.int .i64 e) := h.cell 1
theorem Cu.set {w : World} {g : Nat} {s : ByteArray} {e : Int} (h : Cu w g s e) (s2 : ByteArray) : Cu (w.setCell ⟨g, 0, none⟩ (.string s2)) g s2 e := h.put 0 _
theorem Cu.err {w : World} {g : Nat} {s : ByteArray} {e : Int} (h : Cu w g s e) (e2 : Int) : Cu (w.setCell ⟨g, 1, none⟩ (.int .i64 e2)) g s e2 := h.put 1 _
def AfterC (w : World) (g : Nat) (v : Value) (s : ByteArray) (e : Int) (x : Ending) (w' : World) : Prop := x = .returned v ∧ Cu w' g s e ∧ w.grownBy w' (some g)

theorem cnumber_go (g : Nat) (s : ByteArray) (n k : Nat) (e : Int) (C : RefGetIs s n k e) (hk : k ≤ s.size) (w : World) (h : Cu w g s 0) :
    Calls Tryd.prog 54 #[.pointer (some ⟨g, 0, none⟩)] w (AfterC w g (.int .i64 (n : Int)) (s.extract k s.size) e) := by
  have c0 := h.c0
  have c1 := h.c1
  go_enter Tryd.func54, Tryd.ntmps54
  go_wp2_with fail
  have q := C w
  (with_reducible refine q.mono ?_)
  clear q
  rintro x w1 ⟨rfl, b1⟩
  have h1 : Cu w1 g s 0 := Arr.below h b1 h.lt
  have d0 := h1.c0
  have f0 := h1.free 0
  have h2 := h1.set (s.extract k s.size)
  have d1 := h1.c1
  have f1 := h1.free 1
  have h3 := h2.err e
  clear c0 c1
  go_wp2_with fail
  go_ret
  exact ⟨rfl, h3, gb_trans (gb_below b1) (gb_trans (gb_set _ _ _) (gb_set _ _ _))⟩
theorem cnumber_bad (g : Nat) (s : ByteArray) (e : Int) (he : (e != 0) = true) (w : World) (h : Cu w g s e) :
    Calls Tryd.prog 54 #[.pointer (some ⟨g, 0, none⟩)] w (AfterC w g (.int .i64 0) s e) := by
  have c1 := h.c1
  go_enter Tryd.func54, Tryd.ntmps54
  go_wp2_with fail
  go_ret
  exact ⟨rfl, h, World.grownBy.refl _ _⟩
theorem ctext_go (g : Nat) (s r : ByteArray) (k : Nat) (e : Int) (C : RefGetTextIs s r k e) (hk : k ≤ s.size) (w : World) (h : Cu w g s 0) :
    Calls Tryd.prog 53 #[.pointer (some ⟨g, 0, none⟩)] w (AfterC w g (.string r) (s.extract k s.size) e) := by
  have c0 := h.c0
  have c1 := h.c1
  go_enter Tryd.func53, Tryd.ntmps53
  go_wp2_with fail
  have q := C w
  (with_reducible refine q.mono ?_)
  clear q
  rintro x w1 ⟨rfl, b1⟩
  have h1 : Cu w1 g s 0 := Arr.below h b1 h.lt
  have d0 := h1.c0
  have f0 := h1.free 0
  have h2 := h1.set (s.extract k s.size)
  have d1 := h1.c1
  have f1 := h1.free 1
  have h3 := h2.err e
  clear c0 c1
  go_wp2_with fail
  go_ret
  exact ⟨rfl, h3, gb_trans (gb_below b1) (gb_trans (gb_set _ _ _) (gb_set _ _ _))⟩
theorem ctext_bad (g : Nat) (s : ByteArray) (e : Int) (he : (e != 0) = true) (w : World) (h : Cu w g s e) :
    Calls Tryd.prog 53 #[.pointer (some ⟨g, 0, none⟩)] w (AfterC w g (.string ⟨#[]⟩) s e) := by
  have c1 := h.c1
  go_enter Tryd.func53, Tryd.ntmps53
  go_wp2_with fail
  go_ret
  exact ⟨rfl, h, World.grownBy.refl _ _⟩
theorem ctake_bad (g : Nat) (s : ByteArray) (n e : Int) (he : (e != 0) = true) (he2 : (e == 0) = false) (w : World) (h : Cu w g s e) :
    Calls Tryd.prog 55 #[.pointer (some ⟨g, 0, none⟩), .int .i64 n] w (AfterC w g (.string ⟨#[]⟩) s e) := by
  have c1 := h.c1
  go_enter Tryd.func55, Tryd.ntmps55
  go_wp2_with fail
  go_ret
  exact ⟨rfl, h, World.grownBy.refl _ _⟩
theorem ctake_no (g : Nat) (s : ByteArray) (n : Int) (hn : n < 0 ∨ (s.size : Int) < n) (w : World) (h : Cu w g s 0) :
    Calls Tryd.prog 55 #[.pointer (some ⟨g, 0, none⟩), .int .i64 n] w (AfterC w g (.string ⟨#[]⟩) s 2) := by
  have c0 := h.c0
  have c1 := h.c1
  have f1 := h.free 1
  have h2 := h.err 2
  rcases hn with hn | hn
  · go_enter Tryd.func55, Tryd.ntmps55
    go_wp2_with fail
    go_ret
    exact ⟨rfl, h2, gb_set _ _ _⟩
  · have hn2 : ¬ n < 0 := by omega
    go_enter Tryd.func55, Tryd.ntmps55
    go_wp2_with fail
    go_ret
    exact ⟨rfl, h2, gb_set _ _ _⟩
theorem ctake_go (g : Nat) (s : ByteArray) (n : Nat) (hn : n ≤ s.size) (w : World) (h : Cu w g s 0) :
    Calls Tryd.prog 55 #[.pointer (some ⟨g, 0, none⟩), .int .i64 (n : Int)] w (AfterC w g (.string (s.extract 0 n)) (s.extract n s.size) 0) := by
  have c0 := h.c0
  have c1 := h.c1
  have f0 := h.free 0
  have h2 := h.set (s.extract n s.size)
  have hn2 : ¬ (n : Int) < 0 := by omega
  have hn3 : ¬ (s.size : Int) < n := by omega
  go_enter Tryd.func55, Tryd.ntmps55
  go_wp2_with fail
  go_ret
  exact ⟨rfl, h2, gb_set _ _ _⟩

/-- what a step answers, what is left, what went wrong -/
def stN (s : ByteArray) (e : Int) : Int × ByteArray × Int :=
  if e = 0 then (match got s.data.toList with | some (n, k) => ((n : Int), s.extract k s.size, 0) | none => (0, s.extract 0 s.size, 2)) else (0, s, e)
def stT (s : ByteArray) (e : Int) : ByteArray × ByteArray × Int :=
  if e = 0 then (match got s.data.toList with
    | some (n, k) => if 4096 < n then (⟨#[]⟩, s.extract 0 s.size, 1) else if s.size < k + n then (⟨#[]⟩, s.extract 0 s.size, 2) else (s.extract k (k + n), s.extract (k + n) s.size, 0)
    | none => (⟨#[]⟩, s.extract 0 s.size, 2)) else (⟨#[]⟩, s, e)
def stB (s : ByteArray) (e n : Int) : ByteArray × ByteArray × Int :=
  if e = 0 then (if n < 0 ∨ (s.size : Int) < n then (⟨#[]⟩, s, 2) else (s.extract 0 n.toNat, s.extract n.toNat s.size, 0)) else (⟨#[]⟩, s, e)

theorem both_num (s : ByteArray) (e : Int) (hs : s.size ≤ 281474976710656) : (stN s e).2.1.size ≤ s.size ∧
    (∀ W g, Rd W g s e → Calls Tryd.prog 76 #[.pointer (some ⟨g, 0, none⟩)] W (After W g (.int .i64 (stN s e).1) (stN s e).2.1 (stN s e).2.2)) ∧
    (∀ W g, Cu W g s e → Calls Tryd.prog 54 #[.pointer (some ⟨g, 0, none⟩)] W (AfterC W g (.int .i64 (stN s e).1) (stN s e).2.1 (stN s e).2.2)) := by
  by_cases he : e = 0
  · subst he
    cases hg : got s.data.toList with
    | none =>
      have hst : stN s 0 = (0, s.extract 0 s.size, 2) := by unfold stN; rw [if_pos rfl, hg]
      rw [hst]
      exact ⟨by simp, fun W g h => Number_go g s 0 0 2 (getIs_none s hs hg) (Nat.zero_le _) W h, fun W g h => cnumber_go g s 0 0 2 (refGetIs_none s hs hg) (Nat.zero_le _) W h⟩
    | some nk =>
      obtain ⟨n, k⟩ := nk
      have hk : k ≤ s.size := (got_some _ _ _ hg).2.2.2.2
      have hst : stN s 0 = ((n : Int), s.extract k s.size, 0) := by unfold stN; rw [if_pos rfl, hg]
      rw [hst]
      exact ⟨by simp, fun W g h => Number_go g s n k 0 (getIs_some s hs n k hg) hk W h, fun W g h => cnumber_go g s n k 0 (refGetIs_some s hs n k hg) hk W h⟩
  · have hst : stN s e = (0, s, e) := by unfold stN; rw [if_neg he]
    have he1 : (e != 0) = true := by rw [bne_iff_ne]; exact he
    rw [hst]
    exact ⟨Nat.le_refl _, fun W g h => Number_bad g s e he1 W h, fun W g h => cnumber_bad g s e he1 W h⟩
theorem both_text (s : ByteArray) (e : Int) (hs : s.size ≤ 281474976710656) : (stT s e).2.1.size ≤ s.size ∧
    (∀ W g, Rd W g s e → Calls Tryd.prog 49 #[.pointer (some ⟨g, 0, none⟩)] W (After W g (.string (stT s e).1) (stT s e).2.1 (stT s e).2.2)) ∧
    (∀ W g, Cu W g s e → Calls Tryd.prog 53 #[.pointer (some ⟨g, 0, none⟩)] W (AfterC W g (.string (stT s e).1) (stT s e).2.1 (stT s e).2.2)) := by
  by_cases he : e = 0
  · subst he
    cases hg : got s.data.toList with
    | none =>
      have hst : stT s 0 = (⟨#[]⟩, s.extract 0 s.size, 2) := by unfold stT; rw [if_pos rfl, hg]
      rw [hst]
      exact ⟨by simp, fun W g h => Text_go g s _ 0 2 (text_none s hs hg) (Nat.zero_le _) W h, fun W g h => ctext_go g s _ 0 2 (refText_none s hs hg) (Nat.zero_le _) W h⟩
    | some nk =>
      obtain ⟨n, k⟩ := nk
      by_cases h1 : 4096 < n
      · have hst : stT s 0 = (⟨#[]⟩, s.extract 0 s.size, 1) := by unfold stT; rw [if_pos rfl, hg]; simp only; rw [if_pos h1]
        rw [hst]
        exact ⟨by simp, fun W g h => Text_go g s _ 0 1 (text_long s hs n k hg h1) (Nat.zero_le _) W h, fun W g h => ctext_go g s _ 0 1 (refText_long s hs n k hg h1) (Nat.zero_le _) W h⟩
      · by_cases h2 : s.size < k + n
        · have hst : stT s 0 = (⟨#[]⟩, s.extract 0 s.size, 2) := by unfold stT; rw [if_pos rfl, hg]; simp only; rw [if_neg h1, if_pos h2]
          rw [hst]
          exact ⟨by simp, fun W g h => Text_go g s _ 0 2 (text_short s hs n k hg (by omega) h2) (Nat.zero_le _) W h, fun W g h => ctext_go g s _ 0 2 (refText_short s hs n k hg (by omega) h2) (Nat.zero_le _) W h⟩
        · have hst : stT s 0 = (s.extract k (k + n), s.extract (k + n) s.size, 0) := by unfold stT; rw [if_pos rfl, hg]; simp only; rw [if_neg h1, if_neg h2]
          rw [hst]
          exact ⟨by simp, fun W g h => Text_go g s _ (k + n) 0 (text_yes s hs n k hg (by omega) (by omega)) (by omega) W h, fun W g h => ctext_go g s _ (k + n) 0 (refText_yes s hs n k hg (by omega) (by omega)) (by omega) W h⟩
  · have hst : stT s e = (⟨#[]⟩, s, e) := by unfold stT; rw [if_neg he]
    have he1 : (e != 0) = true := by rw [bne_iff_ne]; exact he
    rw [hst]
    exact ⟨Nat.le_refl _, fun W g h => Text_bad g s e he1 W h, fun W g h => ctext_bad g s e he1 W h⟩
theorem both_bytes (s : ByteArray) (e n : Int) : (stB s e n).2.1.size ≤ s.size ∧
    (∀ W g, Rd W g s e → Calls Tryd.prog 77 #[.pointer (some ⟨g, 0, none⟩), .int .i64 n] W (After W g (.string (stB s e n).1) (stB s e n).2.1 (stB s e n).2.2)) ∧
    (∀ W g, Cu W g s e → Calls Tryd.prog 55 #[.pointer (some ⟨g, 0, none⟩), .int .i64 n] W (AfterC W g (.string (stB s e n).1) (stB s e n).2.1 (stB s e n).2.2)) := by
  by_cases he : e = 0
  · subst he
    by_cases hn : n < 0 ∨ (s.size : Int) < n
    · have hst : stB s 0 n = (⟨#[]⟩, s, 2) := by unfold stB; rw [if_pos rfl, if_pos hn]
      rw [hst]
      exact ⟨Nat.le_refl _, fun W g h => Bytes_no g s n hn W h, fun W g h => ctake_no g s n hn W h⟩
    · obtain ⟨m, rfl⟩ := Int.eq_ofNat_of_zero_le (show 0 ≤ n by omega)
      have hst : stB s 0 (m : Int) = (s.extract 0 m, s.extract m s.size, 0) := by unfold stB; rw [if_pos rfl, if_neg hn, Int.toNat_natCast]
      rw [hst]
      exact ⟨by simp, fun W g h => Bytes_go g s m (by omega) W h, fun W g h => ctake_go g s m (by omega) W h⟩
  · have hst : stB s e n = (⟨#[]⟩, s, e) := by unfold stB; rw [if_neg he]
    have he1 : (e != 0) = true := by rw [bne_iff_ne]; exact he
    have he2 : (e == 0) = false := by rw [beq_eq_false_iff_ne]; exact he
    rw [hst]
    exact ⟨Nat.le_refl _, fun W g h => Bytes_bad g s n e he1 W h, fun W g h => ctake_bad g s n e he1 he2 W h⟩
end Go.Proofs.YtbpmgpbmeganoaaDoor
