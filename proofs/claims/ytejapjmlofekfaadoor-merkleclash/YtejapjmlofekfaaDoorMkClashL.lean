/- keep.MerkleClash: the walk. -/
import Derived.Test.YtejapjmlofekfaaDoorMkBend
namespace Go.Proofs.YtejapjmlofekfaaDoor
open Go.RowKit

/-- two lists, the table -/
structure TwoL (w : World) (T U : List ByteArray) (A A' : Option Addr) (W : World) : Prop where
  a : Txs W W.heap.size A T
  b : Txs W W.heap.size A' U
  tab : Tab W
  bel : Below w.heap.size w W
theorem TwoL.below {w W W' : World} {T U : List ByteArray} {A A' : Option Addr} (h : TwoL w T U A A' W) (k : Below W.heap.size W W') : TwoL w T U A A' W' := ⟨(h.a.below k).mono k.size, (h.b.below k).mono k.size, h.tab.below k h.tab.1, h.bel.trans (k.mono h.bel.size)⟩
set_option maxRecDepth 100000 in
set_option maxHeartbeats 2000000 in
theorem Clash_few (T U : List ByteArray) (hl : T.length ≤ 130) (hlU : U.length ≤ 130) (hs : Short T) (hsU : Short U) (A0 B0 : Option Addr) (c0 n0 d0 m0 : Nat) (w : World) (ht : Tab w)
    (CF : Calls Tryd.prog 28 #[.slice A0 n0 c0] w (LsEnd w T)) (CF2 : ∀ W, Below w.heap.size w W → Calls Tryd.prog 28 #[.slice B0 m0 d0] W (LsEnd W U)) :
    Calls Tryd.prog 10 #[.slice A0 n0 c0, .slice B0 m0 d0] w (BEnd w true) := by
  obtain ⟨si, hsi, sz0, sz1, sz2⟩ := info_parts info_str
  have Hsi := Lib.hid hsi
  have Sz0 := Lib.hid sz0
  have Sz1 := Lib.hid sz1
  have Sz2 := Lib.hid sz2
  clear hsi sz0 sz1 sz2
  have CR := fun W h => Lib.hid (kroots_any W h)
  have CS : ∀ W A A' c c', Hid (TwoL w T U A A' W → Calls Tryd.prog 34 #[.slice A T.length c, .slice A' U.length c'] W (BEnd W (decide (T = U)))) := fun W A A' c c' h => keepStrings_any T U (by omega) (by omega) A A' c c' W h.a h.b
  have C1 : ∀ W A A' c, Hid (TwoL w T U A A' W → T.length ≤ c → Calls Tryd.prog 12 #[.slice A T.length c] W (TEnd W (rootL T))) := fun W A A' c h q => Root_any _ T (Nat.le_refl _) (by omega) hs A c W h.a q h.tab
  have C2 : ∀ W A A' c, Hid (TwoL w T U A A' W → U.length ≤ c → Calls Tryd.prog 12 #[.slice A' U.length c] W (TEnd W (rootL U))) := fun W A A' c h q => Root_any _ U (Nat.le_refl _) (by omega) hsU A' c W h.b q h.tab
  by_cases hy : T.length = U.length ∧ T ≠ U ∧ rootL T = rootL U
  · have CX : ∀ W A A' c c', Hid (TwoL w T U A A' W → T.length ≤ c → U.length ≤ c' → Calls Tryd.prog 33 #[.slice A T.length c, .slice A' U.length c'] W (XEnd W)) := fun W A A' c c' h q r => Clash_yes T U hy.1 hy.2.1 hy.2.2 (by omega) hs hsU A A' c c' W h.a h.b q r h.tab
    have CK : ∀ x y W, Hid (x ≠ y → dg x = dg y → x.size ≤ 281474976710656 → y.size ≤ 281474976710656 → Tab W → Calls Tryd.prog 35 #[.string x, .string y] W (BEnd W true)) := fun x y W h1 h2 h3 h4 h5 => by
      have := kclash_any x y (by omega) (by omega) W h5
      unfold clashB at this
      rw [decide_eq_true ⟨h1, h2⟩] at this
      exact this
    rw [decide_eq_false hy.2.1] at CS
    rw [hy.2.2] at C1
    have heq : T.length = U.length := hy.1
    rw [heq] at C1 CS CX
    unfold LsEnd at CF CF2
    rw [heq] at CF
    generalize rootL U = r at *
    have CF1 := Lib.hid CF
    have CFb := fun W h => Lib.hid (CF2 W h)
    have ht1 := Lib.hid ht
    have HE := Lib.hid heq
    clear CF CF2 ht hy heq hs hsU
    generalize hn : U.length = n at *
    have Hn := Lib.hid hn
    clear hn
    go_enter Tryd.func10, Tryd.ntmps10
    go_wp2_with fail
    (with_reducible refine CF1.out.mono ?_)
    rintro _ w1 ⟨A, c, rfl, hT, hc, b1⟩
    go_wp2_with fail
    (with_reducible refine (CFb _ b1).out.mono ?_)
    rintro _ w2 ⟨A', c', rfl, hU, hc', b2⟩
    have h2 : TwoL w T U A A' w2 := ⟨(hT.below b2).mono b2.size, hU, ht1.out.below (b1.trans (b2.mono b1.size)) ht1.out.1, b1.trans (b2.mono b1.size)⟩
    clear hT hU b1 b2
    have hnT := h2.a.news
    rw [HE.out] at hnT
    have HNT := Lib.hid hnT
    clear hnT
    have k2 := h2.bel.size
    go_wp2_with (at_builtin; refine wpList_app _ rfl _ _ 22 rfl w.heap.size 9 si _ 1 16 Tryd.underlying22 Hsi.out Sz0.out Sz1.out Sz2.out rfl (by decide) _ _ _ rfl (own_nil _ _ _ _) A n c (T.map sv) rfl (by rw [List.length_map, HE.out]; omega) HNT.out (sv_one _) (by unfold maxLen; omega) (by omega) k2 ?_)
    intro v3 w3 own3 g3
    have own3' : w3.ownsRow w.heap.size 9 1 v3 T.length (T.map sv) := by rw [HE.out]; exact own3
    have k3 : Below w2.heap.size w2 w3 := (Below.refl _ _).grown g3 (Nat.le_refl _) (by intro k hk; cases hk)
    obtain ⟨A3, c3, rfl, hc3, hT3, _⟩ := own_texts own3'
    have h3 := h2.below k3
    have hnU := h3.b.news
    rw [Hn.out] at hnU
    have HNU := Lib.hid hnU
    clear hnU own3 own3' g3 k3 HNT
    rw [HE.out] at hc3 ⊢
    have k4 := h3.bel.size
    go_wp2_with (at_builtin; refine wpList_app _ rfl _ _ 22 rfl w.heap.size 9 si _ 1 16 Tryd.underlying22 Hsi.out Sz0.out Sz1.out Sz2.out rfl (by decide) _ _ _ rfl (own_nil _ _ _ _) A' n c' (U.map sv) rfl (by rw [List.length_map, Hn.out]; omega) HNU.out (sv_one _) (by unfold maxLen; omega) (by omega) k4 ?_)
    intro v4 w4 own4 g4
    have k4 : Below w3.heap.size w3 w4 := (Below.refl _ _).grown g4 (Nat.le_refl _) (by intro k hk; cases hk)
    have own4' : w4.ownsRow w.heap.size 9 1 v4 U.length (U.map sv) := by rw [Hn.out]; exact own4
    obtain ⟨A4, c4, rfl, hc4, hU4, _⟩ := own_texts own4'
    have h4 := h3.below k4
    have h4c : TwoL w T U A3 A4 w4 := ⟨(hT3.below k4).mono k4.size, hU4, h4.tab, h4.bel⟩
    rw [Hn.out] at hc4 ⊢
    clear own4 own4' g4 k4 HNU hT3 hU4 h2 h3
    go_wp2_with fail
    (with_reducible refine ((CX _ _ _ _ _).out h4c hc3 hc4).mono ?_)
    rintro _ w5 ⟨x, y, rfl, x1, x2, x3, x4, b5⟩
    have h5 := h4.below b5
    have X1 := Lib.hid x1
    have X2 := Lib.hid x2
    clear h4 h4c x1 x2 b5
    go_wp2_with fail
    (with_reducible refine ((CS _ _ _ _ _).out h5).mono ?_)
    rintro _ w6 ⟨rfl, b6⟩
    have h6 := h5.below b6
    go_wp2_with fail
    (with_reducible refine ((C1 _ _ _ _).out h6 hc).mono ?_)
    rintro _ w7 ⟨rfl, b7⟩
    have h7 := h6.below b7
    go_wp2_with fail
    (with_reducible refine ((C2 _ _ _ _).out h7 hc').mono ?_)
    rintro _ w8 ⟨rfl, b8⟩
    have h8 := h7.below b8
    clear h5 h6 h7 b6 b7 b8
    go_wp2_with fail
    (with_reducible refine ((CK _ _ _).out X1.out X2.out x3 x4 h8.tab).mono ?_)
    rintro _ w9 ⟨rfl, b9⟩
    have h9 := h8.below b9
    go_wp2_with fail
    (with_reducible refine (CR _ h9.tab).out.mono ?_)
    rintro _ w10 ⟨rfl, b10⟩
    go_wp2_with fail
    go_ret
    exact ⟨rfl, (h9.below b10).bel⟩
  · have CX : ∀ W A A' c c', Hid (TwoL w T U A A' W → T.length ≤ c → U.length ≤ c' → Calls Tryd.prog 33 #[.slice A T.length c, .slice A' U.length c'] W (NEnd W)) := fun W A A' c c' h q r => Clash_no T U hy (by omega) (by omega) hs hsU A A' c c' W h.a h.b q r h.tab
    have hT0 : T.length * 16 ≤ 140737488355328 := by omega
    unfold LsEnd at CF CF2
    have CF1 := Lib.hid CF
    have CFb := fun W h => Lib.hid (CF2 W h)
    have ht1 := Lib.hid ht
    have HY := Lib.hid hy
    clear CF CF2 ht hy hs hsU
    go_enter Tryd.func10, Tryd.ntmps10
    go_wp2_with fail
    (with_reducible refine CF1.out.mono ?_)
    rintro _ w1 ⟨A, c, rfl, hT, hc, b1⟩
    go_wp2_with fail
    (with_reducible refine (CFb _ b1).out.mono ?_)
    rintro _ w2 ⟨A', c', rfl, hU, hc', b2⟩
    have h2 : TwoL w T U A A' w2 := ⟨(hT.below b2).mono b2.size, hU, ht1.out.below (b1.trans (b2.mono b1.size)) ht1.out.1, b1.trans (b2.mono b1.size)⟩
    clear hT hU b1 b2
    have hnT := h2.a.news
    have HNT := Lib.hid hnT
    clear hnT
    have k2 := h2.bel.size
    go_wp2_with (at_builtin; refine wpList_app _ rfl _ _ 22 rfl w.heap.size 9 si _ 1 16 Tryd.underlying22 Hsi.out Sz0.out Sz1.out Sz2.out rfl (by decide) _ _ _ rfl (own_nil _ _ _ _) A T.length c (T.map sv) rfl (by rw [List.length_map]; omega) HNT.out (sv_one _) (by unfold maxLen; omega) (by omega) k2 ?_)
    intro v3 w3 own3 g3
    have own3' : w3.ownsRow w.heap.size 9 1 v3 T.length (T.map sv) := own3
    have k3 : Below w2.heap.size w2 w3 := (Below.refl _ _).grown g3 (Nat.le_refl _) (by intro k hk; cases hk)
    obtain ⟨A3, c3, rfl, hc3, hT3, _⟩ := own_texts own3'
    have h3 := h2.below k3
    have hnU := h3.b.news
    have HNU := Lib.hid hnU
    clear hnU own3 own3' g3 k3 HNT
    have k4 := h3.bel.size
    go_wp2_with (at_builtin; refine wpList_app _ rfl _ _ 22 rfl w.heap.size 9 si _ 1 16 Tryd.underlying22 Hsi.out Sz0.out Sz1.out Sz2.out rfl (by decide) _ _ _ rfl (own_nil _ _ _ _) A' U.length c' (U.map sv) rfl (by rw [List.length_map]; omega) HNU.out (sv_one _) (by unfold maxLen; omega) (by omega) k4 ?_)
    intro v4 w4 own4 g4
    have k4 : Below w3.heap.size w3 w4 := (Below.refl _ _).grown g4 (Nat.le_refl _) (by intro k hk; cases hk)
    have own4' : w4.ownsRow w.heap.size 9 1 v4 U.length (U.map sv) := own4
    obtain ⟨A4, c4, rfl, hc4, hU4, _⟩ := own_texts own4'
    have h4 := h3.below k4
    have h4c : TwoL w T U A3 A4 w4 := ⟨(hT3.below k4).mono k4.size, hU4, h4.tab, h4.bel⟩
    clear own4 own4' g4 k4 HNU hT3 hU4 h2 h3
    go_wp2_with fail
    (with_reducible refine ((CX _ _ _ _ _).out h4c hc3 hc4).mono ?_)
    rintro _ w5 ⟨rfl, b5⟩
    have h5 := h4.below b5
    clear h4 h4c b5 CX
    by_cases hl2 : T.length = U.length
    · have hlb : ((T.length : Int) == U.length) = true := by rw [beq_iff_eq]; omega
      by_cases he : T = U
      · rw [decide_eq_true he] at CS
        clear C1 C2 he hl2
        go_wp2_with fail
        (with_reducible refine ((CS _ _ _ _ _).out h5).mono ?_)
        rintro _ w6 ⟨rfl, b6⟩
        have h6 := h5.below b6
        go_wp2_with fail
        (with_reducible refine (CR _ h6.tab).out.mono ?_)
        rintro _ w7 ⟨rfl, b7⟩
        go_wp2_with fail
        go_ret
        exact ⟨rfl, (h6.below b7).bel⟩
      · rw [decide_eq_false he] at CS
        have hr : rootL T ≠ rootL U := fun e => HY.out ⟨hl2, he, e⟩
        generalize rootL T = r at *
        generalize rootL U = r' at *
        have hq : (r.toList == r'.toList) = false := by
          cases hq : r.toList == r'.toList
          · rfl
          · exact absurd (eq_toList hq) hr
        clear hr he hl2
        go_wp2_with fail
        (with_reducible refine ((CS _ _ _ _ _).out h5).mono ?_)
        rintro _ w6 ⟨rfl, b6⟩
        have h6 := h5.below b6
        go_wp2_with fail
        (with_reducible refine ((C1 _ _ _ _).out h6 hc).mono ?_)
        rintro _ w7 ⟨rfl, b7⟩
        have h7 := h6.below b7
        go_wp2_with fail
        (with_reducible refine ((C2 _ _ _ _).out h7 hc').mono ?_)
        rintro _ w8 ⟨rfl, b8⟩
        have h8 := h7.below b8
        go_wp2_with fail
        (with_reducible refine (CR _ h8.tab).out.mono ?_)
        rintro _ w9 ⟨rfl, b9⟩
        go_wp2_with fail
        go_ret
        exact ⟨rfl, (h8.below b9).bel⟩
    · have hlb : ((T.length : Int) == U.length) = false := by rw [beq_eq_false_iff_ne]; omega
      clear hl2
      go_wp2_with fail
      (with_reducible refine (CR _ h5.tab).out.mono ?_)
      rintro _ w6 ⟨rfl, b6⟩
      go_wp2_with fail
      go_ret
      exact ⟨rfl, (h5.below b6).bel⟩
theorem MerkleClash_any (T U : List ByteArray) (A A' : Option Addr) (c c' : Nat) (w : World) (hT : Txs w w.heap.size A T) (hz : ∀ x ∈ T, x.size ≤ 140737488355328) (hl : T.length ≤ 140737488355328) (hc : T.length ≤ c)
    (hU : Txs w w.heap.size A' U) (hzU : ∀ x ∈ U, x.size ≤ 140737488355328) (hlU : U.length ≤ 140737488355328) (hcU : U.length ≤ c') (ht : Tab w) :
    Calls Tryd.prog 10 #[.slice A T.length c, .slice A' U.length c'] w (BEnd w true) :=
  Clash_few (T.take 130) (U.take 130) (by rw [List.length_take]; omega) (by rw [List.length_take]; omega) (Short.take hz 130) (Short.take hzU 130) A A' c T.length c' U.length w ht (few_any T A c w hT hc hl)
    (fun W b => few_any U A' c' W ((hU.below b).mono b.size) hcU hlU)
end Go.Proofs.YtejapjmlofekfaaDoor
