/- law.MerkleRoots: the walk. -/
import Derived.Test.YtlokfeoihnlkkaaDoorMkRefF
import Derived.Test.YtlokfeoihnlkkaaDoorORefSame
namespace Go.Proofs.YtlokfeoihnlkkaaDoor
open Go.RowKit

/-- the list that came in, the table -/
structure RtL (w : World) (P : List ByteArray) (A : Option Addr) (W : World) : Prop where
  a : Txs W W.heap.size A P
  tab : Tab W
  bel : Below w.heap.size w W
theorem RtL.below {w W W' : World} {P : List ByteArray} {A : Option Addr} (h : RtL w P A W) (k : Below W.heap.size W W') : RtL w P A W' := ⟨(h.a.below k).mono k.size, h.tab.below k h.tab.1, h.bel.trans (k.mono h.bel.size)⟩
theorem strings_rt (T : List ByteArray) (A : Option Addr) (c : Nat) (w : World) (hT : Txs w w.heap.size A T) (hl : T.length * 16 ≤ 140737488355328) :
    Calls Tryd.prog 6 #[.slice A T.length c] w (LsEnd w T) := by
  obtain ⟨si, hsi, sz0, sz1, sz2⟩ := info_parts info_str
  have Hsi := Lib.hid hsi
  have Sz0 := Lib.hid sz0
  have Sz1 := Lib.hid sz1
  have Sz2 := Lib.hid sz2
  clear hsi sz0 sz1 sz2
  go_enter Tryd.func6, Tryd.ntmps6
  go_wp2_with (at_builtin; refine wpList_app _ rfl _ _ 22 rfl w.heap.size 9 si _ 1 16 Tryd.underlying22 Hsi.out Sz0.out Sz1.out Sz2.out rfl (by decide) _ _ _ rfl (own_nil _ _ _ _) A T.length c (T.map sv) rfl (by rw [List.length_map]; omega) hT.news (sv_one _) (by unfold maxLen; omega) (by omega) (Nat.le_refl _) ?_)
  intro v1 w1 hown hgrow
  obtain ⟨A1, c1, rfl, hc1, hx, _⟩ := own_texts hown
  go_wp2_with fail
  go_ret
  exact ⟨A1, c1, rfl, hx, hc1, (Below.refl _ _).grown hgrow (Nat.le_refl _) (by intro k hk; cases hk)⟩
def pthI (T : List ByteArray) (i : Int) : List ByteArray := if 0 ≤ i ∧ i < T.length then pathL T i.toNat else []
def prfI (T : List ByteArray) (m : Int) : List ByteArray := if 1 ≤ m ∧ m ≤ T.length then proofL T m.toNat true else []
theorem Path_all (T : List ByteArray) (i : Int) (hm : T.length ≤ 1000) (hs : Short T) (A : Option Addr) (c : Nat) (w : World) (hT : Txs w w.heap.size A T) (hc : T.length ≤ c) (ht : Tab w) :
    Calls Tryd.prog 9 #[.slice A T.length c, .int .i64 i] w (REnd w (pthI T i)) := by
  unfold pthI
  by_cases h : 0 ≤ i ∧ i < T.length
  · rw [if_pos h]
    obtain ⟨j, rfl⟩ : ∃ j : Nat, i = (j : Int) := ⟨i.toNat, by omega⟩
    rw [Int.toNat_natCast]
    exact Path_in _ T j (Nat.le_refl _) (by omega) hs (by omega) A c w hT hc ht
  · rw [if_neg h]
    exact Path_no T i (by omega) A c w
theorem refPath_all (T : List ByteArray) (i : Int) (hm : T.length ≤ 1000) (hs : Short T) (A : Option Addr) (c : Nat) (w : World) (hT : Txs w w.heap.size A T) (hc : T.length ≤ c) :
    Calls Tryd.prog 10 #[.slice A T.length c, .int .i64 i] w (REnd w (pthI T i)) := by
  unfold pthI
  by_cases h : 0 ≤ i ∧ i < T.length
  · rw [if_pos h]
    obtain ⟨j, rfl⟩ : ∃ j : Nat, i = (j : Int) := ⟨i.toNat, by omega⟩
    rw [Int.toNat_natCast]
    exact refPath_in T j hm hs (by omega) A c w hT hc
  · rw [if_neg h]
    exact refPath_no T i (by omega) A c w
theorem Proof_int (T : List ByteArray) (i : Int) (hm : T.length ≤ 1000) (hs : Short T) (A : Option Addr) (c : Nat) (w : World) (hT : Txs w w.heap.size A T) (hc : T.length ≤ c) (ht : Tab w) :
    Calls Tryd.prog 11 #[.slice A T.length c, .int .i64 i] w (REnd w (prfI T i)) := by
  unfold prfI
  by_cases h : 1 ≤ i ∧ i ≤ T.length
  · rw [if_pos h]
    obtain ⟨j, rfl⟩ : ∃ j : Nat, i = (j : Int) := ⟨i.toNat, by omega⟩
    rw [Int.toNat_natCast]
    exact Proof_in T j (by omega) hs (by omega) (by omega) A c w hT hc ht
  · rw [if_neg h]
    exact Proof_no T i (by omega) A c w
theorem refProof_int (T : List ByteArray) (i : Int) (hm : T.length ≤ 1000) (hs : Short T) (A : Option Addr) (c : Nat) (w : World) (hT : Txs w w.heap.size A T) (hc : T.length ≤ c) :
    Calls Tryd.prog 12 #[.slice A T.length c, .int .i64 i] w (REnd w (prfI T i)) := by
  unfold prfI
  by_cases h : 1 ≤ i ∧ i ≤ T.length
  · rw [if_pos h]
    obtain ⟨j, rfl⟩ : ∃ j : Nat, i = (j : Int) := ⟨i.toNat, by omega⟩
    rw [Int.toNat_natCast]
    exact refProof_in T j hm hs (by omega) (by omega) A c w hT hc
  · rw [if_neg h]
    exact refProof_no T i (by omega) A c w
theorem pthI_60 (T : List ByteArray) (i : Int) (hm : T.length ≤ 1000) : (pthI T i).length ≤ 60 := by
  unfold pthI
  split
  · exact pathL_60 (by omega)
  · simp
theorem prfI_60 (T : List ByteArray) (i : Int) (hm : T.length ≤ 1000) : (prfI T i).length ≤ 60 := by
  unfold prfI
  split
  · rename_i h
    exact proofL_60 true (by omega) (by omega) (by omega)
  · simp
theorem same_yes (P : List ByteArray) (hl : P.length ≤ 60) (A A' : Option Addr) (c c' : Nat) (w : World) (hP : Txs w w.heap.size A P) (hQ : Txs w w.heap.size A' P) :
    Calls Tryd.prog 8 #[.slice A P.length c, .slice A' P.length c'] w (BEnd w true) := by
  have := RefStrings_any P P (by omega) (by omega) A A' c c' w hP hQ
  rw [decide_eq_true rfl] at this
  exact this
set_option maxRecDepth 100000 in
set_option maxHeartbeats 2000000 in
theorem MerkleRoots_any (T : List ByteArray) (i m : Int) (A : Option Addr) (c : Nat) (w : World) (hT : Txs w w.heap.size A T) (hz : ∀ x ∈ T, x.size ≤ 140737488355328) (hl : T.length ≤ 140737488355328) (hc : T.length ≤ c) (ht : Tab w) :
    Calls Tryd.prog 3 #[.slice A T.length c, .int .i64 i, .int .i64 m] w (BEnd w true) := by
  have CR := fun W h => Lib.hid (lroots_any W h)
  have h0 : RtL w T A w := ⟨hT, ht, Below.refl _ _⟩
  clear hT ht
  by_cases h3 : 300 < T.length
  · have h3i : (300 : Int) < T.length := by omega
    go_enter Tryd.func3, Tryd.ntmps3
    go_wp2_with fail
    (with_reducible refine (CR _ h0.tab).out.mono ?_)
    rintro _ w1 ⟨rfl, b1⟩
    go_wp2_with fail
    go_ret
    exact ⟨rfl, b1⟩
  have h3i : ¬ (300 : Int) < T.length := by omega
  have C1 := fun W h => Lib.hid (strings_rt T A c W h (by omega))
  have C2 : ∀ W A2 c2, Hid (RtL w T A2 W → T.length ≤ c2 → Calls Tryd.prog 5 #[.slice A2 T.length c2] W (TEnd W (rootL T))) := fun W A2 c2 h q => Root_any _ T (Nat.le_refl _) hl hz A2 c2 W h.a q h.tab
  have C3 : ∀ W, Hid (RtL w T A W → Calls Tryd.prog 7 #[.slice A T.length c] W (TEnd W (rootL T))) := fun W h => refRoot_any T (by omega) hz A c W h.a
  have C4 : ∀ W A2 c2, Hid (RtL w T A2 W → T.length ≤ c2 → Calls Tryd.prog 9 #[.slice A2 T.length c2, .int .i64 i] W (REnd W (pthI T i))) := fun W A2 c2 h q => Path_all T i (by omega) hz A2 c2 W h.a q h.tab
  have C5 : ∀ W, Hid (RtL w T A W → Calls Tryd.prog 10 #[.slice A T.length c, .int .i64 i] W (REnd W (pthI T i))) := fun W h => refPath_all T i (by omega) hz A c W h.a hc
  have C6 : ∀ W A2 c2, Hid (RtL w T A2 W → T.length ≤ c2 → Calls Tryd.prog 11 #[.slice A2 T.length c2, .int .i64 m] W (REnd W (prfI T m))) := fun W A2 c2 h q => Proof_int T m (by omega) hz A2 c2 W h.a q h.tab
  have C7 : ∀ W, Hid (RtL w T A W → Calls Tryd.prog 12 #[.slice A T.length c, .int .i64 m] W (REnd W (prfI T m))) := fun W h => refProof_int T m (by omega) hz A c W h.a hc
  have CS1 : ∀ W A1 A2 c1 c2, Hid (Txs W W.heap.size A1 (pthI T i) → Txs W W.heap.size A2 (pthI T i) → Calls Tryd.prog 8 #[.slice A1 (pthI T i).length c1, .slice A2 (pthI T i).length c2] W (BEnd W true)) := fun W A1 A2 c1 c2 p q => same_yes _ (pthI_60 T i (by omega)) A1 A2 c1 c2 W p q
  have CS2 : ∀ W A1 A2 c1 c2, Hid (Txs W W.heap.size A1 (prfI T m) → Txs W W.heap.size A2 (prfI T m) → Calls Tryd.prog 8 #[.slice A1 (prfI T m).length c1, .slice A2 (prfI T m).length c2] W (BEnd W true)) := fun W A1 A2 c1 c2 p q => same_yes _ (prfI_60 T m (by omega)) A1 A2 c1 c2 W p q
  generalize rootL T = r at *
  generalize pthI T i = P at *
  generalize prfI T m = Q at *
  unfold LsEnd at C1
  clear hz
  go_enter Tryd.func3, Tryd.ntmps3
  go_wp2_with fail
  (with_reducible refine (C1 _ h0.a).out.mono ?_)
  rintro _ w1 ⟨A1, c1, rfl, hT1, hc1, b1⟩
  have h1 := h0.below b1
  have h1c : RtL w T A1 w1 := ⟨hT1, h1.tab, h1.bel⟩
  clear hT1 b1
  go_wp2_with fail
  (with_reducible refine ((C2 _ _ _).out h1c hc1).mono ?_)
  rintro _ w2 ⟨rfl, b2⟩
  have h2 := h1.below b2
  clear h1c b2
  go_wp2_with fail
  (with_reducible refine ((C3 _).out h2).mono ?_)
  rintro _ w3 ⟨rfl, b3⟩
  have h3 := h2.below b3
  clear b3
  go_wp2_with fail
  (with_reducible refine (C1 _ h3.a).out.mono ?_)
  rintro _ w4 ⟨A4, c4, rfl, hT4, hc4, b4⟩
  have h4 := h3.below b4
  have h4c : RtL w T A4 w4 := ⟨hT4, h4.tab, h4.bel⟩
  clear hT4 b4
  go_wp2_with fail
  (with_reducible refine ((C4 _ _ _).out h4c hc4).mono ?_)
  rintro _ w5 ⟨v5, rfl, own5, b5⟩
  obtain ⟨A5, c5, rfl, hc5, hP5, _⟩ := own_texts own5
  have h5 := h4.below b5
  clear h4c b5 own5
  go_wp2_with fail
  (with_reducible refine ((C5 _).out h5).mono ?_)
  rintro _ w6 ⟨v6, rfl, own6, b6⟩
  obtain ⟨A6, c6, rfl, hc6, hP6, _⟩ := own_texts own6
  have h6 := h5.below b6
  have hP5' := (hP5.below b6).mono b6.size
  clear b6 own6 hP5
  go_wp2_with fail
  (with_reducible refine ((CS1 _ _ _ _ _).out hP5' hP6).mono ?_)
  rintro _ w7 ⟨rfl, b7⟩
  have h7 := h6.below b7
  clear b7 hP5' hP6
  go_wp2_with fail
  (with_reducible refine (C1 _ h7.a).out.mono ?_)
  rintro _ w8 ⟨A8, c8, rfl, hT8, hc8, b8⟩
  have h8 := h7.below b8
  have h8c : RtL w T A8 w8 := ⟨hT8, h8.tab, h8.bel⟩
  clear hT8 b8
  go_wp2_with fail
  (with_reducible refine ((C6 _ _ _).out h8c hc8).mono ?_)
  rintro _ w9 ⟨v9, rfl, own9, b9⟩
  obtain ⟨A9, c9, rfl, hc9, hQ9, _⟩ := own_texts own9
  have h9 := h8.below b9
  clear h8c b9 own9
  go_wp2_with fail
  (with_reducible refine ((C7 _).out h9).mono ?_)
  rintro _ wa ⟨va, rfl, owna, ba⟩
  obtain ⟨Aa, ca, rfl, hca, hQa, _⟩ := own_texts owna
  have ha := h9.below ba
  have hQ9' := (hQ9.below ba).mono ba.size
  clear ba owna hQ9
  go_wp2_with fail
  (with_reducible refine ((CS2 _ _ _ _ _).out hQ9' hQa).mono ?_)
  rintro _ wb ⟨rfl, bb⟩
  have hb := ha.below bb
  clear bb
  go_wp2_with fail
  (with_reducible refine (CR _ hb.tab).out.mono ?_)
  rintro _ wc ⟨rfl, bc⟩
  go_wp2_with fail
  go_ret
  exact ⟨rfl, (hb.below bc).bel⟩
end Go.Proofs.YtlokfeoihnlkkaaDoor
