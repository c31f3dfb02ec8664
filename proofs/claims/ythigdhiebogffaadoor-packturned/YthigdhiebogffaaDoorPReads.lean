/- Texts in one: PPacks, PReads. -/
import Derived.Test.YthigdhiebogffaaDoorOLinks
import Derived.Test.YthigdhiebogffaaDoorOOwned
import Derived.Test.YthigdhiebogffaaDoorOApp
import Derived.Test.YthigdhiebogffaaDoorBw
/- law.packs, keep.packs, law.strings, law.PackReads, keep.PackThin: the walks. -/
namespace Go.Proofs.YthigdhiebogffaaDoor
open Go.RowKit

def blob1 : ByteArray := ⟨#[1, 1, 97]⟩
theorem blob1_dec : (decO [1, 1, 97]).2 = 0 := by decide +kernel
theorem blob1_may : mayP [blob1] [] = 0 := by
  unfold mayP
  rw [if_neg (by simp)]
  unfold mayE mayE
  have e : addP [] blob1 = 0 := by
    unfold addP
    rw [show blob1.data.toList = [1, 1, 97] from rfl, if_neg (by rw [blob1_dec]; simp)]
    rfl
  rw [if_neg (by rw [e]; simp)]
/-- Write of one blob; Read of that -/
theorem writeBlob (w : World) (ht : Tab w) : Calls Tryd.prog 13 #[.slice (some ⟨w.heap.size, 0, none⟩) 1 1, .slice none 0 0] (w.alloc (.cells #[.string ⟨#[1, 1, 97]⟩] 9))
    fun x w' => (∃ s : ByteArray, x = .returned (.tuple #[.string s, .int .i64 0]) ∧ s.size ≤ 100000 ∧ readP s.data.toList [] = ([blob1], 0)) ∧ Below w.heap.size w w' := by
  have hT : Txs (w.alloc (.cells #[.string ⟨#[1, 1, 97]⟩] 9)) (w.alloc (.cells #[.string ⟨#[1, 1, 97]⟩] 9)).heap.size (some ⟨w.heap.size, 0, none⟩) [blob1] := fun k x hk => by
    have hk0 : k = 0 := by have := (List.getElem?_eq_some_iff.1 hk).1; simp at this; omega
    subst hk0
    simp at hk
    subst hk
    exact ⟨_, rfl, by rw [zero_add]; simp, by rw [zero_add]; exact (Arr.new w 9 #[.string ⟨#[1, 1, 97]⟩]).cell 0⟩
  have b0 : Below w.heap.size w (w.alloc (.cells #[.string ⟨#[1, 1, 97]⟩] 9)) := (Below.refl _ _).alloc (Nat.le_refl _) _
  refine (Write_any [blob1] [] (some ⟨w.heap.size, 0, none⟩) none 1 0 _ hT (Txs.nil _ _ _) (fun x hx => by cases hx) (by simp) (by simp) (ht.alloc _)).mono ?_
  intro x w' hx
  unfold WEnd WEndR at hx
  rw [blob1_may, if_neg (by simp)] at hx
  obtain ⟨⟨D, b, hP, hz, rfl⟩, bel⟩ := hx
  obtain ⟨ha, hn, _⟩ := addOk_may blob1_may
  have hl := front_len hP hz hn
  refine ⟨⟨_, rfl, ?_, ?_⟩, b0.trans (bel.mono (by simp))⟩
  · rw [bs_size]
    have := bulk_le _ hz
    have e1 : ([blob1] : List ByteArray).length = 1 := rfl
    omega
  · rw [bs_list]
    exact read_back hP ha hz hn
theorem one_txs {w : World} {B : Nat} {A : Option Addr} {x : ByteArray} (h : Txs w B A [x]) : ∃ ad : Addr, A = some ad ∧ w.cell? ad = some (.string x) := by
  obtain ⟨ad, e, _, hc⟩ := h 0 x rfl
  exact ⟨ad, e, by have : ad.add 0 = ad := by simp [Addr.add]
                   rw [this] at hc
                   exact hc⟩

set_option maxRecDepth 100000 in
theorem packs_law (w : World) (ht : Tab w) : Calls Tryd.prog 8 #[] w fun e w' => e = .returned (.bool true) ∧ Below w.heap.size w w' := by
  have q := Lib.hid (writeBlob w ht)
  go_enter Tryd.func8, Tryd.ntmps8
  go_wp2_with fail
  (with_reducible refine q.out.mono ?_)
  clear q
  rintro _ w1 ⟨⟨s, rfl, hs, hr⟩, b1⟩
  have q := Lib.hid (Read_pack s [] none 0 w1 (by omega) (Txs.nil _ _ _) (fun x hx => by cases hx) (by simp) (ht.below b1 ht.1))
  rw [List.reverse_nil, hr] at q
  have Q : Hid (Calls Tryd.prog 9 #[.string s, .slice none 0 0] w1 (PkEnd w1 ([blob1], 0))) := q.out
  clear q hr
  go_wp2_with fail
  (with_reducible refine Q.out.mono ?_)
  clear Q
  rintro _ w2 ⟨A, c, rfl, hc, hT, b2⟩
  obtain ⟨ad, rfl, h0⟩ := one_txs hT
  simp only [List.length_singleton]
  unfold blob1 at h0
  go_wp2_with fail
  go_ret
  exact ⟨rfl, b1.trans (b2.mono b1.size)⟩
set_option maxRecDepth 100000 in
theorem packs_keep (w : World) (ht : Tab w) : Calls Tryd.prog 15 #[] w fun e w' => e = .returned (.bool true) ∧ Below w.heap.size w w' := by
  have q := Lib.hid (writeBlob w ht)
  go_enter Tryd.func15, Tryd.ntmps15
  go_wp2_with fail
  (with_reducible refine q.out.mono ?_)
  clear q
  rintro _ w1 ⟨⟨s, rfl, hs, hr⟩, b1⟩
  have q := Lib.hid (Read_pack s [] none 0 w1 (by omega) (Txs.nil _ _ _) (fun x hx => by cases hx) (by simp) (ht.below b1 ht.1))
  rw [List.reverse_nil, hr] at q
  have Q : Hid (Calls Tryd.prog 9 #[.string s, .slice none 0 0] w1 (PkEnd w1 ([blob1], 0))) := q.out
  clear q hr
  go_wp2_with fail
  (with_reducible refine Q.out.mono ?_)
  clear Q
  rintro _ w2 ⟨A, c, rfl, hc, hT, b2⟩
  obtain ⟨ad, rfl, h0⟩ := one_txs hT
  simp only [List.length_singleton]
  unfold blob1 at h0
  go_wp2_with fail
  go_ret
  exact ⟨rfl, b1.trans (b2.mono b1.size)⟩
/-- a copy of a list of texts -/
def CpEnd (w : World) (T : List ByteArray) (x : Ending) (w' : World) : Prop := ∃ A c, x = .returned (.slice A T.length c) ∧ Txs w' w'.heap.size A T ∧ Below w.heap.size w w'
set_option maxRecDepth 100000 in
theorem strings_law (T : List ByteArray) (A : Option Addr) (c : Nat) (w : World) (hT : Txs w w.heap.size A T) (hl : T.length * 16 ≤ 140737488355328) :
    Calls Tryd.prog 10 #[.slice A T.length c] w (CpEnd w T) := by
  obtain ⟨si, hsi, sz0, sz1, sz2⟩ := info_parts info_str
  have Hsi := Lib.hid hsi
  have Sz0 := Lib.hid sz0
  have Sz1 := Lib.hid sz1
  have Sz2 := Lib.hid sz2
  clear hsi sz0 sz1 sz2
  go_enter Tryd.func10, Tryd.ntmps10
  go_wp2_with (at_builtin; refine wpList_app _ rfl _ _ 22 rfl w.heap.size 9 si _ 1 16 Tryd.underlying22 Hsi.out Sz0.out Sz1.out Sz2.out rfl (by decide) _ _ _ rfl (own_nil _ _ _ _) A T.length c (T.map sv) rfl (by rw [List.length_map]; omega) hT.news (sv_one _) (by unfold maxLen; omega) (by omega) (Nat.le_refl _) ?_)
  intro v1 w1 hown hgrow
  obtain ⟨A1, c1, rfl, _, hx, _⟩ := own_texts hown
  go_wp2_with fail
  go_ret
  exact ⟨A1, c1, rfl, hx, (Below.refl _ _).grown hgrow (Nat.le_refl _) (by intro k hk; cases hk)⟩
end Go.Proofs.YthigdhiebogffaaDoor

/- keep.PackThin: the walk. -/
namespace Go.Proofs.YthigdhiebogffaaDoor
open Go.RowKit

theorem unP_len (O : List ByteArray) : ∀ (n : Nat) (T : List ByteArray) (D : List Nat) (l : List UInt8) (T' : List ByteArray) (r : List UInt8), unP O n T D l = .ok (T', r) → T'.length = T.length + n
  | 0, T, D, l, T', r, h => by
    rw [unP] at h
    cases h
    rfl
  | n + 1, T, D, l, T', r, h => by
    rw [unP] at h
    cases ho : objP O T D l with
    | error e => rw [ho] at h; cases h
    | ok y =>
      obtain ⟨s, d, q⟩ := y
      rw [ho] at h
      simp only at h
      split at h
      · cases h
      · have := unP_len O n _ _ _ _ _ h
        rw [List.length_append, List.length_singleton] at this
        omega
theorem readP_len (b : List UInt8) (O : List ByteArray) : (readP b O).1.length ≤ 400 := by
  unfold readP
  split
  · exact Nat.zero_le _
  split
  · exact Nat.zero_le _
  unfold bodyP
  split
  · exact Nat.zero_le _
  · rename_i n r _
    split
    · exact Nat.zero_le _
    · rename_i hn
      cases hu : unP O n [] [] r with
      | error e => exact Nat.zero_le _
      | ok y =>
        obtain ⟨T, q⟩ := y
        simp only
        split
        · have := unP_len O n [] [] r T q hu
          rw [List.length_nil] at this
          show T.length ≤ 400
          omega
        · exact Nat.zero_le _

set_option maxRecDepth 100000 in
set_option maxHeartbeats 1000000 in
theorem PackThin_any (l O : List ByteArray) (lA oA : Option Addr) (lcp oc : Nat) (w : World) (hlx : Txs w w.heap.size lA l) (hO : Txs w w.heap.size oA O) (hz : ∀ x ∈ O, x.size ≤ 140737488355328) (hll : l.length ≤ 140737488355328) (hol : O.length ≤ 140737488355328) (ht : Tab w) :
    Calls Tryd.prog 7 #[.slice lA l.length lcp, .slice oA O.length oc] w fun e w' => e = .returned (.bool true) ∧ Below w.heap.size w w' := by
  have q := Lib.hid (Write_any l O lA oA lcp oc w hlx hO hz hll hol ht)
  by_cases hm : mayP l O = 0
  case neg =>
    have hm' : (mayP l O != 0) = true := by simpa using hm
    go_enter Tryd.func7, Tryd.ntmps7
    go_wp2_with fail
    (with_reducible refine q.out.mono ?_)
    clear q
    intro x w1 hx
    unfold WEnd WEndR at hx
    rw [if_pos hm] at hx
    obtain ⟨rfl, b1⟩ := hx
    generalize mayP l O = e at *
    have ht1 := ht.below b1 ht.1
    go_wp2_with fail
    (with_reducible refine (packs_keep w1 ht1).mono ?_)
    rintro _ w2 ⟨rfl, b2⟩
    go_wp2_with fail
    go_ret
    exact ⟨rfl, b1.trans (b2.mono b1.size)⟩
  obtain ⟨ha, hn4, ho4⟩ := addOk_may hm
  go_enter Tryd.func7, Tryd.ntmps7
  go_wp2_with fail
  (with_reducible refine q.out.mono ?_)
  clear q
  intro x w1 hx
  unfold WEnd WEndR at hx
  rw [hm, if_neg (by simp)] at hx
  obtain ⟨⟨D, b, hP, hzl, rfl⟩, b1⟩ := hx
  have hfl := front_len hP hzl hn4
  have hbl := bulk_le _ hzl
  have HTh := Lib.hid (read_back (O2 := []) hP ha hzl hn4)
  have ht1 := ht.below b1 ht.1
  have C1 : Hid (Calls Tryd.prog 9 #[.string (bs (front l.length b ++ sha (front l.length b))), .slice none 0 0] w1 (PkEnd w1 (readP (bs (front l.length b ++ sha (front l.length b))).data.toList []))) :=
    Read_pack (bs (front l.length b ++ sha (front l.length b))) [] none 0 w1 (by rw [bs_size]; omega) (Txs.nil _ _ _) (fun x hx => by cases hx) (by simp) ht1
  rw [bs_list, HTh.out] at C1
  clear hm ha hfl HTh
  generalize bs (front l.length b ++ sha (front l.length b)) = S at *
  go_wp2_with fail
  (with_reducible refine C1.out.mono ?_)
  clear C1
  rintro _ w2 ⟨A2, c2, rfl, hc2, t2, b2⟩
  have bel2 := b1.trans (b2.mono b1.size)
  have ht2 := ht1.below b2 ht1.1
  have CS := Lib.hid (keepStrings_any l l (by omega) (by omega) A2 lA c2 lcp w2 t2 ((hlx.below bel2).mono bel2.size))
  simp only [decide_true] at CS
  simp only
  clear b1 b2 ht1
  go_wp2_with fail
  (with_reducible refine CS.out.mono ?_)
  clear CS
  rintro _ w3 ⟨rfl, b3⟩
  have bel3 := bel2.trans (b3.mono bel2.size)
  have ht3 := ht2.below b3 ht2.1
  go_wp2_with fail
  (with_reducible refine (packs_keep w3 ht3).mono ?_)
  rintro _ w4 ⟨rfl, b4⟩
  go_wp2_with fail
  go_ret
  exact ⟨rfl, bel3.trans (b4.mono bel3.size)⟩
end Go.Proofs.YthigdhiebogffaaDoor
