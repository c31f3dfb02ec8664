/- Texts in one: PPacks, PReads, ORef. -/
import Derived.Test.YthigdhiebogffaaDoorOLinks
import Derived.Test.YthigdhiebogffaaDoorOMapB
import Derived.Test.YthigdhiebogffaaDoorOApp
import Derived.Test.YthigdhiebogffaaDoorBw
import Derived.Test.YthigdhiebogffaaDoorWRead
import Derived.Laws.IdiomStrings
/- law.packs, keep.packs, law.strings, law.PackReads, keep.PackThin: the walks. -/
namespace Go.Proofs.YthigdhiebogffaaDoor
open Go.RowKit

def blob1 : ByteArray := ⟨#[1, 1, 97]⟩
theorem blob1_dec : (decO [1, 1, 97]).2 = 0 := by decide +kernel
theorem blob1_may : mayP [blob1] [] = 0 := by
  unfold mayP
  rw [if_neg (by simp)]
  unfold mayE mayE
  have e : addP [] blob1 = 0 := by
    unfold addP
    rw [show blob1.data.toList = [1, 1, 97] from rfl, if_neg (by rw [blob1_dec]; simp)]
    rfl
  rw [if_neg (by rw [e]; simp)]
/-- Write of one blob; Read of that -/
theorem writeBlob (w : World) (ht : Tab w) : Calls Tryd.prog 13 #[.slice (some ⟨w.heap.size, 0, none⟩) 1 1, .slice none 0 0] (w.alloc (.cells #[.string ⟨#[1, 1, 97]⟩] 9))
    fun x w' => (∃ s : ByteArray, x = .returned (.tuple #[.string s, .int .i64 0]) ∧ s.size ≤ 100000 ∧ readP s.data.toList [] = ([blob1], 0)) ∧ Below w.heap.size w w' := by
  have hT : Txs (w.alloc (.cells #[.string ⟨#[1, 1, 97]⟩] 9)) (w.alloc (.cells #[.string ⟨#[1, 1, 97]⟩] 9)).heap.size (some ⟨w.heap.size, 0, none⟩) [blob1] := fun k x hk => by
    have hk0 : k = 0 := by have := (List.getElem?_eq_some_iff.1 hk).1; simp at this; omega
    subst hk0
    simp at hk
    subst hk
    exact ⟨_, rfl, by rw [zero_add]; simp, by rw [zero_add]; exact (Arr.new w 9 #[.string ⟨#[1, 1, 97]⟩]).cell 0⟩
  have b0 : Below w.heap.size w (w.alloc (.cells #[.string ⟨#[1, 1, 97]⟩] 9)) := (Below.refl _ _).alloc (Nat.le_refl _) _
  refine (Write_any [blob1] [] (some ⟨w.heap.size, 0, none⟩) none 1 0 _ hT (Txs.nil _ _ _) (fun x hx => by cases hx) (by simp) (by simp) (ht.alloc _)).mono ?_
  intro x w' hx
  unfold WEnd WEndR at hx
  rw [blob1_may, if_neg (by simp)] at hx
  obtain ⟨⟨D, b, hP, hz, rfl⟩, bel⟩ := hx
  obtain ⟨ha, hn, _⟩ := addOk_may blob1_may
  have hl := front_len hP hz hn
  refine ⟨⟨_, rfl, ?_, ?_⟩, b0.trans (bel.mono (by simp))⟩
  · rw [bs_size]
    have := bulk_le _ hz
    have e1 : ([blob1] : List ByteArray).length = 1 := rfl
    omega
  · rw [bs_list]
    exact read_back hP ha hz hn
theorem one_txs {w : World} {B : Nat} {A : Option Addr} {x : ByteArray} (h : Txs w B A [x]) : ∃ ad : Addr, A = some ad ∧ w.cell? ad = some (.string x) := by
  obtain ⟨ad, e, _, hc⟩ := h 0 x rfl
  exact ⟨ad, e, by have : ad.add 0 = ad := by simp [Addr.add]
                   rw [this] at hc
                   exact hc⟩

set_option maxRecDepth 100000 in
theorem packs_law (w : World) (ht : Tab w) : Calls Tryd.prog 8 #[] w fun e w' => e = .returned (.bool true) ∧ Below w.heap.size w w' := by
  have q := Lib.hid (writeBlob w ht)
  go_enter Tryd.func8, Tryd.ntmps8
  go_wp2_with fail
  (with_reducible refine q.out.mono ?_)
  clear q
  rintro _ w1 ⟨⟨s, rfl, hs, hr⟩, b1⟩
  have q := Lib.hid (Read_pack s [] none 0 w1 (by omega) (Txs.nil _ _ _) (fun x hx => by cases hx) (by simp) (ht.below b1 ht.1))
  rw [List.reverse_nil, hr] at q
  have Q : Hid (Calls Tryd.prog 9 #[.string s, .slice none 0 0] w1 (PkEnd w1 ([blob1], 0))) := q.out
  clear q hr
  go_wp2_with fail
  (with_reducible refine Q.out.mono ?_)
  clear Q
  rintro _ w2 ⟨A, c, rfl, hc, hT, b2⟩
  obtain ⟨ad, rfl, h0⟩ := one_txs hT
  simp only [List.length_singleton]
  unfold blob1 at h0
  go_wp2_with fail
  go_ret
  exact ⟨rfl, b1.trans (b2.mono b1.size)⟩
set_option maxRecDepth 100000 in
theorem packs_keep (w : World) (ht : Tab w) : Calls Tryd.prog 15 #[] w fun e w' => e = .returned (.bool true) ∧ Below w.heap.size w w' := by
  have q := Lib.hid (writeBlob w ht)
  go_enter Tryd.func15, Tryd.ntmps15
  go_wp2_with fail
  (with_reducible refine q.out.mono ?_)
  clear q
  rintro _ w1 ⟨⟨s, rfl, hs, hr⟩, b1⟩
  have q := Lib.hid (Read_pack s [] none 0 w1 (by omega) (Txs.nil _ _ _) (fun x hx => by cases hx) (by simp) (ht.below b1 ht.1))
  rw [List.reverse_nil, hr] at q
  have Q : Hid (Calls Tryd.prog 9 #[.string s, .slice none 0 0] w1 (PkEnd w1 ([blob1], 0))) := q.out
  clear q hr
  go_wp2_with fail
  (with_reducible refine Q.out.mono ?_)
  clear Q
  rintro _ w2 ⟨A, c, rfl, hc, hT, b2⟩
  obtain ⟨ad, rfl, h0⟩ := one_txs hT
  simp only [List.length_singleton]
  unfold blob1 at h0
  go_wp2_with fail
  go_ret
  exact ⟨rfl, b1.trans (b2.mono b1.size)⟩
/-- a copy of a list of texts -/
def CpEnd (w : World) (T : List ByteArray) (x : Ending) (w' : World) : Prop := ∃ A c, x = .returned (.slice A T.length c) ∧ Txs w' w'.heap.size A T ∧ Below w.heap.size w w'
set_option maxRecDepth 100000 in
theorem strings_law (T : List ByteArray) (A : Option Addr) (c : Nat) (w : World) (hT : Txs w w.heap.size A T) (hl : T.length * 16 ≤ 140737488355328) :
    Calls Tryd.prog 10 #[.slice A T.length c] w (CpEnd w T) := by
  obtain ⟨si, hsi, sz0, sz1, sz2⟩ := info_parts info_str
  have Hsi := Lib.hid hsi
  have Sz0 := Lib.hid sz0
  have Sz1 := Lib.hid sz1
  have Sz2 := Lib.hid sz2
  clear hsi sz0 sz1 sz2
  go_enter Tryd.func10, Tryd.ntmps10
  go_wp2_with (at_builtin; refine wpList_app _ rfl _ _ 22 rfl w.heap.size 9 si _ 1 16 Tryd.underlying22 Hsi.out Sz0.out Sz1.out Sz2.out rfl (by decide) _ _ _ rfl (own_nil _ _ _ _) A T.length c (T.map sv) rfl (by rw [List.length_map]; omega) hT.news (sv_one _) (by unfold maxLen; omega) (by omega) (Nat.le_refl _) ?_)
  intro v1 w1 hown hgrow
  obtain ⟨A1, c1, rfl, _, hx, _⟩ := own_texts hown
  go_wp2_with fail
  go_ret
  exact ⟨A1, c1, rfl, hx, (Below.refl _ _).grown hgrow (Nat.le_refl _) (by intro k hk; cases hk)⟩
end Go.Proofs.YthigdhiebogffaaDoor

/- keep.PackThin: the walk. -/
namespace Go.Proofs.YthigdhiebogffaaDoor
open Go.RowKit

theorem unP_len (O : List ByteArray) : ∀ (n : Nat) (T : List ByteArray) (D : List Nat) (l : List UInt8) (T' : List ByteArray) (r : List UInt8), unP O n T D l = .ok (T', r) → T'.length = T.length + n
  | 0, T, D, l, T', r, h => by
    rw [unP] at h
    cases h
    rfl
  | n + 1, T, D, l, T', r, h => by
    rw [unP] at h
    cases ho : objP O T D l with
    | error e => rw [ho] at h; cases h
    | ok y =>
      obtain ⟨s, d, q⟩ := y
      rw [ho] at h
      simp only at h
      split at h
      · cases h
      · have := unP_len O n _ _ _ _ _ h
        rw [List.length_append, List.length_singleton] at this
        omega
theorem readP_len (b : List UInt8) (O : List ByteArray) : (readP b O).1.length ≤ 400 := by
  unfold readP
  split
  · exact Nat.zero_le _
  split
  · exact Nat.zero_le _
  unfold bodyP
  split
  · exact Nat.zero_le _
  · rename_i n r _
    split
    · exact Nat.zero_le _
    · rename_i hn
      cases hu : unP O n [] [] r with
      | error e => exact Nat.zero_le _
      | ok y =>
        obtain ⟨T, q⟩ := y
        simp only
        split
        · have := unP_len O n [] [] r T q hu
          rw [List.length_nil] at this
          show T.length ≤ 400
          omega
        · exact Nat.zero_le _

set_option maxRecDepth 100000 in
set_option maxHeartbeats 1000000 in
theorem PackThin_any (l O : List ByteArray) (lA oA : Option Addr) (lcp oc : Nat) (w : World) (hlx : Txs w w.heap.size lA l) (hO : Txs w w.heap.size oA O) (hz : ∀ x ∈ O, x.size ≤ 140737488355328) (hll : l.length ≤ 140737488355328) (hol : O.length ≤ 140737488355328) (ht : Tab w) :
    Calls Tryd.prog 7 #[.slice lA l.length lcp, .slice oA O.length oc] w fun e w' => e = .returned (.bool true) ∧ Below w.heap.size w w' := by
  have q := Lib.hid (Write_any l O lA oA lcp oc w hlx hO hz hll hol ht)
  by_cases hm : mayP l O = 0
  case neg =>
    have hm' : (mayP l O != 0) = true := by simpa using hm
    go_enter Tryd.func7, Tryd.ntmps7
    go_wp2_with fail
    (with_reducible refine q.out.mono ?_)
    clear q
    intro x w1 hx
    unfold WEnd WEndR at hx
    rw [if_pos hm] at hx
    obtain ⟨rfl, b1⟩ := hx
    generalize mayP l O = e at *
    have ht1 := ht.below b1 ht.1
    go_wp2_with fail
    (with_reducible refine (packs_keep w1 ht1).mono ?_)
    rintro _ w2 ⟨rfl, b2⟩
    go_wp2_with fail
    go_ret
    exact ⟨rfl, b1.trans (b2.mono b1.size)⟩
  obtain ⟨ha, hn4, ho4⟩ := addOk_may hm
  go_enter Tryd.func7, Tryd.ntmps7
  go_wp2_with fail
  (with_reducible refine q.out.mono ?_)
  clear q
  intro x w1 hx
  unfold WEnd WEndR at hx
  rw [hm, if_neg (by simp)] at hx
  obtain ⟨⟨D, b, hP, hzl, rfl⟩, b1⟩ := hx
  have hfl := front_len hP hzl hn4
  have hbl := bulk_le _ hzl
  have HTh := Lib.hid (read_back (O2 := []) hP ha hzl hn4)
  have ht1 := ht.below b1 ht.1
  have C1 : Hid (Calls Tryd.prog 9 #[.string (bs (front l.length b ++ sha (front l.length b))), .slice none 0 0] w1 (PkEnd w1 (readP (bs (front l.length b ++ sha (front l.length b))).data.toList []))) :=
    Read_pack (bs (front l.length b ++ sha (front l.length b))) [] none 0 w1 (by rw [bs_size]; omega) (Txs.nil _ _ _) (fun x hx => by cases hx) (by simp) ht1
  rw [bs_list, HTh.out] at C1
  clear hm ha hfl HTh
  generalize bs (front l.length b ++ sha (front l.length b)) = S at *
  go_wp2_with fail
  (with_reducible refine C1.out.mono ?_)
  clear C1
  rintro _ w2 ⟨A2, c2, rfl, hc2, t2, b2⟩
  have bel2 := b1.trans (b2.mono b1.size)
  have ht2 := ht1.below b2 ht1.1
  have CS := Lib.hid (keepStrings_any l l (by omega) (by omega) A2 lA c2 lcp w2 t2 ((hlx.below bel2).mono bel2.size))
  simp only [decide_true] at CS
  simp only
  clear b1 b2 ht1
  go_wp2_with fail
  (with_reducible refine CS.out.mono ?_)
  clear CS
  rintro _ w3 ⟨rfl, b3⟩
  have bel3 := bel2.trans (b3.mono bel2.size)
  have ht3 := ht2.below b3 ht2.1
  go_wp2_with fail
  (with_reducible refine (packs_keep w3 ht3).mono ?_)
  rintro _ w4 ⟨rfl, b4⟩
  go_wp2_with fail
  go_ret
  exact ⟨rfl, bel3.trans (b4.mono bel3.size)⟩
end Go.Proofs.YthigdhiebogffaaDoor

/- ref.between, ref.entryName: their contracts. -/
namespace Go.Proofs.YthigdhiebogffaaDoor
open Go.RowKit

theorem conv_bytes (s : ByteArray) (w : World) : ∃ cap W, (convert 9 78 (.string s)).run Tryd.prog w = .ok (.slice (some ⟨w.heap.size, 0, none⟩) s.size cap) W ∧
    (∀ k, k < s.size → W.cell? ⟨w.heap.size, k, none⟩ = some (.int .u8 (byteAt s k : Int))) ∧ Below w.heap.size w W := by
  refine ⟨_, _, run_bytes_of_string w 9 78 5 s Tryd.underlying9 Tryd.underlying78 Tryd.underlying5, fun k hk => ?_, (Below.refl _ _).drew.alloc (by simp) _⟩
  have hh : (w.drew.alloc (.cells (bytesRow s (grownCap w s.size 0 5)) 5 ((bytesRow s (grownCap w s.size 0 5)).size, (bytesRow s (grownCap w s.size 0 5)).size + 1))).heap[w.heap.size]? = some (.cells (bytesRow s (grownCap w s.size 0 5)) 5 ((bytesRow s (grownCap w s.size 0 5)).size, (bytesRow s (grownCap w s.size 0 5)).size + 1)) := heap_alloc_new w.drew _
  rw [cell_of_row _ _ k _ _ _ hh]
  have hk' : k < s.data.toList.length := hk
  rw [bytesRow_at s _ k hk]
  unfold byteAt
  rw [List.getD_eq_getElem?_getD, List.getElem?_eq_getElem hk']
  rfl
def btwn (lo hi : Nat) (s : ByteArray) : Bool := !hasB (fun b => decide (b < lo) || decide (hi < b)) s
set_option maxRecDepth 100000 in
theorem between_any (s : ByteArray) (lo hi : Nat) (hs : s.size ≤ 281474976710656) (w : World) :
    Calls Tryd.prog 72 #[.string s, .int .u8 (lo : Int), .int .u8 (hi : Int)] w fun e w' => e = .returned (.bool (btwn lo hi s)) ∧ Below w.heap.size w w' := by
  obtain ⟨cap, W, hcv, hcell, hB⟩ := conv_bytes s w
  have HC := Lib.hid hcell
  clear hcell
  unfold btwn
  generalize hp : (fun b => decide (b < lo) || decide (hi < b)) = p at *
  have HP : Hid (∀ b, p b = (decide (b < lo) || decide (hi < b))) := fun b => by rw [← hp]
  clear hp
  go_enter Tryd.func72, Tryd.ntmps72
  go_wp2_with fail
  go_loopw [12] (fun i wr => wr = W ∧ ∃ k : Nat, k ≤ s.size ∧ i = .int .i64 (k : Int) ∧ ∀ j, j < k → p (byteAt s j) = false) (fun i _ => s.size - (intOf i).toNat)
  case atStart => exact ⟨rfl, 0, Nat.zero_le _, rfl, fun j h => by omega⟩
  case round =>
    obtain ⟨rfl, k, hk, rfl, hno⟩ := hrel
    have HNo := Lib.hid hno
    clear hno
    by_cases hlt : k < s.size
    · have g0 := HC.out k hlt
      have hi2 : (k : Int) < s.size := by omega
      have hb := HP.out (byteAt s k)
      have HN2 : Hid (p (byteAt s k) = false → ∀ j, j < k + 1 → p (byteAt s j) = false) := fun h j hj => by
        rcases Nat.lt_or_ge j k with q | q
        · exact HNo.out j q
        · rw [show j = k from by omega]; exact h
      have HY : Hid (p (byteAt s k) = true → hasB p s = true) := fun h => hasB_yes p s k hlt h
      clear HNo
      generalize byteAt s k = x at *
      by_cases h1 : (x : Int) < lo
      · have hy := HY.out (by rw [hb, decide_eq_true (by omega : x < lo)]; rfl)
        have HY2 := Lib.hid hy
        clear hy HN2 HY hb
        go_wp2_with fail
        go_ret
        exact ⟨by rw [HY2.out]; rfl, hB⟩
      · by_cases h2 : (hi : Int) < x
        · have hy := HY.out (by rw [hb, decide_eq_true (by omega : hi < x)]; simp)
          have HY2 := Lib.hid hy
          clear hy HN2 HY hb
          go_wp2_with fail
          go_ret
          exact ⟨by rw [HY2.out]; rfl, hB⟩
        · have HN3 := Lib.hid (HN2.out (by rw [hb, decide_eq_false (by omega : ¬ x < lo), decide_eq_false (by omega : ¬ hi < x)]; rfl))
          clear HN2 HY hb
          go_wp2_with fail
          refine ⟨⟨trivial, k + 1, hlt, by go_num, HN3.out⟩, by simp [intOf]; omega⟩
    · obtain rfl : k = s.size := by omega
      have hi2 : ¬ (s.size : Int) < s.size := by omega
      have hnone := Lib.hid (hasB_no p s HNo.out)
      clear HNo HC HP
      go_wp2_with fail
      go_ret
      exact ⟨by rw [hnone.out]; rfl, hB⟩

def slashP (x : Nat) : Bool := x == 47
theorem barred_parts (s : ByteArray) : hasBarred s = (hasB (fun b => decide (b < 33) || decide (126 < b)) s || hasB slashP s) := by
  unfold hasBarred hasB barredP slashP
  induction s.data.toList with
  | nil => rfl
  | cons b l ih =>
    simp only [List.any_cons, ih]
    generalize decide (b.toNat < 33) = a1
    generalize decide (126 < b.toNat) = a2
    generalize (b.toNat == 47) = a3
    generalize (l.any fun b => decide (b.toNat < 33) || decide (126 < b.toNat)) = a4
    generalize (l.any fun b => b.toNat == 47) = a5
    cases a1 <;> cases a2 <;> cases a3 <;> cases a4 <;> cases a5 <;> rfl
set_option maxRecDepth 100000 in
set_option maxHeartbeats 1000000 in
theorem entryName_any (s : ByteArray) (hs : s.size ≤ 281474976710656) (w : World) :
    Calls Tryd.prog 71 #[.string s] w fun e w' => e = .returned (.bool (nameB s)) ∧ Below w.heap.size w w' := by
  obtain ⟨cap, W, hcv, hcell, hB⟩ := conv_bytes s w
  have HC := Lib.hid hcell
  obtain ⟨R, hR⟩ : ∃ R, R = nameB s := ⟨_, rfl⟩
  rw [← hR]
  unfold nameB nilB eqB at hR
  rw [barred_parts, show (⟨#[46]⟩ : ByteArray).toList = [46] from by rw [toList_data], show (⟨#[46, 46]⟩ : ByteArray).toList = [46, 46] from by rw [toList_data], show (⟨#[]⟩ : ByteArray).toList = [] from by rw [toList_data]] at hR
  have HR := Lib.hid hR
  have CB : Hid (∀ w, Calls Tryd.prog 72 #[.string s, .int .u8 33, .int .u8 126] w fun e w' => e = .returned (.bool (!hasB (fun b => decide (b < 33) || decide (126 < b)) s)) ∧ Below w.heap.size w w') := fun w => between_any s 33 126 hs w
  clear hcell hR
  generalize hasB (fun b => decide (b < 33) || decide (126 < b)) s = z at *
  go_enter Tryd.func71, Tryd.ntmps71
  go_wp2_with fail
  go_loopw [8] (fun i wr => wr = W ∧ ∃ k : Nat, k ≤ s.size ∧ i = .int .i64 (k : Int) ∧ ∀ j, j < k → slashP (byteAt s j) = false) (fun i _ => s.size - (intOf i).toNat)
  case atStart => exact ⟨rfl, 0, Nat.zero_le _, rfl, fun j h => by omega⟩
  case round =>
    obtain ⟨rfl, k, hk, rfl, hno⟩ := hrel
    have HNo := Lib.hid hno
    clear hno
    by_cases hlt : k < s.size
    · have g0 := HC.out k hlt
      have hi2 : (k : Int) < s.size := by omega
      have HN2 : Hid (slashP (byteAt s k) = false → ∀ j, j < k + 1 → slashP (byteAt s j) = false) := fun h j hj => by
        rcases Nat.lt_or_ge j k with q | q
        · exact HNo.out j q
        · rw [show j = k from by omega]; exact h
      have HY : Hid (slashP (byteAt s k) = true → hasB slashP s = true) := fun h => hasB_yes slashP s k hlt h
      clear HNo
      generalize byteAt s k = x at *
      cases h1 : (x : Int) == 47
      · have HN3 := Lib.hid (HN2.out (by unfold slashP; rw [← cast_eq]; exact h1))
        clear HN2 HY HR CB
        go_wp2_with fail
        refine ⟨⟨trivial, k + 1, hlt, by go_num, HN3.out⟩, by simp [intOf]; omega⟩
      · have hy := HY.out (by unfold slashP; rw [← cast_eq]; exact h1)
        have hR := HR.out
        rw [hy] at hR
        have HR2 : Hid (R = false) := by show _ = _; rw [hR]; simp
        clear hy HN2 HY HR CB hR
        go_wp2_with fail
        go_ret
        exact ⟨by rw [HR2.out]; rfl, hB⟩
    · obtain rfl : k = s.size := by omega
      have hi2 : ¬ (s.size : Int) < s.size := by omega
      have hnone := hasB_no slashP s HNo.out
      have hR := HR.out
      rw [hnone] at hR
      clear HNo HC HR hnone hk hlt
      have hlen : s.toList.length = s.size := by rw [toList_data]; rfl
      by_cases h0 : 1 ≤ s.size
      case neg =>
        have he : s.toList = [] := List.eq_nil_of_length_eq_zero (by omega)
        have hi3 : ¬ (1 : Int) ≤ s.size := by omega
        have HR2 : Hid (R = false) := by show _ = _; rw [hR, he]; simp
        clear hR hlen CB
        go_wp2_with fail
        go_ret
        exact ⟨by rw [HR2.out]; rfl, hB⟩
      have hi3 : (1 : Int) ≤ s.size := by omega
      have hnil : (s.toList == []) = false := by
        cases hq : s.toList with
        | nil => rw [hq] at hlen; simp at hlen; omega
        | cons => rfl
      rw [hnil] at hR
      clear hnil hlen
      by_cases h1 : s.size ≤ 60
      case neg =>
        have hi4 : ¬ (s.size : Int) ≤ 60 := by omega
        have HR2 : Hid (R = false) := by show _ = _; rw [hR, decide_eq_true (by omega : 60 < s.size)]; simp
        clear hR CB
        go_wp2_with fail
        go_ret
        exact ⟨by rw [HR2.out]; rfl, hB⟩
      have hi4 : (s.size : Int) ≤ 60 := by omega
      rw [decide_eq_false (by omega : ¬ 60 < s.size)] at hR
      have HR3 := Lib.hid hR
      clear hR
      go_wp2_with fail
      have c := CB.out wr
      (with_reducible refine c.mono ?_)
      clear c CB
      rintro _ W2 ⟨rfl, b2⟩
      have hB2 := hB.trans (b2.mono hB.size)
      clear hB b2
      cases z
      case true =>
        have HR2 : Hid (R = false) := by show _ = _; rw [HR3.out]; simp
        clear HR3
        go_wp2_with fail
        go_ret
        exact ⟨by rw [HR2.out]; rfl, hB2⟩
      cases h3 : s.toList == [46]
      case true =>
        have HR2 : Hid (R = false) := by show _ = _; rw [HR3.out, h3]; simp
        clear HR3
        go_wp2_with fail
        go_ret
        exact ⟨by rw [HR2.out]; rfl, hB2⟩
      cases h4 : s.toList == [46, 46]
      case true =>
        have HR2 : Hid (R = false) := by show _ = _; rw [HR3.out, h4]; simp
        clear HR3
        go_wp2_with fail
        go_ret
        exact ⟨by rw [HR2.out]; rfl, hB2⟩
      have HR2 : Hid (R = true) := by show _ = _; rw [HR3.out, h3, h4]; rfl
      clear HR3
      go_wp2_with fail
      go_ret
      exact ⟨by rw [HR2.out]; rfl, hB2⟩
theorem between_zero (s : ByteArray) (hs : s.size ≤ 281474976710656) (w : World) :
    Calls Tryd.prog 72 #[.string s, .int .u8 1, .int .u8 255] w fun e w' => e = .returned (.bool (!hasZero s)) ∧ Below w.heap.size w w' := by
  have q := between_any s 1 255 hs w
  have e : btwn 1 255 s = !hasZero s := by
    unfold btwn hasZero hasB
    congr 2
    funext b
    have hb := b.toNat_lt
    unfold zeroP
    simp only
    rw [decide_eq_false (by omega : ¬ 255 < b.toNat), Bool.or_false, Bool.eq_iff_iff]
    simp
  rw [e] at q
  exact q
end Go.Proofs.YthigdhiebogffaaDoor
