/- Texts in one: ORefCur, ORef. -/
import Derived.Test.YtmikfmcgddmplaaGreatDoorDkMem
import Derived.Test.YtmikfmcgddmplaaGreatDoorWStep
import Derived.Test.YtmikfmcgddmplaaGreatDoorWRead
import Derived.Laws.IdiomStrings
/- The document's own cursor by the states of a reader. -/
namespace Go.Proofs.YtmikfmcgddmplaaGreatDoor
open Go.RowKit

def CS (w : World) (g : Nat) : St → Prop
  | some l => Cu w g (bs l) 0 ∧ l.length ≤ 8192
  | none => ∃ s e, (e != 0) = true ∧ Cu w g s e
theorem CS.lt {w : World} {g : Nat} {st : St} (h : CS w g st) : g < w.heap.size := by
  cases st with
  | none => obtain ⟨s, e, he, h⟩ := h; exact Arr.lt h
  | some l => exact Arr.lt h.1
theorem CS.kept {w w' : World} {g : Nat} {st : St} {r : Option Nat} (h : CS w g st) (k : w.grownBy w' r) (hr : some g ≠ r) : CS w' g st := by
  cases st with
  | none => obtain ⟨s, e, he, h⟩ := h; exact ⟨s, e, he, Arr.kept h k hr⟩
  | some l => exact ⟨Arr.kept h.1 k hr, h.2⟩
/-- the cursor's two cells: what is left, what went wrong -/
theorem CS.cells {w : World} {g : Nat} {st : St} (h : CS w g st) : ∃ s e, Cu w g s e ∧ (e != 0) = st.isNone ∧ (e == 0) = !st.isNone ∧ ∀ l, st = some l → s = bs l ∧ e = 0 := by
  cases st with
  | none =>
    obtain ⟨s, e, he, h⟩ := h
    refine ⟨s, e, h, he, ?_, fun l e => by cases e⟩
    rw [Option.isNone_none, Bool.not_true, beq_eq_false_iff_ne]
    exact (bne_iff_ne).1 he
  | some l => exact ⟨bs l, 0, h.1, rfl, rfl, fun l' e => by cases e; exact ⟨rfl, rfl⟩⟩
def Cde (w : World) (g : Nat) (v : Value) (st : St) (x : Ending) (w' : World) : Prop := x = .returned v ∧ CS w' g st ∧ w.grownBy w' (some g)
theorem cs_num (g : Nat) (st : St) (w : World) (h : CS w g st) : Calls Tryz.prog 48 #[.pointer (some ⟨g, 0, none⟩)] w (Cde w g (.int .i64 ((stNum st).1 : Int)) (stNum st).2) := by
  cases st with
  | none =>
    obtain ⟨s, e, he, h⟩ := h
    exact (cnumber_bad g s e he w h).mono fun x w' ⟨h1, h2, h3⟩ => ⟨h1, ⟨s, e, he, h2⟩, h3⟩
  | some l =>
    obtain ⟨h, hl⟩ := h
    have hs : (bs l).size ≤ 281474976710656 := by rw [bs_size]; omega
    cases hg : got l with
    | none =>
      rw [show stNum (some l) = (0, none) from by simp [stNum, rdNum, hg]]
      exact (cnumber_go g (bs l) 0 0 2 (refGetIs_none _ hs (by rw [bs_list]; exact hg)) (by omega) w h).mono fun x w' ⟨h1, h2, h3⟩ => ⟨h1, ⟨_, 2, by decide, h2⟩, h3⟩
    | some y =>
      obtain ⟨n, k⟩ := y
      have hk := got_some _ _ _ hg
      rw [show stNum (some l) = (n, some (l.drop k)) from by simp [stNum, rdNum, hg]]
      refine (cnumber_go g (bs l) n k 0 (refGetIs_some _ hs n k (by rw [bs_list]; exact hg)) (by rw [bs_size]; exact hk.2.2.2.2) w h).mono fun x w' ⟨h1, h2, h3⟩ => ⟨h1, ⟨?_, by rw [List.length_drop]; omega⟩, h3⟩
      rw [bs_drop] at h2
      exact h2
theorem cs_txt (g : Nat) (st : St) (w : World) (h : CS w g st) : Calls Tryz.prog 49 #[.pointer (some ⟨g, 0, none⟩)] w (Cde w g (.string (stTxt st).1) (stTxt st).2) := by
  cases st with
  | none =>
    obtain ⟨s, e, he, h⟩ := h
    exact (ctext_bad g s e he w h).mono fun x w' ⟨h1, h2, h3⟩ => ⟨h1, ⟨s, e, he, h2⟩, h3⟩
  | some l =>
    obtain ⟨h, hl⟩ := h
    have hs : (bs l).size ≤ 281474976710656 := by rw [bs_size]; omega
    cases hg : got l with
    | none =>
      rw [show stTxt (some l) = (⟨#[]⟩, none) from by simp [stTxt, rdText, rdNum, hg]]
      exact (ctext_go g (bs l) ⟨#[]⟩ 0 2 (refText_none _ hs (by rw [bs_list]; exact hg)) (by omega) w h).mono fun x w' ⟨h1, h2, h3⟩ => ⟨h1, ⟨_, 2, by decide, h2⟩, h3⟩
    | some y =>
      obtain ⟨n, k⟩ := y
      have hk := (got_some _ _ _ hg).2.2.2.2
      by_cases h4 : n ≤ 4096
      · by_cases h5 : n ≤ (l.drop k).length
        · rw [show stTxt (some l) = (bs ((l.drop k).take n), some ((l.drop k).drop n)) from by simp only [stTxt, rdText, rdNum, hg]; rw [if_pos ⟨h4, h5⟩]]
          rw [List.length_drop] at h5
          refine (ctext_go g (bs l) _ (k + n) 0 (refText_yes _ hs n k (by rw [bs_list]; exact hg) h4 (by rw [bs_size]; omega)) (by rw [bs_size]; omega) w h).mono fun x w' ⟨h1, h2, h3⟩ => ⟨?_, ⟨?_, ?_⟩, h3⟩
          · rw [h1, bs_mid]
          · rw [bs_drop] at h2
            rw [List.drop_drop]
            exact h2
          · simp only [List.length_drop]; omega
        · rw [show stTxt (some l) = (⟨#[]⟩, none) from by simp only [stTxt, rdText, rdNum, hg]; rw [if_neg (fun q => h5 q.2)]]
          rw [List.length_drop] at h5
          exact (ctext_go g (bs l) ⟨#[]⟩ 0 2 (refText_short _ hs n k (by rw [bs_list]; exact hg) h4 (by rw [bs_size]; omega)) (by omega) w h).mono fun x w' ⟨h1, h2, h3⟩ => ⟨h1, ⟨_, 2, by decide, h2⟩, h3⟩
      · rw [show stTxt (some l) = (⟨#[]⟩, none) from by simp only [stTxt, rdText, rdNum, hg]; rw [if_neg (fun q => h4 q.1)]]
        exact (ctext_go g (bs l) ⟨#[]⟩ 0 1 (refText_long _ hs n k (by rw [bs_list]; exact hg) (by omega)) (by omega) w h).mono fun x w' ⟨h1, h2, h3⟩ => ⟨h1, ⟨_, 1, by decide, h2⟩, h3⟩
theorem cs_id (g : Nat) (st : St) (w : World) (h : CS w g st) : Calls Tryz.prog 50 #[.pointer (some ⟨g, 0, none⟩), .int .i64 32] w (Cde w g (.string (stId st).1) (stId st).2) := by
  cases st with
  | none =>
    obtain ⟨s, e, he, h⟩ := h
    exact (ctake_bad g s 32 e he (by rw [beq_eq_false_iff_ne]; exact (bne_iff_ne).1 he) w h).mono fun x w' ⟨h1, h2, h3⟩ => ⟨h1, ⟨s, e, he, h2⟩, h3⟩
  | some l =>
    obtain ⟨h, hl⟩ := h
    by_cases h5 : 32 ≤ l.length
    · rw [show stId (some l) = (bs (l.take 32), some (l.drop 32)) from by simp only [stId, rdId]; rw [if_pos h5]]
      refine (ctake_go g (bs l) 32 (by rw [bs_size]; exact h5) w h).mono fun x w' ⟨h1, h2, h3⟩ => ⟨?_, ⟨?_, ?_⟩, h3⟩
      · rw [h1, bs_head]
      · rw [bs_drop] at h2; exact h2
      · rw [List.length_drop]; omega
    · rw [show stId (some l) = (⟨#[]⟩, none) from by simp only [stId, rdId]; rw [if_neg h5]]
      exact (ctake_no g (bs l) 32 (.inr (by rw [bs_size]; omega)) w h).mono fun x w' ⟨h1, h2, h3⟩ => ⟨h1, ⟨_, 2, by decide, h2⟩, h3⟩
theorem rdText_small {l r : List UInt8} {t : ByteArray} (h : rdText l = some (t, r)) : t.size ≤ 4096 := by
  unfold rdText at h
  cases hg : rdNum l with
  | none => simp [hg] at h
  | some y =>
    obtain ⟨n, r1⟩ := y
    simp only [hg] at h
    split at h
    · rename_i hc
      simp only [Option.some.injEq, Prod.mk.injEq] at h
      rw [← h.1, bs_size, List.length_take]
      omega
    · cases h
theorem txt_small (st : St) : (stTxt st).1.size ≤ 4096 := by
  cases st with
  | none => exact Nat.zero_le _
  | some l =>
    cases h1 : rdText l with
    | none =>
      rw [show stTxt (some l) = (⟨#[]⟩, none) from by simp [stTxt, h1]]
      exact Nat.zero_le _
    | some y =>
      obtain ⟨t, r⟩ := y
      rw [show stTxt (some l) = (t, some r) from by simp [stTxt, h1]]
      exact rdText_small h1
end Go.Proofs.YtmikfmcgddmplaaGreatDoor

/- ref.between, ref.entryName: their contracts. -/
namespace Go.Proofs.YtmikfmcgddmplaaGreatDoor
open Go.RowKit

theorem conv_bytes (s : ByteArray) (w : World) : ∃ cap W, (convert 9 105 (.string s)).run Tryz.prog w = .ok (.slice (some ⟨w.heap.size, 0, none⟩) s.size cap) W ∧
    (∀ k, k < s.size → W.cell? ⟨w.heap.size, k, none⟩ = some (.int .u8 (byteAt s k : Int))) ∧ Below w.heap.size w W := by
  refine ⟨_, _, run_bytes_of_string w 9 105 5 s Tryz.underlying9 Tryz.underlying105 Tryz.underlying5, fun k hk => ?_, (Below.refl _ _).drew.alloc (by simp) _⟩
  have hh : (w.drew.alloc (.cells (bytesRow s (grownCap w s.size 0 5)) 5 ((bytesRow s (grownCap w s.size 0 5)).size, (bytesRow s (grownCap w s.size 0 5)).size + 1))).heap[w.heap.size]? = some (.cells (bytesRow s (grownCap w s.size 0 5)) 5 ((bytesRow s (grownCap w s.size 0 5)).size, (bytesRow s (grownCap w s.size 0 5)).size + 1)) := heap_alloc_new w.drew _
  rw [cell_of_row _ _ k _ _ _ hh]
  have hk' : k < s.data.toList.length := hk
  rw [bytesRow_at s _ k hk]
  unfold byteAt
  rw [List.getD_eq_getElem?_getD, List.getElem?_eq_getElem hk']
  rfl
def btwn (lo hi : Nat) (s : ByteArray) : Bool := !hasB (fun b => decide (b < lo) || decide (hi < b)) s
set_option maxRecDepth 100000 in
theorem between_any (s : ByteArray) (lo hi : Nat) (hs : s.size ≤ 281474976710656) (w : World) :
    Calls Tryz.prog 91 #[.string s, .int .u8 (lo : Int), .int .u8 (hi : Int)] w fun e w' => e = .returned (.bool (btwn lo hi s)) ∧ Below w.heap.size w w' := by
  obtain ⟨cap, W, hcv, hcell, hB⟩ := conv_bytes s w
  have HC := Lib.hid hcell
  clear hcell
  unfold btwn
  generalize hp : (fun b => decide (b < lo) || decide (hi < b)) = p at *
  have HP : Hid (∀ b, p b = (decide (b < lo) || decide (hi < b))) := fun b => by rw [← hp]
  clear hp
  go_enter Tryz.func91, Tryz.ntmps91
  go_wp2_with fail
  go_loopw [12] (fun i wr => wr = W ∧ ∃ k : Nat, k ≤ s.size ∧ i = .int .i64 (k : Int) ∧ ∀ j, j < k → p (byteAt s j) = false) (fun i _ => s.size - (intOf i).toNat)
  case atStart => exact ⟨rfl, 0, Nat.zero_le _, rfl, fun j h => by omega⟩
  case round =>
    obtain ⟨rfl, k, hk, rfl, hno⟩ := hrel
    have HNo := Lib.hid hno
    clear hno
    by_cases hlt : k < s.size
    · have g0 := HC.out k hlt
      have hi2 : (k : Int) < s.size := by omega
      have hb := HP.out (byteAt s k)
      have HN2 : Hid (p (byteAt s k) = false → ∀ j, j < k + 1 → p (byteAt s j) = false) := fun h j hj => by
        rcases Nat.lt_or_ge j k with q | q
        · exact HNo.out j q
        · rw [show j = k from by omega]; exact h
      have HY : Hid (p (byteAt s k) = true → hasB p s = true) := fun h => hasB_yes p s k hlt h
      clear HNo
      generalize byteAt s k = x at *
      by_cases h1 : (x : Int) < lo
      · have hy := HY.out (by rw [hb, decide_eq_true (by omega : x < lo)]; rfl)
        have HY2 := Lib.hid hy
        clear hy HN2 HY hb
        go_wp2_with fail
        go_ret
        exact ⟨by rw [HY2.out]; rfl, hB⟩
      · by_cases h2 : (hi : Int) < x
        · have hy := HY.out (by rw [hb, decide_eq_true (by omega : hi < x)]; simp)
          have HY2 := Lib.hid hy
          clear hy HN2 HY hb
          go_wp2_with fail
          go_ret
          exact ⟨by rw [HY2.out]; rfl, hB⟩
        · have HN3 := Lib.hid (HN2.out (by rw [hb, decide_eq_false (by omega : ¬ x < lo), decide_eq_false (by omega : ¬ hi < x)]; rfl))
          clear HN2 HY hb
          go_wp2_with fail
          refine ⟨⟨trivial, k + 1, hlt, by go_num, HN3.out⟩, by simp [intOf]; omega⟩
    · obtain rfl : k = s.size := by omega
      have hi2 : ¬ (s.size : Int) < s.size := by omega
      have hnone := Lib.hid (hasB_no p s HNo.out)
      clear HNo HC HP
      go_wp2_with fail
      go_ret
      exact ⟨by rw [hnone.out]; rfl, hB⟩

def slashP (x : Nat) : Bool := x == 47
theorem barred_parts (s : ByteArray) : hasBarred s = (hasB (fun b => decide (b < 33) || decide (126 < b)) s || hasB slashP s) := by
  unfold hasBarred hasB barredP slashP
  induction s.data.toList with
  | nil => rfl
  | cons b l ih =>
    simp only [List.any_cons, ih]
    generalize decide (b.toNat < 33) = a1
    generalize decide (126 < b.toNat) = a2
    generalize (b.toNat == 47) = a3
    generalize (l.any fun b => decide (b.toNat < 33) || decide (126 < b.toNat)) = a4
    generalize (l.any fun b => b.toNat == 47) = a5
    cases a1 <;> cases a2 <;> cases a3 <;> cases a4 <;> cases a5 <;> rfl
set_option maxRecDepth 100000 in
set_option maxHeartbeats 1000000 in
theorem entryName_any (s : ByteArray) (hs : s.size ≤ 281474976710656) (w : World) :
    Calls Tryz.prog 90 #[.string s] w fun e w' => e = .returned (.bool (nameB s)) ∧ Below w.heap.size w w' := by
  obtain ⟨cap, W, hcv, hcell, hB⟩ := conv_bytes s w
  have HC := Lib.hid hcell
  obtain ⟨R, hR⟩ : ∃ R, R = nameB s := ⟨_, rfl⟩
  rw [← hR]
  unfold nameB nilB eqB at hR
  rw [barred_parts, show (⟨#[46]⟩ : ByteArray).toList = [46] from by rw [toList_data], show (⟨#[46, 46]⟩ : ByteArray).toList = [46, 46] from by rw [toList_data], show (⟨#[]⟩ : ByteArray).toList = [] from by rw [toList_data]] at hR
  have HR := Lib.hid hR
  have CB : Hid (∀ w, Calls Tryz.prog 91 #[.string s, .int .u8 33, .int .u8 126] w fun e w' => e = .returned (.bool (!hasB (fun b => decide (b < 33) || decide (126 < b)) s)) ∧ Below w.heap.size w w') := fun w => between_any s 33 126 hs w
  clear hcell hR
  generalize hasB (fun b => decide (b < 33) || decide (126 < b)) s = z at *
  go_enter Tryz.func90, Tryz.ntmps90
  go_wp2_with fail
  go_loopw [8] (fun i wr => wr = W ∧ ∃ k : Nat, k ≤ s.size ∧ i = .int .i64 (k : Int) ∧ ∀ j, j < k → slashP (byteAt s j) = false) (fun i _ => s.size - (intOf i).toNat)
  case atStart => exact ⟨rfl, 0, Nat.zero_le _, rfl, fun j h => by omega⟩
  case round =>
    obtain ⟨rfl, k, hk, rfl, hno⟩ := hrel
    have HNo := Lib.hid hno
    clear hno
    by_cases hlt : k < s.size
    · have g0 := HC.out k hlt
      have hi2 : (k : Int) < s.size := by omega
      have HN2 : Hid (slashP (byteAt s k) = false → ∀ j, j < k + 1 → slashP (byteAt s j) = false) := fun h j hj => by
        rcases Nat.lt_or_ge j k with q | q
        · exact HNo.out j q
        · rw [show j = k from by omega]; exact h
      have HY : Hid (slashP (byteAt s k) = true → hasB slashP s = true) := fun h => hasB_yes slashP s k hlt h
      clear HNo
      generalize byteAt s k = x at *
      cases h1 : (x : Int) == 47
      · have HN3 := Lib.hid (HN2.out (by unfold slashP; rw [← cast_eq]; exact h1))
        clear HN2 HY HR CB
        go_wp2_with fail
        refine ⟨⟨trivial, k + 1, hlt, by go_num, HN3.out⟩, by simp [intOf]; omega⟩
      · have hy := HY.out (by unfold slashP; rw [← cast_eq]; exact h1)
        have hR := HR.out
        rw [hy] at hR
        have HR2 : Hid (R = false) := by show _ = _; rw [hR]; simp
        clear hy HN2 HY HR CB hR
        go_wp2_with fail
        go_ret
        exact ⟨by rw [HR2.out]; rfl, hB⟩
    · obtain rfl : k = s.size := by omega
      have hi2 : ¬ (s.size : Int) < s.size := by omega
      have hnone := hasB_no slashP s HNo.out
      have hR := HR.out
      rw [hnone] at hR
      clear HNo HC HR hnone hk hlt
      have hlen : s.toList.length = s.size := by rw [toList_data]; rfl
      by_cases h0 : 1 ≤ s.size
      case neg =>
        have he : s.toList = [] := List.eq_nil_of_length_eq_zero (by omega)
        have hi3 : ¬ (1 : Int) ≤ s.size := by omega
        have HR2 : Hid (R = false) := by show _ = _; rw [hR, he]; simp
        clear hR hlen CB
        go_wp2_with fail
        go_ret
        exact ⟨by rw [HR2.out]; rfl, hB⟩
      have hi3 : (1 : Int) ≤ s.size := by omega
      have hnil : (s.toList == []) = false := by
        cases hq : s.toList with
        | nil => rw [hq] at hlen; simp at hlen; omega
        | cons => rfl
      rw [hnil] at hR
      clear hnil hlen
      by_cases h1 : s.size ≤ 60
      case neg =>
        have hi4 : ¬ (s.size : Int) ≤ 60 := by omega
        have HR2 : Hid (R = false) := by show _ = _; rw [hR, decide_eq_true (by omega : 60 < s.size)]; simp
        clear hR CB
        go_wp2_with fail
        go_ret
        exact ⟨by rw [HR2.out]; rfl, hB⟩
      have hi4 : (s.size : Int) ≤ 60 := by omega
      rw [decide_eq_false (by omega : ¬ 60 < s.size)] at hR
      have HR3 := Lib.hid hR
      clear hR
      go_wp2_with fail
      have c := CB.out wr
      (with_reducible refine c.mono ?_)
      clear c CB
      rintro _ W2 ⟨rfl, b2⟩
      have hB2 := hB.trans (b2.mono hB.size)
      clear hB b2
      cases z
      case true =>
        have HR2 : Hid (R = false) := by show _ = _; rw [HR3.out]; simp
        clear HR3
        go_wp2_with fail
        go_ret
        exact ⟨by rw [HR2.out]; rfl, hB2⟩
      cases h3 : s.toList == [46]
      case true =>
        have HR2 : Hid (R = false) := by show _ = _; rw [HR3.out, h3]; simp
        clear HR3
        go_wp2_with fail
        go_ret
        exact ⟨by rw [HR2.out]; rfl, hB2⟩
      cases h4 : s.toList == [46, 46]
      case true =>
        have HR2 : Hid (R = false) := by show _ = _; rw [HR3.out, h4]; simp
        clear HR3
        go_wp2_with fail
        go_ret
        exact ⟨by rw [HR2.out]; rfl, hB2⟩
      have HR2 : Hid (R = true) := by show _ = _; rw [HR3.out, h3, h4]; rfl
      clear HR3
      go_wp2_with fail
      go_ret
      exact ⟨by rw [HR2.out]; rfl, hB2⟩
theorem between_zero (s : ByteArray) (hs : s.size ≤ 281474976710656) (w : World) :
    Calls Tryz.prog 91 #[.string s, .int .u8 1, .int .u8 255] w fun e w' => e = .returned (.bool (!hasZero s)) ∧ Below w.heap.size w w' := by
  have q := between_any s 1 255 hs w
  have e : btwn 1 255 s = !hasZero s := by
    unfold btwn hasZero hasB
    congr 2
    funext b
    have hb := b.toNat_lt
    unfold zeroP
    simp only
    rw [decide_eq_false (by omega : ¬ 255 < b.toNat), Bool.or_false, Bool.eq_iff_iff]
    simp
  rw [e] at q
  exact q
end Go.Proofs.YtmikfmcgddmplaaGreatDoor
