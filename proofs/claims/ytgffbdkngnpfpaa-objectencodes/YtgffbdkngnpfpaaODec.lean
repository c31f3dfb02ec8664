/- Reading an object's bytes: plain definitions, and a reader's contracts by them. -/
import Derived.Test.YtgffbdkngnpfpaaOEnc
import Derived.Test.YtgffbdkngnpfpaaWRead
namespace Go.Proofs.Ytgffbdkngnpfpaa
open Go.RowKit

def rdNum (l : List UInt8) : Option (Nat × List UInt8) :=
  match got l with
  | none => none
  | some (n, k) => some (n, l.drop k)
def rdText (l : List UInt8) : Option (ByteArray × List UInt8) :=
  match rdNum l with
  | none => none
  | some (n, r) => if n ≤ 4096 ∧ n ≤ r.length then some (bs (r.take n), r.drop n) else none
def rdId (l : List UInt8) : Option (ByteArray × List UInt8) := if 32 ≤ l.length then some (bs (l.take 32), l.drop 32) else none

/-- what is left of a reader's bytes; none: something went wrong -/
abbrev St := Option (List UInt8)
def stNum : St → Nat × St
  | none => (0, none)
  | some l => match rdNum l with
    | none => (0, none)
    | some (n, r) => (n, some r)
def stTxt : St → ByteArray × St
  | none => (⟨#[]⟩, none)
  | some l => match rdText l with
    | none => (⟨#[]⟩, none)
    | some (t, r) => (t, some r)
def stId : St → ByteArray × St
  | none => (⟨#[]⟩, none)
  | some l => match rdId l with
    | none => (⟨#[]⟩, none)
    | some (t, r) => (t, some r)
def RS (w : World) (g : Nat) : St → Prop
  | some l => Rd w g (bs l) 0 ∧ l.length ≤ 8192
  | none => ∃ s e, (e != 0) = true ∧ Rd w g s e
theorem RS.below {w w' : World} {g : Nat} {st : St} (h : RS w g st) (b : Below w.heap.size w w') : RS w' g st := by
  cases st with
  | none => obtain ⟨s, e, he, h⟩ := h; exact ⟨s, e, he, Arr.below h b (Arr.lt h)⟩
  | some l => exact ⟨Arr.below h.1 b (Arr.lt h.1), h.2⟩
theorem RS.lt {w : World} {g : Nat} {st : St} (h : RS w g st) : g < w.heap.size := by
  cases st with
  | none => obtain ⟨s, e, he, h⟩ := h; exact Arr.lt h
  | some l => exact Arr.lt h.1
theorem RS.kept {w w' : World} {g : Nat} {st : St} {r : Option Nat} (h : RS w g st) (k : w.grownBy w' r) (hr : some g ≠ r) : RS w' g st := by
  cases st with
  | none => obtain ⟨s, e, he, h⟩ := h; exact ⟨s, e, he, Arr.kept h k hr⟩
  | some l => exact ⟨Arr.kept h.1 k hr, h.2⟩
/-- behind a method: the answer, what is left, and nothing else of old has turned -/
def Rde (w : World) (g : Nat) (v : Value) (st : St) (x : Ending) (w' : World) : Prop := x = .returned v ∧ RS w' g st ∧ w.grownBy w' (some g)
theorem bs_drop (l : List UInt8) (k : Nat) : (bs l).extract k (bs l).size = bs (l.drop k) := by
  apply bytes_eq
  rw [extract_drop, bs_list, bs_list, bs_size, List.take_of_length_le (by rw [List.length_drop]; omega)]
theorem bs_mid (l : List UInt8) (k n : Nat) : (bs l).extract k (k + n) = bs ((l.drop k).take n) := by
  apply bytes_eq
  rw [extract_drop, bs_list, bs_list, show k + n - k = n from by omega]
theorem bs_head (l : List UInt8) (n : Nat) : (bs l).extract 0 n = bs (l.take n) := by
  have := bs_mid l 0 n
  simpa using this
theorem rs_num (g : Nat) (st : St) (w : World) (h : RS w g st) : Calls Try.prog 35 #[.pointer (some ⟨g, 0, none⟩)] w (Rde w g (.int .i64 ((stNum st).1 : Int)) (stNum st).2) := by
  cases st with
  | none =>
    obtain ⟨s, e, he, h⟩ := h
    exact (Number_bad g s e he w h).mono fun x w' ⟨h1, h2, h3⟩ => ⟨h1, ⟨s, e, he, h2⟩, h3⟩
  | some l =>
    obtain ⟨h, hl⟩ := h
    have hs : (bs l).size ≤ 281474976710656 := by rw [bs_size]; omega
    cases hg : got l with
    | none =>
      rw [show stNum (some l) = (0, none) from by simp [stNum, rdNum, hg]]
      exact (Number_go g (bs l) 0 0 2 (getIs_none _ hs (by rw [bs_list]; exact hg)) (by omega) w h).mono fun x w' ⟨h1, h2, h3⟩ => ⟨h1, ⟨_, 2, by decide, h2⟩, h3⟩
    | some y =>
      obtain ⟨n, k⟩ := y
      have hk := got_some _ _ _ hg
      rw [show stNum (some l) = (n, some (l.drop k)) from by simp [stNum, rdNum, hg]]
      refine (Number_go g (bs l) n k 0 (getIs_some _ hs n k (by rw [bs_list]; exact hg)) (by rw [bs_size]; exact hk.2.2.2.2) w h).mono fun x w' ⟨h1, h2, h3⟩ => ⟨h1, ⟨?_, by rw [List.length_drop]; omega⟩, h3⟩
      rw [bs_drop] at h2
      exact h2
theorem rs_txt (g : Nat) (st : St) (w : World) (h : RS w g st) : Calls Try.prog 51 #[.pointer (some ⟨g, 0, none⟩)] w (Rde w g (.string (stTxt st).1) (stTxt st).2) := by
  cases st with
  | none =>
    obtain ⟨s, e, he, h⟩ := h
    exact (Text_bad g s e he w h).mono fun x w' ⟨h1, h2, h3⟩ => ⟨h1, ⟨s, e, he, h2⟩, h3⟩
  | some l =>
    obtain ⟨h, hl⟩ := h
    have hs : (bs l).size ≤ 281474976710656 := by rw [bs_size]; omega
    cases hg : got l with
    | none =>
      rw [show stTxt (some l) = (⟨#[]⟩, none) from by simp [stTxt, rdText, rdNum, hg]]
      exact (Text_go g (bs l) ⟨#[]⟩ 0 2 (text_none _ hs (by rw [bs_list]; exact hg)) (by omega) w h).mono fun x w' ⟨h1, h2, h3⟩ => ⟨h1, ⟨_, 2, by decide, h2⟩, h3⟩
    | some y =>
      obtain ⟨n, k⟩ := y
      have hk := (got_some _ _ _ hg).2.2.2.2
      by_cases h4 : n ≤ 4096
      · by_cases h5 : n ≤ (l.drop k).length
        · rw [show stTxt (some l) = (bs ((l.drop k).take n), some ((l.drop k).drop n)) from by simp only [stTxt, rdText, rdNum, hg]; rw [if_pos ⟨h4, h5⟩]]
          rw [List.length_drop] at h5
          refine (Text_go g (bs l) _ (k + n) 0 (text_yes _ hs n k (by rw [bs_list]; exact hg) h4 (by rw [bs_size]; omega)) (by rw [bs_size]; omega) w h).mono fun x w' ⟨h1, h2, h3⟩ => ⟨?_, ⟨?_, ?_⟩, h3⟩
          · rw [h1, bs_mid]
          · rw [bs_drop] at h2
            rw [List.drop_drop]
            exact h2
          · simp only [List.length_drop]; omega
        · rw [show stTxt (some l) = (⟨#[]⟩, none) from by simp only [stTxt, rdText, rdNum, hg]; rw [if_neg (fun q => h5 q.2)]]
          rw [List.length_drop] at h5
          exact (Text_go g (bs l) ⟨#[]⟩ 0 2 (text_short _ hs n k (by rw [bs_list]; exact hg) h4 (by rw [bs_size]; omega)) (by omega) w h).mono fun x w' ⟨h1, h2, h3⟩ => ⟨h1, ⟨_, 2, by decide, h2⟩, h3⟩
      · rw [show stTxt (some l) = (⟨#[]⟩, none) from by simp only [stTxt, rdText, rdNum, hg]; rw [if_neg (fun q => h4 q.1)]]
        exact (Text_go g (bs l) ⟨#[]⟩ 0 1 (text_long _ hs n k (by rw [bs_list]; exact hg) (by omega)) (by omega) w h).mono fun x w' ⟨h1, h2, h3⟩ => ⟨h1, ⟨_, 1, by decide, h2⟩, h3⟩
theorem rs_id (g : Nat) (st : St) (w : World) (h : RS w g st) : Calls Try.prog 53 #[.pointer (some ⟨g, 0, none⟩), .int .i64 32] w (Rde w g (.string (stId st).1) (stId st).2) := by
  cases st with
  | none =>
    obtain ⟨s, e, he, h⟩ := h
    exact (Bytes_bad g s 32 e he w h).mono fun x w' ⟨h1, h2, h3⟩ => ⟨h1, ⟨s, e, he, h2⟩, h3⟩
  | some l =>
    obtain ⟨h, hl⟩ := h
    by_cases h5 : 32 ≤ l.length
    · rw [show stId (some l) = (bs (l.take 32), some (l.drop 32)) from by simp only [stId, rdId]; rw [if_pos h5]]
      refine (Bytes_go g (bs l) 32 (by rw [bs_size]; exact h5) w h).mono fun x w' ⟨h1, h2, h3⟩ => ⟨?_, ⟨?_, ?_⟩, h3⟩
      · rw [h1, bs_head]
      · rw [bs_drop] at h2; exact h2
      · rw [List.length_drop]; omega
    · rw [show stId (some l) = (⟨#[]⟩, none) from by simp only [stId, rdId]; rw [if_neg h5]]
      exact (Bytes_no g (bs l) 32 (.inr (by rw [bs_size]; omega)) w h).mono fun x w' ⟨h1, h2, h3⟩ => ⟨h1, ⟨_, 2, by decide, h2⟩, h3⟩
/-- has something gone wrong? -/
theorem rs_bad (g : Nat) (st : St) (w : World) (h : RS w g st) : Calls Try.prog 36 #[.pointer (some ⟨g, 0, none⟩)] w fun x w' => (∃ e : Int, x = .returned (.int .i64 e) ∧ (e != 0) = st.isNone) ∧ w = w' := by
  cases st with
  | none =>
    obtain ⟨s, e, he, h⟩ := h
    exact (Bad_any g s e w h).mono fun x w' ⟨h1, h2⟩ => ⟨⟨e, h1, he⟩, h2⟩
  | some l => exact (Bad_any g (bs l) 0 w h.1).mono fun x w' ⟨h1, h2⟩ => ⟨⟨0, h1, rfl⟩, h2⟩

def rdPars : Nat → List UInt8 → Option (List ByteArray × List UInt8)
  | 0, l => some ([], l)
  | n + 1, l => match rdId l with
    | none => none
    | some (p, r) => match rdPars n r with
      | none => none
      | some (T, r2) => some (p :: T, r2)
def rdEnt (l : List UInt8) : Option (Ent × List UInt8) :=
  match rdText l with
  | none => none
  | some (nm, l1) => match rdNum l1 with
    | none => none
    | some (d, l2) => match rdId l2 with
      | none => none
      | some (id, l3) => if 1 < d then none else some (⟨nm, d == 1, id⟩, l3)
def rdEnts : Nat → List UInt8 → Option (List Ent × List UInt8)
  | 0, l => some ([], l)
  | n + 1, l => match rdEnt l with
    | none => none
    | some (e, r) => match rdEnts n r with
      | none => none
      | some (T, r2) => some (e :: T, r2)
/-- the parents, or none and an error -/
def stPars (st : St) : List ByteArray × St :=
  match (stNum st).2 with
  | none => ([], none)
  | some l => match rdPars (stNum st).1 l with
    | none => ([], none)
    | some (T, r) => (T, some r)
theorem stNum_none {st : St} (h : (stNum st).2 = none) : (stNum st).1 = 0 := by
  cases st with
  | none => rfl
  | some l =>
    unfold stNum at *
    cases hg : rdNum l with
    | none => simp [hg]
    | some y => simp [hg] at h
end Go.Proofs.Ytgffbdkngnpfpaa
