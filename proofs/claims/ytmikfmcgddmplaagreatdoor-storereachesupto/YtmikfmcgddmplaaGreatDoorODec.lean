/- Texts in one: OEnc, ODec. -/
import Derived.Test.YtmikfmcgddmplaaGreatDoorOMem
import Derived.Test.YtmikfmcgddmplaaGreatDoorWDone
import Derived.Test.YtmikfmcgddmplaaGreatDoorWRead
import Derived.Test.YtmikfmcgddmplaaGreatDoorRdn
/- An object's bytes; what is written behind one another. -/
namespace Go.Proofs.YtmikfmcgddmplaaGreatDoor
open Go.RowKit

/-- a text's bytes, its length ahead of it -/
def txt (s : ByteArray) : List UInt8 := num s.size ++ s.data.toList
def dirN (d : Bool) : Nat := if d then 1 else 0
def entL (e : Ent) : List UInt8 := txt e.name ++ (num (dirN e.dir) ++ e.id.data.toList)
def entsL : List Ent → List UInt8
  | [] => []
  | e :: l => entL e ++ entsL l
def parsL : List ByteArray → List UInt8
  | [] => []
  | p :: l => p.data.toList ++ parsL l
def fieldsL (o : Ob) : List UInt8 :=
  if o.kind = 1 then txt o.data else if o.kind = 2 then num o.ents.length ++ entsL o.ents
  else if o.kind = 3 then o.tree.data.toList ++ (num o.pars.length ++ (parsL o.pars ++ (txt o.who ++ (num o.time.toNat ++ txt o.note))))
  else o.target.data.toList ++ (txt o.who ++ txt o.note)
def encL (o : Ob) : List UInt8 := num o.kind.toNat ++ fieldsL o
/-- what Encode answers -/
def encS (o : Ob) : ByteArray := if good o ≠ 0 then ⟨#[]⟩ else if 8192 < (encL o).length then ⟨#[]⟩ else bs (encL o)
def encE (o : Ob) : Int := if good o ≠ 0 then good o else if 8192 < (encL o).length then 1 else 0

structure GoodF (o : Ob) : Prop where
  kind : o.kind = 1 ∨ o.kind = 2 ∨ o.kind = 3 ∨ o.kind = 4
  stray : strayB o = false
  data : o.data.size ≤ 4096
  who : o.who.size ≤ 4096
  note : o.note.size ≤ 4096
  ents : o.ents.length ≤ 64
  pars : o.pars.length ≤ 4
  each : entsB ⟨#[]⟩ o.ents = true
  ids : parsE [] o.pars = 0
  tree : o.kind = 3 → o.tree.size = 32
  target : o.kind = 4 → o.target.size = 32
  early : 0 ≤ o.time
  late : o.time < 1099511627776
theorem good_facts {o : Ob} (h : good o = 0) : GoodF o := by
  unfold good at h
  split at h
  · cases h
  rename_i h1
  split at h
  · cases h
  rename_i h2
  split at h
  · cases h
  rename_i h3
  split at h
  · cases h
  rename_i h4
  split at h
  · cases h
  rename_i h5
  split at h
  · rename_i h6; exact absurd h h6
  rename_i h6
  split at h
  · cases h
  rename_i h7
  split at h
  · cases h
  split at h
  · cases h
  rename_i h9
  unfold kindB at h1
  unfold longB at h3
  unfold fullB at h4
  unfold noIdB idB at h7
  unfold lateB at h9
  simp only [Bool.not_eq_true', Bool.not_eq_false, Bool.or_eq_true, Bool.and_eq_true, beq_iff_eq, decide_eq_true_eq, Bool.not_eq_true, not_or, not_and, beq_eq_false_iff_ne, ne_eq, Decidable.not_not] at *
  exact ⟨by omega, h2, by omega, by omega, by omega, by omega, by omega, h5, h6, h7.1, h7.2, by omega, by omega⟩
theorem entsB_all : ∀ (l : List Ent) (b : ByteArray), entsB b l = true → ∀ e ∈ l, e.name.size ≤ 60 ∧ e.id.size = 32
  | [], _, _, e, h => by cases h
  | x :: l, b, h, e, he => by
    rw [entsB] at h
    simp only [Bool.and_eq_true] at h
    obtain ⟨⟨⟨h1, h2⟩, _⟩, h4⟩ := h
    rcases List.mem_cons.1 he with rfl | he
    · unfold nameB at h1
      unfold idB at h2
      simp at h1 h2
      exact ⟨by omega, h2⟩
    · exact entsB_all l _ h4 e he
theorem parsE_all : ∀ (l had : List ByteArray), parsE had l = 0 → ∀ e ∈ l, e.size = 32
  | [], _, _, e, h => by cases h
  | x :: l, had, h, e, he => by
    rw [parsE] at h
    split at h
    · cases h
    · rename_i h1
      split at h
      · cases h
      · rcases List.mem_cons.1 he with rfl | he
        · unfold idB at h1; simpa using h1
        · exact parsE_all l _ h e he
theorem txt_len (s : ByteArray) (h : s.size ≤ 4096) : (txt s).length ≤ 4099 := by
  unfold txt
  rw [List.length_append]
  have := num_len3 s.size h
  have e : s.data.toList.length = s.size := rfl
  omega
theorem entsL_app : ∀ (a : List Ent) (e : Ent), entsL (a ++ [e]) = entsL a ++ entL e
  | [], e => by simp [entsL]
  | x :: a, e => by rw [List.cons_append, entsL, entsL_app a e, entsL, List.append_assoc]
theorem parsL_app : ∀ (a : List ByteArray) (e : ByteArray), parsL (a ++ [e]) = parsL a ++ e.data.toList
  | [], e => by simp [parsL]
  | x :: a, e => by rw [List.cons_append, parsL, parsL_app a e, parsL, List.append_assoc]
theorem entL_len (e : Ent) (h : e.name.size ≤ 60 ∧ e.id.size = 32) : (entL e).length ≤ 110 := by
  unfold entL txt
  simp only [List.length_append]
  have := num_len3 e.name.size (by omega)
  have := num_len3 (dirN e.dir) (by unfold dirN; split <;> omega)
  have e1 : e.name.data.toList.length = e.name.size := rfl
  have e2 : e.id.data.toList.length = e.id.size := rfl
  omega
theorem entsL_len : ∀ (l : List Ent), (∀ e ∈ l, e.name.size ≤ 60 ∧ e.id.size = 32) → (entsL l).length ≤ 110 * l.length
  | [], _ => by simp [entsL]
  | x :: l, h => by
    rw [entsL, List.length_append, List.length_cons]
    have := entL_len x (h x (by simp))
    have := entsL_len l (fun e he => h e (by simp [he]))
    omega
theorem parsL_len : ∀ (l : List ByteArray), (∀ e ∈ l, e.size = 32) → (parsL l).length = 32 * l.length
  | [], _ => by simp [parsL]
  | x :: l, h => by
    rw [parsL, List.length_append, List.length_cons, parsL_len l (fun e he => h e (by simp [he])), show x.data.toList.length = x.size from rfl, h x (by simp)]
    omega

theorem sum_step (l n : List UInt8) (L : List Ent) (k : Nat) (hk : k < L.length) : l ++ n ++ entsL (L.take (k + 1)) = l ++ n ++ entsL (L.take k) ++ txt L[k].name ++ num (dirN L[k].dir) ++ L[k].id.data.toList := by
  rw [List.take_succ_eq_append_getElem hk, entsL_app, entL]
  simp only [List.append_assoc]

end Go.Proofs.YtmikfmcgddmplaaGreatDoor

/- Reading an object's bytes: plain definitions, and a reader's contracts by them. -/
namespace Go.Proofs.YtmikfmcgddmplaaGreatDoor
open Go.RowKit

def rdText (l : List UInt8) : Option (ByteArray × List UInt8) :=
  match rdNum l with
  | none => none
  | some (n, r) => if n ≤ 4096 ∧ n ≤ r.length then some (bs (r.take n), r.drop n) else none
def rdId (l : List UInt8) : Option (ByteArray × List UInt8) := if 32 ≤ l.length then some (bs (l.take 32), l.drop 32) else none

/-- what is left of a reader's bytes; none: something went wrong -/
abbrev St := Option (List UInt8)
def stNum : St → Nat × St
  | none => (0, none)
  | some l => match rdNum l with
    | none => (0, none)
    | some (n, r) => (n, some r)
def stTxt : St → ByteArray × St
  | none => (⟨#[]⟩, none)
  | some l => match rdText l with
    | none => (⟨#[]⟩, none)
    | some (t, r) => (t, some r)
def stId : St → ByteArray × St
  | none => (⟨#[]⟩, none)
  | some l => match rdId l with
    | none => (⟨#[]⟩, none)
    | some (t, r) => (t, some r)
def RS (w : World) (g : Nat) : St → Prop
  | some l => Rd w g (bs l) 0 ∧ l.length ≤ 8192
  | none => ∃ s e, (e != 0) = true ∧ Rd w g s e
theorem RS.below {w w' : World} {g : Nat} {st : St} (h : RS w g st) (b : Below w.heap.size w w') : RS w' g st := by
  cases st with
  | none => obtain ⟨s, e, he, h⟩ := h; exact ⟨s, e, he, Arr.below h b (Arr.lt h)⟩
  | some l => exact ⟨Arr.below h.1 b (Arr.lt h.1), h.2⟩
theorem RS.lt {w : World} {g : Nat} {st : St} (h : RS w g st) : g < w.heap.size := by
  cases st with
  | none => obtain ⟨s, e, he, h⟩ := h; exact Arr.lt h
  | some l => exact Arr.lt h.1
theorem RS.kept {w w' : World} {g : Nat} {st : St} {r : Option Nat} (h : RS w g st) (k : w.grownBy w' r) (hr : some g ≠ r) : RS w' g st := by
  cases st with
  | none => obtain ⟨s, e, he, h⟩ := h; exact ⟨s, e, he, Arr.kept h k hr⟩
  | some l => exact ⟨Arr.kept h.1 k hr, h.2⟩
/-- behind a method: the answer, what is left, and nothing else of old has turned -/
def Rde (w : World) (g : Nat) (v : Value) (st : St) (x : Ending) (w' : World) : Prop := x = .returned v ∧ RS w' g st ∧ w.grownBy w' (some g)
theorem rs_num (g : Nat) (st : St) (w : World) (h : RS w g st) : Calls Tryz.prog 71 #[.pointer (some ⟨g, 0, none⟩)] w (Rde w g (.int .i64 ((stNum st).1 : Int)) (stNum st).2) := by
  cases st with
  | none =>
    obtain ⟨s, e, he, h⟩ := h
    exact (Number_bad g s e he w h).mono fun x w' ⟨h1, h2, h3⟩ => ⟨h1, ⟨s, e, he, h2⟩, h3⟩
  | some l =>
    obtain ⟨h, hl⟩ := h
    have hs : (bs l).size ≤ 281474976710656 := by rw [bs_size]; omega
    cases hg : got l with
    | none =>
      rw [show stNum (some l) = (0, none) from by simp [stNum, rdNum, hg]]
      exact (Number_go g (bs l) 0 0 2 (getIs_none _ hs (by rw [bs_list]; exact hg)) (by omega) w h).mono fun x w' ⟨h1, h2, h3⟩ => ⟨h1, ⟨_, 2, by decide, h2⟩, h3⟩
    | some y =>
      obtain ⟨n, k⟩ := y
      have hk := got_some _ _ _ hg
      rw [show stNum (some l) = (n, some (l.drop k)) from by simp [stNum, rdNum, hg]]
      refine (Number_go g (bs l) n k 0 (getIs_some _ hs n k (by rw [bs_list]; exact hg)) (by rw [bs_size]; exact hk.2.2.2.2) w h).mono fun x w' ⟨h1, h2, h3⟩ => ⟨h1, ⟨?_, by rw [List.length_drop]; omega⟩, h3⟩
      rw [bs_drop] at h2
      exact h2
theorem rs_txt (g : Nat) (st : St) (w : World) (h : RS w g st) : Calls Tryz.prog 110 #[.pointer (some ⟨g, 0, none⟩)] w (Rde w g (.string (stTxt st).1) (stTxt st).2) := by
  cases st with
  | none =>
    obtain ⟨s, e, he, h⟩ := h
    exact (Text_bad g s e he w h).mono fun x w' ⟨h1, h2, h3⟩ => ⟨h1, ⟨s, e, he, h2⟩, h3⟩
  | some l =>
    obtain ⟨h, hl⟩ := h
    have hs : (bs l).size ≤ 281474976710656 := by rw [bs_size]; omega
    cases hg : got l with
    | none =>
      rw [show stTxt (some l) = (⟨#[]⟩, none) from by simp [stTxt, rdText, rdNum, hg]]
      exact (Text_go g (bs l) ⟨#[]⟩ 0 2 (text_none _ hs (by rw [bs_list]; exact hg)) (by omega) w h).mono fun x w' ⟨h1, h2, h3⟩ => ⟨h1, ⟨_, 2, by decide, h2⟩, h3⟩
    | some y =>
      obtain ⟨n, k⟩ := y
      have hk := (got_some _ _ _ hg).2.2.2.2
      by_cases h4 : n ≤ 4096
      · by_cases h5 : n ≤ (l.drop k).length
        · rw [show stTxt (some l) = (bs ((l.drop k).take n), some ((l.drop k).drop n)) from by simp only [stTxt, rdText, rdNum, hg]; rw [if_pos ⟨h4, h5⟩]]
          rw [List.length_drop] at h5
          refine (Text_go g (bs l) _ (k + n) 0 (text_yes _ hs n k (by rw [bs_list]; exact hg) h4 (by rw [bs_size]; omega)) (by rw [bs_size]; omega) w h).mono fun x w' ⟨h1, h2, h3⟩ => ⟨?_, ⟨?_, ?_⟩, h3⟩
          · rw [h1, bs_mid]
          · rw [bs_drop] at h2
            rw [List.drop_drop]
            exact h2
          · simp only [List.length_drop]; omega
        · rw [show stTxt (some l) = (⟨#[]⟩, none) from by simp only [stTxt, rdText, rdNum, hg]; rw [if_neg (fun q => h5 q.2)]]
          rw [List.length_drop] at h5
          exact (Text_go g (bs l) ⟨#[]⟩ 0 2 (text_short _ hs n k (by rw [bs_list]; exact hg) h4 (by rw [bs_size]; omega)) (by omega) w h).mono fun x w' ⟨h1, h2, h3⟩ => ⟨h1, ⟨_, 2, by decide, h2⟩, h3⟩
      · rw [show stTxt (some l) = (⟨#[]⟩, none) from by simp only [stTxt, rdText, rdNum, hg]; rw [if_neg (fun q => h4 q.1)]]
        exact (Text_go g (bs l) ⟨#[]⟩ 0 1 (text_long _ hs n k (by rw [bs_list]; exact hg) (by omega)) (by omega) w h).mono fun x w' ⟨h1, h2, h3⟩ => ⟨h1, ⟨_, 1, by decide, h2⟩, h3⟩
theorem rs_id (g : Nat) (st : St) (w : World) (h : RS w g st) : Calls Tryz.prog 112 #[.pointer (some ⟨g, 0, none⟩), .int .i64 32] w (Rde w g (.string (stId st).1) (stId st).2) := by
  cases st with
  | none =>
    obtain ⟨s, e, he, h⟩ := h
    exact (Bytes_bad g s 32 e he w h).mono fun x w' ⟨h1, h2, h3⟩ => ⟨h1, ⟨s, e, he, h2⟩, h3⟩
  | some l =>
    obtain ⟨h, hl⟩ := h
    by_cases h5 : 32 ≤ l.length
    · rw [show stId (some l) = (bs (l.take 32), some (l.drop 32)) from by simp only [stId, rdId]; rw [if_pos h5]]
      refine (Bytes_go g (bs l) 32 (by rw [bs_size]; exact h5) w h).mono fun x w' ⟨h1, h2, h3⟩ => ⟨?_, ⟨?_, ?_⟩, h3⟩
      · rw [h1, bs_head]
      · rw [bs_drop] at h2; exact h2
      · rw [List.length_drop]; omega
    · rw [show stId (some l) = (⟨#[]⟩, none) from by simp only [stId, rdId]; rw [if_neg h5]]
      exact (Bytes_no g (bs l) 32 (.inr (by rw [bs_size]; omega)) w h).mono fun x w' ⟨h1, h2, h3⟩ => ⟨h1, ⟨_, 2, by decide, h2⟩, h3⟩
/-- has something gone wrong? -/
theorem rs_bad (g : Nat) (st : St) (w : World) (h : RS w g st) : Calls Tryz.prog 72 #[.pointer (some ⟨g, 0, none⟩)] w fun x w' => (∃ e : Int, x = .returned (.int .i64 e) ∧ (e != 0) = st.isNone) ∧ w = w' := by
  cases st with
  | none =>
    obtain ⟨s, e, he, h⟩ := h
    exact (Bad_any g s e w h).mono fun x w' ⟨h1, h2⟩ => ⟨⟨e, h1, he⟩, h2⟩
  | some l => exact (Bad_any g (bs l) 0 w h.1).mono fun x w' ⟨h1, h2⟩ => ⟨⟨0, h1, rfl⟩, h2⟩

def rdPars : Nat → List UInt8 → Option (List ByteArray × List UInt8)
  | 0, l => some ([], l)
  | n + 1, l => match rdId l with
    | none => none
    | some (p, r) => match rdPars n r with
      | none => none
      | some (T, r2) => some (p :: T, r2)
def rdEnt (l : List UInt8) : Option (Ent × List UInt8) :=
  match rdText l with
  | none => none
  | some (nm, l1) => match rdNum l1 with
    | none => none
    | some (d, l2) => match rdId l2 with
      | none => none
      | some (id, l3) => if 1 < d then none else some (⟨nm, d == 1, id⟩, l3)
def rdEnts : Nat → List UInt8 → Option (List Ent × List UInt8)
  | 0, l => some ([], l)
  | n + 1, l => match rdEnt l with
    | none => none
    | some (e, r) => match rdEnts n r with
      | none => none
      | some (T, r2) => some (e :: T, r2)
/-- the parents, or none and an error -/
def stPars (st : St) : List ByteArray × St :=
  match (stNum st).2 with
  | none => ([], none)
  | some l => match rdPars (stNum st).1 l with
    | none => ([], none)
    | some (T, r) => (T, some r)
theorem stNum_none {st : St} (h : (stNum st).2 = none) : (stNum st).1 = 0 := by
  cases st with
  | none => rfl
  | some l =>
    unfold stNum at *
    cases hg : rdNum l with
    | none => simp [hg]
    | some y => simp [hg] at h
end Go.Proofs.YtmikfmcgddmplaaGreatDoor
