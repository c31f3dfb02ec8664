/- Texts in one: OEnc, ODec, ODecB, PKp, DkMem. -/
import Derived.Test.YtmikfmcgddmplaaGreatDoorDkMath
import Derived.Test.YtmikfmcgddmplaaGreatDoorWDone
import Derived.Test.YtmikfmcgddmplaaGreatDoorWRead
import Derived.Test.YtmikfmcgddmplaaGreatDoorRdn
import Derived.Deep.AppendLies
import Derived.Test.YtmikfmcgddmplaaGreatDoorIMap
/- An object's bytes; what is written behind one another. -/
namespace Go.Proofs.YtmikfmcgddmplaaGreatDoor
open Go.RowKit

/-- a text's bytes, its length ahead of it -/
def txt (s : ByteArray) : List UInt8 := num s.size ++ s.data.toList
def dirN (d : Bool) : Nat := if d then 1 else 0
def entL (e : Ent) : List UInt8 := txt e.name ++ (num (dirN e.dir) ++ e.id.data.toList)
def entsL : List Ent → List UInt8
  | [] => []
  | e :: l => entL e ++ entsL l
def parsL : List ByteArray → List UInt8
  | [] => []
  | p :: l => p.data.toList ++ parsL l
def fieldsL (o : Ob) : List UInt8 :=
  if o.kind = 1 then txt o.data else if o.kind = 2 then num o.ents.length ++ entsL o.ents
  else if o.kind = 3 then o.tree.data.toList ++ (num o.pars.length ++ (parsL o.pars ++ (txt o.who ++ (num o.time.toNat ++ txt o.note))))
  else o.target.data.toList ++ (txt o.who ++ txt o.note)
def encL (o : Ob) : List UInt8 := num o.kind.toNat ++ fieldsL o
/-- what Encode answers -/
def encS (o : Ob) : ByteArray := if good o ≠ 0 then ⟨#[]⟩ else if 8192 < (encL o).length then ⟨#[]⟩ else bs (encL o)
def encE (o : Ob) : Int := if good o ≠ 0 then good o else if 8192 < (encL o).length then 1 else 0

structure GoodF (o : Ob) : Prop where
  kind : o.kind = 1 ∨ o.kind = 2 ∨ o.kind = 3 ∨ o.kind = 4
  stray : strayB o = false
  data : o.data.size ≤ 4096
  who : o.who.size ≤ 4096
  note : o.note.size ≤ 4096
  ents : o.ents.length ≤ 64
  pars : o.pars.length ≤ 4
  each : entsB ⟨#[]⟩ o.ents = true
  ids : parsE [] o.pars = 0
  tree : o.kind = 3 → o.tree.size = 32
  target : o.kind = 4 → o.target.size = 32
  early : 0 ≤ o.time
  late : o.time < 1099511627776
theorem good_facts {o : Ob} (h : good o = 0) : GoodF o := by
  unfold good at h
  split at h
  · cases h
  rename_i h1
  split at h
  · cases h
  rename_i h2
  split at h
  · cases h
  rename_i h3
  split at h
  · cases h
  rename_i h4
  split at h
  · cases h
  rename_i h5
  split at h
  · rename_i h6; exact absurd h h6
  rename_i h6
  split at h
  · cases h
  rename_i h7
  split at h
  · cases h
  split at h
  · cases h
  rename_i h9
  unfold kindB at h1
  unfold longB at h3
  unfold fullB at h4
  unfold noIdB idB at h7
  unfold lateB at h9
  simp only [Bool.not_eq_true', Bool.not_eq_false, Bool.or_eq_true, Bool.and_eq_true, beq_iff_eq, decide_eq_true_eq, Bool.not_eq_true, not_or, not_and, beq_eq_false_iff_ne, ne_eq, Decidable.not_not] at *
  exact ⟨by omega, h2, by omega, by omega, by omega, by omega, by omega, h5, h6, h7.1, h7.2, by omega, by omega⟩
theorem entsB_all : ∀ (l : List Ent) (b : ByteArray), entsB b l = true → ∀ e ∈ l, e.name.size ≤ 60 ∧ e.id.size = 32
  | [], _, _, e, h => by cases h
  | x :: l, b, h, e, he => by
    rw [entsB] at h
    simp only [Bool.and_eq_true] at h
    obtain ⟨⟨⟨h1, h2⟩, _⟩, h4⟩ := h
    rcases List.mem_cons.1 he with rfl | he
    · unfold nameB at h1
      unfold idB at h2
      simp at h1 h2
      exact ⟨by omega, h2⟩
    · exact entsB_all l _ h4 e he
theorem parsE_all : ∀ (l had : List ByteArray), parsE had l = 0 → ∀ e ∈ l, e.size = 32
  | [], _, _, e, h => by cases h
  | x :: l, had, h, e, he => by
    rw [parsE] at h
    split at h
    · cases h
    · rename_i h1
      split at h
      · cases h
      · rcases List.mem_cons.1 he with rfl | he
        · unfold idB at h1; simpa using h1
        · exact parsE_all l _ h e he
theorem txt_len (s : ByteArray) (h : s.size ≤ 4096) : (txt s).length ≤ 4099 := by
  unfold txt
  rw [List.length_append]
  have := num_len3 s.size h
  have e : s.data.toList.length = s.size := rfl
  omega
theorem entsL_app : ∀ (a : List Ent) (e : Ent), entsL (a ++ [e]) = entsL a ++ entL e
  | [], e => by simp [entsL]
  | x :: a, e => by rw [List.cons_append, entsL, entsL_app a e, entsL, List.append_assoc]
theorem parsL_app : ∀ (a : List ByteArray) (e : ByteArray), parsL (a ++ [e]) = parsL a ++ e.data.toList
  | [], e => by simp [parsL]
  | x :: a, e => by rw [List.cons_append, parsL, parsL_app a e, parsL, List.append_assoc]
theorem entL_len (e : Ent) (h : e.name.size ≤ 60 ∧ e.id.size = 32) : (entL e).length ≤ 110 := by
  unfold entL txt
  simp only [List.length_append]
  have := num_len3 e.name.size (by omega)
  have := num_len3 (dirN e.dir) (by unfold dirN; split <;> omega)
  have e1 : e.name.data.toList.length = e.name.size := rfl
  have e2 : e.id.data.toList.length = e.id.size := rfl
  omega
theorem entsL_len : ∀ (l : List Ent), (∀ e ∈ l, e.name.size ≤ 60 ∧ e.id.size = 32) → (entsL l).length ≤ 110 * l.length
  | [], _ => by simp [entsL]
  | x :: l, h => by
    rw [entsL, List.length_append, List.length_cons]
    have := entL_len x (h x (by simp))
    have := entsL_len l (fun e he => h e (by simp [he]))
    omega
theorem parsL_len : ∀ (l : List ByteArray), (∀ e ∈ l, e.size = 32) → (parsL l).length = 32 * l.length
  | [], _ => by simp [parsL]
  | x :: l, h => by
    rw [parsL, List.length_append, List.length_cons, parsL_len l (fun e he => h e (by simp [he])), show x.data.toList.length = x.size from rfl, h x (by simp)]
    omega

theorem sum_step (l n : List UInt8) (L : List Ent) (k : Nat) (hk : k < L.length) : l ++ n ++ entsL (L.take (k + 1)) = l ++ n ++ entsL (L.take k) ++ txt L[k].name ++ num (dirN L[k].dir) ++ L[k].id.data.toList := by
  rw [List.take_succ_eq_append_getElem hk, entsL_app, entL]
  simp only [List.append_assoc]

end Go.Proofs.YtmikfmcgddmplaaGreatDoor

/- Reading an object's bytes: plain definitions, and a reader's contracts by them. -/
namespace Go.Proofs.YtmikfmcgddmplaaGreatDoor
open Go.RowKit

def rdText (l : List UInt8) : Option (ByteArray × List UInt8) :=
  match rdNum l with
  | none => none
  | some (n, r) => if n ≤ 4096 ∧ n ≤ r.length then some (bs (r.take n), r.drop n) else none
def rdId (l : List UInt8) : Option (ByteArray × List UInt8) := if 32 ≤ l.length then some (bs (l.take 32), l.drop 32) else none

/-- what is left of a reader's bytes; none: something went wrong -/
abbrev St := Option (List UInt8)
def stNum : St → Nat × St
  | none => (0, none)
  | some l => match rdNum l with
    | none => (0, none)
    | some (n, r) => (n, some r)
def stTxt : St → ByteArray × St
  | none => (⟨#[]⟩, none)
  | some l => match rdText l with
    | none => (⟨#[]⟩, none)
    | some (t, r) => (t, some r)
def stId : St → ByteArray × St
  | none => (⟨#[]⟩, none)
  | some l => match rdId l with
    | none => (⟨#[]⟩, none)
    | some (t, r) => (t, some r)
def RS (w : World) (g : Nat) : St → Prop
  | some l => Rd w g (bs l) 0 ∧ l.length ≤ 8192
  | none => ∃ s e, (e != 0) = true ∧ Rd w g s e
theorem RS.below {w w' : World} {g : Nat} {st : St} (h : RS w g st) (b : Below w.heap.size w w') : RS w' g st := by
  cases st with
  | none => obtain ⟨s, e, he, h⟩ := h; exact ⟨s, e, he, Arr.below h b (Arr.lt h)⟩
  | some l => exact ⟨Arr.below h.1 b (Arr.lt h.1), h.2⟩
theorem RS.lt {w : World} {g : Nat} {st : St} (h : RS w g st) : g < w.heap.size := by
  cases st with
  | none => obtain ⟨s, e, he, h⟩ := h; exact Arr.lt h
  | some l => exact Arr.lt h.1
theorem RS.kept {w w' : World} {g : Nat} {st : St} {r : Option Nat} (h : RS w g st) (k : w.grownBy w' r) (hr : some g ≠ r) : RS w' g st := by
  cases st with
  | none => obtain ⟨s, e, he, h⟩ := h; exact ⟨s, e, he, Arr.kept h k hr⟩
  | some l => exact ⟨Arr.kept h.1 k hr, h.2⟩
/-- behind a method: the answer, what is left, and nothing else of old has turned -/
def Rde (w : World) (g : Nat) (v : Value) (st : St) (x : Ending) (w' : World) : Prop := x = .returned v ∧ RS w' g st ∧ w.grownBy w' (some g)
theorem rs_num (g : Nat) (st : St) (w : World) (h : RS w g st) : Calls Tryz.prog 71 #[.pointer (some ⟨g, 0, none⟩)] w (Rde w g (.int .i64 ((stNum st).1 : Int)) (stNum st).2) := by
  cases st with
  | none =>
    obtain ⟨s, e, he, h⟩ := h
    exact (Number_bad g s e he w h).mono fun x w' ⟨h1, h2, h3⟩ => ⟨h1, ⟨s, e, he, h2⟩, h3⟩
  | some l =>
    obtain ⟨h, hl⟩ := h
    have hs : (bs l).size ≤ 281474976710656 := by rw [bs_size]; omega
    cases hg : got l with
    | none =>
      rw [show stNum (some l) = (0, none) from by simp [stNum, rdNum, hg]]
      exact (Number_go g (bs l) 0 0 2 (getIs_none _ hs (by rw [bs_list]; exact hg)) (by omega) w h).mono fun x w' ⟨h1, h2, h3⟩ => ⟨h1, ⟨_, 2, by decide, h2⟩, h3⟩
    | some y =>
      obtain ⟨n, k⟩ := y
      have hk := got_some _ _ _ hg
      rw [show stNum (some l) = (n, some (l.drop k)) from by simp [stNum, rdNum, hg]]
      refine (Number_go g (bs l) n k 0 (getIs_some _ hs n k (by rw [bs_list]; exact hg)) (by rw [bs_size]; exact hk.2.2.2.2) w h).mono fun x w' ⟨h1, h2, h3⟩ => ⟨h1, ⟨?_, by rw [List.length_drop]; omega⟩, h3⟩
      rw [bs_drop] at h2
      exact h2
theorem rs_txt (g : Nat) (st : St) (w : World) (h : RS w g st) : Calls Tryz.prog 110 #[.pointer (some ⟨g, 0, none⟩)] w (Rde w g (.string (stTxt st).1) (stTxt st).2) := by
  cases st with
  | none =>
    obtain ⟨s, e, he, h⟩ := h
    exact (Text_bad g s e he w h).mono fun x w' ⟨h1, h2, h3⟩ => ⟨h1, ⟨s, e, he, h2⟩, h3⟩
  | some l =>
    obtain ⟨h, hl⟩ := h
    have hs : (bs l).size ≤ 281474976710656 := by rw [bs_size]; omega
    cases hg : got l with
    | none =>
      rw [show stTxt (some l) = (⟨#[]⟩, none) from by simp [stTxt, rdText, rdNum, hg]]
      exact (Text_go g (bs l) ⟨#[]⟩ 0 2 (text_none _ hs (by rw [bs_list]; exact hg)) (by omega) w h).mono fun x w' ⟨h1, h2, h3⟩ => ⟨h1, ⟨_, 2, by decide, h2⟩, h3⟩
    | some y =>
      obtain ⟨n, k⟩ := y
      have hk := (got_some _ _ _ hg).2.2.2.2
      by_cases h4 : n ≤ 4096
      · by_cases h5 : n ≤ (l.drop k).length
        · rw [show stTxt (some l) = (bs ((l.drop k).take n), some ((l.drop k).drop n)) from by simp only [stTxt, rdText, rdNum, hg]; rw [if_pos ⟨h4, h5⟩]]
          rw [List.length_drop] at h5
          refine (Text_go g (bs l) _ (k + n) 0 (text_yes _ hs n k (by rw [bs_list]; exact hg) h4 (by rw [bs_size]; omega)) (by rw [bs_size]; omega) w h).mono fun x w' ⟨h1, h2, h3⟩ => ⟨?_, ⟨?_, ?_⟩, h3⟩
          · rw [h1, bs_mid]
          · rw [bs_drop] at h2
            rw [List.drop_drop]
            exact h2
          · simp only [List.length_drop]; omega
        · rw [show stTxt (some l) = (⟨#[]⟩, none) from by simp only [stTxt, rdText, rdNum, hg]; rw [if_neg (fun q => h5 q.2)]]
          rw [List.length_drop] at h5
          exact (Text_go g (bs l) ⟨#[]⟩ 0 2 (text_short _ hs n k (by rw [bs_list]; exact hg) h4 (by rw [bs_size]; omega)) (by omega) w h).mono fun x w' ⟨h1, h2, h3⟩ => ⟨h1, ⟨_, 2, by decide, h2⟩, h3⟩
      · rw [show stTxt (some l) = (⟨#[]⟩, none) from by simp only [stTxt, rdText, rdNum, hg]; rw [if_neg (fun q => h4 q.1)]]
        exact (Text_go g (bs l) ⟨#[]⟩ 0 1 (text_long _ hs n k (by rw [bs_list]; exact hg) (by omega)) (by omega) w h).mono fun x w' ⟨h1, h2, h3⟩ => ⟨h1, ⟨_, 1, by decide, h2⟩, h3⟩
theorem rs_id (g : Nat) (st : St) (w : World) (h : RS w g st) : Calls Tryz.prog 112 #[.pointer (some ⟨g, 0, none⟩), .int .i64 32] w (Rde w g (.string (stId st).1) (stId st).2) := by
  cases st with
  | none =>
    obtain ⟨s, e, he, h⟩ := h
    exact (Bytes_bad g s 32 e he w h).mono fun x w' ⟨h1, h2, h3⟩ => ⟨h1, ⟨s, e, he, h2⟩, h3⟩
  | some l =>
    obtain ⟨h, hl⟩ := h
    by_cases h5 : 32 ≤ l.length
    · rw [show stId (some l) = (bs (l.take 32), some (l.drop 32)) from by simp only [stId, rdId]; rw [if_pos h5]]
      refine (Bytes_go g (bs l) 32 (by rw [bs_size]; exact h5) w h).mono fun x w' ⟨h1, h2, h3⟩ => ⟨?_, ⟨?_, ?_⟩, h3⟩
      · rw [h1, bs_head]
      · rw [bs_drop] at h2; exact h2
      · rw [List.length_drop]; omega
    · rw [show stId (some l) = (⟨#[]⟩, none) from by simp only [stId, rdId]; rw [if_neg h5]]
      exact (Bytes_no g (bs l) 32 (.inr (by rw [bs_size]; omega)) w h).mono fun x w' ⟨h1, h2, h3⟩ => ⟨h1, ⟨_, 2, by decide, h2⟩, h3⟩
/-- has something gone wrong? -/
theorem rs_bad (g : Nat) (st : St) (w : World) (h : RS w g st) : Calls Tryz.prog 72 #[.pointer (some ⟨g, 0, none⟩)] w fun x w' => (∃ e : Int, x = .returned (.int .i64 e) ∧ (e != 0) = st.isNone) ∧ w = w' := by
  cases st with
  | none =>
    obtain ⟨s, e, he, h⟩ := h
    exact (Bad_any g s e w h).mono fun x w' ⟨h1, h2⟩ => ⟨⟨e, h1, he⟩, h2⟩
  | some l => exact (Bad_any g (bs l) 0 w h.1).mono fun x w' ⟨h1, h2⟩ => ⟨⟨0, h1, rfl⟩, h2⟩

def rdPars : Nat → List UInt8 → Option (List ByteArray × List UInt8)
  | 0, l => some ([], l)
  | n + 1, l => match rdId l with
    | none => none
    | some (p, r) => match rdPars n r with
      | none => none
      | some (T, r2) => some (p :: T, r2)
def rdEnt (l : List UInt8) : Option (Ent × List UInt8) :=
  match rdText l with
  | none => none
  | some (nm, l1) => match rdNum l1 with
    | none => none
    | some (d, l2) => match rdId l2 with
      | none => none
      | some (id, l3) => if 1 < d then none else some (⟨nm, d == 1, id⟩, l3)
def rdEnts : Nat → List UInt8 → Option (List Ent × List UInt8)
  | 0, l => some ([], l)
  | n + 1, l => match rdEnt l with
    | none => none
    | some (e, r) => match rdEnts n r with
      | none => none
      | some (T, r2) => some (e :: T, r2)
/-- the parents, or none and an error -/
def stPars (st : St) : List ByteArray × St :=
  match (stNum st).2 with
  | none => ([], none)
  | some l => match rdPars (stNum st).1 l with
    | none => ([], none)
    | some (T, r) => (T, some r)
theorem stNum_none {st : St} (h : (stNum st).2 = none) : (stNum st).1 = 0 := by
  cases st with
  | none => rfl
  | some l =>
    unfold stNum at *
    cases hg : rdNum l with
    | none => simp [hg]
    | some y => simp [hg] at h
end Go.Proofs.YtmikfmcgddmplaaGreatDoor

/- Reading parents and entries. -/
namespace Go.Proofs.YtmikfmcgddmplaaGreatDoor
open Go.RowKit

def sv (t : ByteArray) : Value := .string t
theorem info_str : (Tryz.prog.info? 9).map (fun i => (i.zero, i.size, i.bytes)) = some (some (.string ⟨#[]⟩), 1, 16) := by kernel_rfl
theorem info_ent : (Tryz.prog.info? 79).map (fun i => (i.zero, i.size, i.bytes)) = some (some (.agg #[.string ⟨#[]⟩, .bool false, .string ⟨#[]⟩]), 3, 40) := by kernel_rfl
def entCells : List Ent → List Value
  | [] => []
  | e :: l => .string e.name :: .bool e.dir :: .string e.id :: entCells l
theorem entCells_len : ∀ l : List Ent, (entCells l).length = l.length * 3
  | [] => rfl
  | e :: l => by simp only [entCells, List.length_cons, entCells_len l]; omega
theorem entCells_app : ∀ (a : List Ent) (e : Ent), entCells (a ++ [e]) = entCells a ++ [.string e.name, .bool e.dir, .string e.id]
  | [], e => rfl
  | x :: a, e => by rw [List.cons_append, entCells, entCells_app a e]; rfl
theorem entCells_at : ∀ (l : List Ent) (k : Nat) (x : Ent), l[k]? = some x → (entCells l)[k * 3]? = some (.string x.name) ∧ (entCells l)[k * 3 + 1]? = some (.bool x.dir) ∧ (entCells l)[k * 3 + 2]? = some (.string x.id)
  | [], k, x, h => by simp at h
  | e :: l, 0, x, h => by
    simp at h; subst h
    exact ⟨rfl, rfl, rfl⟩
  | e :: l, k + 1, x, h => by
    rw [List.getElem?_cons_succ] at h
    obtain ⟨h0, h1, h2⟩ := entCells_at l k x h
    have e0 : (k + 1) * 3 = k * 3 + 3 := by omega
    rw [e0]
    exact ⟨h0, h1, h2⟩
theorem zero_add (g j : Nat) : (⟨g, 0, none⟩ : Addr).add j = ⟨g, j, none⟩ := by unfold Addr.add; split <;> simp_all
theorem own_texts {w : World} {base : Nat} {v : Value} {T : List ByteArray} (h : w.ownsRow base 9 1 v T.length (T.map sv)) : ∃ A c, v = .slice A T.length c ∧ T.length ≤ c ∧ Txs w w.heap.size A T ∧ ∀ ad, A = some ad → base ≤ ad.block := by
  rcases h.2 with ⟨rfl, hn⟩ | ⟨g, cap, cur, rfl, hb, hg, hnc, hcm, hcs, htake⟩
  · have e : T = [] := List.eq_nil_of_length_eq_zero hn
    subst e
    exact ⟨none, 0, rfl, Nat.le_refl _, Txs.nil _ _ _, fun ad e => by cases e⟩
  · refine ⟨some ⟨g, 0, none⟩, cap, rfl, hnc, fun k x hx => ⟨_, rfl, ?_, ?_⟩, fun ad e => by cases e; exact hb⟩
    · rw [zero_add]; exact (Array.getElem?_eq_some_iff.1 hg).1
    · have hk : k < T.length := (List.getElem?_eq_some_iff.1 hx).1
      have hu : (T.map sv)[k]? = some (.string x) := by rw [List.getElem?_map, hx]; rfl
      rw [zero_add, cell_of_row w g k cur _ (0, 0) hg, ← hu, ← htake, List.getElem?_take_of_lt (by omega)]
      simp
theorem own_ents {w : World} {base : Nat} {v : Value} {L : List Ent} (h : w.ownsRow base 79 3 v L.length (entCells L)) : ∃ A c, v = .slice A L.length c ∧ Ens w w.heap.size A L ∧ ∀ ad, A = some ad → base ≤ ad.block := by
  rcases h.2 with ⟨rfl, hn⟩ | ⟨g, cap, cur, rfl, hb, hg, hnc, hcm, hcs, htake⟩
  · have e : L = [] := List.eq_nil_of_length_eq_zero hn
    subst e
    exact ⟨none, 0, rfl, Ens.nil _ _ _, fun ad e => by cases e⟩
  · refine ⟨some ⟨g, 0, none⟩, cap, rfl, fun k x hx => ?_, fun ad e => by cases e; exact hb⟩
    have hk : k < L.length := (List.getElem?_eq_some_iff.1 hx).1
    obtain ⟨h0, h1, h2⟩ := entCells_at L k x hx
    have hcell : ∀ j, j < L.length * 3 → w.cell? ⟨g, j, none⟩ = (entCells L)[j]? := fun j hj => by
      rw [cell_of_row w g j cur _ (0, 0) hg, ← htake, List.getElem?_take_of_lt hj]
      simp
    refine ⟨_, rfl, ?_, ?_, ?_, ?_⟩
    · rw [zero_add]; exact (Array.getElem?_eq_some_iff.1 hg).1
    · rw [zero_add, hcell _ (by omega)]; exact h0
    · rw [zero_add]
      show w.cell? ⟨g, k * 3 + 1, none⟩ = _
      rw [hcell _ (by omega)]; exact h1
    · rw [zero_add]
      show w.cell? ⟨g, k * 3 + 2, none⟩ = _
      rw [hcell _ (by omega)]; exact h2
theorem own_far {w : World} {base : Nat} {e : TypeId} {v : Value} {n size g : Nat} {xs : List Value} (h : w.ownsRow base e size v n xs) (hg : g < base) : v.ownBlock = none ∨ v.ownBlock ≠ some g := by
  rcases h.2 with ⟨rfl, _⟩ | ⟨g', cap, cur, rfl, hb, _, _⟩
  · exact .inl rfl
  · refine .inr fun e1 => ?_
    have e2 : g' = g := by simpa [Value.ownBlock] using e1
    omega
theorem own_row_ge {w : World} {base : Nat} {e : TypeId} {v : Value} {n size : Nat} {xs : List Value} (h : w.ownsRow base e size v n xs) (k : Nat) (hk : v.ownBlock = some k) : base ≤ k := by
  rcases h.2 with ⟨rfl, _⟩ | ⟨g, cap, cur, rfl, hb, _⟩
  · cases hk
  · cases hk; exact hb
theorem gb_own {w w1 w2 : World} {r r2 : Option Nat} (h : w.grownBy w1 r) (k : w1.grownBy w2 r2) (hr : ∀ q, r2 = some q → w.heap.size ≤ q) : w.grownBy w2 r :=
  ⟨k.os.trans h.os, k.tape.trans h.tape, k.output.trans h.output, Nat.le_trans h.size k.size, fun i hi hir => (k.block i (Nat.lt_of_lt_of_le hi h.size) (fun e => by have := hr i e.symm; omega)).trans (h.block i hi hir)⟩

theorem stNum_lt (st : St) : (stNum st).1 < 4611686018427387904 := by
  cases st with
  | none => exact (by decide : (0 : Nat) < 4611686018427387904)
  | some l =>
    unfold stNum
    cases hg : rdNum l with
    | none => simp [hg]
    | some y =>
      obtain ⟨n, r⟩ := y
      simp only [hg]
      exact rdNum_lt hg
def RPRel (n : Nat) (l0 : List UInt8) (g : Nat) (w : World) (v i : Value) (wr : World) : Prop :=
  ∃ (T : List ByteArray) (lc : List UInt8), T.length ≤ n ∧ i = .int .i64 (T.length : Int) ∧ RS wr g (some lc) ∧ wr.ownsRow w.heap.size 9 1 v T.length (T.map sv) ∧ w.grownBy wr (some g) ∧
    T.length * 32 + lc.length ≤ 8192 ∧ rdPars n l0 = match rdPars (n - T.length) lc with
      | none => none
      | some (T2, r) => some (T ++ T2, r)
/-- behind a list that was read -/
def PEnd (g : Nat) (w : World) (T : List ByteArray) (st : St) (x : Ending) (w' : World) : Prop :=
  ∃ A c, x = .returned (.slice A T.length c) ∧ T.length ≤ c ∧ (Txs w' w'.heap.size A T ∧ ∀ ad, A = some ad → w.heap.size ≤ ad.block) ∧ RS w' g st ∧ w.grownBy w' (some g)
theorem pars_done {n : Nat} {l0 lc : List UInt8} {T : List ByteArray} (h : rdPars n l0 = match rdPars (n - T.length) lc with | none => none | some (T2, r) => some (T ++ T2, r)) (hn : ¬ T.length < n) : rdPars n l0 = some (T, lc) := by
  rw [h, show n - T.length = 0 from by omega, rdPars]
  simp
theorem pars_bad {n : Nat} {l0 lc : List UInt8} {T : List ByteArray} (h : rdPars n l0 = match rdPars (n - T.length) lc with | none => none | some (T2, r) => some (T ++ T2, r)) (hn : T.length < n) (hr : rdId lc = none) : rdPars n l0 = none := by
  rw [h, show n - T.length = (n - T.length - 1) + 1 from by omega, rdPars]
  simp [hr]
theorem pars_more {n : Nat} {l0 lc r : List UInt8} {p : ByteArray} {T : List ByteArray} (h : rdPars n l0 = match rdPars (n - T.length) lc with | none => none | some (T2, r) => some (T ++ T2, r)) (hn : T.length < n) (hr : rdId lc = some (p, r)) :
    rdPars n l0 = match rdPars (n - (T ++ [p]).length) r with | none => none | some (T2, r) => some ((T ++ [p]) ++ T2, r) := by
  rw [h, show n - T.length = (n - (T ++ [p]).length) + 1 from by rw [List.length_append]; simp; omega, rdPars]
  simp only [hr]
  cases rdPars (n - (T ++ [p]).length) r <;> simp
theorem rdId_len {l r : List UInt8} {p : ByteArray} (h : rdId l = some (p, r)) : r.length + 32 = l.length := by
  unfold rdId at h
  split at h
  · simp only [Option.some.injEq, Prod.mk.injEq] at h
    rw [← h.2, List.length_drop]; omega
  · cases h

set_option maxRecDepth 100000 in
set_option maxHeartbeats 1000000 in
theorem readParents_any (g : Nat) (st : St) (w : World) (h : RS w g st) : Calls Tryz.prog 113 #[.pointer (some ⟨g, 0, none⟩)] w (PEnd g w (stPars st).1 (stPars st).2) := by
  obtain ⟨si, hsi, sz0, sz1, sz2⟩ := info_parts info_str
  have Hsi := Lib.hid hsi
  have Sz0 := Lib.hid sz0
  have Sz1 := Lib.hid sz1
  have Sz2 := Lib.hid sz2
  clear hsi sz0 sz1 sz2
  have hlt := h.lt
  have q0 := rs_num g st w h
  have hn := stNum_lt st
  have hnn := fun e => stNum_none (st := st) e
  obtain ⟨T', hT'⟩ : ∃ T', T' = (stPars st).1 := ⟨_, rfl⟩
  obtain ⟨st', hst'⟩ : ∃ st', st' = (stPars st).2 := ⟨_, rfl⟩
  rw [← hT', ← hst']
  unfold stPars at hT' hst'
  generalize (stNum st).1 = n at *
  generalize hl : (stNum st).2 = s1 at *
  have HT := Lib.hid hT'
  have HST := Lib.hid hst'
  have HNN := Lib.hid hnn
  clear hT' hst' hl h hnn
  go_enter Tryz.func113, Tryz.ntmps113
  go_wp2_with fail
  (with_reducible refine q0.mono ?_)
  clear q0
  rintro _ w1 ⟨rfl, h1, k1⟩
  go_wp2_with fail
  cases s1 with
  | none =>
    obtain rfl := HNN.out rfl
    go_loopw [3, 7] (fun v i wr => v = .slice none 0 0 ∧ i = .int .i64 0 ∧ wr = w1) (fun _ _ _ => 0)
    case atStart => exact ⟨rfl, rfl, rfl⟩
    case round =>
      obtain ⟨rfl, rfl, rfl⟩ := hrel
      go_wp2_with fail
      go_ret
      rw [HT.out, HST.out]
      exact ⟨none, 0, rfl, Nat.le_refl _, ⟨Txs.nil _ _ _, fun ad e => by cases e⟩, h1, k1⟩
  | some l0 =>
    have hl0 : l0.length ≤ 8192 := h1.2
    go_loopw [3, 7] (fun v i wr => RPRel n l0 g w v i wr) (fun _ i _ => n - (intOf i).toNat)
    case atStart => exact ⟨[], l0, Nat.zero_le _, rfl, h1, ⟨rfl, .inl ⟨rfl, rfl⟩⟩, k1, by simpa using hl0, by rw [List.length_nil, Nat.sub_zero]; cases rdPars n l0 <;> rfl⟩
    case round =>
      clear h1 k1 w1
      obtain ⟨T, lc, hk, rfl, hR, hO, hK, hm, he⟩ := hrel
      have HE := Lib.hid he
      clear he
      by_cases hlt2 : T.length < n
      · have hi : (T.length : Int) < n := by omega
        have q := rs_id g _ wr hR
        have hid := Lib.hid (show stId (some lc) = stId (some lc) from rfl)
        cases hr : rdId lc with
        | none =>
          have e1 : stId (some lc) = (⟨#[]⟩, none) := by simp [stId, hr]
          rw [e1] at q
          have HB := Lib.hid (pars_bad HE.out hlt2 hr)
          clear e1 hid hR HE
          go_wp2_with fail
          (with_reducible refine q.mono ?_)
          clear q
          rintro _ w2 ⟨rfl, h2, k2⟩
          have hK2 := gb_trans hK k2
          clear hO hK k2
          go_wp2_with fail
          (with_reducible refine (rs_bad g none w2 h2).mono ?_)
          rintro _ _ ⟨⟨e, rfl, he⟩, rfl⟩
          rw [Option.isNone_none] at he
          go_wp2_with fail
          go_ret
          have e2 : T' = [] := by rw [HT.out, HB.out]
          have e3 : st' = none := by rw [HST.out, HB.out]
          rw [e2, e3]
          exact ⟨none, 0, rfl, Nat.le_refl _, ⟨Txs.nil _ _ _, fun ad e => by cases e⟩, h2, hK2⟩
        | some y =>
          obtain ⟨p, r⟩ := y
          have e1 : stId (some lc) = (p, some r) := by simp [stId, hr]
          rw [e1] at q
          have HB := Lib.hid (pars_more HE.out hlt2 hr)
          have hrl := rdId_len hr
          clear e1 hid hR HE hr
          go_wp2_with fail
          (with_reducible refine q.mono ?_)
          clear q
          rintro _ w2 ⟨rfl, h2, k2⟩
          have hK2 := gb_trans hK k2
          have hO2 := hO.kept k2 (own_far hO hlt)
          clear hO hK k2
          go_wp2_with fail
          (with_reducible refine (rs_bad g (some r) w2 h2).mono ?_)
          rintro _ _ ⟨⟨e, rfl, he⟩, rfl⟩
          rw [Option.isNone_some] at he
          have hsz := hK2.size
          go_wp2_with (at_builtin; refine wpList_append_lies _ rfl _ _ 22 rfl w.heap.size 9 si _ 1 16 Tryz.underlying22 Hsi.out Sz0.out Sz1.out Sz2.out rfl (by decide) _ _ _ rfl (hO2.alloc _) ⟨w2.heap.size, 0, none⟩ 1 1 [.string p] rfl rfl (new_cells w2 [.string p] 9) (by intro u hu; simp at hu; subst hu; rfl) (by decide) (by unfold maxLen; omega) (by omega) (by simp; omega) _ rfl ?_)
          intro g3 cap3 w3 hown hgrow hat hg3
          go_wp2_with fail
          have hge : ∀ q, u3.ownBlock = some q → w.heap.size ≤ q := fun q e1 => own_row_ge hO2 q e1
          refine ⟨⟨T ++ [p], r, by rw [List.length_append]; simp; omega, by rw [List.length_append]; simp, ?_, ?_, ?_, ?_, HB.out⟩, by simp [intOf]; omega⟩
          · exact RS.kept (RS.below h2 ((Below.refl _ _).alloc (Nat.le_refl _) _)) hgrow (fun e1 => by have := hge g e1.symm; omega)
          · rw [List.length_append, List.map_append]; exact hown
          · exact gb_own (gb_trans hK2 (gb_alloc _)) hgrow hge
          · rw [List.length_append]; simp; omega
      · have hi : ¬ (T.length : Int) < n := by omega
        have HB := Lib.hid (pars_done HE.out hlt2)
        obtain ⟨A, c, rfl, hc, hx⟩ := own_texts hO
        clear HE hO
        go_wp2_with fail
        go_ret
        have e2 : T' = T := by rw [HT.out, HB.out]
        have e3 : st' = some lc := by rw [HST.out, HB.out]
        rw [e2, e3]
        exact ⟨A, c, rfl, hc, hx, hR, hK⟩
end Go.Proofs.YtmikfmcgddmplaaGreatDoor

/- What a call has turned: all but the blocks that X names is as it was. -/
namespace Go.Proofs.YtmikfmcgddmplaaGreatDoor
open Go.RowKit

structure Kp (X : Nat → Prop) (w w' : World) : Prop where
  os : w'.os = w.os
  tape : w'.tape = w.tape
  output : w'.output = w.output
  size : w.heap.size ≤ w'.heap.size
  block : ∀ k, k < w.heap.size → ¬ X k → w'.heap[k]? = w.heap[k]?
section
variable {X Y : Nat → Prop} {w w1 w2 : World} {r : Option Nat}
theorem Kp.refl (X : Nat → Prop) (w : World) : Kp X w w := ⟨rfl, rfl, rfl, Nat.le_refl _, fun _ _ _ => rfl⟩
theorem Kp.gb (h : w.grownBy w1 r) : Kp (fun i => r = some i) w w1 := ⟨h.os, h.tape, h.output, h.size, fun k hk hx => h.block k hk (fun e => hx e.symm)⟩
theorem Kp.bel (h : Below w.heap.size w w1) : Kp X w w1 := ⟨h.os, h.tape, h.output, h.size, fun k hk _ => h.block k hk⟩
theorem Kp.mono (h : Kp X w w1) (hx : ∀ i, i < w.heap.size → X i → Y i) : Kp Y w w1 := ⟨h.os, h.tape, h.output, h.size, fun k hk hy => h.block k hk (fun x => hy (hx k hk x))⟩
theorem Kp.trans (h : Kp X w w1) (k : Kp Y w1 w2) (hx : ∀ i, i < w.heap.size → Y i → X i) : Kp X w w2 :=
  ⟨k.os.trans h.os, k.tape.trans h.tape, k.output.trans h.output, Nat.le_trans h.size k.size, fun i hi hn => (k.block i (Nat.lt_of_lt_of_le hi h.size) (fun y => hn (hx i hi y))).trans (h.block i hi hn)⟩
theorem Kp.drew (h : Kp X w w1) : Kp X w w1.drew := ⟨h.os, h.tape, h.output, h.size, h.block⟩
theorem Kp.below (h : Kp X w w1) {B : Nat} (hB : B ≤ w.heap.size) (hx : ∀ i, i < w.heap.size → X i → B ≤ i) : Below B w w1 :=
  ⟨h.os, h.tape, h.output, h.size, fun k hk => h.block k (by omega) (fun x => by have := hx k (by omega) x; omega)⟩
theorem Kp.grown (h : Kp (fun i => r = some i) w w1) : w.grownBy w1 r := ⟨h.os, h.tape, h.output, h.size, fun k hk hx => h.block k hk (fun e => hx e.symm)⟩
theorem Arr.kp {g : Nat} {t : TypeId} {cs : Array Value} (h : Arr w g t cs) (k : Kp X w w1) (hx : ¬ X g) : Arr w1 g t cs := (k.block g h.lt hx).trans h
theorem MapI.kp {g : Nat} {l : List KI} (h : MapI w g l) (k : Kp X w w1) (hx : ¬ X g) : MapI w1 g l := (k.block g h.lt hx).trans h
theorem own_kp {base : Nat} {e : TypeId} {size : Nat} {v : Value} {n : Nat} {xs : List Value} (h : w.ownsRow base e size v n xs) (k : Kp X w w1) (hx : ∀ g, v.ownBlock = some g → ¬ X g) : w1.ownsRow base e size v n xs := by
  refine ⟨h.1, ?_⟩
  rcases h.2 with h2 | ⟨g, cap, cur, rfl, hb, hg, rest⟩
  · exact .inl h2
  · exact .inr ⟨g, cap, cur, rfl, hb, (k.block g (Array.getElem?_eq_some_iff.1 hg).1 (hx g rfl)).trans hg, rest⟩
theorem own_drew {base : Nat} {e : TypeId} {size : Nat} {v : Value} {n : Nat} {xs : List Value} (h : w.ownsRow base e size v n xs) : w.drew.ownsRow base e size v n xs := h
theorem Txs.kp {B : Nat} {A : Option Addr} {T : List ByteArray} (h : Txs w B A T) (k : Kp X w w1) (hB : B ≤ w.heap.size) (hx : ∀ i, i < B → ¬ X i) : Txs w1 B A T := fun j x hj => by
  obtain ⟨ad, e, hb, hc⟩ := h j x hj
  exact ⟨ad, e, hb, (World.cell?_of_block (k.block _ (by omega) (hx _ hb))).trans hc⟩
/-- a row of another type than a block's -/
theorem own_ne {base : Nat} {e t : TypeId} {size g : Nat} {v : Value} {n : Nat} {xs : List Value} {cs : Array Value} (h : w.ownsRow base e size v n xs) (h' : Arr w g t cs) (ht : e ≠ t) : v.ownBlock ≠ some g := fun q => by
  rcases h.2 with ⟨rfl, _⟩ | ⟨k, cap, cur, rfl, _, hg, _⟩
  · cases q
  · cases q
    have := hg.symm.trans h'
    simp only [Option.some.injEq, Obj.cells.injEq] at this
    exact ht this.2.1
theorem own_map {base : Nat} {e : TypeId} {size g : Nat} {v : Value} {n : Nat} {xs : List Value} {l : List KI} (h : w.ownsRow base e size v n xs) (h' : MapI w g l) : v.ownBlock ≠ some g := fun q => by
  rcases h.2 with ⟨rfl, _⟩ | ⟨k, cap, cur, rfl, _, hg, _⟩
  · cases q
  · cases q
    have := hg.symm.trans h'
    cases this
theorem own_row {base base' : Nat} {e e' : TypeId} {size size' : Nat} {v v' : Value} {n n' : Nat} {xs xs' : List Value} (h : w.ownsRow base e size v n xs) (h' : w.ownsRow base' e' size' v' n' xs') (he : e ≠ e') (g : Nat) (hg : v.ownBlock = some g) : v'.ownBlock ≠ some g := fun q => by
  rcases h.2 with ⟨rfl, _⟩ | ⟨k, cap, cur, rfl, _, hk, _⟩
  · cases hg
  · cases hg
    rcases h'.2 with ⟨rfl, _⟩ | ⟨k', cap', cur', rfl, _, hk', _⟩
    · cases q
    · cases q
      have := hk.symm.trans hk'
      simp only [Option.some.injEq, Obj.cells.injEq] at this
      exact he this.2.1
theorem map_arr {g g' : Nat} {t : TypeId} {cs : Array Value} {l : List KI} (h : MapI w g l) (h' : Arr w g' t cs) : g ≠ g' := fun e => by
  subst e
  have := h.symm.trans h'
  cases this
end
/-- the keys of a map are these texts -/
def KeyIs (M : List KI) (T : List ByteArray) : Prop := ∀ k, (posI k M).isSome = true ↔ k ∈ T
theorem posI_push (k x : ByteArray) (v : Nat) : ∀ M : List KI, (posI k (M ++ [(x, v)])).isSome = ((posI k M).isSome || decide (k = x))
  | [] => by
    simp only [posI, List.nil_append, Option.isSome_none, Bool.false_or]
    by_cases h : k = x
    · simp [h]
    · simp [h]
  | y :: M => by
    have := posI_push k x v M
    simp only [posI, List.cons_append]
    by_cases h : k = y.1
    · simp [h]
    · simp only [if_neg h, Option.isSome_map]
      exact this
theorem keys_push {M : List KI} {T : List ByteArray} (h : KeyIs M T) (s : ByteArray) (v : Nat) : KeyIs (M ++ [(s, v)]) (T ++ [s]) := fun k => by
  rw [posI_push, Bool.or_eq_true, h k, List.mem_append, List.mem_singleton, decide_eq_true_iff]
theorem keys_nil : KeyIs [] [] := fun k => by simp [posI]
end Go.Proofs.YtmikfmcgddmplaaGreatDoor

/- Disks in memory. -/
namespace Go.Proofs.YtmikfmcgddmplaaGreatDoor
open Go.RowKit

def flArr (f : Fl) : Array Value := #[.string f.name, .string f.safe, .string f.tail]
def flZero : Array Value := #[.string ⟨#[]⟩, .string ⟨#[]⟩, .string ⟨#[]⟩]
def flCells : List Fl → List Value
  | [] => []
  | f :: l => (flArr f).toList ++ flCells l
theorem flCells_app : ∀ a b : List Fl, flCells (a ++ b) = flCells a ++ flCells b
  | [], b => rfl
  | x :: a, b => by rw [List.cons_append, flCells, flCells_app a b, flCells, List.append_assoc]
theorem flCells_len : ∀ l : List Fl, (flCells l).length = l.length * 3
  | [] => rfl
  | f :: l => by
    rw [flCells, List.length_append, flCells_len l, List.length_cons]
    have : (flArr f).toList.length = 3 := rfl
    omega
theorem flCells_at : ∀ (l : List Fl) (k j : Nat) (f : Fl), l[k]? = some f → j < 3 → (flCells l)[k * 3 + j]? = (flArr f).toList[j]?
  | [], k, j, f, h, _ => by simp at h
  | x :: l, 0, j, f, h, hj => by
    simp at h
    subst h
    rw [flCells, Nat.zero_mul, Nat.zero_add, List.getElem?_append_left (show j < (flArr x).toList.length from hj)]
  | x :: l, k + 1, j, f, h, hj => by
    rw [List.getElem?_cons_succ] at h
    have ih := flCells_at l k j f h hj
    have e : (flArr x).toList.length = 3 := rfl
    rw [flCells, List.getElem?_append_right (by omega), show (k + 1) * 3 + j - (flArr x).toList.length = k * 3 + j from by omega]
    exact ih
theorem flCells_take : ∀ (l : List Fl) (k : Nat), (flCells l).take (k * 3) = flCells (l.take k)
  | [], k => by simp [flCells]
  | x :: l, 0 => by simp [flCells]
  | x :: l, k + 1 => by
    have e : (flArr x).toList.length = 3 := rfl
    rw [List.take_succ_cons, flCells, flCells, ← flCells_take l k, show (k + 1) * 3 = (flArr x).toList.length + k * 3 from by omega, List.take_append, List.take_of_length_le (by omega)]
    simp
theorem flCells_drop : ∀ (l : List Fl) (k : Nat), (flCells l).drop (k * 3) = flCells (l.drop k)
  | [], k => by simp [flCells]
  | x :: l, 0 => by simp [flCells]
  | x :: l, k + 1 => by
    have e : (flArr x).toList.length = 3 := rfl
    rw [List.drop_succ_cons, flCells, ← flCells_drop l k, show (k + 1) * 3 = (flArr x).toList.length + k * 3 from by omega, List.drop_append, List.drop_of_length_le (by omega)]
    simp
theorem flCells_one (l : List Fl) : ∀ u ∈ flCells l, u.oneCell' = true := by
  induction l with
  | nil => intro u hu; cases hu
  | cons f l ih =>
    intro u hu
    rcases List.mem_append.1 hu with h | h
    · simp [flArr] at h
      rcases h with rfl | rfl | rfl <;> rfl
    · exact ih u h
theorem flArr_one (f : Fl) : (flArr f).all (·.oneCell') = true := by
  unfold flArr
  rw [Array.all_eq_true_iff_forall_mem]
  intro v hv
  simp at hv
  rcases hv with rfl | rfl | rfl <;> rfl
theorem flInfo (f : Fl) : (Tryz.prog.info? 68).map (·.size) = some (flArr f).size := by
  rw [show (flArr f).size = 3 from rfl]
  kernel_rfl
theorem info_file : (Tryz.prog.info? 68).map (fun i => (i.zero, i.size, i.bytes)) = some (some (.agg #[.string ⟨#[]⟩, .string ⟨#[]⟩, .string ⟨#[]⟩]), 3, 48) := by kernel_rfl
/-- the files that a slice holds, all in blocks below B -/
def Fls (w : World) (B : Nat) (A : Option Addr) (L : List Fl) : Prop :=
  ∀ k x, L[k]? = some x → ∃ ad, A = some ad ∧ (ad.add (k * 3)).block < B ∧ w.cell? (ad.add (k * 3)) = some (.string x.name) ∧
    w.cell? ⟨(ad.add (k * 3)).block, (ad.add (k * 3)).off + 1, none⟩ = some (.string x.safe) ∧ w.cell? ⟨(ad.add (k * 3)).block, (ad.add (k * 3)).off + 2, none⟩ = some (.string x.tail)
theorem Fls.below {w w' : World} {B : Nat} {A : Option Addr} {L : List Fl} (h : Fls w B A L) (b : Below B w w') : Fls w' B A L := fun k x hx => by
  obtain ⟨ad, e, hb, h0, h1, h2⟩ := h k x hx
  exact ⟨ad, e, hb, (b.cell hb).trans h0, (b.cell (p := ⟨(ad.add (k * 3)).block, (ad.add (k * 3)).off + 1, none⟩) hb).trans h1, (b.cell (p := ⟨(ad.add (k * 3)).block, (ad.add (k * 3)).off + 2, none⟩) hb).trans h2⟩
theorem Fls.mono {w : World} {B B' : Nat} {A : Option Addr} {L : List Fl} (h : Fls w B A L) (hB : B ≤ B') : Fls w B' A L := fun k x hx => by
  obtain ⟨ad, e, hb, hc⟩ := h k x hx
  exact ⟨ad, e, by omega, hc⟩
theorem Fls.nil (w : World) (B : Nat) (A : Option Addr) : Fls w B A [] := fun k x h => by simp at h
theorem Fls.up {w w' : World} {A : Option Addr} {L : List Fl} (h : Fls w w.heap.size A L) (b : Below w.heap.size w w') : Fls w' w'.heap.size A L := (h.below b).mono b.size
/-- a slice that owns its row holds these files -/
theorem own_files {w : World} {base : Nat} {v : Value} {L : List Fl} (h : w.ownsRow base 68 3 v L.length (flCells L)) : ∃ A c, v = .slice A L.length c ∧ L.length ≤ c ∧ Fls w w.heap.size A L := by
  rcases h.2 with ⟨rfl, hn⟩ | ⟨g, cap, cur, rfl, hb, hg, hnc, hcm, hcs, htake⟩
  · obtain rfl : L = [] := List.eq_nil_of_length_eq_zero hn
    exact ⟨none, 0, rfl, Nat.le_refl _, Fls.nil _ _ _⟩
  · refine ⟨some ⟨g, 0, none⟩, cap, rfl, hnc, fun k f hk => ⟨_, rfl, ?_⟩⟩
    have hlt : k < L.length := (List.getElem?_eq_some_iff.1 hk).1
    have hcell : ∀ j, j < 3 → w.cell? ⟨g, k * 3 + j, none⟩ = (flArr f).toList[j]? := fun j hj => by
      rw [cell_of_row w g _ cur _ (0, 0) hg, ← flCells_at L k j f hk hj, ← htake, List.getElem?_take_of_lt (by omega)]
      simp
    rw [zero_add]
    exact ⟨(Array.getElem?_eq_some_iff.1 hg).1, hcell 0 (by omega), hcell 1 (by omega), hcell 2 (by omega)⟩
/-- a disk's cells -/
def dkArr (L : List Fl) (A : Option Addr) (c : Nat) (z : Int) : Array Value := #[.slice A L.length c, .int .i64 z]
def dkZero : Array Value := #[.slice none 0 0, .int .i64 0]
theorem dkInfo (L : List Fl) (A : Option Addr) (c : Nat) (z : Int) : (Tryz.prog.info? 37).map (·.size) = some (dkArr L A c z).size := by
  rw [show (dkArr L A c z).size = 2 from rfl]
  kernel_rfl
theorem dkArr_one (L : List Fl) (A : Option Addr) (c : Nat) (z : Int) : (dkArr L A c z).all (·.oneCell') = true := by
  unfold dkArr
  rw [Array.all_eq_true_iff_forall_mem]
  intro v hv
  simp at hv
  rcases hv with rfl | rfl <;> rfl
end Go.Proofs.YtmikfmcgddmplaaGreatDoor
