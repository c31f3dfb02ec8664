/- Texts in one: OEnc, ODec. -/
import Derived.Test.YtlokfeoihnlkkaaDoorOMem
import Derived.Test.YtlokfeoihnlkkaaDoorWDone
import Derived.Test.YtlokfeoihnlkkaaDoorWRead
import Derived.Test.YtlokfeoihnlkkaaDoorRdn
/- An object's bytes; what is written behind one another. -/
namespace Go.Proofs.YtlokfeoihnlkkaaDoor
open Go.RowKit

/-- a text's bytes, its length ahead of it -/
def txt (s : ByteArray) : List UInt8 := num s.size ++ s.data.toList
def dirN (d : Bool) : Nat := if d then 1 else 0
def entL (e : Ent) : List UInt8 := txt e.name ++ (num (dirN e.dir) ++ e.id.data.toList)
def entsL : List Ent → List UInt8
  | [] => []
  | e :: l => entL e ++ entsL l
def parsL : List ByteArray → List UInt8
  | [] => []
  | p :: l => p.data.toList ++ parsL l
def fieldsL (o : Ob) : List UInt8 :=
  if o.kind = 1 then txt o.data else if o.kind = 2 then num o.ents.length ++ entsL o.ents
  else if o.kind = 3 then o.tree.data.toList ++ (num o.pars.length ++ (parsL o.pars ++ (txt o.who ++ (num o.time.toNat ++ txt o.note))))
  else o.target.data.toList ++ (txt o.who ++ txt o.note)
def encL (o : Ob) : List UInt8 := num o.kind.toNat ++ fieldsL o
/-- what Encode answers -/
def encS (o : Ob) : ByteArray := if good o ≠ 0 then ⟨#[]⟩ else if 8192 < (encL o).length then ⟨#[]⟩ else bs (encL o)
def encE (o : Ob) : Int := if good o ≠ 0 then good o else if 8192 < (encL o).length then 1 else 0

structure GoodF (o : Ob) : Prop where
  kind : o.kind = 1 ∨ o.kind = 2 ∨ o.kind = 3 ∨ o.kind = 4
  stray : strayB o = false
  data : o.data.size ≤ 4096
  who : o.who.size ≤ 4096
  note : o.note.size ≤ 4096
  ents : o.ents.length ≤ 64
  pars : o.pars.length ≤ 4
  each : entsB ⟨#[]⟩ o.ents = true
  ids : parsE [] o.pars = 0
  tree : o.kind = 3 → o.tree.size = 32
  target : o.kind = 4 → o.target.size = 32
  early : 0 ≤ o.time
  late : o.time < 1099511627776
theorem good_facts {o : Ob} (h : good o = 0) : GoodF o := by
  unfold good at h
  split at h
  · cases h
  rename_i h1
  split at h
  · cases h
  rename_i h2
  split at h
  · cases h
  rename_i h3
  split at h
  · cases h
  rename_i h4
  split at h
  · cases h
  rename_i h5
  split at h
  · rename_i h6; exact absurd h h6
  rename_i h6
  split at h
  · cases h
  rename_i h7
  split at h
  · cases h
  split at h
  · cases h
  rename_i h9
  unfold kindB at h1
  unfold longB at h3
  unfold fullB at h4
  unfold noIdB idB at h7
  unfold lateB at h9
  simp only [Bool.not_eq_true', Bool.not_eq_false, Bool.or_eq_true, Bool.and_eq_true, beq_iff_eq, decide_eq_true_eq, Bool.not_eq_true, not_or, not_and, beq_eq_false_iff_ne, ne_eq, Decidable.not_not] at *
  exact ⟨by omega, h2, by omega, by omega, by omega, by omega, by omega, h5, h6, h7.1, h7.2, by omega, by omega⟩
theorem entsB_all : ∀ (l : List Ent) (b : ByteArray), entsB b l = true → ∀ e ∈ l, e.name.size ≤ 60 ∧ e.id.size = 32
  | [], _, _, e, h => by cases h
  | x :: l, b, h, e, he => by
    rw [entsB] at h
    simp only [Bool.and_eq_true] at h
    obtain ⟨⟨⟨h1, h2⟩, _⟩, h4⟩ := h
    rcases List.mem_cons.1 he with rfl | he
    · unfold nameB at h1
      unfold idB at h2
      simp at h1 h2
      exact ⟨by omega, h2⟩
    · exact entsB_all l _ h4 e he
theorem parsE_all : ∀ (l had : List ByteArray), parsE had l = 0 → ∀ e ∈ l, e.size = 32
  | [], _, _, e, h => by cases h
  | x :: l, had, h, e, he => by
    rw [parsE] at h
    split at h
    · cases h
    · rename_i h1
      split at h
      · cases h
      · rcases List.mem_cons.1 he with rfl | he
        · unfold idB at h1; simpa using h1
        · exact parsE_all l _ h e he
theorem txt_len (s : ByteArray) (h : s.size ≤ 4096) : (txt s).length ≤ 4099 := by
  unfold txt
  rw [List.length_append]
  have := num_len3 s.size h
  have e : s.data.toList.length = s.size := rfl
  omega
theorem entsL_app : ∀ (a : List Ent) (e : Ent), entsL (a ++ [e]) = entsL a ++ entL e
  | [], e => by simp [entsL]
  | x :: a, e => by rw [List.cons_append, entsL, entsL_app a e, entsL, List.append_assoc]
theorem parsL_app : ∀ (a : List ByteArray) (e : ByteArray), parsL (a ++ [e]) = parsL a ++ e.data.toList
  | [], e => by simp [parsL]
  | x :: a, e => by rw [List.cons_append, parsL, parsL_app a e, parsL, List.append_assoc]
theorem entL_len (e : Ent) (h : e.name.size ≤ 60 ∧ e.id.size = 32) : (entL e).length ≤ 110 := by
  unfold entL txt
  simp only [List.length_append]
  have := num_len3 e.name.size (by omega)
  have := num_len3 (dirN e.dir) (by unfold dirN; split <;> omega)
  have e1 : e.name.data.toList.length = e.name.size := rfl
  have e2 : e.id.data.toList.length = e.id.size := rfl
  omega
theorem entsL_len : ∀ (l : List Ent), (∀ e ∈ l, e.name.size ≤ 60 ∧ e.id.size = 32) → (entsL l).length ≤ 110 * l.length
  | [], _ => by simp [entsL]
  | x :: l, h => by
    rw [entsL, List.length_append, List.length_cons]
    have := entL_len x (h x (by simp))
    have := entsL_len l (fun e he => h e (by simp [he]))
    omega
theorem parsL_len : ∀ (l : List ByteArray), (∀ e ∈ l, e.size = 32) → (parsL l).length = 32 * l.length
  | [], _ => by simp [parsL]
  | x :: l, h => by
    rw [parsL, List.length_append, List.length_cons, parsL_len l (fun e he => h e (by simp [he])), show x.data.toList.length = x.size from rfl, h x (by simp)]
    omega

theorem sum_step (l n : List UInt8) (L : List Ent) (k : Nat) (hk : k < L.length) : l ++ n ++ entsL (L.take (k + 1)) = l ++ n ++ entsL (L.take k) ++ txt L[k].name ++ num (dirN L[k].dir) ++ L[k].id.data.toList := by
  rw [List.take_succ_eq_append_getElem hk, entsL_app, entL]
  simp only [List.append_assoc]

end Go.Proofs.YtlokfeoihnlkkaaDoor

/- Reading an object's bytes: plain definitions, and a reader's contracts by them. -/
namespace Go.Proofs.YtlokfeoihnlkkaaDoor
open Go.RowKit

def rdText (l : List UInt8) : Option (ByteArray × List UInt8) :=
  match rdNum l with
  | none => none
  | some (n, r) => if n ≤ 4096 ∧ n ≤ r.length then some (bs (r.take n), r.drop n) else none
def rdId (l : List UInt8) : Option (ByteArray × List UInt8) := if 32 ≤ l.length then some (bs (l.take 32), l.drop 32) else none

/-- what is left of a reader's bytes; none: something went wrong -/
abbrev St := Option (List UInt8)
def stNum : St → Nat × St
  | none => (0, none)
  | some l => match rdNum l with
    | none => (0, none)
    | some (n, r) => (n, some r)
def stTxt : St → ByteArray × St
  | none => (⟨#[]⟩, none)
  | some l => match rdText l with
    | none => (⟨#[]⟩, none)
    | some (t, r) => (t, some r)
def stId : St → ByteArray × St
  | none => (⟨#[]⟩, none)
  | some l => match rdId l with
    | none => (⟨#[]⟩, none)
    | some (t, r) => (t, some r)
def rdPars : Nat → List UInt8 → Option (List ByteArray × List UInt8)
  | 0, l => some ([], l)
  | n + 1, l => match rdId l with
    | none => none
    | some (p, r) => match rdPars n r with
      | none => none
      | some (T, r2) => some (p :: T, r2)
def rdEnt (l : List UInt8) : Option (Ent × List UInt8) :=
  match rdText l with
  | none => none
  | some (nm, l1) => match rdNum l1 with
    | none => none
    | some (d, l2) => match rdId l2 with
      | none => none
      | some (id, l3) => if 1 < d then none else some (⟨nm, d == 1, id⟩, l3)
def rdEnts : Nat → List UInt8 → Option (List Ent × List UInt8)
  | 0, l => some ([], l)
  | n + 1, l => match rdEnt l with
    | none => none
    | some (e, r) => match rdEnts n r with
      | none => none
      | some (T, r2) => some (e :: T, r2)
/-- the parents, or none and an error -/
def stPars (st : St) : List ByteArray × St :=
  match (stNum st).2 with
  | none => ([], none)
  | some l => match rdPars (stNum st).1 l with
    | none => ([], none)
    | some (T, r) => (T, some r)
theorem stNum_none {st : St} (h : (stNum st).2 = none) : (stNum st).1 = 0 := by
  cases st with
  | none => rfl
  | some l =>
    unfold stNum at *
    cases hg : rdNum l with
    | none => simp [hg]
    | some y => simp [hg] at h
end Go.Proofs.YtlokfeoihnlkkaaDoor
