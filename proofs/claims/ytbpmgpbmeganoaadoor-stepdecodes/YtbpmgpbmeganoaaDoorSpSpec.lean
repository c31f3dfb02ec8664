/- What package step answers, plain. -/
import Derived.Test.YtbpmgpbmeganoaaDoorRfSpec
import Derived.Test.YtbpmgpbmeganoaaDoorBw
import Derived.Test.YtbpmgpbmeganoaaDoorSeal
namespace Go.Proofs.YtbpmgpbmeganoaaDoor
open Go.RowKit

/-- a step -/
structure Sp where
  ref : ByteArray
  old : ByteArray
  new : ByteArray
  who : List Int
  seals : List ByteArray
def spZ : Sp := ⟨⟨#[]⟩, ⟨#[]⟩, ⟨#[]⟩, [], []⟩
/-- who sealed, and the seal -/
abbrev Sg := Int × ByteArray
def Sp.prs (s : Sp) : List Sg := s.who.zip s.seals
def gdS : Int → List Sg → Int
  | _, [] => 0
  | b, x :: l => if x.1 ≤ b ∨ 7 < x.1 then 3 else if x.2.size ≠ 32 then 2 else gdS x.1 l
def spForm (s : Sp) : Bool := namedR s.ref && isId s.old && isId s.new && !decide (s.old = s.new)
def spGood (s : Sp) : Int := if !spForm s then 2 else if 8 < s.who.length ∨ s.seals.length ≠ s.who.length then 6 else gdS (-1) s.prs
def chL (s : Sp) : List UInt8 := txt s.ref ++ txt s.old ++ txt s.new
def spBodyL (i : Nat) (s : Sp) : List UInt8 := num i ++ txt s.ref ++ txt s.old ++ txt s.new
def spLong (s : Sp) : Prop := 4096 < s.ref.size ∨ 4096 < s.old.size ∨ 4096 < s.new.size
instance (s : Sp) : Decidable (spLong s) := by unfold spLong; infer_instance
def spBody (i : Int) (s : Sp) : ByteArray × Int := if i < 0 ∨ 199 < i then (⟨#[]⟩, 3) else if spLong s then (⟨#[]⟩, 1) else (bs (spBodyL i.toNat s), 0)
def sgL : List Sg → List UInt8
  | [] => []
  | x :: l => num x.1.toNat ++ x.2.data.toList ++ sgL l
def spEncL (s : Sp) : List UInt8 := chL s ++ num s.seals.length ++ sgL s.prs
def spEnc (s : Sp) : ByteArray × Int := if spGood s ≠ 0 then (⟨#[]⟩, spGood s) else (bs (spEncL s), 0)
def rdSgs : Nat → List UInt8 → Option (List Sg × List UInt8)
  | 0, l => some ([], l)
  | n + 1, l => match rdNum l with
    | none => none
    | some (x, r) => match rdId r with
      | none => none
      | some (t, r2) => match rdSgs n r2 with
        | none => none
        | some (L, r3) => some (((x : Int), t) :: L, r3)
def spRead (l : List UInt8) : Option Sp :=
  match rdText l with
  | none => none
  | some (a, r1) => match rdText r1 with
    | none => none
    | some (o, r2) => match rdText r2 with
      | none => none
      | some (n, r3) => match rdNum r3 with
        | none => none
        | some (k, r4) => match rdSgs k r4 with
          | none => none
          | some (L, r5) => if r5 = [] then some ⟨a, o, n, L.map Prod.fst, L.map Prod.snd⟩ else none
def spDec (b : ByteArray) : Sp × Int := match spRead b.data.toList with
  | none => (spZ, 2)
  | some s => if spGood s ≠ 0 then (spZ, spGood s) else (s, 0)
/-- how many stand before one -/
def lowI (x : Int) : List Int → Nat
  | [] => 0
  | y :: l => if y < x then lowI x l + 1 else 0
def sealB (key b : ByteArray) : ByteArray := bs (sealOf key.data.toList b.data.toList)
def spPut (s : Sp) (x : Int) (t : ByteArray) : Sp :=
  { s with who := s.who.take (lowI x s.who) ++ x :: s.who.drop (lowI x s.who), seals := s.seals.take (lowI x s.who) ++ t :: s.seals.drop (lowI x s.who) }
/-- a step's body where the step is valid -/
def spGB (i : Int) (s : Sp) : ByteArray × Int := if spGood s ≠ 0 then (⟨#[]⟩, spGood s) else spBody i s
def spSign (s : Sp) (i who : Int) (key : ByteArray) : Sp × Int :=
  if (spGB i s).2 ≠ 0 then (spZ, (spGB i s).2) else if who < 0 ∨ 7 < who then (spZ, 3) else if who ∈ s.who then (spZ, 8) else (spPut s who (sealB key (spGB i s).1), 0)
/-- is a seal right? -/
def okSg (K : List ByteArray) (b : ByteArray) (x : Sg) : Bool := match K[x.1.toNat]? with
  | none => false
  | some k => decide (sealB k b = x.2)
def spCheck (K : List ByteArray) (need : Int) (i : Int) (s : Sp) : Int :=
  if (spGB i s).2 ≠ 0 then (spGB i s).2 else if s.prs.all (okSg K (spGB i s).1) && decide (need ≤ s.seals.length) then 0 else 13
def spGo (K : List ByteArray) (need : Int) : Nat → List Rf → List Sp → List Rf × Int × Int
  | _, cur, [] => (cur, 0, 0)
  | i, cur, s :: l => if spCheck K need i s ≠ 0 then ([], (i : Int), spCheck K need i s)
    else if (setR cur s.ref s.old s.new).2 ≠ 0 then ([], (i : Int), (setR cur s.ref s.old s.new).2)
    else spGo K need (i + 1) (setR cur s.ref s.old s.new).1 l
def spReplay (K : List ByteArray) (need : Int) (L : List Sp) : List Rf × Int × Int := if 200 < L.length then ([], 0, 6) else spGo K need 0 [] L

theorem gdS_low : ∀ (l : List Sg) (b : Int), gdS b l = 0 → ∀ x ∈ l, b < x.1 ∧ x.1 ≤ 7 ∧ x.2.size = 32
  | [], _, _, x, hx => by cases hx
  | y :: l, b, h, x, hx => by
    rw [gdS] at h
    split at h
    · cases h
    · split at h
      · cases h
      · rcases List.mem_cons.1 hx with rfl | hx
        · rename_i h1 h2
          exact ⟨by omega, by omega, by simpa using h2⟩
        · have := gdS_low l y.1 h x hx
          rename_i h1 h2
          exact ⟨by omega, this.2⟩
theorem spGood_ok {s : Sp} (h : spGood s = 0) : spForm s = true ∧ s.who.length ≤ 8 ∧ s.seals.length = s.who.length ∧ gdS (-1) s.prs = 0 := by
  unfold spGood at h
  split at h
  · cases h
  · split at h
    · cases h
    · rename_i h1 h2
      refine ⟨by simpa using h1, by omega, by omega, h⟩
theorem spForm_ok {s : Sp} (h : spForm s = true) : namedR s.ref = true ∧ isId s.old = true ∧ isId s.new = true ∧ s.old ≠ s.new := by
  unfold spForm at h
  simpa [and_assoc] using h
theorem isId_le {t : ByteArray} (h : isId t = true) : t.size ≤ 32 := by
  unfold isId at h
  rw [Bool.or_eq_true, decide_eq_true_iff, decide_eq_true_iff] at h
  omega
theorem spGood_short {s : Sp} (h : spGood s = 0) : s.ref.size ≤ 60 ∧ s.old.size ≤ 32 ∧ s.new.size ≤ 32 := by
  obtain ⟨h1, h2, h3, _⟩ := spForm_ok (spGood_ok h).1
  exact ⟨named_le h1, isId_le h2, isId_le h3⟩
theorem spGood_long {s : Sp} (h : spGood s = 0) : ¬ spLong s := by
  have := spGood_short h
  unfold spLong
  omega
theorem prs_len {s : Sp} (h : s.seals.length = s.who.length) : s.prs.length = s.who.length := by
  unfold Sp.prs
  rw [List.length_zip, h, Nat.min_self]
theorem prs_get {s : Sp} {k : Nat} {x : Int} {t : ByteArray} (h1 : s.who[k]? = some x) (h2 : s.seals[k]? = some t) : s.prs[k]? = some (x, t) := by
  unfold Sp.prs
  rw [List.getElem?_zip_eq_some]
  exact ⟨h1, h2⟩
theorem prs_drop (s : Sp) (k : Nat) : s.prs.drop k = (s.who.drop k).zip (s.seals.drop k) := by
  unfold Sp.prs
  rw [List.zip_eq_zipWith, List.drop_zipWith]
  rfl
/-- every signer in range, and how many there may be -/
theorem gdS_count : ∀ (l : List Sg) (b : Int), gdS b l = 0 → -1 ≤ b → (l.length : Int) + b ≤ 7 ∨ l = []
  | [], _, _, _ => .inr rfl
  | x :: l, b, h, hb => by
    have h1 := gdS_low (x :: l) b h x List.mem_cons_self
    have h2 : gdS x.1 l = 0 := by
      rw [gdS] at h
      split at h
      · cases h
      · split at h
        · cases h
        · exact h
    rcases gdS_count l x.1 h2 (by omega) with h3 | h3
    · left; rw [List.length_cons]; omega
    · subst h3; left; simp; omega
end Go.Proofs.YtbpmgpbmeganoaaDoor
