/- Texts in one: OMem, DkSpec, DkMath. -/
import Derived.Test.YtmikfmcgddmplaaGreatDoorWRead
import Derived.Test.YtmikfmcgddmplaaGreatDoorIMap
import Derived.Test.YtmikfmcgddmplaaGreatDoorRdn
/- Objects in memory: lists of texts, of entries; an object's cells. -/
namespace Go.Proofs.YtmikfmcgddmplaaGreatDoor
open Go.RowKit

/-- the texts that a slice holds, all in blocks below B -/
def Txs (w : World) (B : Nat) (A : Option Addr) (T : List ByteArray) : Prop :=
  ∀ k x, T[k]? = some x → ∃ ad, A = some ad ∧ (ad.add k).block < B ∧ w.cell? (ad.add k) = some (.string x)
/-- the entries that a slice holds -/
def Ens (w : World) (B : Nat) (A : Option Addr) (L : List Ent) : Prop :=
  ∀ k x, L[k]? = some x → ∃ ad, A = some ad ∧ (ad.add (k * 3)).block < B ∧ w.cell? (ad.add (k * 3)) = some (.string x.name) ∧
    w.cell? ⟨(ad.add (k * 3)).block, (ad.add (k * 3)).off + 1, none⟩ = some (.bool x.dir) ∧ w.cell? ⟨(ad.add (k * 3)).block, (ad.add (k * 3)).off + 2, none⟩ = some (.string x.id)
theorem Txs.below {w w' : World} {B : Nat} {A : Option Addr} {T : List ByteArray} (h : Txs w B A T) (b : Below B w w') : Txs w' B A T := fun k x hx => by
  obtain ⟨ad, e, hb, hc⟩ := h k x hx
  exact ⟨ad, e, hb, (b.cell hb).trans hc⟩
theorem Ens.below {w w' : World} {B : Nat} {A : Option Addr} {L : List Ent} (h : Ens w B A L) (b : Below B w w') : Ens w' B A L := fun k x hx => by
  obtain ⟨ad, e, hb, h0, h1, h2⟩ := h k x hx
  exact ⟨ad, e, hb, (b.cell hb).trans h0, (b.cell (p := ⟨(ad.add (k * 3)).block, (ad.add (k * 3)).off + 1, none⟩) hb).trans h1, (b.cell (p := ⟨(ad.add (k * 3)).block, (ad.add (k * 3)).off + 2, none⟩) hb).trans h2⟩
theorem Txs.mono {w : World} {B B' : Nat} {A : Option Addr} {T : List ByteArray} (h : Txs w B A T) (hB : B ≤ B') : Txs w B' A T := fun k x hx => by
  obtain ⟨ad, e, hb, hc⟩ := h k x hx
  exact ⟨ad, e, by omega, hc⟩
theorem Ens.mono {w : World} {B B' : Nat} {A : Option Addr} {L : List Ent} (h : Ens w B A L) (hB : B ≤ B') : Ens w B' A L := fun k x hx => by
  obtain ⟨ad, e, hb, hc⟩ := h k x hx
  exact ⟨ad, e, by omega, hc⟩
theorem Txs.nil (w : World) (B : Nat) (A : Option Addr) : Txs w B A [] := fun k x h => by simp at h
theorem Ens.nil (w : World) (B : Nat) (A : Option Addr) : Ens w B A [] := fun k x h => by simp at h

/-- where an object's slices lie -/
structure At where
  ea : Option Addr
  ec : Nat
  pa : Option Addr
  pc : Nat
def obArr (o : Ob) (p : At) : Array Value :=
  #[.int .i64 o.kind, .string o.data, .slice p.ea o.ents.length p.ec, .string o.tree, .slice p.pa o.pars.length p.pc, .string o.who, .string o.note, .int .i64 o.time, .string o.target]
/-- an object whose slices lie in blocks below B -/
structure ObIn (w : World) (B : Nat) (o : Ob) (p : At) : Prop where
  ents : Ens w B p.ea o.ents
  pars : Txs w B p.pa o.pars
  room : o.pars.length ≤ p.pc
theorem ObIn.below {w w' : World} {B : Nat} {o : Ob} {p : At} (h : ObIn w B o p) (b : Below B w w') : ObIn w' B o p := ⟨h.ents.below b, h.pars.below b, h.room⟩
theorem ObIn.mono {w : World} {B B' : Nat} {o : Ob} {p : At} (h : ObIn w B o p) (hB : B ≤ B') : ObIn w B' o p := ⟨h.ents.mono hB, h.pars.mono hB, h.room⟩
theorem obArr_one (o : Ob) (p : At) : (obArr o p).all (·.oneCell') = true := by
  unfold obArr
  rw [Array.all_eq_true_iff_forall_mem]
  intro v hv
  simp at hv
  rcases hv with rfl | rfl | rfl | rfl | rfl | rfl | rfl | rfl | rfl <;> rfl
theorem obArr_size (o : Ob) (p : At) : (obArr o p).size = 9 := rfl
theorem obInfo (o : Ob) (p : At) : (Tryz.prog.info? 53).map (·.size) = some (obArr o p).size := by
  rw [obArr_size]
  kernel_rfl
/-- the new block of a boxed object -/
theorem box_in {w : World} {B : Nat} {o : Ob} {p : At} (h : ObIn w B o p) (hB : B ≤ w.heap.size) (x : Obj) : ObIn (w.alloc x) B o p := h.below ((Below.refl _ _).alloc hB _)
end Go.Proofs.YtmikfmcgddmplaaGreatDoor

/- Disks: plain definitions: what the steps of package disk do. -/
namespace Go.Proofs.YtmikfmcgddmplaaGreatDoor
open Go.RowKit

def ltB (a b : ByteArray) : Bool := Op.bytesLess a.toList b.toList
def sameB (a b : ByteArray) : Bool := a.toList == b.toList
theorem sameB_iff (a b : ByteArray) : sameB a b = true ↔ a = b := by
  unfold sameB
  rw [beq_iff_eq, toList_data, toList_data]
  exact ⟨bytes_eq, fun h => by rw [h]⟩
theorem less_irr : ∀ l : List UInt8, Op.bytesLess l l = false
  | [] => rfl
  | a :: l => by
    rw [Op.bytesLess, less_irr l]
    simp
theorem less_trans : ∀ a b c : List UInt8, Op.bytesLess a b = true → Op.bytesLess b c = true → Op.bytesLess a c = true
  | [], [], _, h, _ => by simp [Op.bytesLess] at h
  | [], _ :: _, [], _, h => by simp [Op.bytesLess] at h
  | [], _ :: _, _ :: _, _, _ => by simp [Op.bytesLess]
  | _ :: _, [], _, h, _ => by simp [Op.bytesLess] at h
  | _ :: _, _ :: _, [], _, h => by simp [Op.bytesLess] at h
  | a :: x, b :: y, c :: z, h1, h2 => by
    have ih := less_trans x y z
    simp only [Op.bytesLess, Bool.or_eq_true, Bool.and_eq_true, decide_eq_true_eq, beq_iff_eq] at h1 h2 ⊢
    rcases h1 with h1 | ⟨rfl, h1⟩
    · rcases h2 with h2 | ⟨rfl, h2⟩
      · exact .inl (UInt8.lt_trans h1 h2)
      · exact .inl h1
    · rcases h2 with h2 | ⟨rfl, h2⟩
      · exact .inl h2
      · exact .inr ⟨rfl, ih h1 h2⟩
theorem less_tri : ∀ a b : List UInt8, Op.bytesLess a b = true ∨ a = b ∨ Op.bytesLess b a = true
  | [], [] => .inr (.inl rfl)
  | [], _ :: _ => .inl (by simp [Op.bytesLess])
  | _ :: _, [] => .inr (.inr (by simp [Op.bytesLess]))
  | a :: x, b :: y => by
    have ih := less_tri x y
    simp only [Op.bytesLess, Bool.or_eq_true, Bool.and_eq_true, decide_eq_true_eq, beq_iff_eq]
    by_cases e : a = b
    · subst e
      rcases ih with h | rfl | h
      · exact .inl (.inr ⟨rfl, h⟩)
      · exact .inr (.inl rfl)
      · exact .inr (.inr (.inr ⟨rfl, h⟩))
    · by_cases h : a < b
      · exact .inl (.inl h)
      · exact .inr (.inr (.inl (by
          rw [UInt8.lt_iff_toNat_lt] at h ⊢
          have : a.toNat ≠ b.toNat := fun q => e (UInt8.toNat_inj.1 q)
          omega)))
theorem ltB_irr (a : ByteArray) : ltB a a = false := less_irr _
theorem ltB_trans {a b c : ByteArray} (h1 : ltB a b = true) (h2 : ltB b c = true) : ltB a c = true := less_trans _ _ _ h1 h2
theorem ltB_tri (a b : ByteArray) : ltB a b = true ∨ a = b ∨ ltB b a = true := by
  rcases less_tri a.toList b.toList with h | h | h
  · exact .inl h
  · exact .inr (.inl (by rw [toList_data, toList_data] at h; exact bytes_eq h))
  · exact .inr (.inr h)
theorem ltB_ne {a b : ByteArray} (h : ltB a b = true) : a ≠ b := fun e => by rw [e, ltB_irr] at h; cases h
theorem ltB_asym {a b : ByteArray} (h : ltB a b = true) : ltB b a = false := by
  cases hb : ltB b a with
  | false => rfl
  | true => have := ltB_trans h hb; rw [ltB_irr] at this; cases this

/-- a file -/
structure Fl where
  name : ByteArray
  safe : ByteArray
  tail : ByteArray
  deriving DecidableEq
/-- a disk -/
structure Dk where
  files : List Fl
  fuse : Int
  deriving DecidableEq
def inName (c : UInt8) : Bool := (decide (97 ≤ c.toNat) && decide (c.toNat ≤ 122)) || (decide (48 ≤ c.toNat) && decide (c.toNat ≤ 57)) || decide (c.toNat = 46) || decide (c.toNat = 45)
def named (s : ByteArray) : Bool := decide (1 ≤ s.size) && decide (s.size ≤ 80) && s.data.toList.all inName
def fits (f : Fl) : Bool := decide (f.safe.size + f.tail.size ≤ 1048576)
def goodL : ByteArray → List Fl → Bool
  | _, [] => true
  | b, f :: l => named f.name && fits f && ltB b f.name && goodL f.name l
def goodD (L : List Fl) : Bool := decide (L.length ≤ 400) && goodL ⟨#[]⟩ L
/-- where the first file stands whose name is this or comes behind it -/
def low (n : ByteArray) : List Fl → Nat
  | [] => 0
  | f :: l => if ltB f.name n then low n l + 1 else 0
def getF (n : ByteArray) (L : List Fl) : Option Fl := L.find? fun f => decide (f.name = n)
def del (n : ByteArray) (L : List Fl) : List Fl := L.filter fun f => !decide (f.name = n)
/-- the files with one more, or another in its place -/
def putL (f : Fl) : List Fl → List Fl
  | [] => [f]
  | x :: l => if ltB x.name f.name then x :: putL f l else if x.name = f.name then f :: l else f :: x :: l
def wrP (L : List Fl) (n s : ByteArray) : Except Int (List Fl) :=
  if !named n then .error 2 else match getF n L with
  | none => if 400 ≤ L.length then .error 6 else if 1048576 < s.size then .error 1 else .ok (putL ⟨n, ⟨#[]⟩, s⟩ L)
  | some f => if 1048576 < f.safe.size + f.tail.size + s.size then .error 1 else .ok (putL ⟨n, f.safe, f.tail ++ s⟩ L)
def syP (L : List Fl) (n : ByteArray) : Except Int (List Fl) := match getF n L with
  | none => .error 7
  | some f => .ok (putL ⟨n, f.safe ++ f.tail, ⟨#[]⟩⟩ L)
def rnP (L : List Fl) (n m : ByteArray) : Except Int (List Fl) := if !named m then .error 2 else match getF n L with
  | none => .error 7
  | some f => .ok (putL ⟨m, f.safe, f.tail⟩ (del n L))
def rmP (L : List Fl) (n : ByteArray) : Except Int (List Fl) := match getF n L with
  | none => .error 7
  | some _ => .ok (del n L)
def burnt (z : Int) : Int := if 0 < z then z - 1 else z
/-- a step, whose change is r -/
def stepP (d : Dk) (r : Except Int (List Fl)) : Dk × Int :=
  if !goodD d.files then (d, 3) else if d.fuse = 0 then (d, 12) else match r with
  | .error e => (d, e)
  | .ok L => (⟨L, burnt d.fuse⟩, 0)
def readD (d : Dk) (n : ByteArray) : ByteArray × Int := if !goodD d.files then (⟨#[]⟩, 3) else match getF n d.files with
  | none => (⟨#[]⟩, 7)
  | some f => (f.safe ++ f.tail, 0)
def crashF (k : Nat) (f : Fl) : Fl := ⟨f.name, f.safe ++ f.tail.extract 0 (min k f.tail.size), ⟨#[]⟩⟩
def crashD (d : Dk) (k : Int) : Dk × Int := if !goodD d.files || decide (k < 0) then (d, 3) else (⟨d.files.map (crashF k.toNat), -1⟩, 0)
/-- a disk and an error; the next step, if there is none -/
def thenD (r : Dk × Int) (f : Dk → Dk × Int) : Dk × Int := if r.2 ≠ 0 then r else f r.1
def newN (n : ByteArray) : ByteArray := n ++ ⟨#[46, 110, 101, 119]⟩
def saveD (d : Dk) (n s : ByteArray) : Dk × Int :=
  if !goodD d.files then (d, 3) else if !named n || !named (newN n) then (d, 2) else
  thenD (thenD (thenD (if (getF (newN n) d.files).isSome then stepP d (rmP d.files (newN n)) else (d, 0)) fun d => stepP d (wrP d.files (newN n) s)) fun d => stepP d (syP d.files (newN n))) fun d => stepP d (rnP d.files (newN n) n)
end Go.Proofs.YtmikfmcgddmplaaGreatDoor

/- Disks: what the plain steps keep. -/
namespace Go.Proofs.YtmikfmcgddmplaaGreatDoor
open Go.RowKit

/-- names that rise, all behind b -/
def ris : ByteArray → List Fl → Prop
  | _, [] => True
  | b, f :: l => ltB b f.name = true ∧ ris f.name l
theorem goodL_iff : ∀ (L : List Fl) (b : ByteArray), goodL b L = true ↔ ris b L ∧ ∀ f ∈ L, named f.name = true ∧ fits f = true
  | [], b => by simp [goodL, ris]
  | f :: l, b => by
    rw [goodL, ris, Bool.and_eq_true, Bool.and_eq_true, Bool.and_eq_true, goodL_iff l]
    constructor
    · rintro ⟨⟨⟨h1, h2⟩, h3⟩, h4, h5⟩
      refine ⟨⟨h3, h4⟩, fun g hg => ?_⟩
      rcases List.mem_cons.1 hg with rfl | hg
      · exact ⟨h1, h2⟩
      · exact h5 g hg
    · rintro ⟨⟨h3, h4⟩, h5⟩
      have h6 := h5 f List.mem_cons_self
      exact ⟨⟨⟨h6.1, h6.2⟩, h3⟩, h4, fun g hg => h5 g (List.mem_cons_of_mem _ hg)⟩
theorem goodD_iff (L : List Fl) : goodD L = true ↔ L.length ≤ 400 ∧ ris ⟨#[]⟩ L ∧ ∀ f ∈ L, named f.name = true ∧ fits f = true := by
  unfold goodD
  rw [Bool.and_eq_true, goodL_iff, decide_eq_true_iff]
theorem ris_lt : ∀ {L : List Fl} {b : ByteArray}, ris b L → ∀ f ∈ L, ltB b f.name = true
  | g :: l, b, h, f, hf => by
    rcases List.mem_cons.1 hf with rfl | hf
    · exact h.1
    · exact ltB_trans h.1 (ris_lt h.2 f hf)
theorem ris_weak : ∀ {L : List Fl} {a b : ByteArray}, ltB a b = true → ris b L → ris a L
  | [], _, _, _, _ => trivial
  | _ :: _, _, _, h, k => ⟨ltB_trans h k.1, k.2⟩
theorem ris_app : ∀ {L M : List Fl} {b : ByteArray}, ris b (L ++ M) → ris b L
  | [], _, _, _ => trivial
  | _ :: _, _, _, h => ⟨h.1, ris_app h.2⟩
theorem ltB_le {a b c : ByteArray} (h : ltB a b = false) (k : ltB a c = true) : b ≠ c → ltB b c = true := fun hne => by
  rcases ltB_tri a b with h1 | rfl | h1
  · rw [h1] at h; cases h
  · exact k
  · exact ltB_trans h1 k
theorem low_le (n : ByteArray) : ∀ L : List Fl, low n L ≤ L.length
  | [] => Nat.le_refl _
  | f :: l => by
    have := low_le n l
    unfold low
    split
    · simp; omega
    · simp
/-- ahead of where a name would stand, all names are ahead of it; there and behind it none is -/
theorem low_split (n : ByteArray) : ∀ (L : List Fl) (b : ByteArray), ris b L → ∀ (k : Nat) (f : Fl), L[k]? = some f → (ltB f.name n = true ↔ k < low n L)
  | [], _, _, k, f, hk => by simp at hk
  | g :: l, b, h, k, f, hk => by
    unfold low
    cases k with
    | zero =>
      simp at hk
      subst hk
      cases hg : ltB g.name n <;> simp
    | succ k =>
      rw [List.getElem?_cons_succ] at hk
      have ih := low_split n l g.name h.2 k f hk
      cases hg : ltB g.name n with
      | true => simp [ih]
      | false =>
        simp only [Bool.false_eq_true, if_false, Nat.not_lt_zero, iff_false, Bool.not_eq_true]
        have h1 := ris_lt h.2 f (List.mem_of_getElem? hk)
        cases hf : ltB f.name n with
        | false => rfl
        | true => rw [ltB_trans h1 hf] at hg; cases hg
theorem getF_low (n : ByteArray) : ∀ (L : List Fl) (b : ByteArray), ris b L → getF n L = match L[low n L]? with
    | none => none
    | some f => if f.name = n then some f else none
  | [], _, _ => rfl
  | g :: l, b, h => by
    have ih := getF_low n l g.name h.2
    unfold getF at ih ⊢
    unfold low
    rw [List.find?_cons]
    cases hg : ltB g.name n with
    | true =>
      have hne : ¬ g.name = n := ltB_ne hg
      simp only [hne, decide_false, if_true, List.getElem?_cons_succ]
      exact ih
    | false =>
      by_cases e : g.name = n
      · simp [e]
      · simp only [e, decide_false, Bool.false_eq_true, if_false, List.getElem?_cons_zero]
        rw [List.find?_eq_none]
        intro f hf
        have h1 := ris_lt h.2 f hf
        rcases ltB_tri n g.name with h2 | h2 | h2
        · have := ltB_ne (ltB_trans h2 h1)
          rw [decide_eq_true_eq]
          exact fun q => this q.symm
        · exact absurd h2.symm e
        · rw [h2] at hg; cases hg
theorem getF_name {n : ByteArray} {L : List Fl} {f : Fl} (h : getF n L = some f) : f.name = n ∧ f ∈ L := by
  unfold getF at h
  have h1 := List.find?_some h
  simp only [decide_eq_true_eq] at h1
  exact ⟨h1, List.mem_of_find?_eq_some h⟩
theorem putL_cut (f : Fl) : ∀ (L : List Fl) (b : ByteArray), ris b L → putL f L = L.take (low f.name L) ++ f :: L.drop (low f.name L + if (getF f.name L).isSome then 1 else 0)
  | [], _, _ => rfl
  | g :: l, b, h => by
    have ih := putL_cut f l g.name h.2
    have hg := getF_low f.name (g :: l) b h
    have hg2 := getF_low f.name l g.name h.2
    unfold putL
    unfold low at hg ⊢
    cases hl : ltB g.name f.name with
    | true =>
      simp only [hl, if_true, List.getElem?_cons_succ] at hg
      rw [← hg2] at hg
      rw [hg]
      simp only [if_true, List.take_succ_cons, List.cons_append]
      rw [ih]
      congr 2
      rw [show low f.name l + 1 + (if (getF f.name l).isSome = true then 1 else 0) = (low f.name l + if (getF f.name l).isSome = true then 1 else 0) + 1 from by omega, List.drop_succ_cons]
    | false =>
      simp only [hl, Bool.false_eq_true, if_false, List.getElem?_cons_zero] at hg
      rw [hg]
      by_cases e : g.name = f.name
      · simp [e]
      · simp [e]
theorem del_cut (n : ByteArray) : ∀ (L : List Fl) (b : ByteArray), ris b L → (getF n L).isSome = true → del n L = L.take (low n L) ++ L.drop (low n L + 1)
  | [], _, _, h => by cases h
  | g :: l, b, h, hs => by
    have ih := del_cut n l g.name h.2
    have hg := getF_low n (g :: l) b h
    have hg2 := getF_low n l g.name h.2
    unfold del at ih ⊢
    unfold low at hg ⊢
    rw [List.filter_cons]
    cases hl : ltB g.name n with
    | true =>
      simp only [hl, if_true, List.getElem?_cons_succ] at hg
      rw [← hg2] at hg
      rw [hg] at hs
      have hne : ¬ g.name = n := ltB_ne hl
      simp only [hne, decide_false, Bool.not_false, if_true, List.take_succ_cons, List.cons_append, List.drop_succ_cons]
      rw [ih hs]
    | false =>
      simp only [hl, Bool.false_eq_true, if_false, List.getElem?_cons_zero] at hg
      by_cases e : g.name = n
      · simp only [e, decide_true, Bool.not_true, Bool.false_eq_true, if_false, List.take_zero, List.nil_append, Nat.zero_add, List.drop_succ_cons, List.drop_zero]
        rw [List.filter_eq_self]
        intro f hf
        have := ltB_ne (ris_lt h.2 f hf)
        have hn : ¬ f.name = n := fun q => this (e.trans q.symm)
        simp [hn]
      · rw [if_neg e] at hg
        rw [hg] at hs
        cases hs
theorem getF_put (n : ByteArray) (f : Fl) : ∀ (L : List Fl) (b : ByteArray), ris b L → getF n (putL f L) = if f.name = n then some f else getF n L
  | [], _, _ => by
    unfold putL getF
    by_cases e : f.name = n <;> simp [e]
  | g :: l, b, h => by
    have ih := getF_put n f l g.name h.2
    unfold putL
    unfold getF at ih ⊢
    cases hl : ltB g.name f.name with
    | true =>
      simp only [if_true, List.find?_cons]
      by_cases e : g.name = n
      · have hne : ¬ f.name = n := fun q => ltB_ne hl (e.trans q.symm)
        simp [e, hne]
      · simp only [e, decide_false]
        exact ih
    | false =>
      simp only [Bool.false_eq_true, if_false]
      by_cases e : g.name = f.name
      · rw [if_pos e]
        simp only [List.find?_cons, e]
        by_cases q : f.name = n <;> simp [q]
      · rw [if_neg e]
        simp only [List.find?_cons]
        by_cases q : f.name = n <;> simp [q]
theorem getF_del (n m : ByteArray) (L : List Fl) : getF n (del m L) = if m = n then none else getF n L := by
  unfold getF del
  rw [List.find?_filter]
  by_cases e : m = n
  · subst e
    rw [if_pos rfl, List.find?_eq_none]
    intro f _
    by_cases q : f.name = m <;> simp [q]
  · rw [if_neg e]
    congr 1
    funext f
    by_cases q : f.name = n
    · have : ¬ n = m := fun h => e h.symm
      simp [q, this]
    · simp [q]
theorem put_ris (f : Fl) : ∀ (L : List Fl) (b : ByteArray), ris b L → ltB b f.name = true → ris b (putL f L)
  | [], _, _, h => ⟨h, trivial⟩
  | g :: l, b, h, hb => by
    unfold putL
    cases hl : ltB g.name f.name with
    | true => exact ⟨h.1, put_ris f l g.name h.2 hl⟩
    | false =>
      simp only [Bool.false_eq_true, if_false]
      by_cases e : g.name = f.name
      · rw [if_pos e]
        exact ⟨hb, by rw [← e]; exact h.2⟩
      · rw [if_neg e]
        refine ⟨hb, ?_, h.2⟩
        rcases ltB_tri g.name f.name with h1 | h1 | h1
        · rw [h1] at hl; cases hl
        · exact absurd h1 e
        · exact h1
theorem put_mem (f g : Fl) : ∀ L : List Fl, g ∈ putL f L → g = f ∨ g ∈ L
  | [], h => .inl (by simpa [putL] using h)
  | x :: l, h => by
    unfold putL at h
    split at h
    · rcases List.mem_cons.1 h with rfl | h
      · exact .inr List.mem_cons_self
      · rcases put_mem f g l h with h | h
        · exact .inl h
        · exact .inr (List.mem_cons_of_mem _ h)
    · split at h
      · rcases List.mem_cons.1 h with rfl | h
        · exact .inl rfl
        · exact .inr (List.mem_cons_of_mem _ h)
      · rcases List.mem_cons.1 h with rfl | h
        · exact .inl rfl
        · exact .inr h
theorem del_ris (n : ByteArray) : ∀ (L : List Fl) (b : ByteArray), ris b L → ris b (del n L)
  | [], _, _ => trivial
  | g :: l, b, h => by
    have ih := del_ris n l g.name h.2
    unfold del at ih ⊢
    rw [List.filter_cons]
    split
    · exact ⟨h.1, ih⟩
    · exact ris_weak h.1 ih
theorem empty_lt {s : ByteArray} (h : named s = true) : ltB ⟨#[]⟩ s = true := by
  unfold named at h
  rw [Bool.and_eq_true, Bool.and_eq_true, decide_eq_true_iff] at h
  have h1 : 1 ≤ s.data.toList.length := h.1.1
  unfold ltB
  rw [toList_data, toList_data]
  cases hs : s.data.toList with
  | nil => rw [hs] at h1; simp at h1
  | cons a l => rfl
theorem put_len (f : Fl) (L : List Fl) (b : ByteArray) (h : ris b L) : (putL f L).length = L.length + if (getF f.name L).isSome then 0 else 1 := by
  have hle := low_le f.name L
  have hg := getF_low f.name L b h
  rw [putL_cut f L b h, List.length_append, List.length_take, List.length_cons, List.length_drop]
  cases hf : getF f.name L with
  | none => simp; omega
  | some x =>
    rw [hf] at hg
    have : low f.name L < L.length := by
      rcases Nat.lt_or_ge (low f.name L) L.length with h1 | h1
      · exact h1
      · rw [List.getElem?_eq_none h1] at hg; cases hg
    simp
    omega
theorem good_put {f : Fl} {L : List Fl} (h : goodD L = true) (hn : named f.name = true) (hf : fits f = true) (hl : (getF f.name L).isSome = true ∨ L.length < 400) : goodD (putL f L) = true := by
  obtain ⟨h1, h2, h3⟩ := (goodD_iff L).1 h
  refine (goodD_iff _).2 ⟨?_, put_ris f L _ h2 (empty_lt hn), fun g hg => ?_⟩
  · rw [put_len f L _ h2]
    rcases hl with hl | hl
    · simp [hl]; omega
    · split <;> omega
  · rcases put_mem f g L hg with rfl | hg
    · exact ⟨hn, hf⟩
    · exact h3 g hg
theorem good_del {n : ByteArray} {L : List Fl} (h : goodD L = true) : goodD (del n L) = true := by
  obtain ⟨h1, h2, h3⟩ := (goodD_iff L).1 h
  exact (goodD_iff _).2 ⟨Nat.le_trans (List.length_filter_le _ _) h1, del_ris n L _ h2, fun g hg => h3 g ((List.mem_filter.1 hg).1)⟩
theorem fits_get {n : ByteArray} {L : List Fl} {f : Fl} (h : goodD L = true) (k : getF n L = some f) : named n = true ∧ fits f = true := by
  obtain ⟨h1, h2⟩ := getF_name k
  have := ((goodD_iff L).1 h).2.2 f h2
  rw [h1] at this
  exact this
end Go.Proofs.YtmikfmcgddmplaaGreatDoor
