/- Texts in one: SpMem, SpMath. -/
import Derived.Test.YtchpgngphgjmnaaDoorSpSpec
import Derived.Test.YtchpgngphgjmnaaDoorStNums
import Derived.Test.YtchpgngphgjmnaaDoorOApp
/- Steps in memory. -/
namespace Go.Proofs.YtchpgngphgjmnaaDoor
open Go.RowKit

theorem NumsA.below {w w' : World} {B : Nat} {A : Option Addr} {N : List Int} (h : NumsA w B A N) (b : Below B w w') : NumsA w' B A N := fun k x hx => by
  obtain ⟨ad, e, hb, hc⟩ := h k x hx
  exact ⟨ad, e, hb, (b.cell hb).trans hc⟩
theorem NumsA.mono {w : World} {B B' : Nat} {A : Option Addr} {N : List Int} (h : NumsA w B A N) (hB : B ≤ B') : NumsA w B' A N := fun k x hx => by
  obtain ⟨ad, e, hb, hc⟩ := h k x hx
  exact ⟨ad, e, by omega, hc⟩
theorem NumsA.nil (w : World) (B : Nat) (A : Option Addr) : NumsA w B A [] := fun k x h => by simp at h
theorem NumsA.up {w w' : World} {A : Option Addr} {N : List Int} (h : NumsA w w.heap.size A N) (b : Below w.heap.size w w') : NumsA w' w'.heap.size A N := (h.below b).mono b.size
def iv (x : Int) : Value := .int .i64 x
theorem iv_one (N : List Int) : ∀ u ∈ N.map iv, u.oneCell' = true := fun u hu => by
  obtain ⟨x, _, rfl⟩ := List.mem_map.1 hu
  rfl
theorem NumsA.news {w : World} {B : Nat} {A : Option Addr} {N : List Int} (h : NumsA w B A N) : News w A N.length (N.map iv) := by
  refine ⟨fun e => ?_, fun ad e j u hu => ?_⟩
  · cases N with
    | nil => rfl
    | cons x T =>
      obtain ⟨ad, e1, _⟩ := h 0 x rfl
      rw [e] at e1; cases e1
  · rw [List.getElem?_map] at hu
    cases hx : N[j]? with
    | none => rw [hx] at hu; cases hu
    | some x =>
      rw [hx] at hu
      obtain ⟨ad', e1, _, h2⟩ := h j x hx
      rw [e] at e1; cases e1
      rw [h2]; exact hu
theorem own_nums {w : World} {base : Nat} {v : Value} {N : List Int} (h : w.ownsRow base 3 1 v N.length (N.map iv)) : ∃ A c, v = .slice A N.length c ∧ N.length ≤ c ∧ NumsA w w.heap.size A N := by
  rcases h.2 with ⟨rfl, hn⟩ | ⟨g, cap, cur, rfl, hb, hg, hnc, hcm, hcs, htake⟩
  · obtain rfl : N = [] := List.eq_nil_of_length_eq_zero hn
    exact ⟨none, 0, rfl, Nat.le_refl _, NumsA.nil _ _ _⟩
  · refine ⟨.some ⟨g, 0, none⟩, cap, rfl, hnc, fun k f hk => ⟨_, rfl, ?_⟩⟩
    have hlt : k < N.length := (List.getElem?_eq_some_iff.1 hk).1
    rw [zero_add]
    refine ⟨(Array.getElem?_eq_some_iff.1 hg).1, ?_⟩
    have e : (N.map iv)[k]? = some (.int .i64 f) := by rw [List.getElem?_map, hk]; rfl
    rw [cell_of_row w g _ cur _ (0, 0) hg, ← e, ← htake, List.getElem?_take_of_lt (by omega)]
    simp
/-- where a step's slices lie -/
structure SpAt where
  wa : Option Addr
  wc : Nat
  sa : Option Addr
  sc : Nat
def spArr (s : Sp) (p : SpAt) : Array Value := #[.string s.ref, .string s.old, .string s.new, .slice p.wa s.who.length p.wc, .slice p.sa s.seals.length p.sc]
def spZero : Array Value := #[.string ⟨#[]⟩, .string ⟨#[]⟩, .string ⟨#[]⟩, .slice none 0 0, .slice none 0 0]
def pZ : SpAt := ⟨none, 0, none, 0⟩
/-- a step whose slices lie in blocks below B -/
structure SpIn (w : World) (B : Nat) (s : Sp) (p : SpAt) : Prop where
  nums : NumsA w B p.wa s.who
  txs : Txs w B p.sa s.seals
  wroom : s.who.length ≤ p.wc
  sroom : s.seals.length ≤ p.sc
theorem SpIn.below {w w' : World} {B : Nat} {s : Sp} {p : SpAt} (h : SpIn w B s p) (b : Below B w w') : SpIn w' B s p := ⟨h.nums.below b, h.txs.below b, h.wroom, h.sroom⟩
theorem SpIn.mono {w : World} {B B' : Nat} {s : Sp} {p : SpAt} (h : SpIn w B s p) (hB : B ≤ B') : SpIn w B' s p := ⟨h.nums.mono hB, h.txs.mono hB, h.wroom, h.sroom⟩
theorem SpIn.up {w w' : World} {s : Sp} {p : SpAt} (h : SpIn w w.heap.size s p) (b : Below w.heap.size w w') : SpIn w' w'.heap.size s p := (h.below b).mono b.size
theorem spZ_in (w : World) (B : Nat) : SpIn w B spZ pZ := ⟨NumsA.nil _ _ _, Txs.nil _ _ _, Nat.le_refl _, Nat.le_refl _⟩
theorem spArr_one (s : Sp) (p : SpAt) : (spArr s p).all (·.oneCell') = true := by
  unfold spArr
  rw [Array.all_eq_true_iff_forall_mem]
  intro v hv
  simp at hv
  rcases hv with rfl | rfl | rfl | rfl | rfl <;> rfl
theorem spArr_size (s : Sp) (p : SpAt) : (spArr s p).size = 5 := rfl
theorem spInfo (s : Sp) (p : SpAt) : (Tryd.prog.info? 25).map (·.size) = some (spArr s p).size := by
  rw [spArr_size]
  kernel_rfl
theorem info_int : (Tryd.prog.info? 3).map (fun i => (i.zero, i.size, i.bytes)) = some (some (.int .i64 0), 1, 8) := by kernel_rfl
/-- texts and numbers that memory bears -/
structure SpSz (s : Sp) : Prop where
  who : s.who.length * 8 ≤ 140737488351232
  seals : s.seals.length * 16 ≤ 140737488351232
  ref : s.ref.size ≤ 140737488351232
  old : s.old.size ≤ 140737488351232
  new : s.new.size ≤ 140737488351232
  each : ∀ t ∈ s.seals, t.size ≤ 140737488351232
end Go.Proofs.YtchpgngphgjmnaaDoor

/- Who seals, in order: plain. -/
namespace Go.Proofs.YtchpgngphgjmnaaDoor
open Go.RowKit

def risI : Int → List Int → Prop
  | _, [] => True
  | b, x :: l => b < x ∧ risI x l
theorem risI_lt : ∀ {l : List Int} {b : Int}, risI b l → ∀ x ∈ l, b < x
  | y :: l, b, h, x, hx => by
    rcases List.mem_cons.1 hx with rfl | hx
    · exact h.1
    · exact Int.lt_trans h.1 (risI_lt h.2 x hx)
theorem lowI_le (x : Int) : ∀ l : List Int, lowI x l ≤ l.length
  | [] => Nat.le_refl _
  | y :: l => by
    have := lowI_le x l
    unfold lowI
    split
    · simp; omega
    · simp
theorem lowI_split (x : Int) : ∀ (l : List Int) (b : Int), risI b l → ∀ (k : Nat) (f : Int), l[k]? = some f → (f < x ↔ k < lowI x l)
  | [], _, _, k, f, hk => by simp at hk
  | g :: l, b, h, k, f, hk => by
    unfold lowI
    cases k with
    | zero =>
      simp at hk
      subst hk
      by_cases hg : g < x <;> simp [hg]
    | succ k =>
      rw [List.getElem?_cons_succ] at hk
      have ih := lowI_split x l g h.2 k f hk
      by_cases hg : g < x
      · simp [hg, ih]
      · have h1 := risI_lt h.2 f (List.mem_of_getElem? hk)
        simp only [hg, if_false, Nat.not_lt_zero, iff_false]
        omega
theorem lowI_mem (x : Int) : ∀ (l : List Int) (b : Int), risI b l → (x ∈ l ↔ l[lowI x l]? = some x)
  | [], _, _ => by simp
  | g :: l, b, h => by
    have ih := lowI_mem x l g h.2
    unfold lowI
    by_cases hg : g < x
    · have hne : ¬ x = g := by omega
      simp only [hg, if_true, List.mem_cons, hne, false_or, List.getElem?_cons_succ]
      exact ih
    · simp only [hg, if_false, List.mem_cons, List.getElem?_cons_zero, Option.some.injEq]
      constructor
      · rintro (rfl | hm)
        · rfl
        · have := risI_lt h.2 x hm
          omega
      · exact fun e => .inl e.symm
theorem gdS_ris : ∀ (l : List Sg) (b : Int), gdS b l = 0 → risI b (l.map Prod.fst)
  | [], _, _ => trivial
  | x :: l, b, h => by
    have h1 := gdS_low (x :: l) b h x List.mem_cons_self
    have h2 : gdS x.1 l = 0 := by
      rw [gdS] at h
      split at h
      · cases h
      · split at h
        · cases h
        · exact h
    exact ⟨h1.1, gdS_ris l x.1 h2⟩
theorem prs_fst {s : Sp} (h : s.seals.length = s.who.length) : s.prs.map Prod.fst = s.who := by
  unfold Sp.prs
  rw [List.map_fst_zip]
  omega
theorem prs_snd {s : Sp} (h : s.seals.length = s.who.length) : s.prs.map Prod.snd = s.seals := by
  unfold Sp.prs
  rw [List.map_snd_zip]
  omega
theorem good_ris {s : Sp} (h : spGood s = 0) : risI (-1) s.who := by
  obtain ⟨_, _, hl, hg⟩ := spGood_ok h
  have := gdS_ris _ _ hg
  rwa [prs_fst hl] at this
/-- a signer's seal put in its place -/
def putP (x : Int) (t : ByteArray) : List Sg → List Sg
  | [] => [(x, t)]
  | y :: l => if y.1 < x then y :: putP x t l else (x, t) :: y :: l
theorem putP_cut (x : Int) (t : ByteArray) : ∀ l : List Sg, putP x t l = l.take (lowI x (l.map Prod.fst)) ++ (x, t) :: l.drop (lowI x (l.map Prod.fst))
  | [] => rfl
  | y :: l => by
    have ih := putP_cut x t l
    rw [List.map_cons, putP, lowI]
    by_cases h : y.1 < x
    · rw [if_pos h, if_pos h, List.take_succ_cons, List.drop_succ_cons, List.cons_append, ← ih]
    · rw [if_neg h, if_neg h]; rfl
theorem putP_len (x : Int) (t : ByteArray) : ∀ l : List Sg, (putP x t l).length = l.length + 1
  | [] => rfl
  | y :: l => by
    unfold putP
    split
    · rw [List.length_cons, putP_len x t l, List.length_cons]
    · rfl
theorem putP_good (x : Int) (t : ByteArray) (hx : x ≤ 7) (ht : t.size = 32) : ∀ (l : List Sg) (b : Int), gdS b l = 0 → b < x → (∀ y ∈ l, y.1 ≠ x) → gdS b (putP x t l) = 0
  | [], b, h, hb, _ => by
    rw [putP, gdS, if_neg (by simp only; omega), if_neg (by simp [ht])]
    rfl
  | y :: l, b, h, hb, hn => by
    have h1 := gdS_low (y :: l) b h y List.mem_cons_self
    have h2 : gdS y.1 l = 0 := by
      rw [gdS, if_neg (by omega), if_neg (by simp [h1.2.2])] at h
      exact h
    have hy := hn y List.mem_cons_self
    unfold putP
    by_cases hlt : y.1 < x
    · rw [if_pos hlt, gdS, if_neg (by omega), if_neg (by simp [h1.2.2])]
      exact putP_good x t hx ht l y.1 h2 hlt (fun z hz => hn z (List.mem_cons_of_mem _ hz))
    · rw [if_neg hlt, gdS, if_neg (by simp only; omega), if_neg (by simp [ht]), gdS, if_neg (by simp only; omega), if_neg (by simp [h1.2.2])]
      exact h2
theorem putP_comm (a b : Int) (s t : ByteArray) (h : a ≠ b) : ∀ l : List Sg, putP a s (putP b t l) = putP b t (putP a s l)
  | [] => by
    by_cases h1 : b < a <;> by_cases h2 : a < b <;> simp [putP, h1, h2] <;> omega
  | y :: l => by
    have ih := putP_comm a b s t h l
    by_cases h1 : y.1 < b <;> by_cases h2 : y.1 < a <;> by_cases h3 : b < a <;> by_cases h4 : a < b <;> simp [putP, h1, h2, h3, h4, ih] <;> omega
theorem putP_mem (x : Int) (t : ByteArray) : ∀ (l : List Sg) (z : Sg), z ∈ putP x t l ↔ z = (x, t) ∨ z ∈ l
  | [], z => by simp [putP]
  | y :: l, z => by
    unfold putP
    split
    · rw [List.mem_cons, putP_mem x t l z, List.mem_cons]
      constructor
      · rintro (h | h | h)
        · exact .inr (.inl h)
        · exact .inl h
        · exact .inr (.inr h)
      · rintro (h | h | h)
        · exact .inr (.inl h)
        · exact .inl h
        · exact .inr (.inr h)
    · rw [List.mem_cons, List.mem_cons]
theorem map_cut {α β : Type} (f : α → β) (l : List α) (k : Nat) (x : α) : (l.take k ++ x :: l.drop k).map f = (l.map f).take k ++ f x :: (l.map f).drop k := by
  rw [List.map_append, List.map_cons, List.map_take, List.map_drop]
/-- a step told by its pairs -/
def ofP (s : Sp) (P : List Sg) : Sp := { s with who := P.map Prod.fst, seals := P.map Prod.snd }
theorem ofP_prs (s : Sp) (P : List Sg) : (ofP s P).prs = P := by
  unfold ofP Sp.prs
  simp only
  induction P with
  | nil => rfl
  | cons x l ih => rw [List.map_cons, List.map_cons, List.zip_cons_cons, ih]
theorem ofP_same {s : Sp} (h : s.seals.length = s.who.length) : ofP s s.prs = s := by
  unfold ofP
  rw [prs_fst h, prs_snd h]
theorem spPut_of {s : Sp} (h : s.seals.length = s.who.length) (x : Int) (t : ByteArray) : spPut s x t = ofP s (putP x t s.prs) := by
  unfold spPut ofP
  rw [putP_cut, map_cut, map_cut, prs_fst h, prs_snd h]
theorem ofP_good {s : Sp} {P : List Sg} (hf : spForm s = true) (hl : P.length ≤ 8) (h : gdS (-1) P = 0) : spGood (ofP s P) = 0 := by
  unfold spGood
  have hf2 : spForm (ofP s P) = true := hf
  rw [hf2, ofP_prs]
  have e1 : (ofP s P).who.length = P.length := List.length_map _
  have e2 : (ofP s P).seals.length = P.length := List.length_map _
  rw [e1, e2, if_neg (by simp), if_neg (by omega)]
  exact h
theorem gdS_len {l : List Sg} (h : gdS (-1) l = 0) : l.length ≤ 8 := by
  rcases gdS_count l (-1) h (Int.le_refl _) with h1 | h1
  · omega
  · subst h1; exact Nat.zero_le _
/-- a signer is put to a valid step: it stays valid -/
theorem put_good {s : Sp} (h : spGood s = 0) {x : Int} {t : ByteArray} (h0 : 0 ≤ x) (hx : x ≤ 7) (ht : t.size = 32) (hn : x ∉ s.who) : spGood (spPut s x t) = 0 ∧ (spPut s x t).prs = putP x t s.prs ∧ (spPut s x t).who.length = s.who.length + 1 ∧ (spPut s x t).seals.length = s.who.length + 1 := by
  obtain ⟨hf, _, hl, hg⟩ := spGood_ok h
  have hn2 : ∀ y ∈ s.prs, y.1 ≠ x := fun y hy e => hn (by
    rw [← prs_fst hl]
    exact List.mem_map.2 ⟨y, hy, e⟩)
  have h1 := putP_good x t hx ht s.prs (-1) hg (by omega) hn2
  rw [spPut_of hl]
  have e1 : (ofP s (putP x t s.prs)).who.length = s.who.length + 1 := by
    show (List.map _ _).length = _
    rw [List.length_map, putP_len, prs_len hl]
  have e2 : (ofP s (putP x t s.prs)).seals.length = s.who.length + 1 := by
    show (List.map _ _).length = _
    rw [List.length_map, putP_len, prs_len hl]
  exact ⟨ofP_good hf (gdS_len h1) h1, ofP_prs _ _, e1, e2⟩
theorem put_who {s : Sp} (hl : s.seals.length = s.who.length) (x : Int) (t : ByteArray) (y : Int) : y ∈ (spPut s x t).who ↔ y = x ∨ y ∈ s.who := by
  rw [spPut_of hl]
  show y ∈ (putP x t s.prs).map Prod.fst ↔ _
  rw [List.mem_map, ← prs_fst hl, List.mem_map]
  constructor
  · rintro ⟨z, hz, rfl⟩
    rcases (putP_mem x t s.prs z).1 hz with rfl | h
    · exact .inl rfl
    · exact .inr ⟨z, h, rfl⟩
  · rintro (rfl | ⟨z, hz, rfl⟩)
    · exact ⟨(y, t), (putP_mem _ t s.prs _).2 (.inl rfl), rfl⟩
    · exact ⟨z, (putP_mem x t s.prs z).2 (.inr hz), rfl⟩
end Go.Proofs.YtchpgngphgjmnaaDoor
