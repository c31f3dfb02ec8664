/- Texts in one: StSweptP, StRchP, OMapB. -/
import Derived.Test.YtmikfmcgddmplaaGreatDoorOPick
import Derived.Test.YtmikfmcgddmplaaGreatDoorStOnP
import Derived.Test.YtmikfmcgddmplaaGreatDoorStReachQ
import Derived.Test.YtmikfmcgddmplaaGreatDoorStSearch
import Derived.Test.YtmikfmcgddmplaaGreatDoorIMap
import Derived.Test.YtmikfmcgddmplaaGreatDoorDkMath
/- What Sweep leaves: plain mathematics. -/
namespace Go.Proofs.YtmikfmcgddmplaaGreatDoor
open Go.RowKit

theorem rsn_ext : ∀ (S T : List ByteArray), Rsn S → Rsn T → (∀ x, x ∈ S ↔ x ∈ T) → S = T
  | [], [], _, _, _ => rfl
  | [], y :: T, _, _, h => by have := (h y).2 List.mem_cons_self; cases this
  | x :: S, [], _, _, h => by have := (h x).1 List.mem_cons_self; cases this
  | x :: S, y :: T, hs, ht, h => by
    unfold Rsn at hs ht
    rw [List.pairwise_cons] at hs ht
    obtain ⟨s1, s2⟩ := hs
    obtain ⟨t1, t2⟩ := ht
    have e : x = y := by
      rcases List.mem_cons.1 ((h x).1 List.mem_cons_self) with e | hx
      · exact e
      · rcases List.mem_cons.1 ((h y).2 List.mem_cons_self) with e | hy
        · exact e.symm
        · have h1 := t1 x hx
          have h2 := s1 y hy
          have := ltB_trans h1 h2
          rw [ltB_irr] at this
          cases this
    subst e
    rw [rsn_ext S T s2 t2 fun z => ?_]
    constructor
    · intro hz
      rcases List.mem_cons.1 ((h z).1 (List.mem_cons_of_mem _ hz)) with e | h2
      · subst e
        have := s1 z hz
        rw [ltB_irr] at this
        cases this
      · exact h2
    · intro hz
      rcases List.mem_cons.1 ((h z).2 (List.mem_cons_of_mem _ hz)) with e | h2
      · subst e
        have := t1 z hz
        rw [ltB_irr] at this
        cases this
      · exact h2
theorem rsn_nodup {T : List ByteArray} (h : Rsn T) : T.Nodup := by
  unfold Rsn at h
  exact h.imp fun hab => ltB_ne hab
/-- names that Sweep may take -/
def goes (keep : List ByteArray) (n : ByteArray) : Prop := (idP n).2 = true ∧ memB (idP n).1 keep = false
theorem sweep_keep {keep : List ByteArray} : ∀ (l : List Fl) (a : Dk), goodD a.files = true → ∀ n, ¬ goes keep n → Keep n a (sweepGo keep l a).1
  | [], a, hG, n, _ => keep_refl hG
  | f :: l, a, hG, n, hn => by
    rw [sweepGo]
    split
    · exact sweep_keep l a hG n hn
    · rename_i h1
      split
      · exact sweep_keep l a hG n hn
      · rename_i h2
        have hne : n ≠ f.name := fun e => hn ⟨by rw [e]; simpa using h1, by rw [e]; simpa using h2⟩
        have hk := rm_keep (d := a) (n := f.name) hG hne
        split
        · exact hk
        · exact keep_trans hk (sweep_keep l _ hk.1 n hn)
theorem rm_good {a : Dk} {n : ByteArray} (hG : goodD a.files = true) : goodD (stepP a (rmP a.files n)).1.files = true := by
  have h1 : (⟨Array.replicate (n.size + 1) 0⟩ : ByteArray).size = n.size + 1 := by
    show (Array.replicate (n.size + 1) (0 : UInt8)).size = n.size + 1
    exact Array.size_replicate
  exact (rm_keep (o := ⟨Array.replicate (n.size + 1) 0⟩) hG (fun e => by rw [e] at h1; omega)).1
theorem sweep_good {keep : List ByteArray} : ∀ (l : List Fl) (a : Dk), goodD a.files = true → goodD (sweepGo keep l a).1.files = true
  | [], _, hG => hG
  | f :: l, a, hG => by
    rw [sweepGo]
    split
    · exact sweep_good l a hG
    · split
      · exact sweep_good l a hG
      · split
        · exact rm_good hG
        · exact sweep_good l _ (rm_good hG)
theorem rm_out {a : Dk} {n m : ByteArray} (hG : goodD a.files = true) (h : getF m a.files = none) : getF m (stepP a (rmP a.files n)).1.files = none := by
  by_cases e : m = n
  · subst e
    unfold rmP
    rw [h]
    unfold stepP
    split
    · exact h
    · split
      · exact h
      · exact h
  · rw [(rm_keep (o := m) (n := n) hG e).2]
    exact h
theorem sweep_out {keep : List ByteArray} {m : ByteArray} : ∀ (l : List Fl) (a : Dk), goodD a.files = true → getF m a.files = none → getF m (sweepGo keep l a).1.files = none
  | [], _, _, h => h
  | f :: l, a, hG, h => by
    rw [sweepGo]
    split
    · exact sweep_out l a hG h
    · split
      · exact sweep_out l a hG h
      · split
        · exact rm_out hG h
        · exact sweep_out l _ (rm_good hG) (rm_out hG h)
theorem sweep_gone {keep : List ByteArray} : ∀ (l : List Fl) (a : Dk), goodD a.files = true → (sweepGo keep l a).2 = 0 → ∀ f ∈ l, goes keep f.name → getF f.name (sweepGo keep l a).1.files = none
  | [], _, _, _, f, hf, _ => by cases hf
  | g :: l, a, hG, h0, f, hf, hg => by
    rw [sweepGo] at h0 ⊢
    rcases List.mem_cons.1 hf with rfl | hf
    · rw [if_neg (by rw [hg.1]; simp), if_neg (by rw [hg.2]; simp)] at h0 ⊢
      by_cases he : (stepP a (rmP a.files f.name)).2 = 0
      · rw [if_neg (fun q => q he)] at h0 ⊢
        refine sweep_out l _ (rm_good hG) ?_
        obtain ⟨h1, _, L', h2, h3⟩ := step_yes rm_err he
        obtain ⟨h4, _⟩ := rm_ok h1 h2
        rw [h3, h4]
        show getF f.name (del f.name a.files) = none
        rw [getF_del, if_pos rfl]
      · rw [if_pos he] at h0
        exact absurd h0 he
    · by_cases c1 : (idP g.name).2 = false
      · rw [if_pos c1] at h0 ⊢; exact sweep_gone l a hG h0 f hf hg
      · rw [if_neg c1] at h0 ⊢
        by_cases c2 : memB (idP g.name).1 keep = true
        · rw [if_pos c2] at h0 ⊢; exact sweep_gone l a hG h0 f hf hg
        · rw [if_neg c2] at h0 ⊢
          by_cases he : (stepP a (rmP a.files g.name)).2 = 0
          · rw [if_neg (fun q => q he)] at h0 ⊢
            exact sweep_gone l _ (rm_good hG) h0 f hf hg
          · rw [if_pos he] at h0
            exact absurd h0 he
end Go.Proofs.YtmikfmcgddmplaaGreatDoor

/- What Reach and the document's own Closed answer: both just what can be reached: plain. -/
namespace Go.Proofs.YtmikfmcgddmplaaGreatDoor
open Go.RowKit

section
variable {G : ByteArray → ByteArray × Int} {U : List ByteArray}
/-- what some ids lead to: it lies in all that has them and the links of what is found -/
def Led (G : ByteArray → ByteArray × Int) (U : List ByteArray) (x : ByteArray) : Prop :=
  ∀ S : ByteArray → Prop, (∀ u ∈ U, S u) → (∀ x y, S x → (loadR (G x)).2 = 0 → y ∈ linksL (loadR (G x)).1 → S y) → S x
theorem Led.here {x : ByteArray} (h : x ∈ U) : Led G U x := fun _ h1 _ => h1 x h
theorem Led.link {x y : ByteArray} (h : Led G U x) (h0 : (loadR (G x)).2 = 0) (hy : y ∈ linksL (loadR (G x)).1) : Led G U y := fun S h1 h2 => h2 x y (h S h1 h2) h0 hy
/-- the answer that the document asks -/
def LedSaid (G : ByteArray → ByteArray × Int) (U : List ByteArray) (r : List ByteArray × Int) : Prop :=
  (r = ([], 6) ∧ ∃ P : List ByteArray, P.Nodup ∧ 400 < P.length ∧ ∀ x ∈ P, Led G U x ∧ (loadR (G x)).2 = 0) ∨
  ∃ H : List ByteArray, H.Nodup ∧ H.length ≤ 400 ∧ (∀ x, x ∈ H ↔ Led G U x ∧ (loadR (G x)).2 = 0) ∧
    ((r = ([], 7) ∧ ∃ x, Led G U x ∧ (loadR (G x)).2 = 7) ∨
     (r = ([], 2) ∧ (∀ x, Led G U x → (loadR (G x)).2 ≠ 7) ∧ ∃ x, Led G U x ∧ (loadR (G x)).2 = 2) ∨
     (r = (sortB H, 0) ∧ ∀ x, Led G U x → (loadR (G x)).2 = 0))
theorem led_full {P H : List ByteArray} (hP : P.Nodup) (hl : 400 < P.length) (hR : ∀ x ∈ P, Led G U x ∧ (loadR (G x)).2 = 0) (hH : H.length ≤ 400) (hm : ∀ x, x ∈ H ↔ Led G U x ∧ (loadR (G x)).2 = 0) : False := by
  have := nodup_len2 P H hP (fun x hx => (hm x).2 (hR x hx))
  omega
theorem led_same {r r' : List ByteArray × Int} (h : LedSaid G U r) (h' : LedSaid G U r') : r = r' := by
  rcases h with ⟨rfl, P, p1, p2, p3⟩ | ⟨H, a1, a2, a3, a4⟩
  · rcases h' with ⟨rfl, _⟩ | ⟨H', b1, b2, b3, _⟩
    · rfl
    · exact (led_full p1 p2 p3 b2 b3).elim
  · rcases h' with ⟨rfl, P, p1, p2, p3⟩ | ⟨H', b1, b2, b3, b4⟩
    · exact (led_full p1 p2 p3 a2 a3).elim
    · rcases a4 with ⟨rfl, x, x1, x2⟩ | ⟨rfl, x1, x, x2, x3⟩ | ⟨rfl, x1⟩
      · rcases b4 with ⟨rfl, _⟩ | ⟨rfl, y1, _⟩ | ⟨rfl, y1⟩
        · rfl
        · exact absurd x2 (y1 x x1)
        · rw [y1 x x1] at x2; cases x2
      · rcases b4 with ⟨rfl, y, y1, y2⟩ | ⟨rfl, _⟩ | ⟨rfl, y1⟩
        · exact absurd y2 (x1 y y1)
        · rfl
        · rw [y1 x x2] at x3; cases x3
      · rcases b4 with ⟨rfl, y, y1, y2⟩ | ⟨rfl, _, y, y1, y2⟩ | ⟨rfl, y1⟩
        · rw [x1 y y1] at y2; cases y2
        · rw [x1 y y1] at y2; cases y2
        · have e : sortB H = sortB H' := rsn_ext _ _ (sortB_rsn a1) (sortB_rsn b1) (fun x => by rw [sortB_mem, sortB_mem, a3, b3])
          rw [e]
def okB (G : ByteArray → ByteArray × Int) (x : ByteArray) : Bool := decide ((loadR (G x)).2 = 0)
theorem reachGo_said : ∀ (n : Nat) (V : List ByteArray) (i m ul : Nat) (la wo : Bool), n + i = ul + 30001 → i ≤ V.length → V.length ≤ ul + 64 * m → m ≤ 400 → V.Nodup → (∀ x ∈ V, Led G U x) → (∀ x ∈ U, x ∈ V) →
    (∀ j v, j < i → V[j]? = some v → (loadR (G v)).2 = 0 → ∀ y ∈ linksL (loadR (G v)).1, y ∈ V) → m = ((V.take i).filter (okB G)).length →
    (la = true ↔ ∃ x ∈ V.take i, (loadR (G x)).2 = 7) → (wo = true ↔ ∃ x ∈ V.take i, (loadR (G x)).2 = 2) → LedSaid G U (reachGo G n V i m la wo)
  | 0, V, i, m, ul, la, wo, hn, hi, hV, hm, _, _, _, _, _, _, _ => by omega
  | n + 1, V, i, m, ul, la, wo, hn, hi, hV, hm, hd, hR, hU, hj, hc, hla, hwo => by
    rw [reachGo]
    by_cases hlt : i < V.length
    · rw [if_pos hlt]
      have hx : V[i]? = some V[i] := List.getElem?_eq_getElem hlt
      rw [List.getD_eq_getElem?_getD, hx, Option.getD_some]
      have hmem : V[i] ∈ V := List.getElem_mem hlt
      have htk : V.take (i + 1) = V.take i ++ [V[i]] := List.take_succ_eq_append_getElem hlt
      generalize V[i] = v at *
      have hs := loadR_small (G v)
      by_cases he : (loadR (G v)).2 = 0
      · rw [if_pos he]
        have hok : okB G v = true := decide_eq_true he
        have hf : (V.take (i + 1)).filter (okB G) = (V.take i).filter (okB G) ++ [v] := by rw [htk, List.filter_append, List.filter_cons, hok]; rfl
        by_cases hful : 400 < m + 1
        · rw [if_pos hful]
          refine .inl ⟨rfl, (V.take (i + 1)).filter (okB G), (hd.sublist (List.take_sublist _ _)).filter _, ?_, fun x hx => ?_⟩
          · rw [hf, List.length_append, ← hc]; simp; omega
          · obtain ⟨h1, h2⟩ := List.mem_filter.1 hx
            exact ⟨hR x (List.mem_of_mem_take h1), of_decide_eq_true h2⟩
        · rw [if_neg hful]
          have hl := linksL_len hs.1 hs.2
          have ha := addAll_len (linksL (loadR (G v)).1) V
          obtain ⟨Z, hZ⟩ := addAll_ext (linksL (loadR (G v)).1) V
          have htk2 : (addAll V (linksL (loadR (G v)).1)).take (i + 1) = V.take i ++ [v] := by rw [hZ, List.take_append_of_le_length (by omega), htk]
          refine reachGo_said n _ (i + 1) (m + 1) ul la wo (by omega) (by rw [hZ, List.length_append]; omega) (by omega) (by omega) (addAll_nodup2 _ _ hd) (fun x hx => ?_) (fun x hx => (addAll_mem2 _ _ _).2 (.inl (hU x hx))) (fun j u hj2 hu hu0 y hy => ?_) ?_ ?_ ?_
          · rcases (addAll_mem2 _ _ _).1 hx with h | h
            · exact hR x h
            · exact (hR v hmem).link he h
          · have hu2 : V[j]? = some u := by
              rw [hZ, List.getElem?_append_left (by omega)] at hu
              exact hu
            by_cases e : j = i
            · subst e
              rw [hx] at hu2
              cases hu2
              exact (addAll_mem2 _ _ _).2 (.inr hy)
            · exact (addAll_mem2 _ _ _).2 (.inl (hj j u (by omega) hu2 hu0 y hy))
          · rw [htk2, ← htk, hf, List.length_append, ← hc]; rfl
          · rw [htk2, hla]
            constructor
            · rintro ⟨x, h1, h2⟩; exact ⟨x, List.mem_append_left _ h1, h2⟩
            · rintro ⟨x, h1, h2⟩
              rcases List.mem_append.1 h1 with h | h
              · exact ⟨x, h, h2⟩
              · rw [List.mem_singleton.1 h, he] at h2; cases h2
          · rw [htk2, hwo]
            constructor
            · rintro ⟨x, h1, h2⟩; exact ⟨x, List.mem_append_left _ h1, h2⟩
            · rintro ⟨x, h1, h2⟩
              rcases List.mem_append.1 h1 with h | h
              · exact ⟨x, h, h2⟩
              · rw [List.mem_singleton.1 h, he] at h2; cases h2
      · rw [if_neg he]
        have hok : okB G v = false := decide_eq_false he
        have hf : (V.take (i + 1)).filter (okB G) = (V.take i).filter (okB G) := by rw [htk, List.filter_append, List.filter_cons, hok]; simp
        have hj' : ∀ j u, j < i + 1 → V[j]? = some u → (loadR (G u)).2 = 0 → ∀ y ∈ linksL (loadR (G u)).1, y ∈ V := fun j u hj2 hu hu0 => by
          by_cases e : j = i
          · subst e
            rw [hx] at hu
            cases hu
            exact absurd hu0 he
          · exact hj j u (by omega) hu hu0
        split
        · rename_i h7
          refine reachGo_said n V (i + 1) m ul true wo (by omega) hlt hV hm hd hR hU hj' (by rw [hf]; exact hc) ?_ ?_
          · rw [htk]
            exact ⟨fun _ => ⟨v, List.mem_append_right _ List.mem_cons_self, h7⟩, fun _ => rfl⟩
          · rw [htk, hwo]
            constructor
            · rintro ⟨x, h1, h2⟩; exact ⟨x, List.mem_append_left _ h1, h2⟩
            · rintro ⟨x, h1, h2⟩
              rcases List.mem_append.1 h1 with h | h
              · exact ⟨x, h, h2⟩
              · rw [List.mem_singleton.1 h, h7] at h2; cases h2
        · rename_i h7
          have h2' : (loadR (G v)).2 = 2 := by
            rcases loadR_err (G v) with h | h | h
            · exact absurd h he
            · exact absurd h h7
            · exact h
          refine reachGo_said n V (i + 1) m ul la true (by omega) hlt hV hm hd hR hU hj' (by rw [hf]; exact hc) ?_ ?_
          · rw [htk, hla]
            constructor
            · rintro ⟨x, h1, h2⟩; exact ⟨x, List.mem_append_left _ h1, h2⟩
            · rintro ⟨x, h1, h2⟩
              rcases List.mem_append.1 h1 with h | h
              · exact ⟨x, h, h2⟩
              · rw [List.mem_singleton.1 h] at h2; exact absurd h2 h7
          · rw [htk]
            exact ⟨fun _ => ⟨v, List.mem_append_right _ List.mem_cons_self, h2'⟩, fun _ => rfl⟩
    · rw [if_neg hlt]
      have hil : i = V.length := by omega
      have htk : V.take i = V := by rw [hil, List.take_length]
      rw [htk] at hc hla hwo
      have hVR : ∀ x, Led G U x → x ∈ V := fun x hx => hx (fun y => y ∈ V) hU fun a b ha h0 hb => by
        obtain ⟨j, hjl, rfl⟩ := List.mem_iff_getElem.1 ha
        exact hj j _ (by omega) (List.getElem?_eq_getElem hjl) h0 b hb
      refine .inr ⟨V.filter (okB G), hd.filter _, by omega, fun x => ?_, ?_⟩
      · rw [List.mem_filter]
        exact ⟨fun ⟨h1, h2⟩ => ⟨hR x h1, of_decide_eq_true h2⟩, fun ⟨h1, h2⟩ => ⟨hVR x h1, decide_eq_true h2⟩⟩
      · cases la with
        | true =>
          obtain ⟨x, h1, h2⟩ := hla.1 rfl
          exact .inl ⟨rfl, x, hR x h1, h2⟩
        | false =>
          have h7 : ∀ x, Led G U x → (loadR (G x)).2 ≠ 7 := fun x hx h => by
            have := hla.2 ⟨x, hVR x hx, h⟩
            cases this
          cases wo with
          | true =>
            obtain ⟨x, h1, h2⟩ := hwo.1 rfl
            exact .inr (.inl ⟨rfl, h7, x, hR x h1, h2⟩)
          | false =>
            have h0 : ∀ x, Led G U x → (loadR (G x)).2 = 0 := fun x hx => by
              rcases loadR_err (G x) with h | h | h
              · exact h
              · exact absurd h (h7 x hx)
              · have := hwo.2 ⟨x, hVR x hx, h⟩
                cases this
            refine .inr (.inr ⟨?_, h0⟩)
            have hfl : V.filter (okB G) = V := List.filter_eq_self.2 (fun x hx => decide_eq_true (h0 x (hR x hx)))
            rw [hfl]
            rfl
theorem reach_said : LedSaid G U (reachO G U) := by
  have ha := addAll_len U []
  refine reachGo_said (U.length + 30001) (addAll [] U) 0 0 U.length false false (by omega) (Nat.zero_le _) (by simpa using ha) (by omega) (addAll_nodup2 _ _ List.nodup_nil) (fun x hx => ?_) (fun x hx => (addAll_mem2 _ _ _).2 (.inr hx)) (fun j v hj => absurd hj (by omega)) (by simp) (by simp) (by simp)
  rcases (addAll_mem2 _ _ _).1 hx with h | h
  · cases h
  · exact Led.here h
/-- one level of the document's own Closed: what is found, what is next, whether something lacks, is wrong -/
def lvlO (G : ByteArray → ByteArray × Int) : List ByteArray → List ByteArray → List ByteArray → Bool → Bool → List ByteArray × List ByteArray × Bool × Bool
  | [], had, more, la, wo => (had, more, la, wo)
  | x :: l, had, more, la, wo => if memB x had = true then lvlO G l had more la wo else if (loadR (G x)).2 = 7 then lvlO G l had more true wo else if (loadR (G x)).2 = 2 then lvlO G l had more la true else
    lvlO G l (had ++ [x]) (more ++ linksL (loadR (G x)).1) la wo
/-- level by level -/
def closedGo (G : ByteArray → ByteArray × Int) : Nat → List ByteArray → List ByteArray → Bool → Bool → List ByteArray × Int
  | 0, _, _, _, _ => ([], 0)
  | n + 1, next, had, la, wo => if next = [] then (if la then ([], 7) else if wo then ([], 2) else (sortB had, 0)) else
    if 400 < (lvlO G next had [] la wo).1.length then ([], 6) else
    closedGo G n (lvlO G next had [] la wo).2.1 (lvlO G next had [] la wo).1 (lvlO G next had [] la wo).2.2.1 (lvlO G next had [] la wo).2.2.2
def closedO (G : ByteArray → ByteArray × Int) (U : List ByteArray) : List ByteArray × Int := closedGo G 403 U [] false false
/-- what a level keeps: W: what is still to come of it -/
structure LvOk (G : ByteArray → ByteArray × Int) (U W had more : List ByteArray) (la wo : Bool) : Prop where
  nodup : had.Nodup
  found : ∀ x ∈ had, Led G U x ∧ (loadR (G x)).2 = 0
  next : ∀ x ∈ more, Led G U x
  come : ∀ x ∈ W, Led G U x
  start : ∀ x ∈ U, x ∈ had ∨ x ∈ W ∨ x ∈ more ∨ ((loadR (G x)).2 = 7 ∧ la = true) ∨ ((loadR (G x)).2 = 2 ∧ wo = true)
  links : ∀ v ∈ had, ∀ x ∈ linksL (loadR (G v)).1, x ∈ had ∨ x ∈ W ∨ x ∈ more ∨ ((loadR (G x)).2 = 7 ∧ la = true) ∨ ((loadR (G x)).2 = 2 ∧ wo = true)
  lacks : la = true → ∃ x, Led G U x ∧ (loadR (G x)).2 = 7
  wrong : wo = true → ∃ x, Led G U x ∧ (loadR (G x)).2 = 2
theorem lvl_ok : ∀ (W had more : List ByteArray) (la wo : Bool), LvOk G U W had more la wo →
    LvOk G U [] (lvlO G W had more la wo).1 (lvlO G W had more la wo).2.1 (lvlO G W had more la wo).2.2.1 (lvlO G W had more la wo).2.2.2 ∧ had.length ≤ (lvlO G W had more la wo).1.length ∧
      ((lvlO G W had more la wo).1.length = had.length → (lvlO G W had more la wo).2.1 = more)
  | [], had, more, la, wo, h => ⟨h, Nat.le_refl _, fun _ => rfl⟩
  | x :: l, had, more, la, wo, h => by
    have hRx : Led G U x := h.come x List.mem_cons_self
    have hcome : ∀ y ∈ l, Led G U y := fun y hy => h.come y (List.mem_cons_of_mem _ hy)
    unfold lvlO
    by_cases hm : memB x had = true
    · rw [if_pos hm]
      have hmem := memB_iff.1 hm
      have conv : ∀ y, (y ∈ had ∨ y ∈ x :: l ∨ y ∈ more ∨ ((loadR (G y)).2 = 7 ∧ la = true) ∨ ((loadR (G y)).2 = 2 ∧ wo = true)) → (y ∈ had ∨ y ∈ l ∨ y ∈ more ∨ ((loadR (G y)).2 = 7 ∧ la = true) ∨ ((loadR (G y)).2 = 2 ∧ wo = true)) := fun y hy => by
        rcases hy with h1 | h1 | h1
        · exact .inl h1
        · rcases List.mem_cons.1 h1 with rfl | h1
          · exact .inl hmem
          · exact .inr (.inl h1)
        · exact .inr (.inr h1)
      exact lvl_ok l had more la wo ⟨h.nodup, h.found, h.next, hcome, fun y hy => conv y (h.start y hy), fun v hv y hy => conv y (h.links v hv y hy), h.lacks, h.wrong⟩
    rw [if_neg hm]
    have hnm : x ∉ had := fun q => hm (memB_iff.2 q)
    by_cases h7 : (loadR (G x)).2 = 7
    · rw [if_pos h7]
      have conv : ∀ y, (y ∈ had ∨ y ∈ x :: l ∨ y ∈ more ∨ ((loadR (G y)).2 = 7 ∧ la = true) ∨ ((loadR (G y)).2 = 2 ∧ wo = true)) → (y ∈ had ∨ y ∈ l ∨ y ∈ more ∨ ((loadR (G y)).2 = 7 ∧ true = true) ∨ ((loadR (G y)).2 = 2 ∧ wo = true)) := fun y hy => by
        rcases hy with h1 | h1 | h1 | h1 | h1
        · exact .inl h1
        · rcases List.mem_cons.1 h1 with rfl | h1
          · exact .inr (.inr (.inr (.inl ⟨h7, rfl⟩)))
          · exact .inr (.inl h1)
        · exact .inr (.inr (.inl h1))
        · exact .inr (.inr (.inr (.inl ⟨h1.1, rfl⟩)))
        · exact .inr (.inr (.inr (.inr h1)))
      exact lvl_ok l had more true wo ⟨h.nodup, h.found, h.next, hcome, fun y hy => conv y (h.start y hy), fun v hv y hy => conv y (h.links v hv y hy), fun _ => ⟨x, hRx, h7⟩, h.wrong⟩
    rw [if_neg h7]
    by_cases h2 : (loadR (G x)).2 = 2
    · rw [if_pos h2]
      have conv : ∀ y, (y ∈ had ∨ y ∈ x :: l ∨ y ∈ more ∨ ((loadR (G y)).2 = 7 ∧ la = true) ∨ ((loadR (G y)).2 = 2 ∧ wo = true)) → (y ∈ had ∨ y ∈ l ∨ y ∈ more ∨ ((loadR (G y)).2 = 7 ∧ la = true) ∨ ((loadR (G y)).2 = 2 ∧ true = true)) := fun y hy => by
        rcases hy with h1 | h1 | h1 | h1 | h1
        · exact .inl h1
        · rcases List.mem_cons.1 h1 with rfl | h1
          · exact .inr (.inr (.inr (.inr ⟨h2, rfl⟩)))
          · exact .inr (.inl h1)
        · exact .inr (.inr (.inl h1))
        · exact .inr (.inr (.inr (.inl h1)))
        · exact .inr (.inr (.inr (.inr ⟨h1.1, rfl⟩)))
      exact lvl_ok l had more la true ⟨h.nodup, h.found, h.next, hcome, fun y hy => conv y (h.start y hy), fun v hv y hy => conv y (h.links v hv y hy), h.lacks, fun _ => ⟨x, hRx, h2⟩⟩
    rw [if_neg h2]
    have h0 : (loadR (G x)).2 = 0 := by
      rcases loadR_err (G x) with h | h | h
      · exact h
      · exact absurd h h7
      · exact absurd h h2
    have conv : ∀ y, (y ∈ had ∨ y ∈ x :: l ∨ y ∈ more ∨ ((loadR (G y)).2 = 7 ∧ la = true) ∨ ((loadR (G y)).2 = 2 ∧ wo = true)) → (y ∈ had ++ [x] ∨ y ∈ l ∨ y ∈ more ++ linksL (loadR (G x)).1 ∨ ((loadR (G y)).2 = 7 ∧ la = true) ∨ ((loadR (G y)).2 = 2 ∧ wo = true)) := fun y hy => by
      rcases hy with h1 | h1 | h1 | h1
      · exact .inl (List.mem_append_left _ h1)
      · rcases List.mem_cons.1 h1 with rfl | h1
        · exact .inl (List.mem_append_right _ List.mem_cons_self)
        · exact .inr (.inl h1)
      · exact .inr (.inr (.inl (List.mem_append_left _ h1)))
      · exact .inr (.inr (.inr h1))
    obtain ⟨k1, k2, k3⟩ := lvl_ok l (had ++ [x]) (more ++ linksL (loadR (G x)).1) la wo
      ⟨by rw [List.nodup_append]; exact ⟨h.nodup, by simp, fun a ha b hb e => hnm (by rw [List.mem_singleton.1 hb] at e; rw [← e]; exact ha)⟩,
       fun y hy => (List.mem_append.1 hy).elim (h.found y) (fun q => by rw [List.mem_singleton.1 q]; exact ⟨hRx, h0⟩),
       fun y hy => (List.mem_append.1 hy).elim (h.next y) (fun q => hRx.link h0 q), hcome, fun y hy => conv y (h.start y hy),
       fun v hv y hy => (List.mem_append.1 hv).elim (fun q => conv y (h.links v q y hy)) (fun q => by rw [List.mem_singleton.1 q] at hy; exact .inr (.inr (.inl (List.mem_append_right _ hy)))), h.lacks, h.wrong⟩
    rw [List.length_append, List.length_singleton] at k2
    exact ⟨k1, by omega, fun e => by omega⟩
theorem closedGo_said : ∀ (n : Nat) (next had : List ByteArray) (la wo : Bool), LvOk G U next had [] la wo → had.length ≤ 400 → (next = [] → 1 ≤ n) → (next ≠ [] → 402 ≤ n + had.length) → LedSaid G U (closedGo G n next had la wo)
  | 0, next, had, la, wo, h, hl, h1, h2 => by
    by_cases e : next = []
    · have := h1 e; omega
    · have := h2 e; omega
  | n + 1, next, had, la, wo, h, hl, h1, h2 => by
    rw [closedGo]
    by_cases e : next = []
    · rw [if_pos e]
      subst e
      have hall : ∀ x, Led G U x → x ∈ had ∨ ((loadR (G x)).2 = 7 ∧ la = true) ∨ ((loadR (G x)).2 = 2 ∧ wo = true) := fun x hx => by
        refine hx (fun y => y ∈ had ∨ ((loadR (G y)).2 = 7 ∧ la = true) ∨ ((loadR (G y)).2 = 2 ∧ wo = true)) (fun u hu => ?_) (fun a b ha h0 hb => ?_)
        · rcases h.start u hu with q | q | q | q
          · exact .inl q
          · cases q
          · cases q
          · exact .inr q
        · rcases ha with ha | ha | ha
          · rcases h.links a ha b hb with q | q | q | q
            · exact .inl q
            · cases q
            · cases q
            · exact .inr q
          · rw [ha.1] at h0; cases h0
          · rw [ha.1] at h0; cases h0
      refine .inr ⟨had, h.nodup, hl, fun x => ⟨h.found x, fun ⟨q1, q2⟩ => ?_⟩, ?_⟩
      · rcases hall x q1 with q | q | q
        · exact q
        · rw [q.1] at q2; cases q2
        · rw [q.1] at q2; cases q2
      · cases la with
        | true =>
          obtain ⟨x, q1, q2⟩ := h.lacks rfl
          exact .inl ⟨rfl, x, q1, q2⟩
        | false =>
          have h7 : ∀ x, Led G U x → (loadR (G x)).2 ≠ 7 := fun x hx q => by
            rcases hall x hx with k | k | k
            · rw [(h.found x k).2] at q; cases q
            · cases k.2
            · rw [k.1] at q; cases q
          cases wo with
          | true =>
            obtain ⟨x, q1, q2⟩ := h.wrong rfl
            exact .inr (.inl ⟨rfl, h7, x, q1, q2⟩)
          | false =>
            exact .inr (.inr ⟨rfl, fun x hx => by
              rcases hall x hx with k | k | k
              · exact (h.found x k).2
              · cases k.2
              · cases k.2⟩)
    · rw [if_neg e]
      have hn := h2 e
      obtain ⟨k1, k2, k3⟩ := lvl_ok next had [] la wo h
      generalize lvlO G next had [] la wo = R at *
      obtain ⟨had', more, la', wo'⟩ := R
      simp only at k1 k2 k3 ⊢
      by_cases hful : 400 < had'.length
      · rw [if_pos hful]
        exact .inl ⟨rfl, had', k1.nodup, hful, k1.found⟩
      · rw [if_neg hful]
        refine closedGo_said n more had' la' wo' ⟨k1.nodup, k1.found, (fun x hx => by cases hx), k1.next, fun x hx => ?_, fun v hv x hx => ?_, k1.lacks, k1.wrong⟩ (by omega) (fun _ => by omega) (fun hne => ?_)
        · rcases k1.start x hx with q | q | q | q
          · exact .inl q
          · cases q
          · exact .inr (.inl q)
          · exact .inr (.inr (.inr q))
        · rcases k1.links v hv x hx with q | q | q | q
          · exact .inl q
          · cases q
          · exact .inr (.inl q)
          · exact .inr (.inr (.inr q))
        · have : had'.length ≠ had.length := fun q => hne (k3 q)
          omega
theorem closed_said : LedSaid G U (closedO G U) :=
  closedGo_said 403 U [] false false ⟨List.nodup_nil, (fun x hx => by cases hx), (fun x hx => by cases hx), fun x hx => Led.here hx, fun x hx => .inr (.inl hx), (fun v hv => by cases hv), (fun h => by cases h), (fun h => by cases h)⟩ (by simp) (fun _ => by omega) (fun _ => by simp)
theorem closed_reach : closedO G U = reachO G U := led_same closed_said reach_said
end
end Go.Proofs.YtmikfmcgddmplaaGreatDoor

/- A map of Bools, ranged over. -/
namespace Go.Proofs.YtmikfmcgddmplaaGreatDoor
open Go.RowKit

/-- any of the values -/
def anyT (l : List KV) : Bool := l.any (·.2)
theorem mkEs_mem : ∀ (l : List KV) (i : Nat) (e : MapEntry), e ∈ mkEs i l → ∃ x ∈ l, e.val = .bool x.2 ∧ i ≤ e.born ∧ e.born < i + l.length
  | [], _, _, h => by cases h
  | y :: l, i, e, h => by
    rw [mkEs] at h
    rcases List.mem_cons.1 h with rfl | h
    · exact ⟨y, by simp, rfl, Nat.le_refl _, by simp⟩
    · obtain ⟨x, hx, h1, h2, h3⟩ := mkEs_mem l (i + 1) e h
      exact ⟨x, by simp [hx], h1, by omega, by rw [List.length_cons]; omega⟩
theorem mem_mkEs : ∀ (l : List KV) (i : Nat) (x : KV), x ∈ l → ∃ e ∈ mkEs i l, e.val = .bool x.2
  | [], _, _, h => by cases h
  | y :: l, i, x, h => by
    rw [mkEs]
    rcases List.mem_cons.1 h with rfl | h
    · exact ⟨_, List.mem_cons_self, rfl⟩
    · obtain ⟨e, he, h1⟩ := mem_mkEs l (i + 1) x h
      exact ⟨e, List.mem_cons_of_mem _ he, h1⟩
theorem mkEs_nodup : ∀ (l : List KV) (i : Nat), ((mkEs i l).map (·.born)).Nodup
  | [], _ => List.nodup_nil
  | y :: l, i => by
    rw [mkEs, List.map_cons, List.nodup_cons]
    refine ⟨fun h => ?_, mkEs_nodup l (i + 1)⟩
    obtain ⟨e, he, h1⟩ := List.mem_map.1 h
    obtain ⟨_, _, _, h2, _⟩ := mkEs_mem l (i + 1) e he
    simp only at h1
    omega
theorem anyT_yes {l : List KV} {e : MapEntry} (h : e ∈ mkEs 0 l) (hv : e.val = .bool true) : anyT l = true := by
  obtain ⟨x, hx, h1, _⟩ := mkEs_mem l 0 e h
  rw [hv] at h1
  unfold anyT
  rw [List.any_eq_true]
  exact ⟨x, hx, by simpa using h1.symm⟩
theorem anyT_no {l : List KV} (h : ∀ e ∈ mkEs 0 l, e.val = .bool false) : anyT l = false := by
  unfold anyT
  rw [List.any_eq_false]
  intro x hx
  obtain ⟨e, he, h1⟩ := mem_mkEs l 0 x hx
  rw [h e he] at h1
  have : x.2 = false := by simpa using h1.symm
  simp [this]
/-- an iterator in block r over the map in block b: what it has shown was false -/
def Itr (b r : Nat) (l : List KV) (n : Nat) (W : World) : Prop :=
  ∃ seen : Array Nat, W.heap[r]? = some (.mapIter (some b) l.length seen l.length) ∧ (∀ e ∈ mkEs 0 l, seen.contains e.born = true → e.val = .bool false) ∧ (leftOf (mkEs 0 l).toArray seen).size ≤ n
theorem Itr.start {W : World} {b : Nat} {l : List KV} : Itr b W.heap.size l (leftOf (mkEs 0 l).toArray #[]).size (W.alloc (.mapIter (some b) l.length #[] l.length)) :=
  ⟨#[], heap_alloc_new W _, fun e _ h => by simp at h, Nat.le_refl _⟩
open Go.ChangeMaps (setBlock) in
/-- the iterator's step: the map is through, or an entry comes -/
theorem itr_next {W : World} {b r : Nat} {l : List KV} {n : Nat} (hM : MapAt W b l) (hI : Itr b r l n W) (hr : r ≠ b) :
    (anyT l = false ∧ ∀ ty, (Instr.next (.pointer (some ⟨r, 0, none⟩)) false ty).run Tryz.prog W = .ok (.tuple #[.bool false]) W) ∨
    ∃ (k : Value) (v : Bool) (W' : World), (∀ ty, (Instr.next (.pointer (some ⟨r, 0, none⟩)) false ty).run Tryz.prog W = .ok (.tuple #[.bool true, k, .bool v]) W') ∧
      (Instr.entry (.pointer (some ⟨r, 0, none⟩))).run Tryz.prog W' = .ok (.tuple #[k, .bool v]) W' ∧ MapAt W' b l ∧ W.grownBy W' (some r) ∧ (v = true → anyT l = true) ∧ (v = false → ∃ m, n = m + 1 ∧ Itr b r l m W') := by
  obtain ⟨seen, hit, hsn, hle⟩ := hI
  have hM' : W.heap[b]? = some (.map (mkEs 0 l).toArray l.length) := hM
  rcases run_next_at (P := Tryz.prog) W 0 r b l.length l.length seen (mkEs 0 l).toArray l.length hit hM' (fun x hx => by
      obtain ⟨_, _, _, _, h⟩ := mkEs_mem l 0 x (by simpa using hx)
      omega) (Nat.le_refl _) with ⟨h0, hrun⟩ | ⟨e, he, w1, hw1, hrun⟩
  · left
    have ha := all_seen _ _ h0
    exact ⟨anyT_no fun e he => hsn e he (ha e (by simpa using he)), fun ty => hrun⟩
  · right
    obtain ⟨hmem, hns⟩ := mem_left he
    have hmem' : e ∈ mkEs 0 l := by simpa using hmem
    obtain ⟨x, hx, hv, _⟩ := mkEs_mem l 0 e hmem'
    have hit1 : w1.heap[r]? = some (.mapIter (some b) l.length seen l.length) := by rcases hw1 with rfl | rfl <;> exact hit
    have hM1 : w1.heap[b]? = some (.map (mkEs 0 l).toArray l.length) := by rcases hw1 with rfl | rfl <;> exact hM'
    have hlt : r < w1.heap.size := (Array.getElem?_eq_some_iff.1 hit1).1
    have hit2 : (setBlock w1 r (.mapIter (some b) l.length (seen.push e.born) l.length)).heap[r]? = some (.mapIter (some b) l.length (seen.push e.born) l.length) := by simp [setBlock, hlt]
    have hM2 : (setBlock w1 r (.mapIter (some b) l.length (seen.push e.born) l.length)).heap[b]? = some (.map (mkEs 0 l).toArray l.length) := by
      simp only [setBlock, Array.getElem?_setIfInBounds]
      rw [if_neg hr]
      exact hM1
    have hent := run_entry_at (P := Tryz.prog) _ r b l.length seen (mkEs 0 l).toArray l.length e hit2 hM2 hmem (by simpa using mkEs_nodup l 0)
    have hk : W.grownBy (setBlock w1 r (.mapIter (some b) l.length (seen.push e.born) l.length)) (some r) := by
      have k0 : W.grownBy w1 (some r) := by
        rcases hw1 with rfl | rfl
        · exact World.grownBy.refl _ _
        · exact gb_below (Below.refl _ _).drew
      exact gb_trans k0 gb_map
    rw [hv] at hent hrun
    refine ⟨e.key, x.2, _, fun ty => hrun, hent, hM2, hk, fun h => anyT_yes hmem' (by rw [hv, h]), fun h => ?_⟩
    have hsh := left_shrinks _ _ e he
    refine ⟨n - 1, by omega, seen.push e.born, hit2, fun y hy hc => ?_, by omega⟩
    rw [Array.contains_push] at hc
    simp only [Bool.or_eq_true] at hc
    rcases hc with hc | hc
    · exact hsn y hy hc
    · have hb : y.born = e.born := by simpa using hc
      have : y = e := by
        have f1 := find_born y (mkEs 0 l) (mkEs_nodup l 0) hy
        have f2 := find_born e (mkEs 0 l) (mkEs_nodup l 0) hmem'
        rw [hb, f2] at f1
        simpa using f1.symm
      rw [this, hv, h]
end Go.Proofs.YtmikfmcgddmplaaGreatDoor
