/- Operations of a delta, their bytes and what they make; what two texts have in common; what Make keeps from round to round: plain mathematics. -/
import Derived.Test.YtpblkhdmfmmjmaaDSpec
namespace Go.Proofs.Ytpblkhdmfmmjmaa

inductive DOp where
  | lit (x : List UInt8)
  | cpy (k n : Nat)
def DOp.enc : DOp → List UInt8
  | .lit x => num (2 * x.length) ++ x
  | .cpy k n => num (2 * n + 1) ++ num k
def DOp.out (base : List UInt8) : DOp → List UInt8
  | .lit x => x
  | .cpy k n => (base.drop k).take n
def DOp.ok (base : List UInt8) : DOp → Prop
  | .lit x => 0 < x.length ∧ x.length ≤ 8192
  | .cpy k n => 0 < n ∧ k + n ≤ base.length
def encs : List DOp → List UInt8
  | [] => []
  | o :: L => o.enc ++ encs L
def outs (base : List UInt8) : List DOp → List UInt8
  | [] => []
  | o :: L => o.out base ++ outs base L
theorem encs_app (L M : List DOp) : encs (L ++ M) = encs L ++ encs M := by
  induction L with
  | nil => rfl
  | cons o L ih => rw [List.cons_append, encs, encs, ih, List.append_assoc]
theorem outs_app (base : List UInt8) (L M : List DOp) : outs base (L ++ M) = outs base L ++ outs base M := by
  induction L with
  | nil => rfl
  | cons o L ih => rw [List.cons_append, outs, outs, ih, List.append_assoc]
theorem encs_one (o : DOp) : encs [o] = o.enc := List.append_nil _
theorem outs_one (base : List UInt8) (o : DOp) : outs base [o] = o.out base := List.append_nil _
theorem rdNum_num (n : Nat) (h : n < 4611686018427387904) (r : List UInt8) : rdNum (num n ++ r) = some (n, r) := by
  unfold rdNum
  rw [got_num n h r]
  simp only
  rw [List.drop_left']
  rfl
theorem opD_enc (base : List UInt8) (hb : base.length ≤ 8192) (o : DOp) (ho : o.ok base) (r : List UInt8) : opD base (o.enc ++ r) = (0, o.out base, r) := by
  cases o with
  | lit x =>
    obtain ⟨h1, h2⟩ := ho
    unfold opD DOp.enc DOp.out
    rw [List.append_assoc, rdNum_num _ (by omega)]
    simp only
    rw [if_neg (by omega), show 2 * x.length / 2 = x.length from by omega, if_neg (by rw [List.length_append]; omega), List.take_left', List.drop_left']
    · rfl
    · rfl
  | cpy k n =>
    obtain ⟨h1, h2⟩ := ho
    unfold opD DOp.enc DOp.out
    rw [List.append_assoc, rdNum_num _ (by omega)]
    simp only
    rw [if_pos (by omega), rdNum_num _ (by omega)]
    simp only
    rw [show (2 * n + 1) / 2 = n from by omega, if_neg (by omega)]
theorem enc_pos (o : DOp) : 0 < o.enc.length := by
  cases o with
  | lit x =>
    have := num_pos (2 * x.length)
    rw [DOp.enc, List.length_append]; omega
  | cpy k n =>
    have := num_pos (2 * n + 1)
    rw [DOp.enc, List.length_append]; omega
theorem out_pos (base : List UInt8) (o : DOp) (ho : o.ok base) : 0 < (o.out base).length := by
  cases o with
  | lit x => exact ho.1
  | cpy k n =>
    obtain ⟨h1, h2⟩ := ho
    rw [DOp.out, List.length_take, List.length_drop]
    omega
theorem appD_encs (base : List UInt8) (hb : base.length ≤ 8192) (will : Nat) : ∀ (L : List DOp), (∀ o ∈ L, o.ok base) → ∀ (f : Nat) (t : List UInt8), (encs L).length ≤ f → t.length + (outs base L).length = will →
    appD base will f t (encs L) = (t ++ outs base L, 0)
  | [], _, f, t, _, ht => by
    rw [outs, List.length_nil, Nat.add_zero] at ht
    cases f <;> rw [encs, appD, if_neg (by omega), outs, List.append_nil]
  | o :: L, hL, f, t, hf, ht => by
    have ho := hL o (by simp)
    have h1 := enc_pos o
    have h2 := out_pos base o ho
    have hop := opD_enc base hb o ho (encs L)
    rw [encs, List.length_append] at hf
    rw [outs, List.length_append] at ht
    rw [encs]
    cases f with
    | zero => omega
    | succ f =>
      cases hl : o.enc ++ encs L with
      | nil =>
        have : (o.enc ++ encs L).length = 0 := by rw [hl]; rfl
        rw [List.length_append] at this
        omega
      | cons b l =>
        rw [appD, ← hl, hop]
        simp only
        rw [if_neg (by simp), if_neg (by rintro (h | h); rw [h] at h2; simp at h2; omega), appD_encs base hb will L (fun x hx => hL x (by simp [hx])) f _ (by omega) (by rw [List.length_append]; omega), outs, List.append_assoc]
/-- the bytes of a delta -/
def delta (b t : Nat) (L : List DOp) : List UInt8 := num b ++ (num t ++ encs L)
theorem apply_delta (base target : List UInt8) (hb : base.length ≤ 8192) (ht : target.length ≤ 8192) (L : List DOp) (hL : ∀ o ∈ L, o.ok base) (ho : outs base L = target) :
    applyD base (delta base.length target.length L) = (target, 0) := by
  unfold applyD delta
  rw [rdNum_num _ (by omega)]
  simp only
  rw [rdNum_num _ (by omega)]
  simp only
  rw [if_neg (by simp), if_neg (by omega), appD_encs base hb _ L hL _ [] (Nat.le_refl _) (by rw [ho, List.length_nil, Nat.zero_add]), List.nil_append, ho]
theorem apply_other (base : List UInt8) (b t : Nat) (hb : b ≤ 8192) (ht : t ≤ 8192) (h : b ≠ base.length) (L : List DOp) : applyD base (delta b t L) = ([], 11) := by
  unfold applyD delta
  rw [rdNum_num _ (by omega)]
  simp only
  rw [rdNum_num _ (by omega)]
  simp only
  rw [if_pos h]

/-- how many bytes two texts have in common at their beginnings -/
def lcp : List UInt8 → List UInt8 → Nat
  | a :: x, b :: y => if a = b then lcp x y + 1 else 0
  | [], _ => 0
  | _ :: _, [] => 0
theorem lcp_le : ∀ (a b : List UInt8), lcp a b ≤ a.length ∧ lcp a b ≤ b.length
  | [], _ => ⟨Nat.zero_le _, Nat.zero_le _⟩
  | _ :: _, [] => ⟨Nat.zero_le _, Nat.zero_le _⟩
  | a :: x, b :: y => by
    have h := lcp_le x y
    rw [lcp]
    split
    · exact ⟨Nat.succ_le_succ h.1, Nat.succ_le_succ h.2⟩
    · exact ⟨Nat.zero_le _, Nat.zero_le _⟩
theorem lcp_take : ∀ (a b : List UInt8), a.take (lcp a b) = b.take (lcp a b)
  | [], _ => by rw [lcp]; rfl
  | _ :: _, [] => by rw [lcp]; rfl
  | a :: x, b :: y => by
    rw [lcp]
    split
    · rename_i e
      rw [List.take_succ_cons, List.take_succ_cons, lcp_take x y, e]
    · rfl
theorem lcp_app : ∀ (a m : List UInt8), lcp a (a ++ m) = a.length
  | [], _ => by rw [lcp]; rfl
  | a :: x, m => by rw [List.cons_append, lcp, if_pos rfl, lcp_app x m]; rfl
theorem lcp_ge : ∀ (n : Nat) (a b : List UInt8), n ≤ a.length → n ≤ b.length → a.take n = b.take n → n ≤ lcp a b
  | 0, _, _, _, _, _ => Nat.zero_le _
  | n + 1, [], _, h, _, _ => by simp at h
  | n + 1, _ :: _, [], _, h, _ => by simp at h
  | n + 1, a :: x, b :: y, h1, h2, h3 => by
    rw [List.take_succ_cons, List.take_succ_cons, List.cons.injEq] at h3
    rw [lcp, if_pos h3.1]
    exact Nat.succ_le_succ (lcp_ge n x y (by simpa using h1) (by simpa using h2) h3.2)
theorem lcp_more (a b : List UInt8) (k : Nat) (ha : k < a.length) (hb : k < b.length) (h : a[k] = b[k]) : lcp (a.drop k) (b.drop k) = lcp (a.drop (k + 1)) (b.drop (k + 1)) + 1 := by
  rw [List.drop_eq_getElem_cons ha, List.drop_eq_getElem_cons hb, lcp, if_pos h]
theorem lcp_stop (a b : List UInt8) (k : Nat) (h : ∀ (ha : k < a.length) (hb : k < b.length), a[k] ≠ b[k]) : lcp (a.drop k) (b.drop k) = 0 := by
  by_cases ha : k < a.length
  · by_cases hb : k < b.length
    · rw [List.drop_eq_getElem_cons ha, List.drop_eq_getElem_cons hb, lcp, if_neg (h ha hb)]
    · rw [show b.drop k = [] from List.drop_eq_nil_of_le (by omega), List.drop_eq_getElem_cons ha, lcp]
  · rw [show a.drop k = [] from List.drop_eq_nil_of_le (by omega), lcp]

theorem num_1 (n : Nat) (h : n < 128) : (num n).length ≤ 1 := num_len 0 n (by omega)
theorem num_2 (n : Nat) (h : n < 16384) : (num n).length ≤ 2 := num_len 1 n (by omega)
theorem num_3 (n : Nat) (h : n < 2097152) : (num n).length ≤ 3 := num_len 2 n (by omega)
theorem lit_len (x : List UInt8) (h : x.length ≤ 8192) : (DOp.lit x).enc.length ≤ x.length + 3 := by
  have := num_3 (2 * x.length) (by omega)
  rw [DOp.enc, List.length_append]
  omega
theorem cpy_len (k n : Nat) (h8 : 8 ≤ n) (hn : n ≤ 8192) (hk : k ≤ 8192) : (DOp.cpy k n).enc.length + 3 ≤ n := by
  have h2 := num_2 k (by omega)
  rw [DOp.enc, List.length_append]
  by_cases hs : n < 64
  · have h1 := num_1 (2 * n + 1) (by omega)
    omega
  · have h1 := num_3 (2 * n + 1) (by omega)
    omega
theorem cpy_len0 (n : Nat) (hn : n ≤ 8192) : (DOp.cpy 0 n).enc.length ≤ 4 := by
  have h1 := num_3 (2 * n + 1) (by omega)
  have h2 := num_1 0 (by omega)
  rw [DOp.enc, List.length_append]
  omega

/-- does the target start with the base? -/
def Pre (B T : List UInt8) : Prop := 8 ≤ B.length ∧ B.length ≤ T.length ∧ T.take B.length = B
/-- what Make keeps from round to round -/
structure MI (B T : List UInt8) (L : List DOp) (done at_ : Nat) : Prop where
  ok : ∀ o ∈ L, o.ok B
  outs : outs B L = T.take done
  le : done ≤ at_
  at_le : at_ ≤ T.length
  len : (encs L).length ≤ done
  pre : Pre B T → (done = 0 ∧ at_ = 0) ∨ (B.length ≤ done ∧ (encs L).length + B.length ≤ done + 4)
/-- the operations behind a flush -/
def fl (T : List UInt8) (L : List DOp) (done at_ : Nat) : List DOp := if done < at_ then L ++ [.lit ((T.drop done).take (at_ - done))] else L
theorem mi_start (B T : List UInt8) : MI B T [] 0 0 := ⟨(fun _ h => by cases h), rfl, Nat.le_refl _, Nat.zero_le _, Nat.le_refl _, fun _ => .inl ⟨rfl, rfl⟩⟩
theorem mi_miss {B T : List UInt8} {L : List DOp} {done at_ : Nat} (h : MI B T L done at_) (ha : at_ + 1 ≤ T.length) (hm : Pre B T → at_ ≠ 0) : MI B T L done (at_ + 1) :=
  ⟨h.ok, h.outs, Nat.le_succ_of_le h.le, ha, h.len, fun hp => by
    rcases h.pre hp with ⟨_, h2⟩ | h2
    · exact absurd h2 (hm hp)
    · exact .inr h2⟩
theorem mid_len {T : List UInt8} {d a : Nat} (h : d ≤ a) (ha : a ≤ T.length) : ((T.drop d).take (a - d)).length = a - d := by
  rw [List.length_take, List.length_drop]
  omega
theorem take_mid (T : List UInt8) {d a : Nat} (h : d ≤ a) : T.take d ++ (T.drop d).take (a - d) = T.take a := by
  have e := List.take_append_drop d (T.take a)
  rw [List.take_take, Nat.min_eq_left h, List.drop_take] at e
  exact e
theorem fl_facts {B T : List UInt8} {L : List DOp} {done a : Nat} (hok : ∀ o ∈ L, o.ok B) (ho : outs B L = T.take done) (hle : done ≤ a) (ha : a ≤ T.length) (hT : T.length ≤ 8192) :
    (∀ o ∈ fl T L done a, o.ok B) ∧ outs B (fl T L done a) = T.take a ∧ (encs (fl T L done a)).length ≤ (encs L).length + (a - done) + 3 := by
  unfold fl
  by_cases hd : done < a
  · rw [if_pos hd]
    have hm := mid_len (T := T) hle ha
    refine ⟨?_, ?_, ?_⟩
    · intro o ho
      rcases List.mem_append.1 ho with h | h
      · exact hok o h
      · rw [List.mem_singleton.1 h]
        exact ⟨by rw [hm]; omega, by rw [hm]; omega⟩
    · rw [outs_app, outs_one, ho, DOp.out, take_mid T hle]
    · have := lit_len ((T.drop done).take (a - done)) (by rw [hm]; omega)
      rw [encs_app, encs_one, List.length_append]
      omega
  · rw [if_neg hd]
    obtain rfl : done = a := by omega
    exact ⟨hok, ho, by omega⟩
theorem mi_hit {B T : List UInt8} {L : List DOp} {done a k n : Nat} (h : MI B T L done a) (hB : B.length ≤ 8192) (hT : T.length ≤ 8192) (hn : n = lcp (B.drop k) (T.drop a)) (h8 : 8 ≤ n) (hk : Pre B T → a = 0 → k = 0) :
    MI B T (fl T L done a ++ [.cpy k n]) (a + n) (a + n) ∧ k + n ≤ B.length ∧ a + n ≤ T.length := by
  have hl := lcp_le (B.drop k) (T.drop a)
  rw [← hn, List.length_drop, List.length_drop] at hl
  have h1 : k + n ≤ B.length := by omega
  have h2 : a + n ≤ T.length := by omega
  obtain ⟨f1, f2, f3⟩ := fl_facts h.ok h.outs h.le h.at_le hT
  have hc := cpy_len k n h8 (by omega) (by omega)
  have hd := h.len
  have hle := h.le
  refine ⟨⟨?_, ?_, Nat.le_refl _, h2, ?_, ?_⟩, h1, h2⟩
  · intro o ho
    rcases List.mem_append.1 ho with h | h
    · exact f1 o h
    · rw [List.mem_singleton.1 h]
      exact ⟨by omega, h1⟩
  · have ht := lcp_take (B.drop k) (T.drop a)
    rw [← hn] at ht
    rw [outs_app, outs_one, f2, DOp.out, ht]
    have := take_mid T (d := a) (a := a + n) (by omega)
    rw [Nat.add_sub_cancel_left] at this
    exact this
  · rw [encs_app, encs_one, List.length_append]
    omega
  · intro hp
    refine .inr ?_
    rcases h.pre hp with ⟨e1, e2⟩ | ⟨e1, e2⟩
    · have e3 := hk hp e2
      subst e1 e2 e3
      have hBn : n = B.length := by
        obtain ⟨_, _, p3⟩ := hp
        have e := List.take_append_drop B.length T
        rw [p3] at e
        rw [hn, List.drop_zero, List.drop_zero, ← e, lcp_app]
      have h4 := cpy_len0 n (by omega)
      rw [encs_app, encs_one, List.length_append]
      have hf : fl T L 0 0 = L := by unfold fl; rw [if_neg (by omega)]
      rw [hf]
      omega
    · rw [encs_app, encs_one, List.length_append]
      omega
theorem mi_end {B T : List UInt8} {L : List DOp} {done a : Nat} (h : MI B T L done a) (hT : T.length ≤ 8192) (hm : Pre B T → a ≠ 0) :
    (∀ o ∈ fl T L done T.length, o.ok B) ∧ outs B (fl T L done T.length) = T ∧ (encs (fl T L done T.length)).length ≤ T.length + 3 ∧ (Pre B T → (encs (fl T L done T.length)).length + B.length ≤ T.length + 7) := by
  have hle := h.le
  have hal := h.at_le
  have hd := h.len
  obtain ⟨f1, f2, f3⟩ := fl_facts h.ok h.outs (Nat.le_trans h.le h.at_le) (Nat.le_refl _) hT
  rw [List.take_length] at f2
  refine ⟨f1, f2, by omega, fun hp => ?_⟩
  rcases h.pre hp with ⟨_, e2⟩ | ⟨e1, e2⟩
  · exact absurd e2 (hm hp)
  · omega
theorem delta_len (b t : Nat) (hb : b ≤ 8192) (ht : t ≤ 8192) (L : List DOp) : (delta b t L).length ≤ (encs L).length + 4 := by
  have h1 := num_2 b (by omega)
  have h2 := num_2 t (by omega)
  unfold delta
  rw [List.length_append, List.length_append]
  omega
end Go.Proofs.Ytpblkhdmfmmjmaa
