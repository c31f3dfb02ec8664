/- Texts in one: Inf, WNum. -/
import Derived.Test.YtmikfmcgddmplaaGreatDoorProg
import Derived.Test.YtmikfmcgddmplaaGreatDoorMem
import Derived.WalkKit
/- What the program's text lays down of a byte: its zero, its cells, its bytes. -/
namespace Go.Proofs.YtmikfmcgddmplaaGreatDoor
open Go.RowKit

theorem info_u8 : (Tryz.prog.info? 5).map (fun i => (i.zero, i.size, i.bytes)) = some (some (.int .u8 0), 1, 1) := by kernel_rfl
end Go.Proofs.YtmikfmcgddmplaaGreatDoor

/- Plain mathematics of the encoding of numbers: groups of seven bits, the lowest first. No program is named here. -/
namespace Go.Proofs.YtmikfmcgddmplaaGreatDoor

/-- the bytes of a number -/
def num (n : Nat) : List UInt8 := if n < 128 then [UInt8.ofNat n] else UInt8.ofNat (n % 128 + 128) :: num (n / 128)
termination_by n
decreasing_by omega

theorem num_small (n : Nat) (h : n < 128) : num n = [UInt8.ofNat n] := by rw [num, if_pos h]
theorem num_great (n : Nat) (h : 128 ≤ n) : num n = UInt8.ofNat (n % 128 + 128) :: num (n / 128) := by rw [num, if_neg (by omega)]
theorem num_pos (n : Nat) : 1 ≤ (num n).length := by
  rw [num]; split <;> simp
theorem num_len : ∀ (k n : Nat), n < 128 ^ (k + 1) → (num n).length ≤ k + 1
  | 0, n, h => by rw [num_small n (by simpa using h)]; simp
  | k + 1, n, h => by
    by_cases hs : n < 128
    · rw [num_small n hs]; simp
    · rw [num_great n (by omega)]
      have := num_len k (n / 128) (by rw [Nat.div_lt_iff_lt_mul (by decide)]; rw [Nat.pow_succ] at h; exact h)
      simp; omega
theorem num_len9 (n : Nat) (h : n < 4611686018427387904) : (num n).length ≤ 9 := num_len 8 n (by omega)
theorem num_len3 (n : Nat) (h : n ≤ 4096) : (num n).length ≤ 3 := num_len 2 n (by omega)

/-- the number of bytes, of each its seven low bits -/
def val : List UInt8 → Nat
  | [] => 0
  | b :: l => b.toNat % 128 + 128 * val l
theorem val_snoc (l : List UInt8) (b : UInt8) : val (l ++ [b]) = val l + b.toNat % 128 * 128 ^ l.length := by
  induction l with
  | nil => simp [val]
  | cons a l ih => rw [List.cons_append, val, ih, val, List.length_cons, Nat.pow_succ, Nat.mul_add, Nat.add_assoc, Nat.mul_left_comm, Nat.mul_comm 128 (128 ^ _)]
theorem val_lt (l : List UInt8) : val l < 128 ^ l.length := by
  induction l with
  | nil => simp [val]
  | cons a l ih =>
    rw [val, List.length_cons, Nat.pow_succ]
    have : a.toNat % 128 < 128 := Nat.mod_lt _ (by decide)
    omega

/-- bytes that end: all but the last are 128 or more -/
def ended : List UInt8 → Prop
  | [] => False
  | [b] => b.toNat < 128
  | b :: l => 128 ≤ b.toNat ∧ ended l
theorem ended_cons (b c : UInt8) (l : List UInt8) : ended (b :: c :: l) ↔ 128 ≤ b.toNat ∧ ended (c :: l) := by simp [ended]
/-- the last byte -/
def lastOf (l : List UInt8) : Nat := (l.getLastD 0).toNat
theorem lastOf_cons (b c : UInt8) (l : List UInt8) : lastOf (b :: c :: l) = lastOf (c :: l) := by simp [lastOf, List.getLastD]
theorem lastOf_snoc (l : List UInt8) (b : UInt8) : lastOf (l ++ [b]) = b.toNat := by simp [lastOf]
theorem ended_snoc (l : List UInt8) (b : UInt8) (hl : ∀ x ∈ l, 128 ≤ x.toNat) (hb : b.toNat < 128) : ended (l ++ [b]) := by
  induction l with
  | nil => simpa [ended] using hb
  | cons a l ih =>
    have h1 := ih (fun x hx => hl x (by simp [hx]))
    have h2 := hl a (by simp)
    cases l with
    | nil => exact ⟨h2, h1⟩
    | cons c l => exact ⟨h2, h1⟩

theorem num_ended (n : Nat) : ended (num n) ∧ ((num n).length = 1 ∨ lastOf (num n) ≠ 0) ∧ val (num n) = n := by
  induction n using num.induct with
  | case1 n h =>
    rw [num_small n h]
    have e : (UInt8.ofNat n).toNat = n := by rw [UInt8.toNat_ofNat']; omega
    refine ⟨by simpa [ended, e] using h, .inl rfl, ?_⟩
    simp only [val]; omega
  | case2 n h ih =>
    rw [num_great n (by omega)]
    have e : (UInt8.ofNat (n % 128 + 128)).toNat = n % 128 + 128 := by rw [UInt8.toNat_ofNat']; omega
    obtain ⟨h1, h2, h3⟩ := ih
    have hne : ∃ c l, num (n / 128) = c :: l := by
      cases hq : num (n / 128) with
      | nil => rw [hq] at h1; exact h1.elim
      | cons c l => exact ⟨c, l, rfl⟩
    obtain ⟨c, l, hq⟩ := hne
    rw [hq] at h1 h2 h3 ⊢
    refine ⟨⟨by omega, h1⟩, .inr ?_, ?_⟩
    · rw [lastOf_cons]
      rcases h2 with h2 | h2
      · have hl : l = [] := List.eq_nil_of_length_eq_zero (by simpa using h2)
        subst hl
        simp only [val] at h3
        simp only [lastOf, List.getLastD_cons]
        show c.toNat ≠ 0
        omega
      · exact h2
    · rw [val, e, h3]; omega

theorem val_ended : ∀ (l : List UInt8), ended l → (l.length = 1 ∨ lastOf l ≠ 0) → num (val l) = l ∧ (1 < l.length → 0 < val l)
  | [], h, _ => h.elim
  | [b], h, _ => by
    have hb : b.toNat < 128 := h
    refine ⟨?_, fun h => by simp at h⟩
    rw [val, val, num_small _ (by omega)]
    congr 1
    apply UInt8.toNat_inj.1
    rw [UInt8.toNat_ofNat']; omega
  | b :: c :: l, h, h2 => by
    obtain ⟨hb, hc⟩ := (ended_cons b c l).1 h
    have hz : lastOf (c :: l) ≠ 0 := by
      rcases h2 with h2 | h2
      · simp at h2
      · rwa [lastOf_cons] at h2
    obtain ⟨i1, i2⟩ := val_ended (c :: l) hc (.inr hz)
    have hp : 0 < val (c :: l) := by
      cases l with
      | nil =>
        have hc' : c.toNat < 128 := hc
        have : c.toNat ≠ 0 := by simpa [lastOf] using hz
        simp only [val]; omega
      | cons d l => exact i2 (by simp)
    have hbl := b.toNat_lt
    refine ⟨?_, fun _ => by rw [val]; omega⟩
    rw [val, num_great _ (by omega), show (b.toNat % 128 + 128 * val (c :: l)) / 128 = val (c :: l) from by omega, i1]
    congr 1
    apply UInt8.toNat_inj.1
    rw [UInt8.toNat_ofNat']; omega

/-- the bytes up to the first below 128 -/
def lead : List UInt8 → Option (List UInt8)
  | [] => none
  | b :: l => if b.toNat < 128 then some [b] else (lead l).map (b :: ·)
theorem lead_ended : ∀ (l r : List UInt8), ended l → lead (l ++ r) = some l
  | [], _, h => h.elim
  | [b], r, h => by
    have hb : b.toNat < 128 := h
    simp [lead, hb]
  | b :: c :: l, r, h => by
    obtain ⟨hb, hc⟩ := (ended_cons b c l).1 h
    rw [List.cons_append, lead, if_neg (by omega), lead_ended (c :: l) r hc]; rfl
theorem lead_open : ∀ (l : List UInt8), (∀ x ∈ l, 128 ≤ x.toNat) → lead l = none
  | [], _ => rfl
  | b :: l, h => by
    have hb := h b (by simp)
    rw [lead, if_neg (by omega), lead_open l (fun x hx => h x (by simp [hx]))]; rfl
theorem lead_some : ∀ (l p : List UInt8), lead l = some p → ended p ∧ ∃ r, l = p ++ r
  | [], _, h => by cases h
  | b :: l, p, h => by
    rw [lead] at h
    split at h
    · cases h; exact ⟨‹_›, l, rfl⟩
    · obtain ⟨q, hq, rfl⟩ := Option.map_eq_some_iff.1 h
      obtain ⟨h1, r, h2⟩ := lead_some l q hq
      refine ⟨?_, r, by rw [h2]; rfl⟩
      cases q with
      | nil => exact h1.elim
      | cons c q => exact ⟨by omega, h1⟩

/-- what Get finds: the number and how many bytes it has -/
def got (l : List UInt8) : Option (Nat × Nat) :=
  match lead (l.take 9) with
  | none => none
  | some p => if (1 < p.length ∧ lastOf p = 0) ∨ 4611686018427387904 ≤ val p then none else some (val p, p.length)

theorem got_num (n : Nat) (h : n < 4611686018427387904) (r : List UInt8) : got (num n ++ r) = some (n, (num n).length) := by
  obtain ⟨h1, h2, h3⟩ := num_ended n
  have hl := num_len9 n h
  unfold got
  rw [List.take_append, List.take_of_length_le hl, lead_ended _ _ h1]
  simp only
  rw [if_neg, h3]
  rw [h3]
  have := num_pos n
  rintro (⟨h4, h5⟩ | h4)
  · rcases h2 with h2 | h2
    · omega
    · exact h2 h5
  · omega
theorem got_some (l : List UInt8) (n k : Nat) (h : got l = some (n, k)) : n < 4611686018427387904 ∧ num n = l.take k ∧ 1 ≤ k ∧ k ≤ 9 ∧ k ≤ l.length := by
  unfold got at h
  split at h
  · cases h
  · rename_i p hp
    obtain ⟨h1, r, h2⟩ := lead_some _ _ hp
    split at h
    · cases h
    · rename_i hc
      simp only [Option.some.injEq, Prod.mk.injEq] at h
      obtain ⟨rfl, rfl⟩ := h
      have hlen : p.length ≤ 9 ∧ p.length ≤ l.length := by
        have e : (l.take 9).length = p.length + r.length := by rw [h2]; simp
        rw [List.length_take] at e
        omega
      have hpos : 1 ≤ p.length := by
        cases p with
        | nil => exact h1.elim
        | cons => simp
      refine ⟨by omega, ?_, hpos, hlen.1, hlen.2⟩
      rw [(val_ended p h1 (by
        by_cases h0 : lastOf p = 0
        · exact .inl (by omega)
        · exact .inr h0)).1]
      have e2 : l.take p.length = (l.take 9).take p.length := by rw [List.take_take, Nat.min_eq_left hlen.1]
      rw [e2, h2, List.take_left']
      rfl
theorem ended_take (l : List UInt8) (h : ended l) (j : Nat) (hj : j < l.length) : ∀ x ∈ l.take j, 128 ≤ x.toNat := by
  induction l generalizing j with
  | nil => exact h.elim
  | cons b l ih =>
    cases j with
    | zero => intro x hx; simp at hx
    | succ j =>
      cases l with
      | nil => simp at hj
      | cons c l =>
        obtain ⟨hb, hc⟩ := (ended_cons b c l).1 h
        intro x hx
        rw [List.take_succ_cons, List.mem_cons] at hx
        rcases hx with rfl | hx
        · exact hb
        · exact ih hc j (by simpa using hj) x hx
theorem got_cut (n j : Nat) (hj : j < (num n).length) : got ((num n).take j) = none := by
  obtain ⟨h1, _, _⟩ := num_ended n
  have h := ended_take _ h1 j hj
  unfold got
  rw [lead_open _ (fun x hx => h x (List.mem_of_mem_take hx))]
end Go.Proofs.YtmikfmcgddmplaaGreatDoor
