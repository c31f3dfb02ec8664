/- Rows of numbers and texts: what a writer makes of them, and that a reader gives them back. Plain mathematics. -/
import Derived.Test.YtpfafgmafgfokaaWBack
namespace Go.Proofs.Ytpfafgmafgfokaa

def numO (n : Option Int) (o : Option ByteArray) : Option ByteArray :=
  match n with
  | none => o
  | some n => if 0 ≤ n ∧ n < 4611686018427387904 then o.map (· ++ bs (num n.toNat)) else none
def textO (t o : Option ByteArray) : Option ByteArray :=
  match t with
  | none => o
  | some t => if t.size ≤ 4096 then o.map (· ++ (bs (num t.size) ++ t)) else none
/-- what a writer holds behind k rounds; none: an error -/
def acc (N : List Int) (T : List ByteArray) : Nat → Option ByteArray
  | 0 => some ⟨#[]⟩
  | k + 1 => textO T[k]? (numO N[k]? (acc N T k))
/-- the bytes of a round -/
def row (N : List Int) (T : List ByteArray) (k : Nat) : List UInt8 :=
  (match N[k]? with | some n => num n.toNat | none => []) ++ (match T[k]? with | some t => num t.size ++ t.data.toList | none => [])
def rowsTo (N : List Int) (T : List ByteArray) : Nat → List UInt8
  | 0 => []
  | k + 1 => rowsTo N T k ++ row N T k
def goodAt (N : List Int) (T : List ByteArray) (k : Nat) : Prop :=
  (∀ n, N[k]? = some n → 0 ≤ n ∧ n < 4611686018427387904) ∧ (∀ t, T[k]? = some t → t.size ≤ 4096)

theorem acc_some (N : List Int) (T : List ByteArray) : ∀ (k : Nat) (s : ByteArray), acc N T k = some s → s.data.toList = rowsTo N T k ∧ ∀ i, i < k → goodAt N T i
  | 0, s, h => by
    simp only [acc, Option.some.injEq] at h
    subst h
    exact ⟨rfl, fun i hi => by omega⟩
  | k + 1, s, h => by
    unfold acc at h
    have key : ∃ s0, acc N T k = some s0 ∧ s.data.toList = s0.data.toList ++ row N T k ∧ goodAt N T k := by
      unfold row goodAt
      cases hn : N[k]? with
      | none =>
        rw [hn] at h
        simp only [numO] at h
        cases ht : T[k]? with
        | none =>
          rw [ht] at h
          exact ⟨s, h, by simp, by simp, by simp⟩
        | some t =>
          rw [ht] at h
          simp only [textO] at h
          split at h
          · obtain ⟨s0, h0, rfl⟩ := Option.map_eq_some_iff.1 h
            exact ⟨s0, h0, by rw [append_list, append_list, bs_list]; simp, by simp, fun t' e => by cases e; assumption⟩
          · cases h
      | some n =>
        rw [hn] at h
        simp only [numO] at h
        split at h
        · rename_i hgood
          cases ht : T[k]? with
          | none =>
            rw [ht] at h
            simp only [textO] at h
            obtain ⟨s0, h0, rfl⟩ := Option.map_eq_some_iff.1 h
            exact ⟨s0, h0, by rw [append_list, bs_list]; simp, (fun n' e => by cases e; exact hgood), by simp⟩
          | some t =>
            rw [ht] at h
            simp only [textO] at h
            split at h
            · rename_i hts
              rw [Option.map_map] at h
              obtain ⟨s0, h0, rfl⟩ := Option.map_eq_some_iff.1 h
              exact ⟨s0, h0, by simp only [Function.comp]; rw [append_list, append_list, append_list, bs_list, bs_list]; simp, (fun n' e => by cases e; exact hgood), fun t' e => by cases e; exact hts⟩
            · cases h
        · exfalso
          cases ht : T[k]? with
          | none => rw [ht] at h; simp [textO] at h
          | some t => rw [ht] at h; simp [textO] at h
    obtain ⟨s0, h0, h1, h2⟩ := key
    obtain ⟨i1, i2⟩ := acc_some N T k s0 h0
    refine ⟨by rw [h1, i1]; rfl, fun i hi => ?_⟩
    rcases Nat.lt_or_ge i k with hlt | hge
    · exact i2 i hlt
    · obtain rfl : i = k := by omega
      exact h2

/-- the bytes of texts, in all -/
def sz : List ByteArray → Nat
  | [] => 0
  | t :: l => t.size + sz l
theorem sz_append (a b : List ByteArray) : sz (a ++ b) = sz a + sz b := by
  induction a with
  | nil => simp [sz]
  | cons x a ih => rw [List.cons_append, sz, ih, sz]; omega
theorem sz_take (T : List ByteArray) (k : Nat) : sz (T.take k) ≤ sz T := by
  have h := sz_append (T.take k) (T.drop k)
  rw [List.take_append_drop] at h
  omega
theorem row_len (N : List Int) (T : List ByteArray) (k : Nat) (h : goodAt N T k) : (row N T k).length + sz (T.take k) ≤ 18 + sz (T.take (k + 1)) := by
  unfold row
  rw [List.length_append]
  have h1 : (match N[k]? with | some n => num n.toNat | none => [] : List UInt8).length ≤ 9 := by
    cases hn : N[k]? with
    | none => simp
    | some n =>
      have := h.1 n hn
      exact num_len9 _ (by omega)
  have h2 : (match T[k]? with | some t => num t.size ++ t.data.toList | none => [] : List UInt8).length + sz (T.take k) ≤ 9 + sz (T.take (k + 1)) := by
    cases ht : T[k]? with
    | none =>
      have hge : T.length ≤ k := by simpa using ht
      rw [List.take_of_length_le hge, List.take_of_length_le (by omega)]
      simp
    | some t =>
      have hs := h.2 t ht
      have hlt : k < T.length := (List.getElem?_eq_some_iff.1 ht).1
      rw [List.take_succ_eq_append_getElem hlt, sz_append, (List.getElem?_eq_some_iff.1 ht).2]
      simp only [List.length_append, sz]
      have := num_len9 t.size (by omega)
      have e : t.data.toList.length = t.size := rfl
      omega
  omega
theorem rows_len (N : List Int) (T : List ByteArray) : ∀ k, (∀ i, i < k → goodAt N T i) → (rowsTo N T k).length ≤ 18 * k + sz (T.take k)
  | 0, _ => by simp [rowsTo]
  | k + 1, h => by
    have ih := rows_len N T k (fun i hi => h i (by omega))
    have h1 := row_len N T k (h k (by omega))
    rw [rowsTo, List.length_append]
    omega
theorem acc_size (N : List Int) (T : List ByteArray) (k : Nat) (s : ByteArray) (h : acc N T k = some s) : s.size ≤ 18 * k + sz T := by
  obtain ⟨h1, h2⟩ := acc_some N T k s h
  have h3 := rows_len N T k h2
  rw [← h1] at h3
  have h4 := sz_take T k
  have e : s.data.toList.length = s.size := rfl
  omega
theorem rows_prefix (N : List Int) (T : List ByteArray) (k : Nat) : ∀ j, ∃ x, rowsTo N T (k + j) = rowsTo N T k ++ x
  | 0 => ⟨[], by simp⟩
  | j + 1 => by
    obtain ⟨x, hx⟩ := rows_prefix N T k j
    exact ⟨x ++ row N T (k + j), by rw [← Nat.add_assoc, rowsTo, hx, List.append_assoc]⟩
/-- what is left before round k begins with that round -/
theorem rest_step (N : List Int) (T : List ByteArray) (K k : Nat) (more r : List UInt8) (hk : k < K) (h : rowsTo N T K ++ more = rowsTo N T k ++ r) :
    ∃ r', r = row N T k ++ r' ∧ rowsTo N T K ++ more = rowsTo N T (k + 1) ++ r' := by
  obtain ⟨x, hx⟩ := rows_prefix N T (k + 1) (K - (k + 1))
  rw [show k + 1 + (K - (k + 1)) = K from by omega] at hx
  refine ⟨x ++ more, ?_, by rw [hx, List.append_assoc]⟩
  rw [hx, rowsTo, List.append_assoc, List.append_assoc] at h
  exact (List.append_cancel_left h).symm
end Go.Proofs.Ytpfafgmafgfokaa
