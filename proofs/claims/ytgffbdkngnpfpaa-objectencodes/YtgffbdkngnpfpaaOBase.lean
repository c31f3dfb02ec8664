/- What the walks of the laws on objects share. -/
import Derived.Test.YtgffbdkngnpfpaaOPure
import Derived.Test.YtgffbdkngnpfpaaOEncB
namespace Go.Proofs.Ytgffbdkngnpfpaa
open Go.RowKit

section
variable {P : Program} {ops : Array Oper} {rest : List Oper} {o : Oper} {a : Act} {w : World} {Q : Exit → Act → World → Prop}
/-- a whole row is loaded, where the guard says yes -/
theorem wpList_load_row_w (hw : Region.wanted o (yielded ops a.tmps) = true) (ty : TypeId) (x : Operand) (ho : o.op = .load ty x)
    (g : Nat) (hx : a.eval x = .pointer (some ⟨g, 0, none⟩)) (t : TypeId) (cs : Array Value) (fr : Nat × Nat) (d : TypeDesc) (hg : w.heap[g]? = some (.cells cs t fr))
    (hu : P.underlying ty = some d) (hd : (match d with | .struct _ | .array _ _ => true | _ => false) = true) (hi : (P.info? ty).map (·.size) = some cs.size)
    (h : wpList P ops Q rest (a.put o.dst (.agg cs)) w) : wpList P ops Q (o :: rest) a w :=
  BigFrame.wpList_want hw fun _ hK => wp_load_row ty x ho g hx t cs fr d hg hu hd hi (hK _ _ h)
end
def blobA : Ob := ⟨1, ⟨#[97]⟩, [], ⟨#[]⟩, [], ⟨#[]⟩, ⟨#[]⟩, 0, ⟨#[]⟩⟩
theorem nil_yes : nilB ⟨#[]⟩ = true := (nilB_iff _).2 rfl
theorem blobA_good : good blobA = 0 := by
  have h1 : strayB blobA = false := by unfold strayB blobA; simp only; rw [nil_yes]; rfl
  unfold good
  rw [h1]
  rfl
theorem blobA_enc : encL blobA = [1, 1, 97] := by
  unfold encL fieldsL txt blobA
  simp only
  rw [if_pos True.intro, num_small _ (by decide), num_small _ (by decide)]
  rfl
theorem blobA_S : encS blobA = ⟨#[1, 1, 97]⟩ := by
  unfold encS
  rw [if_neg (by rw [blobA_good]; simp), blobA_enc, if_neg (by decide)]
  rfl
theorem blobA_E : encE blobA = 0 := by
  unfold encE
  rw [if_neg (by rw [blobA_good]; simp), blobA_enc, if_neg (by decide)]
theorem blobIn (W : World) (B : Nat) : ObIn W B blobA atNil := ⟨Ens.nil _ _ _, Txs.nil _ _ _, Nat.le_refl _⟩
theorem blobA_any (w : World) : Calls Try.prog 7 #[.agg #[.int .i64 1, .string ⟨#[97]⟩, .slice none 0 0, .string ⟨#[]⟩, .slice none 0 0, .string ⟨#[]⟩, .string ⟨#[]⟩, .int .i64 0, .string ⟨#[]⟩]] w
    fun e w' => e = .returned (.tuple #[.string ⟨#[1, 1, 97]⟩, .int .i64 0]) ∧ Below w.heap.size w w' := by
  have q := Encode_any blobA atNil w (blobIn _ _)
  rw [blobA_S, blobA_E] at q
  exact q
theorem enc_bad {o : Ob} (h : encE o ≠ 0) : encS o = ⟨#[]⟩ := by
  unfold encE at h
  unfold encS
  split
  · rfl
  · rename_i h1
    rw [if_neg h1] at h
    split
    · rfl
    · rename_i h2; rw [if_neg h2] at h; exact absurd rfl h
theorem enc_ok {o : Ob} (h : encE o = 0) : good o = 0 ∧ (encL o).length ≤ 8192 ∧ encS o = bs (encL o) := by
  unfold encE at h
  unfold encS
  split at h
  · rename_i h1; exact absurd h h1
  · rename_i h1
    split at h
    · cases h
    · rename_i h2
      exact ⟨by simpa using h1, by omega, by rw [if_neg h1, if_neg h2]⟩
theorem ok_enc {o : Ob} (h : good o = 0) (hl : (encL o).length ≤ 8192) : encE o = 0 ∧ encS o = bs (encL o) := by
  refine ⟨?_, ?_⟩
  · unfold encE
    rw [if_neg (by simp [h]), if_neg (by omega)]
  · unfold encS
    rw [if_neg (by simp [h]), if_neg (by omega)]
theorem enc_back {o : Ob} (h : encE o = 0) : decO (encS o).data.toList = (o, 0) := by
  obtain ⟨h1, h2, h3⟩ := enc_ok h
  rw [h3, bs_list]
  exact dec_enc h1 h2
theorem enc_size {o : Ob} (h : encE o = 0) : (encS o).size ≤ 8192 ∧ 0 < (encS o).size := by
  obtain ⟨h1, h2, h3⟩ := enc_ok h
  rw [h3, bs_size]
  refine ⟨h2, ?_⟩
  unfold encL
  rw [List.length_append]
  have := num_pos o.kind.toNat
  omega

end Go.Proofs.Ytgffbdkngnpfpaa
