/- slices.BinarySearch at rising texts: whether one is among them. -/
import Derived.Test.YtmikfmcgddmplaaGreatDoorStShelf
import Derived.Test.YtmikfmcgddmplaaGreatDoorStReachQ
import Derived.Test.YtmikfmcgddmplaaGreatDoorDkMath
namespace Go.Proofs.YtmikfmcgddmplaaGreatDoor
open Go.RowKit

/-- texts that rise -/
def Rsn (T : List ByteArray) : Prop := T.Pairwise fun a b => ltB a b = true
theorem sortB_rsn {V : List ByteArray} (h : V.Nodup) : Rsn (sortB V) := by
  have hp : ((V.map fun x => x.data.toList).mergeSort fun x y => decide (x ≤ y)).Pairwise fun x y => decide (x ≤ y) = true :=
    List.pairwise_mergeSort (fun a b c h1 h2 => by simp only [decide_eq_true_eq] at h1 h2 ⊢; exact List.le_trans h1 h2) (fun a b => by simp only [Bool.or_eq_true, decide_eq_true_eq]; exact List.le_total a b) _
  have hn : ((V.map fun x => x.data.toList).mergeSort fun x y => decide (x ≤ y)).Nodup := by
    rw [(List.mergeSort_perm _ _).nodup_iff]
    exact List.Pairwise.map _ (fun x y hxy e => hxy (bytes_eq e)) h
  unfold Rsn sortB
  generalize (V.map fun x => x.data.toList).mergeSort (fun x y => decide (x ≤ y)) = L at *
  rw [List.pairwise_map, List.pairwise_iff_getElem]
  intro i j hi hj hij
  have h1 := of_decide_eq_true (List.pairwise_iff_getElem.1 hp i j hi hj hij)
  have h2 := List.pairwise_iff_getElem.1 hn i j hi hj hij
  unfold ltB
  rw [toList_data, toList_data, bs_list, bs_list, Go.Proofs.bytesLess_eq, decide_eq_true_eq]
  rcases List.le_iff_lt_or_eq.1 h1 with h | h
  · exact h
  · exact absurd h h2
theorem ex_low (x : ByteArray) : ∀ T : List ByteArray, Rsn T → ∃ k, k ≤ T.length ∧ (∀ t, t < k → ltB (T.getD t x) x = true) ∧ ∀ t, k ≤ t → ltB (T.getD t x) x = false
  | [], _ => ⟨0, Nat.le_refl _, fun t h => absurd h (by omega), fun t _ => by simp [ltB_irr]⟩
  | y :: l, h => by
    unfold Rsn at h
    rw [List.pairwise_cons] at h
    obtain ⟨h1, h2⟩ := h
    cases hy : ltB y x with
    | true =>
      obtain ⟨k, hk, k1, k2⟩ := ex_low x l h2
      refine ⟨k + 1, by rw [List.length_cons]; omega, fun t ht => ?_, fun t ht => ?_⟩
      · cases t with
        | zero => exact hy
        | succ t => rw [List.getD_cons_succ]; exact k1 t (by omega)
      · cases t with
        | zero => omega
        | succ t => rw [List.getD_cons_succ]; exact k2 t (by omega)
    | false =>
      refine ⟨0, Nat.zero_le _, fun t h => absurd h (by omega), fun t _ => ?_⟩
      cases t with
      | zero => exact hy
      | succ t =>
        rw [List.getD_cons_succ, List.getD_eq_getElem?_getD]
        cases ht : l[t]? with
        | none => exact ltB_irr x
        | some z =>
          rw [Option.getD_some]
          cases hz : ltB z x with
          | false => rfl
          | true =>
            have := ltB_trans (h1 z (List.mem_of_getElem? ht)) hz
            rw [hy] at this
            cases this
theorem found_mem {T : List ByteArray} {x : ByteArray} (h : Rsn T) {k : Nat} (h1 : ∀ t, t < k → ltB (T.getD t x) x = true) (h2 : ∀ t, k ≤ t → ltB (T.getD t x) x = false) : decide (k < T.length ∧ T.getD k x = x) = memB x T := by
  rw [Bool.eq_iff_iff, decide_eq_true_eq, memB_iff]
  constructor
  · rintro ⟨hk, he⟩
    rw [List.getD_eq_getElem?_getD, List.getElem?_eq_getElem hk, Option.getD_some] at he
    rw [← he]
    exact List.getElem_mem hk
  · intro hx
    obtain ⟨j, hj, he⟩ := List.mem_iff_getElem.1 hx
    have e : T.getD j x = x := by rw [List.getD_eq_getElem?_getD, List.getElem?_eq_getElem hj, Option.getD_some, he]
    have hkj : k ≤ j := by
      rcases Nat.lt_or_ge j k with h3 | h3
      · have := h1 j h3
        rw [e, ltB_irr] at this
        cases this
      · exact h3
    rcases Nat.lt_or_ge k j with h3 | h3
    · have hk : k < T.length := by omega
      have h4 := List.pairwise_iff_getElem.1 h k j hk hj h3
      have h5 := h2 k (Nat.le_refl _)
      rw [List.getD_eq_getElem?_getD, List.getElem?_eq_getElem hk, Option.getD_some] at h5
      rw [he] at h4
      rw [h4] at h5
      cases h5
    · obtain rfl : j = k := by omega
      exact ⟨hj, e⟩
theorem textSearch_any (T : List ByteArray) (x : ByteArray) (A : Option Addr) (c : Nat) (w : World) (hT : Txs w w.heap.size A T) (hl : T.length ≤ 281474976710656) (hs : Rsn T) :
    Calls Tryz.prog 33 #[.slice A T.length c, .string x] w fun e w' => (∃ i : Int, e = .returned (.tuple #[.int .i64 i, .bool (memB x T)])) ∧ Below w.heap.size w w' := by
  cases T with
  | nil =>
    refine Calls.mono (Go.Proofs.Any2.slices_BinarySearch_string_empty searchLays A c x w) ?_
    rintro e w' ⟨rfl, rfl⟩
    exact ⟨⟨0, rfl⟩, Below.refl _ _⟩
  | cons y l =>
    obtain ⟨⟨b, off, sp⟩, rfl, hb, h0⟩ := hT 0 y rfl
    have hsp : sp = none := by
      have e : (⟨b, off, sp⟩ : Addr).add 0 = ⟨b, off, sp⟩ := by unfold Addr.add; simp
      rw [e] at h0
      unfold World.cell? at h0
      split at h0
      · split at h0
        · cases h0
        · rename_i hh
          cases sp with
          | none => rfl
          | some v => simp at hh
      · cases h0
    subst hsp
    generalize hTT : y :: l = T at *
    obtain ⟨k, hk, k1, k2⟩ := ex_low x T hs
    have q := Go.Proofs.Any2.slices_BinarySearch_string searchLays b off T.length c (fun j => T.getD j x) x w (by omega) (fun j hj => by
      obtain ⟨ad, ea, _, hc⟩ := hT j T[j] (List.getElem?_eq_getElem hj)
      cases ea
      have e : (⟨b, off, none⟩ : Addr).add j = ⟨b, off + j, none⟩ := by
        unfold Addr.add
        split
        · rename_i h; subst h; rfl
        · rfl
      rw [e] at hc
      rw [hc, List.getD_eq_getElem?_getD, List.getElem?_eq_getElem hj, Option.getD_some])
    have hgo : Lib.bsGo (fun t => Op.bytesLess (T.getD t x).toList x.toList) T.length 0 T.length = k := Lib.bsGo_spec _ k (fun t ht => k1 t ht) (fun t ht => k2 t ht) T.length 0 T.length (by omega) (Nat.zero_le _) hk
    refine Calls.mono q ?_
    rintro e w' ⟨rfl, m, rfl⟩
    refine ⟨⟨(k : Int), ?_⟩, below_drewN (Below.refl _ _) m⟩
    rw [hgo, found_mem hs k1 k2]
end Go.Proofs.YtmikfmcgddmplaaGreatDoor
