/- Texts in one: Frame, Bytes, WNum. -/
import Derived.Test.YtenjnaebhbmfiaaDoorCards
import Derived.Test.YtenjnaebhbmfiaaDoorTie
import Derived.Test.YtenjnaebhbmfiaaDoorInf
import Derived.Test.YtenjnaebhbmfiaaDoorOwn
import Derived.WalkKit
import Derived.ProofKit
import Derived.OpenShut
import Derived.ShutString
import Derived.SizedLaws
import Derived.Deep.DeepHandedRow
import Derived.Lib.LaidTab
import Derived.Test.YtenjnaebhbmfiaaDoorMem
/- What every claim of this seat needs: the table of constants as the rows list it; a world for the witnesses. -/
namespace Go.Proofs.YtenjnaebhbmfiaaDoor
open Go.ChangeShapes Go.WideShapes Go.ChangeAt Go.RowKit

theorem gTab : Tryd.prog.globalNamed "cartulary/sum.roundConstants" = some 0 := by kernel_rfl
theorem gTabType : (Tryd.prog.globals[0]?).map (·.type) = some 91 := by kernel_rfl
theorem cellsTab : Tryd.prog.cellsOf 91 = 64 := by kernel_rfl
theorem cellsWord : Tryd.prog.cellsOf 66 = 1 := by kernel_rfl
def tabInts : List Int := kTab.map wd

theorem size_of_cell {W : World} {g i : Nat} {v : Value} (h : W.cell? ⟨g, i, none⟩ = some v) : g < W.heap.size := by
  rcases Nat.lt_or_ge g W.heap.size with hlt | hge
  · exact hlt
  · simp [World.cell?, Array.getElem?_eq_none hge] at h

theorem tab_of_laid {W : World} (h : laidMetH Tryd.prog [("cartulary/sum.roundConstants", Rows.laid_cartulary_sum_roundConstants)] W) : Tab W := by
  have ht : Lib.TabIs Tryd.prog W "cartulary/sum.roundConstants" .u32 tabInts :=
    Lib.tabIs_of_head (rest := []) gTab gTabType Tryd.underlying91 Tryd.underlying66 cellsWord cellsTab h
  have hc : ∀ i, i < 64 → W.cell? ⟨0, i, none⟩ = some (.int .u32 (wd (kTab.getD i 0))) := fun i hi => by
    have hl : i < tabInts.length := by unfold tabInts; rw [List.length_map, kTab_length]; exact hi
    have hk : i < kTab.length := by rw [kTab_length]; exact hi
    have h1 := ht.cell gTab i hl
    rw [h1]
    unfold tabInts
    simp [List.getD_eq_getElem?_getD, List.getElem?_map, List.getElem?_eq_getElem hk]
  exact ⟨size_of_cell (hc 0 (by omega)), hc⟩

/-- A world for the witnesses: the settled one, the table holding what its initialiser lays. -/
noncomputable def laidWorld (os : Os) : World :=
  { World.holding Tryd.prog os ⟨#[], #[], []⟩ with heap := (World.holding Tryd.prog os ⟨#[], #[], []⟩).heap.modify 0 fun
      | .cells _ t frozen => .cells (warr kTab) t frozen
      | o => o }
end Go.Proofs.YtenjnaebhbmfiaaDoor

/- Bytes as cells and as strings: plain facts; no program is named here. -/
namespace Go.Proofs.YtenjnaebhbmfiaaDoor
open Go.RowKit

def bv (b : UInt8) : Value := .int .u8 (b.toNat : Int)
def barr (l : List UInt8) : Array Value := (l.map bv).toArray
theorem barr_size (l : List UInt8) : (barr l).size = l.length := by simp [barr]
theorem barr_at (l : List UInt8) (i : Nat) (h : i < l.length) : (barr l)[i]? = some (.int .u8 ((l.getD i 0).toNat : Int)) := by
  simp [barr, bv, h]
theorem barr_set (l : List UInt8) (i : Nat) (x : UInt8) : (barr l).setIfInBounds i (.int .u8 (x.toNat : Int)) = barr (l.set i x) := by
  unfold barr
  apply Array.ext'
  simp [List.map_set, bv]
theorem barr_one (l : List UInt8) : (barr l).all (·.oneCell') = true := by
  rw [Array.all_eq_true_iff_forall_mem]
  intro v hv
  simp only [barr, List.mem_toArray, List.mem_map] at hv
  obtain ⟨x, _, rfl⟩ := hv
  rfl
theorem barr_zero (n : Nat) : barr (List.replicate n 0) = Array.replicate n (.int .u8 0) := by
  unfold barr
  apply Array.ext'
  simp [bv]

/-- A list of bytes as a string. -/
def bs (l : List UInt8) : ByteArray := ⟨l.toArray⟩
theorem bs_list (l : List UInt8) : (bs l).data.toList = l := by simp [bs]
theorem bs_size (l : List UInt8) : (bs l).size = l.length := by simp [bs, ByteArray.size]
theorem bs_of (s : ByteArray) : bs s.data.toList = s := by simp [bs]

theorem append_list (a b : ByteArray) : (a ++ b).data.toList = a.data.toList ++ b.data.toList := by
  rw [ByteArray.data_append, Array.toList_append]
theorem foldl_push : ∀ (l : List UInt8) (s : ByteArray), (l.map fun b => (b.toNat : Int)).foldl (fun r n => r.push (UInt8.ofNat n.toNat)) s = ⟨(s.data.toList ++ l).toArray⟩
  | [], s => by simp
  | b :: l, s => by
    rw [List.map_cons, List.foldl_cons, foldl_push l]
    simp [ByteArray.push]

/-- The first n bytes of a block, as a string. -/
theorem run_bytes {P : Program} {w : World} {g : Nat} {t : TypeId} {cs : Array Value} (h : Arr w g t cs) (l : List UInt8) (hl : cs.toList.take l.length = l.map bv) (c : Nat) :
    (Conv.bytesToString (.slice (some ⟨g, 0, none⟩) l.length c)).run P w = .ok (.string (bs l)) w := by
  have hload : (loadCells ⟨g, 0, none⟩ l.length).run P w = .ok ((l.map fun b => (b.toNat : Int)).map (Value.int .u8)).toArray w := by
    have := run_loadCells_list (P := P) w ⟨g, 0, none⟩ (l.map bv) (fun j v hv => by
      have hadd : (⟨g, 0, none⟩ : Addr).add j = ⟨g, j, none⟩ := by unfold Addr.add; split <;> simp_all
      rw [hadd, h.cell j]
      have hj : j < l.length := by
        have := (List.getElem?_eq_some_iff.1 hv).1
        simpa using this
      rw [← hl, List.getElem?_take_of_lt hj] at hv
      simpa using hv)
    have e : (l.map fun b => (b.toNat : Int)).map (Value.int .u8) = l.map bv := by rw [List.map_map]; rfl
    rw [e]
    simpa using this
  rw [run_bytesToString w _ _ _ _ hload, foldl_push]
  simp [bs]

/-- The cells of a block that has just been made, one by one. -/
theorem new_cells (w : World) (l : List Value) (t : TypeId) : ∀ (j : Nat) (u : Value), l[j]? = some u → (w.alloc (.cells l.toArray t)).cell? ((⟨w.heap.size, 0, none⟩ : Addr).add j) = some u := by
  intro j u h
  have hadd : (⟨w.heap.size, 0, none⟩ : Addr).add j = ⟨w.heap.size, j, none⟩ := by unfold Addr.add; split <;> simp_all
  rw [hadd, (Arr.new w t l.toArray).cell j]
  simpa using h
theorem bytes_one (l : List UInt8) : ∀ u ∈ l.map bv, u.oneCell' = true := by
  intro u hu
  obtain ⟨x, _, rfl⟩ := List.mem_map.1 hu
  rfl

/-- a slice of the call's own, at the row's head, as a string -/
theorem run_bytes_own {P : Program} {w : World} {base g cap : Nat} {e : TypeId} {l : List UInt8} (h : w.ownsRow base e 1 (.slice (some ⟨g, 0, none⟩) l.length cap) l.length (l.map bv)) :
    (Conv.bytesToString (.slice (some ⟨g, 0, none⟩) l.length cap)).run P w = .ok (.string (bs l)) w := by
  rcases h.2 with ⟨h', _⟩ | ⟨g', cap', cur, h', hb, hg, hnc, hcm, hcs, htake⟩
  · simp at h'
  · simp only [Value.slice.injEq, Option.some.injEq, Addr.mk.injEq, and_true, true_and] at h'
    obtain ⟨rfl, rfl⟩ := h'
    exact run_bytes hg l (by rw [← htake]; simp) cap

end Go.Proofs.YtenjnaebhbmfiaaDoor

/- Plain mathematics of the encoding of numbers: groups of seven bits, the lowest first. No program is named here. -/
namespace Go.Proofs.YtenjnaebhbmfiaaDoor

/-- the bytes of a number -/
def num (n : Nat) : List UInt8 := if n < 128 then [UInt8.ofNat n] else UInt8.ofNat (n % 128 + 128) :: num (n / 128)
termination_by n
decreasing_by omega

theorem num_small (n : Nat) (h : n < 128) : num n = [UInt8.ofNat n] := by rw [num, if_pos h]
theorem num_great (n : Nat) (h : 128 ≤ n) : num n = UInt8.ofNat (n % 128 + 128) :: num (n / 128) := by rw [num, if_neg (by omega)]
theorem num_pos (n : Nat) : 1 ≤ (num n).length := by
  rw [num]; split <;> simp
theorem num_len : ∀ (k n : Nat), n < 128 ^ (k + 1) → (num n).length ≤ k + 1
  | 0, n, h => by rw [num_small n (by simpa using h)]; simp
  | k + 1, n, h => by
    by_cases hs : n < 128
    · rw [num_small n hs]; simp
    · rw [num_great n (by omega)]
      have := num_len k (n / 128) (by rw [Nat.div_lt_iff_lt_mul (by decide)]; rw [Nat.pow_succ] at h; exact h)
      simp; omega
theorem num_len9 (n : Nat) (h : n < 4611686018427387904) : (num n).length ≤ 9 := num_len 8 n (by omega)
theorem num_len3 (n : Nat) (h : n ≤ 4096) : (num n).length ≤ 3 := num_len 2 n (by omega)

/-- the number of bytes, of each its seven low bits -/
def val : List UInt8 → Nat
  | [] => 0
  | b :: l => b.toNat % 128 + 128 * val l
theorem val_snoc (l : List UInt8) (b : UInt8) : val (l ++ [b]) = val l + b.toNat % 128 * 128 ^ l.length := by
  induction l with
  | nil => simp [val]
  | cons a l ih => rw [List.cons_append, val, ih, val, List.length_cons, Nat.pow_succ, Nat.mul_add, Nat.add_assoc, Nat.mul_left_comm, Nat.mul_comm 128 (128 ^ _)]
theorem val_lt (l : List UInt8) : val l < 128 ^ l.length := by
  induction l with
  | nil => simp [val]
  | cons a l ih =>
    rw [val, List.length_cons, Nat.pow_succ]
    have : a.toNat % 128 < 128 := Nat.mod_lt _ (by decide)
    omega

/-- bytes that end: all but the last are 128 or more -/
def ended : List UInt8 → Prop
  | [] => False
  | [b] => b.toNat < 128
  | b :: l => 128 ≤ b.toNat ∧ ended l
theorem ended_cons (b c : UInt8) (l : List UInt8) : ended (b :: c :: l) ↔ 128 ≤ b.toNat ∧ ended (c :: l) := by simp [ended]
/-- the last byte -/
def lastOf (l : List UInt8) : Nat := (l.getLastD 0).toNat
theorem lastOf_cons (b c : UInt8) (l : List UInt8) : lastOf (b :: c :: l) = lastOf (c :: l) := by simp [lastOf, List.getLastD]
theorem lastOf_snoc (l : List UInt8) (b : UInt8) : lastOf (l ++ [b]) = b.toNat := by simp [lastOf]
theorem ended_snoc (l : List UInt8) (b : UInt8) (hl : ∀ x ∈ l, 128 ≤ x.toNat) (hb : b.toNat < 128) : ended (l ++ [b]) := by
  induction l with
  | nil => simpa [ended] using hb
  | cons a l ih =>
    have h1 := ih (fun x hx => hl x (by simp [hx]))
    have h2 := hl a (by simp)
    cases l with
    | nil => exact ⟨h2, h1⟩
    | cons c l => exact ⟨h2, h1⟩

theorem num_ended (n : Nat) : ended (num n) ∧ ((num n).length = 1 ∨ lastOf (num n) ≠ 0) ∧ val (num n) = n := by
  induction n using num.induct with
  | case1 n h =>
    rw [num_small n h]
    have e : (UInt8.ofNat n).toNat = n := by rw [UInt8.toNat_ofNat']; omega
    refine ⟨by simpa [ended, e] using h, .inl rfl, ?_⟩
    simp only [val]; omega
  | case2 n h ih =>
    rw [num_great n (by omega)]
    have e : (UInt8.ofNat (n % 128 + 128)).toNat = n % 128 + 128 := by rw [UInt8.toNat_ofNat']; omega
    obtain ⟨h1, h2, h3⟩ := ih
    have hne : ∃ c l, num (n / 128) = c :: l := by
      cases hq : num (n / 128) with
      | nil => rw [hq] at h1; exact h1.elim
      | cons c l => exact ⟨c, l, rfl⟩
    obtain ⟨c, l, hq⟩ := hne
    rw [hq] at h1 h2 h3 ⊢
    refine ⟨⟨by omega, h1⟩, .inr ?_, ?_⟩
    · rw [lastOf_cons]
      rcases h2 with h2 | h2
      · have hl : l = [] := List.eq_nil_of_length_eq_zero (by simpa using h2)
        subst hl
        simp only [val] at h3
        simp only [lastOf, List.getLastD_cons]
        show c.toNat ≠ 0
        omega
      · exact h2
    · rw [val, e, h3]; omega

theorem val_ended : ∀ (l : List UInt8), ended l → (l.length = 1 ∨ lastOf l ≠ 0) → num (val l) = l ∧ (1 < l.length → 0 < val l)
  | [], h, _ => h.elim
  | [b], h, _ => by
    have hb : b.toNat < 128 := h
    refine ⟨?_, fun h => by simp at h⟩
    rw [val, val, num_small _ (by omega)]
    congr 1
    apply UInt8.toNat_inj.1
    rw [UInt8.toNat_ofNat']; omega
  | b :: c :: l, h, h2 => by
    obtain ⟨hb, hc⟩ := (ended_cons b c l).1 h
    have hz : lastOf (c :: l) ≠ 0 := by
      rcases h2 with h2 | h2
      · simp at h2
      · rwa [lastOf_cons] at h2
    obtain ⟨i1, i2⟩ := val_ended (c :: l) hc (.inr hz)
    have hp : 0 < val (c :: l) := by
      cases l with
      | nil =>
        have hc' : c.toNat < 128 := hc
        have : c.toNat ≠ 0 := by simpa [lastOf] using hz
        simp only [val]; omega
      | cons d l => exact i2 (by simp)
    have hbl := b.toNat_lt
    refine ⟨?_, fun _ => by rw [val]; omega⟩
    rw [val, num_great _ (by omega), show (b.toNat % 128 + 128 * val (c :: l)) / 128 = val (c :: l) from by omega, i1]
    congr 1
    apply UInt8.toNat_inj.1
    rw [UInt8.toNat_ofNat']; omega

/-- the bytes up to the first below 128 -/
def lead : List UInt8 → Option (List UInt8)
  | [] => none
  | b :: l => if b.toNat < 128 then some [b] else (lead l).map (b :: ·)
theorem lead_ended : ∀ (l r : List UInt8), ended l → lead (l ++ r) = some l
  | [], _, h => h.elim
  | [b], r, h => by
    have hb : b.toNat < 128 := h
    simp [lead, hb]
  | b :: c :: l, r, h => by
    obtain ⟨hb, hc⟩ := (ended_cons b c l).1 h
    rw [List.cons_append, lead, if_neg (by omega), lead_ended (c :: l) r hc]; rfl
theorem lead_open : ∀ (l : List UInt8), (∀ x ∈ l, 128 ≤ x.toNat) → lead l = none
  | [], _ => rfl
  | b :: l, h => by
    have hb := h b (by simp)
    rw [lead, if_neg (by omega), lead_open l (fun x hx => h x (by simp [hx]))]; rfl
theorem lead_some : ∀ (l p : List UInt8), lead l = some p → ended p ∧ ∃ r, l = p ++ r
  | [], _, h => by cases h
  | b :: l, p, h => by
    rw [lead] at h
    split at h
    · cases h; exact ⟨‹_›, l, rfl⟩
    · obtain ⟨q, hq, rfl⟩ := Option.map_eq_some_iff.1 h
      obtain ⟨h1, r, h2⟩ := lead_some l q hq
      refine ⟨?_, r, by rw [h2]; rfl⟩
      cases q with
      | nil => exact h1.elim
      | cons c q => exact ⟨by omega, h1⟩

/-- what Get finds: the number and how many bytes it has -/
def got (l : List UInt8) : Option (Nat × Nat) :=
  match lead (l.take 9) with
  | none => none
  | some p => if (1 < p.length ∧ lastOf p = 0) ∨ 4611686018427387904 ≤ val p then none else some (val p, p.length)

theorem got_num (n : Nat) (h : n < 4611686018427387904) (r : List UInt8) : got (num n ++ r) = some (n, (num n).length) := by
  obtain ⟨h1, h2, h3⟩ := num_ended n
  have hl := num_len9 n h
  unfold got
  rw [List.take_append, List.take_of_length_le hl, lead_ended _ _ h1]
  simp only
  rw [if_neg, h3]
  rw [h3]
  have := num_pos n
  rintro (⟨h4, h5⟩ | h4)
  · rcases h2 with h2 | h2
    · omega
    · exact h2 h5
  · omega
theorem got_some (l : List UInt8) (n k : Nat) (h : got l = some (n, k)) : n < 4611686018427387904 ∧ num n = l.take k ∧ 1 ≤ k ∧ k ≤ 9 ∧ k ≤ l.length := by
  unfold got at h
  split at h
  · cases h
  · rename_i p hp
    obtain ⟨h1, r, h2⟩ := lead_some _ _ hp
    split at h
    · cases h
    · rename_i hc
      simp only [Option.some.injEq, Prod.mk.injEq] at h
      obtain ⟨rfl, rfl⟩ := h
      have hlen : p.length ≤ 9 ∧ p.length ≤ l.length := by
        have e : (l.take 9).length = p.length + r.length := by rw [h2]; simp
        rw [List.length_take] at e
        omega
      have hpos : 1 ≤ p.length := by
        cases p with
        | nil => exact h1.elim
        | cons => simp
      refine ⟨by omega, ?_, hpos, hlen.1, hlen.2⟩
      rw [(val_ended p h1 (by
        by_cases h0 : lastOf p = 0
        · exact .inl (by omega)
        · exact .inr h0)).1]
      have e2 : l.take p.length = (l.take 9).take p.length := by rw [List.take_take, Nat.min_eq_left hlen.1]
      rw [e2, h2, List.take_left']
      rfl
theorem ended_take (l : List UInt8) (h : ended l) (j : Nat) (hj : j < l.length) : ∀ x ∈ l.take j, 128 ≤ x.toNat := by
  induction l generalizing j with
  | nil => exact h.elim
  | cons b l ih =>
    cases j with
    | zero => intro x hx; simp at hx
    | succ j =>
      cases l with
      | nil => simp at hj
      | cons c l =>
        obtain ⟨hb, hc⟩ := (ended_cons b c l).1 h
        intro x hx
        rw [List.take_succ_cons, List.mem_cons] at hx
        rcases hx with rfl | hx
        · exact hb
        · exact ih hc j (by simpa using hj) x hx
theorem got_cut (n j : Nat) (hj : j < (num n).length) : got ((num n).take j) = none := by
  obtain ⟨h1, _, _⟩ := num_ended n
  have h := ended_take _ h1 j hj
  unfold got
  rw [lead_open _ (fun x hx => h x (List.mem_of_mem_take hx))]
end Go.Proofs.YtenjnaebhbmfiaaDoor
