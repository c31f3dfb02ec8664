/- keep.twins, keep.PackBack: the walks. -/
import Derived.Test.YtoklgliepepbgaaDoorPReads
import Derived.Deep.RegionHeld3
namespace Go.Proofs.YtoklgliepepbgaaDoor
open Go.RowKit

/-- two unlike texts of one id -/
def Twin (x y : ByteArray) : Prop := x ≠ y ∧ idOf x = idOf y
def TwRel (L : List ByteArray) (w : World) (i : Value) (wr : World) : Prop :=
  ∃ a : Nat, a ≤ L.length ∧ i = .int .i64 (a : Int) ∧ (∀ (p q : Nat) (x y : ByteArray), p < a → q < p → L[p]? = some x → L[q]? = some y → ¬ Twin x y) ∧ Below w.heap.size w wr
def TwEnd (L : List ByteArray) (w : World) (x : Ending) (w' : World) : Prop :=
  (∃ r : Bool, x = .returned (.bool r) ∧ (r = false → ∀ (p q : Nat) (x y : ByteArray), q < p → L[p]? = some x → L[q]? = some y → ¬ Twin x y)) ∧ Below w.heap.size w w'
theorem tw_step {L : List ByteArray} {c : Nat} {x y : ByteArray} (hy : L[c]? = some y) (hn : ¬ Twin x y) (h : ∀ (q : Nat) (y : ByteArray), q < c → L[q]? = some y → ¬ Twin x y) : ∀ (q : Nat) (y : ByteArray), q < c + 1 → L[q]? = some y → ¬ Twin x y := fun q y' hq hy' => by
  rcases Nat.lt_or_ge q c with h1 | h1
  · exact h q y' h1 hy'
  · obtain rfl : q = c := by omega
    rw [hy] at hy'
    cases hy'
    exact hn

set_option maxRecDepth 100000 in
set_option maxHeartbeats 2000000 in
theorem twins_any (L : List ByteArray) (A : Option Addr) (cp : Nat) (hl : L.length ≤ 281474976710656) (hz : ∀ x ∈ L, x.size ≤ 140737488355328) (w : World) (hT : Txs w w.heap.size A L) (ht : Tab w) :
    Calls Tryd.prog 17 #[.slice A L.length cp] w (TwEnd L w) := by
  have HTab := Lib.hid ht
  clear ht
  go_enter Tryd.func17, Tryd.ntmps17
  go_wp2_with fail
  go_loopw [3] (fun i wr => TwRel L w i wr) (fun i _ => L.length - (intOf i).toNat)
  case atStart => exact ⟨0, Nat.zero_le _, rfl, (fun p q x y hp => absurd hp (Nat.not_lt_zero _)), Below.refl _ _⟩
  case round =>
    obtain ⟨a, ha, rfl, hall, bel⟩ := hrel
    have HAll := Lib.hid hall
    clear hall
    by_cases hlt : a < L.length
    · have hi : (a : Int) < L.length := by omega
      have hx : L[a]? = some L[a] := List.getElem?_eq_getElem hlt
      have hxs := hz L[a] (List.getElem_mem hlt)
      obtain ⟨ad, hA, hbl, h0⟩ := hT a L[a] hx
      subst hA
      generalize L[a] = x at *
      have bel0 := bel
      clear bel
      go_wp2_with fail
      go_loopw [4] (fun i wr => ∃ c : Nat, c ≤ a ∧ i = .int .i64 (c : Int) ∧ (∀ (q : Nat) (y : ByteArray), q < c → L[q]? = some y → ¬ Twin x y) ∧ Below w.heap.size w wr) (fun i _ => a - (intOf i).toNat)
      case atStart => exact ⟨0, Nat.zero_le _, rfl, (fun q y hq => absurd hq (Nat.not_lt_zero _)), bel0⟩
      case round =>
        obtain ⟨c, hc, rfl, hin, bel⟩ := hrel
        have HIn := Lib.hid hin
        clear hin bel0
        by_cases hca : c < a
        · have hi2 : (c : Int) < a := by omega
          have hi3 : (c : Int) < L.length := by omega
          have hcl : c < L.length := by omega
          have hy : L[c]? = some L[c] := List.getElem?_eq_getElem hcl
          have hys := hz L[c] (List.getElem_mem hcl)
          obtain ⟨ad2, hA2, hbl2, h1⟩ := hT c L[c] hy
          cases hA2
          have g0 := (bel.cell hbl).trans h0
          have g1 := (bel.cell hbl2).trans h1
          have HSt := Lib.hid (fun hn => tw_step hy hn HIn.out)
          generalize L[c] = y at *
          clear HIn h1
          cases hq : x.toList == y.toList
          · have hne : x ≠ y := fun e => by rw [e] at hq; simp at hq
            have T1 := HTab.out.below bel.drew HTab.out.1
            have q1 := Lib.hid (Id_any x (by omega) wr.drew T1)
            have q2 := fun W h => Lib.hid (Id_any y (by omega) W h)
            change Hid (Calls _ _ _ _ fun e w' => e = .returned (.string (idOf x)) ∧ _) at q1
            have q2 : ∀ W, Tab W → Hid (Calls Tryd.prog 41 #[.string y] W fun e w' => e = .returned (.string (idOf y)) ∧ Below W.heap.size W w') := q2
            have hS : wr.drew.cell? (ad.add a) = some (.string x) ∧ wr.drew.cell? (ad.add c) = some (.string y) := ⟨g0, g1⟩
            have hTw : Hid ((idOf x).toList == (idOf y).toList → Twin x y) := fun e => ⟨hne, (eqB_iff (idOf x) (idOf y)).1 e⟩
            have hNt : Hid (((idOf x).toList == (idOf y).toList) = false → ¬ Twin x y) := fun e h => by
              rw [h.2] at e
              simp at e
            generalize idOf x = ix at *
            generalize idOf y = iy at *
            go_upto_region 7 with fail
            go_region_held3 (fun w' => w'.cell? (ad.add a) = some (.string x) ∧ w'.cell? (ad.add c) = some (.string y))
              (first | exact hS | exact hS1 | exact hS2)
              (first
                | (go_at_call 41
                   (with_reducible refine q1.out.mono ?_)
                   rintro _ w1 ⟨rfl, b1⟩
                   have bel1 := bel.drew.trans (b1.mono bel.size)
                   have hS1 : w1.cell? (ad.add a) = some (.string x) ∧ w1.cell? (ad.add c) = some (.string y) := ⟨(bel1.cell hbl).trans h0, (b1.cell (Nat.lt_of_lt_of_le hbl2 bel.size)).trans g1⟩
                   have T2 := HTab.out.below bel1 HTab.out.1)
                | (go_at_call 41
                   (with_reducible refine (q2 _ T2).out.mono ?_)
                   rintro _ w2 ⟨rfl, b2⟩
                   have bel2 := bel1.trans (b2.mono bel1.size)
                   have hS2 : w2.cell? (ad.add a) = some (.string x) ∧ w2.cell? (ad.add c) = some (.string y) := ⟨(b2.cell (Nat.lt_of_lt_of_le hbl bel1.size)).trans hS1.1, (b2.cell (Nat.lt_of_lt_of_le hbl2 bel1.size)).trans hS1.2⟩))
            cases hii : ix.toList == iy.toList
            · have HS2 := Lib.hid (HSt.out (hNt.out hii))
              go_wp2_with fail
              go_roundw
              case rel => exact ⟨c + 1, hca, by rw [Int.natCast_add]; rfl, HS2.out, bel2⟩
              case measure => simp [intOf]; omega
            · go_wp2_with fail
              go_ret
              exact ⟨⟨true, rfl, fun e => by cases e⟩, bel2⟩
          · have hnt : ¬ Twin x y := fun h => h.1 ((eqB_iff x y).1 hq)
            have HS2 := Lib.hid (HSt.out hnt)
            clear HSt hnt
            go_wp2_with fail
            go_quiet (fail)
            go_wp2_with fail
            refine ⟨⟨c + 1, hca, by go_num, HS2.out, below_drewN bel _⟩, by simp [intOf]; omega⟩
        · obtain rfl : c = a := by omega
          have hi2 : ¬ (c : Int) < c := by omega
          have HAll2 : Hid (∀ (p q : Nat) (x y : ByteArray), p < c + 1 → q < p → L[p]? = some x → L[q]? = some y → ¬ Twin x y) := fun p q x' y' hp hqp hx' hy' => by
            rcases Nat.lt_or_ge p c with h1 | h1
            · exact HAll.out p q x' y' h1 hqp hx' hy'
            · obtain rfl : p = c := by omega
              rw [hx] at hx'
              cases hx'
              exact HIn.out q y' hqp hy'
          clear HIn HAll
          go_wp2_with fail
          go_roundw
          case rel => exact ⟨c + 1, hlt, by rw [Int.natCast_add]; rfl, HAll2.out, bel⟩
          case measure => simp [intOf]; omega
    · obtain rfl : a = L.length := by omega
      have hi : ¬ (L.length : Int) < L.length := by omega
      go_wp2_with fail
      go_ret
      exact ⟨⟨false, rfl, fun _ p q x y hqp hx hy => HAll.out p q x y (List.getElem?_eq_some_iff.1 hx).1 hqp hx hy⟩, bel⟩
/-- no twins: each text of O is found by its id, whatever stands ahead -/
theorem lastId_of {id x : ByteArray} : ∀ {O : List ByteArray}, lastId id O = some x → x ∈ O ∧ idOf x = id
  | [], h => by cases h
  | y :: O, h => by
    unfold lastId at h
    cases hl : lastId id O with
    | some z =>
      rw [hl] at h
      cases h
      have := lastId_of hl
      exact ⟨List.mem_cons_of_mem _ this.1, this.2⟩
    | none =>
      rw [hl] at h
      simp only at h
      split at h
      · rename_i he
        cases h
        exact ⟨List.mem_cons_self, he⟩
      · cases h
theorem lastId_some {b : ByteArray} : ∀ {O : List ByteArray}, b ∈ O → ∃ y, lastId (idOf b) O = some y
  | x :: O, h => by
    unfold lastId
    cases hl : lastId (idOf b) O with
    | some z => exact ⟨z, rfl⟩
    | none =>
      rcases List.mem_cons.1 h with rfl | h
      · exact ⟨b, if_pos rfl⟩
      · obtain ⟨y, hy⟩ := lastId_some h
        rw [hl] at hy
        cases hy
theorem twin_or {O M L : List ByteArray} (hL : ∀ x, x ∈ M ++ O → x ∈ L) (hn : ∀ (p q : Nat) (x y : ByteArray), q < p → L[p]? = some x → L[q]? = some y → ¬ Twin x y) : ∀ b ∈ O, lastId (idOf b) (M ++ O) = some b := fun b hb => by
  obtain ⟨y, hy⟩ := lastId_some (b := b) (O := M ++ O) (List.mem_append_right _ hb)
  obtain ⟨hm, he⟩ := lastId_of hy
  rw [hy]
  by_cases e : y = b
  · rw [e]
  · obtain ⟨p, hp, hpy⟩ := List.getElem_of_mem (hL y hm)
    obtain ⟨q, hq, hqb⟩ := List.getElem_of_mem (hL b (List.mem_append_right _ hb))
    have h1 : L[p]? = some y := by rw [List.getElem?_eq_getElem hp, hpy]
    have h2 : L[q]? = some b := by rw [List.getElem?_eq_getElem hq, hqb]
    rcases Nat.lt_trichotomy p q with h | h | h
    · exact absurd ⟨fun q => e q.symm, he.symm⟩ (hn q p b y h h2 h1)
    · subst h
      rw [h1] at h2
      exact absurd (Option.some.inj h2) e
    · exact absurd ⟨e, he⟩ (hn p q y b h h1 h2)
end Go.Proofs.YtoklgliepepbgaaDoor
