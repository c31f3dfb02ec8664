/- Texts in one: OGood, OGoodB. -/
import Derived.Test.YtgffbdkngnpfpaaDoorOMem
import Derived.Test.YtgffbdkngnpfpaaDoorWDone
/- Package object: what is wrong with an object: the parts of Good. -/
namespace Go.Proofs.YtgffbdkngnpfpaaDoor
open Go.RowKit

theorem isKind_any (k : Int) (w : World) : Calls Tryd.prog 18 #[.int .i64 k] w fun e w' => e = .returned (.bool (kindB k)) ∧ w = w' := by
  unfold kindB
  cases h1 : k == 1 <;> cases h2 : k == 2 <;> cases h3 : k == 3
  all_goals
    go_enter Tryd.func18, Tryd.ntmps18
    go_wp2_with fail
    go_ret
    refine ⟨?_, rfl⟩
    first | rfl | (simp_all; done)
theorem isId_any (s : ByteArray) (w : World) : Calls Tryd.prog 47 #[.string s] w fun e w' => e = .returned (.bool (idB s)) ∧ w = w' := by
  go_enter Tryd.func47, Tryd.ntmps47
  go_wp2_with fail
  go_ret
  refine ⟨?_, rfl⟩
  unfold idB
  rw [← cast_eq]
  rfl
set_option maxRecDepth 100000 in
theorem goodName_any (s : ByteArray) (w : World) : Calls Tryd.prog 65 #[.string s] w fun e w' => e = .returned (.bool (nameB s)) ∧ Below w.heap.size w w' := by
  obtain ⟨B, hB⟩ : ∃ B, B = nameB s := ⟨_, rfl⟩
  rw [← hB]
  unfold nameB nilB eqB at hB
  rw [show (⟨#[46]⟩ : ByteArray).toList = [46] from by rw [toList_data], show (⟨#[46, 46]⟩ : ByteArray).toList = [46, 46] from by rw [toList_data], show (⟨#[]⟩ : ByteArray).toList = [] from by rw [toList_data]] at hB
  cases h0 : s.toList.isEmpty
  case true =>
    obtain rfl : B = false := by rw [hB, List.isEmpty_iff.1 h0]; simp
    clear hB
    go_enter Tryd.func65, Tryd.ntmps65
    go_wp2_with fail
    go_ret
    exact ⟨rfl, Below.refl _ _⟩
  by_cases h1 : 60 < s.size
  · have h2 : (60 : Int) < s.size := by omega
    obtain rfl : B = false := by rw [hB, decide_eq_true h1]; simp
    clear hB
    go_enter Tryd.func65, Tryd.ntmps65
    go_wp2_with fail
    go_ret
    exact ⟨rfl, Below.refl _ _⟩
  have h2 : ¬ (60 : Int) < s.size := by omega
  cases h3 : s.toList == [46]
  case true =>
    obtain rfl : B = false := by rw [hB, h3]; simp
    clear hB
    go_enter Tryd.func65, Tryd.ntmps65
    go_wp2_with fail
    go_ret
    exact ⟨rfl, Below.refl _ _⟩
  cases h4 : s.toList == [46, 46]
  case true =>
    obtain rfl : B = false := by rw [hB, h4]; simp
    clear hB
    go_enter Tryd.func65, Tryd.ntmps65
    go_wp2_with fail
    go_ret
    exact ⟨rfl, Below.refl _ _⟩
  have hB2 : Hid (B = !hasBarred s) := by
    show _ = _
    rw [hB, h3, h4, decide_eq_false h1, beq_eq_false_iff_ne.2 (fun e => by rw [e] at h0; cases h0)]
    simp
  clear hB
  have C := Lib.hid (barred_any s)
  generalize hasBarred s = z at *
  go_enter Tryd.func65, Tryd.ntmps65
  go_wp2_with fail
  (with_reducible refine (C.out w).mono ?_)
  rintro _ w1 ⟨rfl, b1⟩
  go_wp2_with fail
  go_ret
  exact ⟨by rw [hB2.out]; rfl, b1⟩

def IxRel (T : List ByteArray) (x : ByteArray) (i : Value) : Prop := ∃ k : Nat, k ≤ T.length ∧ i = .int .i64 (k : Int) ∧ (T.take k).any (eqB x) = false
set_option maxRecDepth 100000 in
theorem Index_any (T : List ByteArray) (hl : T.length ≤ 4) (A : Option Addr) (c : Nat) (x : ByteArray) (w : World) (hP : Txs w w.heap.size A T) :
    Calls Tryd.prog 78 #[.slice A T.length c, .string x] w fun e w' => (∃ n : Int, e = .returned (.int .i64 n) ∧ decide (0 ≤ n) = T.any (eqB x)) ∧ Below w.heap.size w w' := by
  go_enter Tryd.func78, Tryd.ntmps78
  go_wp2_with fail
  go_loopw [8] (fun i wr => IxRel T x i ∧ Below w.heap.size w wr) (fun i _ => T.length - (intOf i).toNat)
  case atStart => exact ⟨⟨0, Nat.zero_le _, rfl, rfl⟩, Below.refl _ _⟩
  case round =>
    obtain ⟨⟨k, hk, rfl, hno⟩, hB⟩ := hrel
    by_cases hlt : k < T.length
    · obtain ⟨ad, rfl, hbl, h0⟩ := hP k T[k] (List.getElem?_eq_getElem hlt)
      have g0 := (hB.cell hbl).trans h0
      have e1 : Hid (T.take (k + 1) = T.take k ++ [T[k]]) := List.take_succ_eq_append_getElem hlt
      have hin : T[k] ∈ T := List.getElem_mem hlt
      have hi : (k : Int) < T.length := by omega
      clear h0 hP
      generalize T[k] = y at *
      cases hq : x.toList == y.toList
      case true =>
        have hyes : Hid (T.any (eqB x) = true) := by show _ = _; rw [List.any_eq_true]; exact ⟨y, hin, hq⟩
        clear hno hin
        go_wp2_with fail
        go_ret
        exact ⟨⟨_, rfl, by rw [hyes.out]; simp⟩, hB⟩
      have hno2 : Hid ((T.take (k + 1)).any (eqB x) = false) := by show _ = _; rw [e1.out, List.any_append, hno]; simp [eqB, hq]
      clear hno hin
      go_wp2_with fail
      refine ⟨⟨⟨k + 1, hlt, by go_num, hno2.out⟩, hB⟩, by simp [intOf]; omega⟩
    · obtain rfl : k = T.length := by omega
      rw [List.take_length] at hno
      have Hno := Lib.hid hno
      have hi : ¬ (T.length : Int) < T.length := by omega
      clear hP hno
      go_wp2_with fail
      go_ret
      exact ⟨⟨_, rfl, by rw [Hno.out]; rfl⟩, hB⟩
theorem Contains_any (T : List ByteArray) (hl : T.length ≤ 4) (A : Option Addr) (c : Nat) (x : ByteArray) (w : World) (hP : Txs w w.heap.size A T) :
    Calls Tryd.prog 66 #[.slice A T.length c, .string x] w fun e w' => e = .returned (.bool (T.any (eqB x))) ∧ Below w.heap.size w w' := by
  have C := Lib.hid (Index_any T hl A c x w hP)
  clear hP
  go_enter Tryd.func66, Tryd.ntmps66
  go_wp2_with fail
  (with_reducible refine C.out.mono ?_)
  rintro _ w1 ⟨⟨n, rfl, hn⟩, b1⟩
  have Hn := Lib.hid hn
  clear hn
  go_wp2_with fail
  go_ret
  exact ⟨by rw [← Hn.out]; rfl, b1⟩
end Go.Proofs.YtgffbdkngnpfpaaDoor

/- Package object: entries and parents. -/
namespace Go.Proofs.YtgffbdkngnpfpaaDoor
open Go.RowKit

def GERel (L : List Ent) (w : World) (b i : Value) (wr : World) : Prop :=
  ∃ (k : Nat) (s : ByteArray), k ≤ L.length ∧ i = .int .i64 (k : Int) ∧ b = .string s ∧ entsB ⟨#[]⟩ L = entsB s (L.drop k) ∧ Below w.heap.size w wr
set_option maxRecDepth 100000 in
set_option maxHeartbeats 1000000 in
theorem goodEntries_any (L : List Ent) (hl : L.length ≤ 64) (A : Option Addr) (c : Nat) (w : World) (hP : Ens w w.heap.size A L) :
    Calls Tryd.prog 45 #[.slice A L.length c] w fun e w' => e = .returned (.bool (entsB ⟨#[]⟩ L)) ∧ Below w.heap.size w w' := by
  go_enter Tryd.func45, Tryd.ntmps45
  go_wp2_with fail
  go_loopw [3, 8] (fun b i wr => GERel L w b i wr) (fun _ i _ => L.length - (intOf i).toNat)
  case atStart => exact ⟨0, ⟨#[]⟩, Nat.zero_le _, rfl, rfl, by rw [List.drop_zero], Below.refl _ _⟩
  case round =>
    obtain ⟨k, s, hk, rfl, rfl, he, hB⟩ := hrel
    by_cases hlt : k < L.length
    · obtain ⟨ad, rfl, hbl, h0, h1, h2⟩ := hP k L[k] (List.getElem?_eq_getElem hlt)
      have g0 := (hB.cell hbl).trans h0
      have g1 := (hB.cell (p := ⟨(ad.add (k * 3)).block, (ad.add (k * 3)).off + 1, none⟩) hbl).trans h1
      have g2 := (hB.cell (p := ⟨(ad.add (k * 3)).block, (ad.add (k * 3)).off + 2, none⟩) hbl).trans h2
      have hi : (k : Int) < L.length := by omega
      rw [List.drop_eq_getElem_cons hlt, entsB] at he
      clear h0 h1 h2 hP
      generalize L[k] = x at *
      obtain ⟨nm, dr, id⟩ := x
      simp only at g0 g1 g2 he
      have hX := Arr.new wr 48 #[.string nm, .bool dr, .string id]
      have b1 : Below wr.heap.size wr (wr.alloc (.cells #[.string nm, .bool dr, .string id] 48)) := (Below.refl _ _).alloc (Nat.le_refl _) _
      have hB1 := hB.trans (b1.mono hB.size)
      have C := Lib.hid (goodName_any nm)
      have HE := Lib.hid he
      clear he b1
      generalize hN : nameB nm = N at *
      generalize hI : idB id = I at *
      have CI : Hid (∀ w, Calls Tryd.prog 47 #[.string id] w fun e w' => e = .returned (.bool I) ∧ w = w') := fun w => by rw [← hI]; exact isId_any id w
      clear hN hI
      have hle : Hid (leB nm s = (Op.bytesLess nm.toList s.toList || nm.toList == s.toList)) := rfl
      go_wp2_with fail
      (with_reducible refine (C.out _).mono ?_)
      rintro _ w2 ⟨rfl, b2⟩
      have hX2 := hX.below b2 hX.lt
      have hB2 := hB1.trans (b2.mono hB1.size)
      have c0 := hX2.cell 0
      have c2 := hX2.cell 2
      clear hX b2 hB1 C
      simp only [List.getElem?_toArray, List.getElem?_cons_zero, List.getElem?_cons_succ] at c0 c2
      cases N
      · go_wp2_with fail
        go_ret
        exact ⟨by rw [HE.out]; rfl, hB2⟩
      · go_wp2_with fail
        (with_reducible refine (CI.out _).mono ?_)
        rintro _ w3 ⟨rfl, rfl⟩
        cases I
        · go_wp2_with fail
          go_ret
          exact ⟨by rw [HE.out]; rfl, hB2⟩
        · cases hq : (Op.bytesLess nm.toList s.toList || nm.toList == s.toList)
          · have HE2 : Hid (entsB ⟨#[]⟩ L = entsB nm (L.drop (k + 1))) := by show _ = _; rw [HE.out, hle.out, hq]; rfl
            clear HE hle
            go_wp2_with fail
            refine ⟨⟨k + 1, nm, hlt, by go_num, rfl, HE2.out, hB2⟩, by simp [intOf]; omega⟩
          · have HE2 : Hid (entsB ⟨#[]⟩ L = false) := by show _ = _; rw [HE.out, hle.out, hq]; rfl
            clear HE hle
            go_wp2_with fail
            go_ret
            exact ⟨by rw [HE2.out]; rfl, hB2⟩
    · obtain rfl : k = L.length := by omega
      rw [List.drop_length, entsB] at he
      have HE := Lib.hid he
      have hi : ¬ (L.length : Int) < L.length := by omega
      clear hP he
      go_wp2_with fail
      go_ret
      exact ⟨by rw [HE.out]; rfl, hB⟩

def PERel (T : List ByteArray) (w : World) (i : Value) (wr : World) : Prop :=
  ∃ k : Nat, k ≤ T.length ∧ i = .int .i64 (k : Int) ∧ parsE [] T = parsE (T.take k) (T.drop k) ∧ Below w.heap.size w wr
set_option maxRecDepth 100000 in
set_option maxHeartbeats 1000000 in
theorem parentsError_any (T : List ByteArray) (hl : T.length ≤ 4) (A : Option Addr) (c : Nat) (hc : T.length ≤ c) (w : World) (hP : Txs w w.heap.size A T) :
    Calls Tryd.prog 46 #[.slice A T.length c] w fun e w' => e = .returned (.int .i64 (parsE [] T)) ∧ Below w.heap.size w w' := by
  go_enter Tryd.func46, Tryd.ntmps46
  go_wp2_with fail
  go_loopw [7] (fun i wr => PERel T w i wr) (fun i _ => T.length - (intOf i).toNat)
  case atStart => exact ⟨0, Nat.zero_le _, rfl, by rw [List.drop_zero, List.take_zero], Below.refl _ _⟩
  case round =>
    obtain ⟨k, hk, rfl, he, hB⟩ := hrel
    by_cases hlt : k < T.length
    · obtain ⟨ad, rfl, hbl, h0⟩ := hP k T[k] (List.getElem?_eq_getElem hlt)
      have g0 := (hB.cell hbl).trans h0
      have hi : (k : Int) < T.length := by omega
      have hkc : (k : Int) ≤ c := by omega
      have ht : Hid (T.take (k + 1) = T.take k ++ [T[k]]) := List.take_succ_eq_append_getElem hlt
      rw [List.drop_eq_getElem_cons hlt, parsE] at he
      have hP2 : Txs wr wr.heap.size (some ad) (T.take k) := fun j x hx => by
        have hj : j < k := by
          rcases Nat.lt_or_ge j k with h | h
          · exact h
          · rw [List.getElem?_eq_none (by rw [List.length_take]; omega)] at hx; cases hx
        rw [List.getElem?_take_of_lt hj] at hx
        obtain ⟨ad', e, hb, hcc⟩ := hP j x hx
        exact ⟨ad', e, Nat.lt_of_lt_of_le hb hB.size, (hB.cell hb).trans hcc⟩
      have C := Contains_any (T.take k) (by rw [List.length_take]; omega) (some ad) c T[k] wr hP2
      rw [List.length_take, Nat.min_eq_left hk] at C
      have HC := Lib.hid C
      clear h0 hP hP2 C
      generalize T[k] = x at *
      have HE := Lib.hid he
      generalize hI : idB x = I at *
      have CI : Hid (∀ w, Calls Tryd.prog 47 #[.string x] w fun e w' => e = .returned (.bool I) ∧ w = w') := fun w => by rw [← hI]; exact isId_any x w
      clear hI he
      generalize hA : (T.take k).any (eqB x) = a at *
      clear hA
      go_wp2_with fail
      (with_reducible refine (CI.out _).mono ?_)
      rintro _ w3 ⟨rfl, rfl⟩
      cases I
      · go_wp2_with fail
        go_ret
        exact ⟨by rw [HE.out]; rfl, hB⟩
      · go_wp2_with fail
        (with_reducible refine HC.out.mono ?_)
        rintro _ w2 ⟨rfl, b2⟩
        have hB2 := hB.trans (b2.mono hB.size)
        cases a
        · have HE2 : Hid (parsE [] T = parsE (T.take (k + 1)) (T.drop (k + 1))) := by show _ = _; rw [HE.out, ht.out]; rfl
          clear HE ht
          go_wp2_with fail
          refine ⟨⟨k + 1, hlt, by go_num, HE2.out, hB2⟩, by simp [intOf]; omega⟩
        · go_wp2_with fail
          go_ret
          exact ⟨by rw [HE.out]; rfl, hB2⟩
    · obtain rfl : k = T.length := by omega
      rw [List.drop_length, parsE] at he
      have HE := Lib.hid he
      have hi : ¬ (T.length : Int) < T.length := by omega
      clear hP he
      go_wp2_with fail
      go_ret
      exact ⟨by rw [HE.out]; rfl, hB⟩
end Go.Proofs.YtgffbdkngnpfpaaDoor
