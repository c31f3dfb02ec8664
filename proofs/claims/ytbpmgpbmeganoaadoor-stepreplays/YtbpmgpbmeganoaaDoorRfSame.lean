/- Texts in one: RfRefA, RfRefB, RfRefC, RfSame. -/
import Derived.Test.YtbpmgpbmeganoaaDoorRfSets
import Derived.Test.YtbpmgpbmeganoaaDoorDkRefA
import Derived.Test.YtbpmgpbmeganoaaDoorRfMem
/- ref.RefName: its contract. -/
namespace Go.Proofs.YtbpmgpbmeganoaaDoor
open Go.RowKit

theorem inP_int (c : UInt8) : inP c = ((decide ((97 : Int) ≤ c.toNat) && decide ((c.toNat : Int) ≤ 122)) || (decide ((48 : Int) ≤ c.toNat) && decide ((c.toNat : Int) ≤ 57)) || ((c.toNat : Int) == 45) || ((c.toNat : Int) == 95)) := by
  have e1 : decide ((97 : Int) ≤ c.toNat) = decide (97 ≤ c.toNat) := decide_eq_decide.2 (by omega)
  have e2 : decide ((c.toNat : Int) ≤ 122) = decide (c.toNat ≤ 122) := decide_eq_decide.2 (by omega)
  have e3 : decide ((48 : Int) ≤ c.toNat) = decide (48 ≤ c.toNat) := decide_eq_decide.2 (by omega)
  have e4 : decide ((c.toNat : Int) ≤ 57) = decide (c.toNat ≤ 57) := decide_eq_decide.2 (by omega)
  have e5 : ((c.toNat : Int) == 45) = decide (c.toNat = 45) := by rw [show ((c.toNat : Int) == 45) = decide ((c.toNat : Int) = 45) from rfl]; exact decide_eq_decide.2 (by omega)
  have e6 : ((c.toNat : Int) == 95) = decide (c.toNat = 95) := by rw [show ((c.toNat : Int) == 95) = decide ((c.toNat : Int) = 95) from rfl]; exact decide_eq_decide.2 (by omega)
  rw [e1, e2, e3, e4, e5, e6]
  rfl
def RnRel (t : ByteArray) (W : World) (p i : Value) (wr : World) : Prop :=
  ∃ m k : Nat, m ≤ k ∧ k ≤ t.size ∧ p = .int .i64 (m : Int) ∧ i = .int .i64 (k : Int) ∧ walkP 0 t.data.toList = walkP m (t.data.toList.drop k) ∧ W = wr
set_option maxRecDepth 100000 in
set_option maxHeartbeats 1000000 in
theorem RefNameR_any (s : ByteArray) (hs : s.size ≤ 140737488355330) (w : World) : Calls Tryd.prog 46 #[.string s] w fun e w' => e = .returned (.bool (namedR s)) ∧ Below w.heap.size w w' := by
  have hN : namedR s = (walkP 0 (s ++ ⟨#[47]⟩).data.toList && decide (s.size ≤ 60)) := by
    rw [named_walk, append_list]
  have ht : (s ++ ⟨#[47]⟩ : ByteArray).size = s.size + 1 := by rw [ByteArray.size_append]; rfl
  obtain ⟨cap, W, hcv, hcell, hB⟩ := conv_name (s ++ ⟨#[47]⟩) w
  have HN := Lib.hid hN
  have HT := Lib.hid ht
  have HC := Lib.hid hcell
  have hb1 : (s.size : Int) + 1 ≤ 9223372036854775807 := by omega
  have hb2 : s.size + 1 ≤ 9223372036854775807 := by omega
  clear hN ht hcell
  go_enter Tryd.func46, Tryd.ntmps46
  go_wp2_with fail
  clear hcv hb1 hb2
  have hts : (s ++ ⟨#[47]⟩ : ByteArray).size ≤ 140737488355331 := by rw [HT.out]; omega
  generalize (s ++ ⟨#[47]⟩ : ByteArray) = t at *
  have h0 : Hid (RnRel t W (.int .i64 0) (.int .i64 0) W) := ⟨0, 0, Nat.le_refl _, Nat.zero_le _, rfl, rfl, by rw [List.drop_zero], rfl⟩
  go_loopw [3, 10] (fun p i wr => RnRel t W p i wr) (fun _ i _ => t.size - (intOf i).toNat)
  case atStart => exact h0.out
  case round =>
    clear h0
    obtain ⟨m, k, hmk, hk, rfl, rfl, hw, rfl⟩ := hrel
    by_cases hlt : k < t.size
    · have hj : (k : Int) < (s.size : Int) + 1 := by have := HT.out; omega
      have g0 := HC.out k hlt
      rw [drop_at t k hlt, walkP] at hw
      by_cases he : t[k].toNat = 47
      · rw [if_pos he] at hw
        have hz : (t[k].toNat : Int) = 47 := by omega
        rw [hz] at g0
        by_cases hm : m = 0
        · subst hm
          rw [if_pos rfl] at hw
          have hf : Hid (namedR s = false) := by show _ = _; rw [HN.out, hw]; rfl
          clear hw he hz
          go_wp2_with fail
          go_ret
          exact ⟨by rw [hf.out]; rfl, hB⟩
        · rw [if_neg hm] at hw
          have hm2 : ((m : Int) == 0) = false := by rw [beq_eq_false_iff_ne]; omega
          have HW := Lib.hid hw
          clear hw he hz
          go_wp2_with fail
          go_roundw
          case rel => exact ⟨0, k + 1, Nat.zero_le _, hlt, rfl, by rw [Int.natCast_add]; rfl, HW.out, rfl⟩
          case measure => simp [intOf]; omega
      · rw [if_neg he] at hw
        have hz : ¬ (t[k].toNat : Int) = 47 := by omega
        have HI := Lib.hid (inP_int t[k])
        have HYes : Hid (inP t[k] = true → RnRel t W (.int .i64 ((m : Int) + 1)) (.int .i64 ((k : Int) + 1)) W) := fun hb => by
          rw [hb] at hw
          exact ⟨m + 1, k + 1, by omega, hlt, rfl, rfl, hw, rfl⟩
        have HNo : Hid (inP t[k] = false → namedR s = false) := fun hb => by
          rw [hb] at hw
          rw [HN.out, hw]
          rfl
        have hmb : (m : Int) ≤ 140737488355331 := by omega
        clear hw he
        generalize inP t[k] = I at *
        generalize (t[k].toNat : Int) = z at *
        have hz' : (z == 47) = false := by rw [beq_eq_false_iff_ne]; exact hz
        clear hz
        by_cases h1 : 97 ≤ z
        · by_cases h2 : z ≤ 122
          · have hy := Lib.hid (HYes.out (by rw [HI.out]; simp [h1, h2]))
            clear HYes HNo HI
            go_wp2_with fail
            go_roundw
            case rel => exact hy.out
            case measure => simp [intOf]; omega
          · have h5 : (z == 45) = false := by rw [beq_eq_false_iff_ne]; omega
            have h3 : 48 ≤ z := by omega
            have h4 : ¬ z ≤ 57 := by omega
            have h6 : (z == 95) = false := by rw [beq_eq_false_iff_ne]; omega
            have hno := Lib.hid (HNo.out (by rw [HI.out, h5, h6]; simp [h2, h4]))
            clear HYes HNo HI
            go_wp2_with fail
            go_ret
            exact ⟨by rw [hno.out]; rfl, hB⟩
        · by_cases h3 : 48 ≤ z
          · by_cases h4 : z ≤ 57
            · have hy := Lib.hid (HYes.out (by rw [HI.out]; simp [h3, h4]))
              clear HYes HNo HI
              go_wp2_with fail
              go_roundw
              case rel => exact hy.out
              case measure => simp [intOf]; omega
            · by_cases h6 : z = 95
              · have hy := Lib.hid (HYes.out (by rw [HI.out]; simp [h6]))
                subst h6
                clear HYes HNo HI h1
                go_wp2_with fail
                go_roundw
                case rel => exact hy.out
                case measure => simp [intOf]; omega
              · have h5' : (z == 45) = false := by rw [beq_eq_false_iff_ne]; omega
                have h6' : (z == 95) = false := by rw [beq_eq_false_iff_ne]; exact h6
                have hno := Lib.hid (HNo.out (by rw [HI.out, h5', h6']; simp [h1, h4]))
                clear HYes HNo HI h6
                go_wp2_with fail
                go_ret
                exact ⟨by rw [hno.out]; rfl, hB⟩
          · by_cases h5 : z = 45
            · have hy := Lib.hid (HYes.out (by rw [HI.out]; simp [h5]))
              subst h5
              clear HYes HNo HI
              go_wp2_with fail
              go_roundw
              case rel => exact hy.out
              case measure => simp [intOf]; omega
            · have h5' : (z == 45) = false := by rw [beq_eq_false_iff_ne]; exact h5
              have h6' : (z == 95) = false := by rw [beq_eq_false_iff_ne]; omega
              have hno := Lib.hid (HNo.out (by rw [HI.out, h5', h6']; simp [h1, h3]))
              clear HYes HNo HI h5
              go_wp2_with fail
              go_ret
              exact ⟨by rw [hno.out]; rfl, hB⟩
    · obtain rfl : k = t.size := by omega
      have hj : ¬ ((t.size : Nat) : Int) < (s.size : Int) + 1 := by have := HT.out; omega
      rw [show t.data.toList.drop t.size = [] from List.drop_length] at hw
      have HN2 : Hid (namedR s = decide (s.size ≤ 60)) := by show _ = _; rw [HN.out, hw]; rfl
      clear HN hw
      by_cases h1 : s.size ≤ 60
      · have i1 : (s.size : Int) ≤ 60 := by omega
        go_wp2_with fail
        go_ret
        exact ⟨by rw [HN2.out, decide_eq_true h1]; rfl, hB⟩
      · have i1 : ¬ (s.size : Int) ≤ 60 := by omega
        go_wp2_with fail
        go_ret
        exact ⟨by rw [HN2.out, decide_eq_false h1]; rfl, hB⟩
end Go.Proofs.YtbpmgpbmeganoaaDoor

/- ref.GoodRefs, GetRef, maybe: their contracts. -/
namespace Go.Proofs.YtbpmgpbmeganoaaDoor
open Go.RowKit

theorem leq_no {a b : ByteArray} (h : Op.bytesLess b.toList a.toList = true) : Op.bytesLess a.toList b.toList = false ∧ (a.toList == b.toList) = false := by
  have h1 : ltB b a = true := h
  refine ⟨ltB_asym h1, ?_⟩
  cases hq : (a.toList == b.toList) with
  | false => rfl
  | true => exact absurd ((sameB_iff a b).1 hq).symm (ltB_ne h1)
theorem leq_yes {a b : ByteArray} (h : Op.bytesLess b.toList a.toList = false) (h2 : Op.bytesLess a.toList b.toList = false) : (a.toList == b.toList) = true := by
  rcases ltB_tri a b with k | k | k
  · rw [show ltB a b = false from h2] at k; cases k
  · exact (sameB_iff a b).2 k
  · rw [show ltB b a = false from h] at k; cases k
def GrRel (L : List Rf) (w : World) (b i : Value) (wr : World) : Prop :=
  ∃ (k : Nat) (n : ByteArray), k ≤ L.length ∧ b = .string n ∧ i = .int .i64 (k : Int) ∧ Below w.heap.size w wr ∧ goodLR ⟨#[]⟩ L = goodLR n (L.drop k)
set_option maxRecDepth 100000 in
set_option maxHeartbeats 1000000 in
theorem GoodRefs_any (L : List Rf) (A : Option Addr) (c : Nat) (w : World) (hP : Rfs w w.heap.size A L) (hz : SizedR L) (hl : L.length ≤ 140737488355328) :
    Calls Tryd.prog 87 #[.slice A L.length c] w fun e w' => e = .returned (.bool (goodR L)) ∧ Below w.heap.size w w' := by
  have hG : goodR L = (decide (L.length ≤ 32) && goodLR ⟨#[]⟩ L) := rfl
  have HG := Lib.hid hG
  clear hG
  generalize goodR L = G at *
  have h1 : Hid (GrRel L w (.string ⟨#[]⟩) (.int .i64 0) w) := ⟨0, ⟨#[]⟩, Nat.zero_le _, rfl, rfl, Below.refl _ _, by rw [List.drop_zero]⟩
  go_enter Tryd.func87, Tryd.ntmps87
  go_wp2_with fail
  go_loopw [3, 8] (fun b i wr => GrRel L w b i wr) (fun _ i _ => L.length - (intOf i).toNat)
  case atStart => exact h1.out
  case round =>
    clear h1
    obtain ⟨k, b, hk, rfl, rfl, bel, he⟩ := hrel
    by_cases hlt : k < L.length
    · have hj : (k : Int) < L.length := by omega
      have hx : L[k]? = some L[k] := List.getElem?_eq_getElem hlt
      obtain ⟨ad, rfl, hbl, h0, h1⟩ := hP k L[k] hx
      have g0 := (bel.cell hbl).trans h0
      have g1 := (bel.cell (p := ⟨(ad.add (k * 2)).block, (ad.add (k * 2)).off + 1, none⟩) hbl).trans h1
      have hs := hz L[k] (List.getElem_mem hlt)
      rw [List.drop_eq_getElem_cons hlt, goodLR] at he
      clear h0 h1 hx
      generalize L[k] = x at *
      have HE := Lib.hid he
      clear he
      have bb : Below wr.heap.size wr ((wr.alloc (.cells rfZero 89)).setRow wr.heap.size (rfArr x)) := below_setRow ((Below.refl _ _).alloc (Nat.le_refl _) _) (Nat.le_refl _) _
      have AX : Arr ((wr.alloc (.cells rfZero 89)).setRow wr.heap.size (rfArr x)) wr.heap.size 89 (rfArr x) := (Arr.new _ _ _).row _
      go_upto_region 5 with (refine wpList_store_row rfl 89 _ _ rfl wr.heap.size (rfArr x) rfl rfl 89 rfZero (Arr.new wr _ _) (rfInfo _) rfl (rfArr_one _) ?_)
      refine wp_forget (fun V => Below w.heap.size w V ∧ Arr V wr.heap.size 89 (rfArr x)) (by exact ⟨bel.trans (bb.mono bel.size), AX⟩) ?_
      clear bb AX bel g0 g1
      generalize wr.heap.size = q
      rintro V ⟨bel, AX⟩
      have c0 : V.cell? ⟨q, 0, none⟩ = some (.string x.name) := AX.cell 0
      have c1 : V.cell? ⟨q, 1, none⟩ = some (.string x.id) := AX.cell 1
      have CN := Lib.hid (RefNameR_any x.name (by omega) V)
      generalize namedR x.name = N at *
      cases N
      · go_wp2_with fail
        (with_reducible refine CN.out.mono ?_)
        rintro _ V2 ⟨rfl, b2⟩
        replace bel := bel.trans (b2.mono bel.size)
        clear b2
        go_wp2_with fail
        go_ret
        exact ⟨by rw [HG.out, HE.out]; simp, bel⟩
      by_cases hid : ¬ x.id.size = 32
      · have hI : (((x.id.size : Nat) : Int) != 32) = true := by rw [bne_iff_ne]; omega
        have HI : Hid (decide (x.id.size = 32) = false) := decide_eq_false hid
        go_wp2_with fail
        (with_reducible refine CN.out.mono ?_)
        clear CN c0 c1
        rintro _ V2 ⟨rfl, b2⟩
        replace AX := AX.below b2 AX.lt
        replace bel := bel.trans (b2.mono bel.size)
        clear b2
        have c1 : V2.cell? ⟨q, 1, none⟩ = some (.string x.id) := AX.cell 1
        go_wp2_with fail
        go_ret
        exact ⟨by rw [HG.out, HE.out, HI.out]; simp, bel⟩
      replace hid : x.id.size = 32 := Decidable.byContradiction hid
      have hI : (((x.id.size : Nat) : Int) != 32) = false := by rw [hid]; rfl
      have HI : Hid (decide (x.id.size = 32) = true) := decide_eq_true hid
      clear hid
      have hle : ltB b x.name = Op.bytesLess b.toList x.name.toList := rfl
      have HE2 : Hid (goodLR ⟨#[]⟩ L = (Op.bytesLess b.toList x.name.toList && goodLR x.name (L.drop (k + 1)))) := by
        show _ = _
        rw [HE.out, HI.out, hle]
        rfl
      clear HE HI hle
      cases hq : Op.bytesLess b.toList x.name.toList
      · cases h5 : Op.bytesLess x.name.toList b.toList
        · have h6 := leq_yes hq h5
          have HQ := Lib.hid hq
          clear hq
          go_wp2_with fail
          (with_reducible refine CN.out.mono ?_)
          clear CN c0 c1
          rintro _ V2 ⟨rfl, b2⟩
          replace AX := AX.below b2 AX.lt
          replace bel := bel.trans (b2.mono bel.size)
          clear b2
          have c0 : V2.cell? ⟨q, 0, none⟩ = some (.string x.name) := AX.cell 0
          have c1 : V2.cell? ⟨q, 1, none⟩ = some (.string x.id) := AX.cell 1
          go_wp2_with fail
          go_ret
          exact ⟨by rw [HG.out, HE2.out, HQ.out]; simp, bel⟩
        · skip
          have HQ := Lib.hid hq
          clear hq
          go_wp2_with fail
          (with_reducible refine CN.out.mono ?_)
          clear CN c0 c1
          rintro _ V2 ⟨rfl, b2⟩
          replace AX := AX.below b2 AX.lt
          replace bel := bel.trans (b2.mono bel.size)
          clear b2
          have c0 : V2.cell? ⟨q, 0, none⟩ = some (.string x.name) := AX.cell 0
          have c1 : V2.cell? ⟨q, 1, none⟩ = some (.string x.id) := AX.cell 1
          go_wp2_with fail
          go_ret
          exact ⟨by rw [HG.out, HE2.out, HQ.out]; simp, bel⟩
      · have HE3 : Hid (goodLR ⟨#[]⟩ L = goodLR x.name (L.drop (k + 1))) := by show _ = _; rw [HE2.out, hq]; rfl
        obtain ⟨h5, h6⟩ := leq_no hq
        clear HE2
        have HQ := Lib.hid hq
        clear hq
        go_wp2_with fail
        (with_reducible refine CN.out.mono ?_)
        clear CN c0 c1
        rintro _ V2 ⟨rfl, b2⟩
        replace AX := AX.below b2 AX.lt
        replace bel := bel.trans (b2.mono bel.size)
        clear b2
        have c0 : V2.cell? ⟨q, 0, none⟩ = some (.string x.name) := AX.cell 0
        have c1 : V2.cell? ⟨q, 1, none⟩ = some (.string x.id) := AX.cell 1
        go_wp2_with fail
        go_roundw
        case rel => exact ⟨k + 1, x.name, hlt, rfl, by rw [Int.natCast_add]; rfl, bel, HE3.out⟩
        case measure => simp [intOf]; omega
    · obtain rfl : k = L.length := by omega
      have hj : ¬ (L.length : Int) < L.length := by omega
      rw [List.drop_length] at he
      have HE : Hid (G = decide (L.length ≤ 32)) := by show _ = _; rw [HG.out, he]; simp [goodLR]
      clear he HG
      by_cases h32 : L.length ≤ 32
      · have i1 : (L.length : Int) ≤ 32 := by omega
        go_wp2_with fail
        go_ret
        exact ⟨by rw [HE.out, decide_eq_true h32]; rfl, bel⟩
      · have i1 : ¬ (L.length : Int) ≤ 32 := by omega
        go_wp2_with fail
        go_ret
        exact ⟨by rw [HE.out, decide_eq_false h32]; rfl, bel⟩
def GtRel (L : List Rf) (n : ByteArray) (w : World) (i : Value) (wr : World) : Prop :=
  ∃ k : Nat, k ≤ L.length ∧ i = .int .i64 (k : Int) ∧ Below w.heap.size w wr ∧ idAt n L = idAt n (L.drop k)
set_option maxRecDepth 100000 in
set_option maxHeartbeats 1000000 in
theorem GetRef_any (L : List Rf) (n : ByteArray) (A : Option Addr) (c : Nat) (w : World) (hP : Rfs w w.heap.size A L) (hl : L.length ≤ 140737488355328) :
    Calls Tryd.prog 88 #[.slice A L.length c, .string n] w fun e w' => e = .returned (.string (idAt n L)) ∧ Below w.heap.size w w' := by
  have h1 : Hid (GtRel L n w (.int .i64 0) w) := ⟨0, Nat.zero_le _, rfl, Below.refl _ _, by rw [List.drop_zero]⟩
  go_enter Tryd.func88, Tryd.ntmps88
  go_wp2_with fail
  go_loopw [9] (fun i wr => GtRel L n w i wr) (fun i _ => L.length - (intOf i).toNat)
  case atStart => exact h1.out
  case round =>
    clear h1
    obtain ⟨k, hk, rfl, bel, he⟩ := hrel
    by_cases hlt : k < L.length
    · have hj : (k : Int) < L.length := by omega
      have hx : L[k]? = some L[k] := List.getElem?_eq_getElem hlt
      obtain ⟨ad, rfl, hbl, h0, h1⟩ := hP k L[k] hx
      have g0 := (bel.cell hbl).trans h0
      have g1 := (bel.cell (p := ⟨(ad.add (k * 2)).block, (ad.add (k * 2)).off + 1, none⟩) hbl).trans h1
      rw [List.drop_eq_getElem_cons hlt] at he
      clear h0 h1 hx
      generalize L[k] = x at *
      have HE : Hid (idAt n L = if x.name = n then x.id else idAt n (L.drop (k + 1))) := by
        show _ = _
        rw [he]
        unfold idAt getRf
        rw [List.find?_cons]
        by_cases e : x.name = n <;> simp [e]
      clear he
      have bb : Below wr.heap.size wr ((wr.alloc (.cells rfZero 89)).setRow wr.heap.size (rfArr x)) := below_setRow ((Below.refl _ _).alloc (Nat.le_refl _) _) (Nat.le_refl _) _
      have AX : Arr ((wr.alloc (.cells rfZero 89)).setRow wr.heap.size (rfArr x)) wr.heap.size 89 (rfArr x) := (Arr.new _ _ _).row _
      go_upto_region 4 with (refine wpList_store_row rfl 89 _ _ rfl wr.heap.size (rfArr x) rfl rfl 89 rfZero (Arr.new wr _ _) (rfInfo _) rfl (rfArr_one _) ?_)
      refine wp_forget (fun V => Below w.heap.size w V ∧ Arr V wr.heap.size 89 (rfArr x)) (by exact ⟨bel.trans (bb.mono bel.size), AX⟩) ?_
      clear bb AX bel g0 g1
      generalize wr.heap.size = q
      rintro V ⟨bel, AX⟩
      have c0 : V.cell? ⟨q, 0, none⟩ = some (.string x.name) := AX.cell 0
      have c1 : V.cell? ⟨q, 1, none⟩ = some (.string x.id) := AX.cell 1
      by_cases e : x.name = n
      · have hs : (x.name.toList == n.toList) = true := (sameB_iff x.name n).2 e
        have HE2 : Hid (idAt n L = x.id) := by show _ = _; rw [HE.out, if_pos e]
        clear HE e
        go_wp2_with fail
        go_ret
        exact ⟨by rw [HE2.out]; rfl, bel⟩
      · have hs : (x.name.toList == n.toList) = false := by
          cases hq : (x.name.toList == n.toList) with
          | false => rfl
          | true => exact absurd ((sameB_iff x.name n).1 hq) e
        have HE2 : Hid (idAt n L = idAt n (L.drop (k + 1))) := by show _ = _; rw [HE.out, if_neg e]
        clear HE e
        go_wp2_with fail
        go_roundw
        case rel => exact ⟨k + 1, hlt, by rw [Int.natCast_add]; rfl, bel, HE2.out⟩
        case measure => simp [intOf]; omega
    · obtain rfl : k = L.length := by omega
      have hj : ¬ (L.length : Int) < L.length := by omega
      rw [List.drop_length] at he
      have HE := Lib.hid he
      clear he
      go_wp2_with fail
      go_ret
      exact ⟨by rw [HE.out]; rfl, bel⟩
theorem maybe_any (s : ByteArray) (w : World) : Calls Tryd.prog 47 #[.string s] w fun e w' => e = .returned (.bool (isId s)) ∧ w' = w := by
  by_cases h0 : s.size = 0
  · have HI : Hid (isId s = true) := by show _ = _; unfold isId; rw [decide_eq_true h0]; rfl
    have hi : (((s.size : Nat) : Int) == 0) = true := by rw [h0]; rfl
    go_enter Tryd.func47, Tryd.ntmps47
    go_wp2_with fail
    go_ret
    exact ⟨by rw [HI.out]; rfl, rfl⟩
  · have hj : (((s.size : Nat) : Int) == 0) = false := by rw [beq_eq_false_iff_ne]; omega
    by_cases h32 : s.size = 32
    · have HI : Hid (isId s = true) := by show _ = _; unfold isId; rw [decide_eq_true h32, Bool.or_true]
      have hi : (((s.size : Nat) : Int) == 32) = true := by rw [h32]; rfl
      go_enter Tryd.func47, Tryd.ntmps47
      go_wp2_with fail
      go_ret
      exact ⟨by rw [HI.out]; rfl, rfl⟩
    · have HI : Hid (isId s = false) := by show _ = _; unfold isId; rw [decide_eq_false h32, decide_eq_false h0]; rfl
      have hi : (((s.size : Nat) : Int) == 32) = false := by rw [beq_eq_false_iff_ne]; omega
      go_enter Tryd.func47, Tryd.ntmps47
      go_wp2_with fail
      go_ret
      exact ⟨by rw [HI.out]; rfl, rfl⟩
end Go.Proofs.YtbpmgpbmeganoaaDoor

/- ref.SetRef: its contract. -/
namespace Go.Proofs.YtbpmgpbmeganoaaDoor
open Go.RowKit

def aheadR (n : ByteArray) (L : List Rf) : List Rf := L.filter fun f => ltB f.name n
def behindR (n : ByteArray) (L : List Rf) : List Rf := L.filter fun f => ltB n f.name
theorem ahead_none {n b : ByteArray} {L : List Rf} (h : rrs b L) (hb : ltB b n = false) (hne : b ≠ n → ltB n b = true) : aheadR n L = [] := by
  unfold aheadR
  rw [List.filter_eq_nil_iff]
  intro f hf
  have h1 := rrs_lt h f hf
  rw [Bool.not_eq_true]
  by_cases e : b = n
  · subst e; exact ltB_asym h1
  · exact ltB_asym (ltB_trans (hne e) h1)
theorem behind_all {n b : ByteArray} {L : List Rf} (h : rrs b L) (hb : b = n ∨ ltB n b = true) : behindR n L = L := by
  unfold behindR
  rw [List.filter_eq_self]
  intro f hf
  have h1 := rrs_lt h f hf
  rcases hb with rfl | hb
  · exact h1
  · exact ltB_trans hb h1
theorem put_parts (f : Rf) : ∀ (L : List Rf) (b : ByteArray), rrs b L → putR f L = aheadR f.name L ++ f :: behindR f.name L
  | [], _, _ => rfl
  | x :: l, b, h => by
    have ih := put_parts f l x.name h.2
    unfold putR
    cases hl : ltB x.name f.name with
    | true =>
      have e1 : aheadR f.name (x :: l) = x :: aheadR f.name l := by unfold aheadR; rw [List.filter_cons, hl]; rfl
      have e2 : behindR f.name (x :: l) = behindR f.name l := by unfold behindR; rw [List.filter_cons, ltB_asym hl]; rfl
      rw [e1, e2, ih]
      rfl
    | false =>
      have e1 : aheadR f.name (x :: l) = [] := by
        have : aheadR f.name l = [] := ahead_none h.2 hl (fun hne => by
          rcases ltB_tri x.name f.name with k | k | k
          · rw [hl] at k; cases k
          · exact absurd k hne
          · exact k)
        unfold aheadR at this ⊢
        rw [List.filter_cons, hl, this]
        rfl
      rw [e1]
      by_cases e : x.name = f.name
      · have e2 : behindR f.name (x :: l) = l := by
          have : behindR f.name l = l := behind_all h.2 (.inl e)
          unfold behindR at this ⊢
          rw [List.filter_cons, this, e, ltB_irr]
          rfl
        rw [e2]
        simp [e]
      · have hgt : ltB f.name x.name = true := by
          rcases ltB_tri x.name f.name with k | k | k
          · rw [hl] at k; cases k
          · exact absurd k e
          · exact k
        have e2 : behindR f.name (x :: l) = x :: l := by
          have : behindR f.name l = l := behind_all h.2 (.inr hgt)
          unfold behindR at this ⊢
          rw [List.filter_cons, this, hgt]
          rfl
        rw [e2]
        simp [e]
theorem del_parts (n : ByteArray) (L : List Rf) : ∀ (b : ByteArray), rrs b L → delR n L = aheadR n L ++ behindR n L := by
  induction L with
  | nil => intro _ _; rfl
  | cons x l ih =>
    intro b h
    have ih := ih x.name h.2
    rcases ltB_tri x.name n with k | k | k
    · have hne : ¬ x.name = n := ltB_ne k
      have e1 : aheadR n (x :: l) = x :: aheadR n l := by unfold aheadR; rw [List.filter_cons, k]; rfl
      have e2 : behindR n (x :: l) = behindR n l := by unfold behindR; rw [List.filter_cons, ltB_asym k]; rfl
      have e3 : delR n (x :: l) = x :: delR n l := by unfold delR; rw [List.filter_cons]; simp [hne]
      rw [e1, e2, e3, ih]
      rfl
    · subst k
      have e1 : aheadR x.name (x :: l) = [] := by
        have : aheadR x.name l = [] := ahead_none h.2 (ltB_irr _) (fun hne => absurd rfl hne)
        unfold aheadR at this ⊢
        rw [List.filter_cons, ltB_irr, this]
        rfl
      have e2 : behindR x.name (x :: l) = l := by
        have : behindR x.name l = l := behind_all h.2 (.inl rfl)
        unfold behindR at this ⊢
        rw [List.filter_cons, this, ltB_irr]
        rfl
      have e4 : behindR x.name l = l := behind_all h.2 (.inl rfl)
      have e5 : aheadR x.name l = [] := ahead_none h.2 (ltB_irr _) (fun hne => absurd rfl hne)
      have e3 : delR x.name (x :: l) = delR x.name l := by unfold delR; rw [List.filter_cons]; simp
      rw [e1, e2, e3, ih, e4, e5]
    · have hne : ¬ x.name = n := fun e => ltB_ne k e.symm
      have hlt := ltB_asym k
      have e4 : behindR n l = l := behind_all h.2 (.inr k)
      have e5 : aheadR n l = [] := ahead_none h.2 hlt (fun _ => k)
      have e1 : aheadR n (x :: l) = [] := by
        unfold aheadR at e5 ⊢
        rw [List.filter_cons, hlt, e5]
        rfl
      have e2 : behindR n (x :: l) = x :: l := by
        unfold behindR at e4 ⊢
        rw [List.filter_cons, e4, k]
        rfl
      have e3 : delR n (x :: l) = x :: delR n l := by unfold delR; rw [List.filter_cons]; simp [hne]
      rw [e1, e2, e3, ih, e4, e5]
      rfl
theorem changed_parts {L : List Rf} {b : ByteArray} (h : rrs b L) (n i : ByteArray) : changed L n i = aheadR n L ++ (if i.size = 0 then [] else [⟨n, i⟩]) ++ behindR n L := by
  unfold changed
  split
  · rw [List.append_nil]; exact del_parts n L b h
  · rw [put_parts ⟨n, i⟩ L b h]; simp
theorem idAt_zero {L : List Rf} (h : goodR L = true) (n : ByteArray) : (idAt n L).size = 0 ↔ (getRf n L).isSome = false := by
  unfold idAt
  cases hg : getRf n L with
  | none => exact ⟨fun _ => rfl, fun _ => rfl⟩
  | some f =>
    have := ((goodR_iff L).1 h).2.2 f (getR_name hg).2
    simp only [Option.isSome_some]
    constructor
    · intro h0; omega
    · intro h0; cases h0
theorem full_iff {L : List Rf} (h : goodR L = true) (n i : ByteArray) : 32 < (changed L n i).length ↔ (idAt n L).size = 0 ∧ ¬ i.size = 0 ∧ L.length = 32 := by
  obtain ⟨hl, hr, _⟩ := (goodR_iff L).1 h
  rw [idAt_zero h]
  unfold changed
  split
  · rename_i h0
    have : (delR n L).length ≤ L.length := List.length_filter_le _ _
    constructor
    · intro h1; omega
    · intro h1; exact absurd h0 h1.2.1
  · rename_i h0
    rw [putR_len ⟨n, i⟩ L _ hr]
    cases hg : (getRf n L).isSome with
    | true => simp; omega
    | false => simp [h0]; omega
theorem ahead_next {n : ByteArray} {L : List Rf} {k : Nat} {x : Rf} (h : L[k]? = some x) : aheadR n (L.take (k + 1)) = aheadR n (L.take k) ++ (if ltB x.name n then [x] else []) := by
  obtain ⟨hk, rfl⟩ := List.getElem?_eq_some_iff.1 h
  unfold aheadR
  rw [List.take_succ_eq_append_getElem hk, List.filter_append, List.filter_cons]
  cases ltB L[k].name n <;> rfl
theorem behind_next {n : ByteArray} {L : List Rf} {k : Nat} {x : Rf} (h : L[k]? = some x) : behindR n (L.take (k + 1)) = behindR n (L.take k) ++ (if ltB n x.name then [x] else []) := by
  obtain ⟨hk, rfl⟩ := List.getElem?_eq_some_iff.1 h
  unfold behindR
  rw [List.take_succ_eq_append_getElem hk, List.filter_append, List.filter_cons]
  cases ltB n L[k].name <;> rfl
theorem ahead_le (n : ByteArray) (L : List Rf) (k : Nat) : (aheadR n (L.take k)).length ≤ L.length := Nat.le_trans (List.length_filter_le _ _) (by rw [List.length_take]; omega)
theorem behind_le (n : ByteArray) (L : List Rf) (k : Nat) : (behindR n (L.take k)).length ≤ L.length := Nat.le_trans (List.length_filter_le _ _) (by rw [List.length_take]; omega)
/-- one more ref, appended -/
theorem app_ref {w V : World} {v : Value} {T : List Rf} {x : Rf} (own : V.ownsRow w.heap.size 89 2 v T.length (rfCells T)) (bel : Below w.heap.size w V) :
    News (V.alloc (.cells (rfArr x) 89)) (some ⟨V.heap.size, 0, none⟩) 1 (rfArr x).toList ∧ (V.alloc (.cells (rfArr x) 89)).ownsRow w.heap.size 89 2 v T.length (rfCells T) ∧ w.heap.size ≤ (V.alloc (.cells (rfArr x) 89)).heap.size ∧
      ∀ v' w', w'.ownsRow w.heap.size 89 2 v' (T.length + 1) (rfCells T ++ (rfArr x).toList) → (V.alloc (.cells (rfArr x) 89)).grownBy w' v.ownBlock → w'.ownsRow w.heap.size 89 2 v' (T ++ [x]).length (rfCells (T ++ [x])) ∧ Below w.heap.size w w' := by
  have A0 : Arr (V.alloc (.cells (rfArr x) 89)) V.heap.size 89 (rfArr x) := Arr.new _ _ _
  have bq : Below V.heap.size V (V.alloc (.cells (rfArr x) 89)) := (Below.refl _ _).alloc (Nat.le_refl _) _
  have own2 : (V.alloc (.cells (rfArr x) 89)).ownsRow w.heap.size 89 2 v T.length (rfCells T) := by
    refine ⟨own.1, ?_⟩
    rcases own.2 with hn | ⟨g, cap, cur, hv, hbs, hg, rest⟩
    · exact .inl hn
    · exact .inr ⟨g, cap, cur, hv, hbs, (bq.block g (Array.getElem?_eq_some_iff.1 hg).1).trans hg, rest⟩
  have b2 := bel.trans (bq.mono bel.size)
  refine ⟨⟨fun e => (by cases e), fun ad e j u hu => ?_⟩, own2, b2.size, fun v' w' h1 h2 => ⟨?_, b2.grown h2 b2.size (fun q hq => own_at own q hq)⟩⟩
  · cases e
    rw [zero_add, A0.cell j, ← Array.getElem?_toList]
    exact hu
  · rw [List.length_append, rfCells_app]
    simp only [rfCells, List.append_nil, List.length_singleton]
    exact h1
def SfRel (L : List Rf) (P : List Rf) (F : List Rf → List Rf) (w : World) (v i : Value) (wr : World) : Prop :=
  ∃ (k : Nat) (v0 : Value), k ≤ L.length ∧ i = .int .i64 (k : Int) ∧ v0 = v ∧ wr.ownsRow w.heap.size 89 2 v0 (P ++ F (L.take k)).length (rfCells (P ++ F (L.take k))) ∧ Below w.heap.size w wr
theorem own_up {w w' : World} {base : Nat} {e : TypeId} {size n : Nat} {v : Value} {xs : List Value} (h : w.ownsRow base e size v n xs) (hb : Below w.heap.size w w') : w'.ownsRow base e size v n xs := by
  refine ⟨h.1, ?_⟩
  rcases h.2 with hn | ⟨g, cap, cur, hv, hbs, hg, rest⟩
  · exact .inl hn
  · exact .inr ⟨g, cap, cur, hv, hbs, (hb.block g (Array.getElem?_eq_some_iff.1 hg).1).trans hg, rest⟩
theorem rfArr_ones (x : Rf) : ∀ u ∈ (rfArr x).toList, u.oneCell' = true := fun u hu => by
  simp [rfArr] at hu
  rcases hu with rfl | rfl <;> rfl
theorem str_empty (i : ByteArray) : i.toList.isEmpty = decide (i.size = 0) := by
  rw [toList_data]
  have hz : i.data.toList.length = i.size := rfl
  cases hq : i.data.toList with
  | nil => rw [hq] at hz; simp at hz; rw [decide_eq_true (by omega)]; rfl
  | cons a l => rw [hq] at hz; simp at hz; rw [decide_eq_false (by omega)]; rfl
theorem str_same (a b : ByteArray) : (a.toList == b.toList) = decide (a = b) := by
  have := sameB_iff a b
  unfold sameB at this
  cases hq : (a.toList == b.toList) with
  | true => rw [decide_eq_true (this.1 hq)]
  | false => rw [decide_eq_false (fun e => by rw [this.2 e] at hq; cases hq)]
set_option maxRecDepth 100000 in
set_option maxHeartbeats 2000000 in
theorem SetRef_any (L : List Rf) (n o i : ByteArray) (A : Option Addr) (c : Nat) (w : World) (hP : Rfs w w.heap.size A L) (hz : SizedR L) (hl : L.length ≤ 140737488355328) (hzn : n.size ≤ 140737488355328) :
    Calls Tryd.prog 64 #[.slice A L.length c, .string n, .string o, .string i] w (SrEnd w (setR L n o i)) := by
  have C1 := Lib.hid (GoodRefs_any L A c w hP hz hl)
  have HS := Lib.hid hP
  cases hG : goodR L
  · rw [hG] at C1
    have HE : Hid (setR L n o i = ([], 3)) := by show _ = _; unfold setR; rw [hG]; rfl
    clear hP
    go_enter Tryd.func64, Tryd.ntmps64
    go_wp2_with fail
    (with_reducible refine C1.out.mono ?_)
    rintro _ V ⟨rfl, b1⟩
    go_wp2_with fail
    go_ret2
    rw [HE.out]
    exact sr_no _ _ _ b1
  rw [hG] at C1
  obtain ⟨hl2, hr, _⟩ := (goodR_iff L).1 hG
  have HCP := Lib.hid (changed_parts hr n i)
  have HFU := Lib.hid (full_iff hG n i)
  have CN := Lib.hid (fun V => RefNameR_any n (by omega) V)
  have CO := Lib.hid (fun V => maybe_any o V)
  have CI := Lib.hid (fun V => maybe_any i V)
  have CG : Hid (∀ V, Below w.heap.size w V → Calls Tryd.prog 88 #[.slice A L.length c, .string n] V fun e w' => e = .returned (.string (idAt n L)) ∧ Below V.heap.size V w') := fun V b => GetRef_any L n A c V (HS.out.up b) hl
  have HE : Hid (setR L n o i = if !namedR n || !isId o || !isId i then ([], 2) else if idAt n L ≠ o then ([], 9) else if 32 < (changed L n i).length then ([], 6) else (changed L n i, 0)) := by show _ = _; unfold setR; rw [hG]; rfl
  clear hG hr
  generalize setR L n o i = R at *
  cases hn : namedR n
  · rw [hn] at CN HE
    clear hP
    go_enter Tryd.func64, Tryd.ntmps64
    go_wp2_with fail
    (with_reducible refine C1.out.mono ?_)
    rintro _ V ⟨rfl, b1⟩
    go_wp2_with fail
    (with_reducible refine (CN.out V).mono ?_)
    rintro _ V2 ⟨rfl, b2⟩
    replace b1 := b1.trans (b2.mono b1.size)
    go_wp2_with fail
    go_ret2
    rw [HE.out]
    exact sr_no _ _ _ b1
  rw [hn] at CN HE
  cases ho : isId o
  · rw [ho] at CO HE
    clear hP
    go_enter Tryd.func64, Tryd.ntmps64
    go_wp2_with fail
    (with_reducible refine C1.out.mono ?_)
    rintro _ V ⟨rfl, b1⟩
    go_wp2_with fail
    (with_reducible refine (CN.out V).mono ?_)
    rintro _ V2 ⟨rfl, b2⟩
    replace b1 := b1.trans (b2.mono b1.size)
    go_wp2_with fail
    (with_reducible refine (CO.out V2).mono ?_)
    rintro _ V3 ⟨rfl, rfl⟩
    go_wp2_with fail
    go_ret2
    rw [HE.out]
    exact sr_no _ _ _ b1
  rw [ho] at CO HE
  cases hi : isId i
  · rw [hi] at CI HE
    clear hP
    go_enter Tryd.func64, Tryd.ntmps64
    go_wp2_with fail
    (with_reducible refine C1.out.mono ?_)
    rintro _ V ⟨rfl, b1⟩
    go_wp2_with fail
    (with_reducible refine (CN.out V).mono ?_)
    rintro _ V2 ⟨rfl, b2⟩
    replace b1 := b1.trans (b2.mono b1.size)
    go_wp2_with fail
    (with_reducible refine (CO.out V2).mono ?_)
    rintro _ V3 ⟨rfl, rfl⟩
    go_wp2_with fail
    (with_reducible refine (CI.out V3).mono ?_)
    rintro _ V4 ⟨rfl, rfl⟩
    go_wp2_with fail
    go_ret2
    rw [HE.out]
    exact sr_no _ _ _ b1
  rw [hi] at CI HE
  clear hn ho hi
  have HQ := str_same (idAt n L) o
  have hoe := str_empty o
  have hie := str_empty i
  go_enter Tryd.func64, Tryd.ntmps64
  go_wp2_with fail
  (with_reducible refine C1.out.mono ?_)
  rintro _ V ⟨rfl, b1⟩
  go_wp2_with fail
  (with_reducible refine (CN.out V).mono ?_)
  rintro _ V2 ⟨rfl, b2⟩
  replace b1 := b1.trans (b2.mono b1.size)
  go_wp2_with fail
  (with_reducible refine (CO.out V2).mono ?_)
  rintro _ V3 ⟨rfl, rfl⟩
  go_wp2_with fail
  (with_reducible refine (CI.out V3).mono ?_)
  rintro _ V4 ⟨rfl, rfl⟩
  clear CN CO CI C1
  have C5 := Lib.hid (CG.out V4 b1)
  go_wp2_with fail
  (with_reducible refine C5.out.mono ?_)
  clear C5 b2 CG
  rintro _ V5 ⟨rfl, b2⟩
  replace b1 := b1.trans (b2.mono b1.size)
  clear b2
  by_cases hq : ¬ idAt n L = o
  · rw [decide_eq_false hq] at HQ
    have HE2 : Hid (R = ([], 9)) := by show _ = _; rw [HE.out]; simp [hq]
    clear HE
    go_wp2_with fail
    go_ret2
    rw [HE2.out]
    exact sr_no _ _ _ b1
  replace hq : idAt n L = o := Decidable.byContradiction hq
  rw [decide_eq_true hq] at HQ
  have HE2 : Hid (R = if o.size = 0 ∧ ¬ i.size = 0 ∧ L.length = 32 then ([], 6) else (changed L n i, 0)) := by
    show _ = _
    rw [HE.out]
    have := HFU.out
    rw [hq] at this
    simp only [hq, ne_eq, not_true, if_false, Bool.not_true, Bool.or_false, Bool.false_eq_true]
    by_cases h6 : 32 < (changed L n i).length
    · rw [if_pos h6, if_pos (this.1 h6)]
    · rw [if_neg h6, if_neg (fun q => h6 (this.2 q))]
  clear HE HFU hq
  rw [HCP.out] at HE2
  clear HCP
  by_cases h6 : o.size = 0 ∧ ¬ i.size = 0 ∧ L.length = 32
  · have HE3 : Hid (R = ([], 6)) := by show _ = _; rw [HE2.out, if_pos h6]
    obtain ⟨h7, h8, h9⟩ := h6
    rw [decide_eq_true h7] at hoe
    rw [decide_eq_false h8] at hie
    have h10 : (((L.length : Nat) : Int) == 32) = true := by rw [h9]; rfl
    clear HE2 h7 h8 h9
    go_wp2_with fail
    go_ret2
    rw [HE3.out]
    exact sr_no _ _ _ b1
  have HE3 : Hid (R = (aheadR n L ++ (if i.size = 0 then [] else [⟨n, i⟩]) ++ behindR n L, 0)) := by show _ = _; rw [HE2.out, if_neg h6]
  clear HE2
  have h10 : (((L.length : Nat) : Int) == 32) = decide (L.length = 32) := by
    by_cases h : L.length = 32
    · rw [decide_eq_true h, h]; rfl
    · rw [decide_eq_false h, beq_eq_false_iff_ne]; omega
  have h0 : Hid (SfRel L [] (aheadR n) w (.slice none 0 0) (.int .i64 0) V5) := ⟨0, _, Nat.zero_le _, rfl, rfl, own_nil _ _ _ _, b1⟩
  obtain ⟨si, hsi, sz0, sz1, sz2⟩ := info_parts info_ref
  have Hsi := Lib.hid hsi
  have Sz0 := Lib.hid sz0
  have Sz1 := Lib.hid sz1
  have Sz2 := Lib.hid sz2
  clear hsi sz0 sz1 sz2
  clear HS
  by_cases h8 : i.size = 0
  · rw [decide_eq_true h8] at hie
    rw [if_pos h8] at HE3
    by_cases h7 : o.size = 0
    · rw [decide_eq_true h7] at hoe
      clear h7 h8 h6 h10
      have HPl : Hid (([] : List Rf).length ≤ 100) := Nat.zero_le _
      go_wp2_with fail
      go_loopw [10, 49] (fun v j wr => SfRel L [] (aheadR n) w v j wr) (fun _ j _ => L.length - (intOf j).toNat)
      case atStart => exact h0.out
      case round =>
        clear h0
        obtain ⟨k, v, hk, rfl, rfl, own, bel⟩ := hrel
        by_cases hlt : k < L.length
        · have hj : (k : Int) < L.length := by omega
          have hx : L[k]? = some L[k] := List.getElem?_eq_getElem hlt
          obtain ⟨ad, rfl, hbl, h0, h1⟩ := hP k L[k] hx
          have g0 := (bel.cell hbl).trans h0
          have g1 := (bel.cell (p := ⟨(ad.add (k * 2)).block, (ad.add (k * 2)).off + 1, none⟩) hbl).trans h1
          have HN := Lib.hid (ahead_next (n := n) hx)
          have hle : ([] ++ aheadR n (L.take k)).length ≤ 1000 := by have := ahead_le n L k; have := HPl.out; rw [List.length_append]; omega
          clear h0 h1 hx
          generalize L[k] = x at *
          have bb : Below wr.heap.size wr ((wr.alloc (.cells rfZero 89)).setRow wr.heap.size (rfArr x)) := below_setRow ((Below.refl _ _).alloc (Nat.le_refl _) _) (Nat.le_refl _) _
          have AX : Arr ((wr.alloc (.cells rfZero 89)).setRow wr.heap.size (rfArr x)) wr.heap.size 89 (rfArr x) := (Arr.new _ _ _).row _
          go_upto_region 13 with (refine wpList_store_row rfl 89 _ _ rfl wr.heap.size (rfArr x) rfl rfl 89 rfZero (Arr.new wr _ _) (rfInfo _) rfl (rfArr_one _) ?_)
          refine wp_forget (fun V => Below w.heap.size w V ∧ Arr V wr.heap.size 89 (rfArr x) ∧ V.ownsRow w.heap.size 89 2 v ([] ++ aheadR n (L.take k)).length (rfCells ([] ++ aheadR n (L.take k)))) (by exact ⟨bel.trans (bb.mono bel.size), AX, own_up own bb⟩) ?_
          clear bb AX bel own g0 g1
          generalize wr.heap.size = q
          rintro V ⟨bel, AX, own⟩
          have c0 : V.cell? ⟨q, 0, none⟩ = some (.string x.name) := AX.cell 0
          have c1 : V.cell? ⟨q, 1, none⟩ = some (.string x.id) := AX.cell 1
          clear AX
          have hq2 : ltB x.name n = Op.bytesLess x.name.toList n.toList := rfl
          rw [hq2] at HN
          clear hq2
          cases hq : Op.bytesLess x.name.toList n.toList
          · rw [hq] at HN
            have HO : Hid (V.ownsRow w.heap.size 89 2 v ([] ++ aheadR n (L.take (k + 1))).length (rfCells ([] ++ aheadR n (L.take (k + 1))))) := by
              have := HN.out
              simp only [Bool.false_eq_true, if_false, List.append_nil] at this
              show World.ownsRow _ _ _ _ _ _ _
              rw [this]
              exact own
            clear own HN
            go_wp2_with fail
            go_roundw
            case rel => exact ⟨k + 1, _, hlt, by rw [Int.natCast_add]; rfl, rfl, HO.out, bel⟩
            case measure => simp [intOf]; omega
          · rw [hq] at HN
            have HT : Hid ([] ++ aheadR n (L.take (k + 1)) = ([] ++ aheadR n (L.take k)) ++ [x]) := by
              have := HN.out
              simp only [if_true] at this
              show _ = _
              rw [this]
              exact (List.append_assoc _ _ _).symm
            clear HN
            obtain ⟨n1, n2, n3, n4⟩ := app_ref (x := x) own bel
            have N1 := Lib.hid n1
            have N2 := Lib.hid n2
            have N3 := Lib.hid n3
            have N4 := Lib.hid n4
            clear n1 n2 n3 n4 own
            have HG2 : Hid (([] ++ aheadR n (L.take k)).length ≤ 1000) := hle
            clear hle
            generalize ([] ++ aheadR n (L.take k)) = T at *
            have hle := HG2.out
            go_wp2_with (at_builtin; refine wpList_app _ rfl _ _ 46 rfl w.heap.size 89 si _ 2 32 Tryd.underlying46 Hsi.out Sz0.out Sz1.out Sz2.out rfl (by decide) _ _ _ rfl N2.out (some ⟨V.heap.size, 0, none⟩) 1 1 (rfArr x).toList rfl rfl N1.out (rfArr_ones x) (by unfold maxLen; omega) (by omega) N3.out ?_)
            intro v' w' h1 h2
            obtain ⟨h3, h4⟩ := N4.out v' w' h1 h2
            have H3 := Lib.hid h3
            clear h1 h2 h3 N1 N2 N3 N4
            go_wp2_with fail
            go_roundw
            case rel => exact ⟨k + 1, _, hlt, by rw [Int.natCast_add]; rfl, rfl, by rw [HT.out]; exact H3.out, h4⟩
            case measure => simp [intOf]; omega
        · obtain rfl : k = L.length := by omega
          have hj : ¬ (L.length : Int) < L.length := by omega
          rw [List.take_length] at own
          clear HPl
          have h0 : Hid (SfRel L (aheadR n L ++ []) (behindR n) w v (.int .i64 0) wr) := ⟨0, _, Nat.zero_le _, rfl, rfl, by simp only [List.take_zero]; simpa [behindR] using own, bel⟩
          have HPl : Hid ((aheadR n L ++ []).length ≤ 100) := by show _ ≤ _; have := ahead_le n L L.length; rw [List.take_length] at this; simp only [List.length_append, List.length_nil]; omega
          clear own
          go_wp2_with fail
          go_loopw [10, 72] (fun v j wr => SfRel L (aheadR n L ++ []) (behindR n) w v j wr) (fun _ j _ => L.length - (intOf j).toNat)
          case atStart => exact h0.out
          case round =>
            clear h0
            obtain ⟨k, v, hk, rfl, rfl, own, bel⟩ := hrel
            by_cases hlt : k < L.length
            · have hj : (k : Int) < L.length := by omega
              have hx : L[k]? = some L[k] := List.getElem?_eq_getElem hlt
              obtain ⟨ad, rfl, hbl, h0, h1⟩ := hP k L[k] hx
              have g0 := (bel.cell hbl).trans h0
              have g1 := (bel.cell (p := ⟨(ad.add (k * 2)).block, (ad.add (k * 2)).off + 1, none⟩) hbl).trans h1
              have HN := Lib.hid (behind_next (n := n) hx)
              have hle : ((aheadR n L ++ []) ++ behindR n (L.take k)).length ≤ 1000 := by have := behind_le n L k; have := HPl.out; rw [List.length_append]; omega
              clear h0 h1 hx
              generalize L[k] = x at *
              have bb : Below wr.heap.size wr ((wr.alloc (.cells rfZero 89)).setRow wr.heap.size (rfArr x)) := below_setRow ((Below.refl _ _).alloc (Nat.le_refl _) _) (Nat.le_refl _) _
              have AX : Arr ((wr.alloc (.cells rfZero 89)).setRow wr.heap.size (rfArr x)) wr.heap.size 89 (rfArr x) := (Arr.new _ _ _).row _
              go_upto_region 21 with (refine wpList_store_row rfl 89 _ _ rfl wr.heap.size (rfArr x) rfl rfl 89 rfZero (Arr.new wr _ _) (rfInfo _) rfl (rfArr_one _) ?_)
              refine wp_forget (fun V => Below w.heap.size w V ∧ Arr V wr.heap.size 89 (rfArr x) ∧ V.ownsRow w.heap.size 89 2 v ((aheadR n L ++ []) ++ behindR n (L.take k)).length (rfCells ((aheadR n L ++ []) ++ behindR n (L.take k)))) (by exact ⟨bel.trans (bb.mono bel.size), AX, own_up own bb⟩) ?_
              clear bb AX bel own g0 g1
              generalize wr.heap.size = q
              rintro V ⟨bel, AX, own⟩
              have c0 : V.cell? ⟨q, 0, none⟩ = some (.string x.name) := AX.cell 0
              have c1 : V.cell? ⟨q, 1, none⟩ = some (.string x.id) := AX.cell 1
              clear AX
              have hq2 : ltB n x.name = Op.bytesLess n.toList x.name.toList := rfl
              rw [hq2] at HN
              clear hq2
              cases hq : Op.bytesLess n.toList x.name.toList
              · rw [hq] at HN
                cases h5 : Op.bytesLess x.name.toList n.toList
                · have h6 := leq_yes hq h5
                  clear hq
                  have HO : Hid (V.ownsRow w.heap.size 89 2 v ((aheadR n L ++ []) ++ behindR n (L.take (k + 1))).length (rfCells ((aheadR n L ++ []) ++ behindR n (L.take (k + 1))))) := by
                    have := HN.out
                    simp only [Bool.false_eq_true, if_false, List.append_nil] at this
                    show World.ownsRow _ _ _ _ _ _ _
                    rw [this]
                    exact own
                  clear own HN
                  go_wp2_with fail
                  go_roundw
                  case rel => exact ⟨k + 1, _, hlt, by rw [Int.natCast_add]; rfl, rfl, HO.out, bel⟩
                  case measure => simp [intOf]; omega
                · clear hq
                  have HO : Hid (V.ownsRow w.heap.size 89 2 v ((aheadR n L ++ []) ++ behindR n (L.take (k + 1))).length (rfCells ((aheadR n L ++ []) ++ behindR n (L.take (k + 1))))) := by
                    have := HN.out
                    simp only [Bool.false_eq_true, if_false, List.append_nil] at this
                    show World.ownsRow _ _ _ _ _ _ _
                    rw [this]
                    exact own
                  clear own HN
                  go_wp2_with fail
                  go_roundw
                  case rel => exact ⟨k + 1, _, hlt, by rw [Int.natCast_add]; rfl, rfl, HO.out, bel⟩
                  case measure => simp [intOf]; omega
              · rw [hq] at HN
                obtain ⟨h5, h6⟩ := leq_no hq
                clear hq
                have HT : Hid ((aheadR n L ++ []) ++ behindR n (L.take (k + 1)) = ((aheadR n L ++ []) ++ behindR n (L.take k)) ++ [x]) := by
                  have := HN.out
                  simp only [if_true] at this
                  show _ = _
                  rw [this]
                  exact (List.append_assoc _ _ _).symm
                clear HN
                obtain ⟨n1, n2, n3, n4⟩ := app_ref (x := x) own bel
                have N1 := Lib.hid n1
                have N2 := Lib.hid n2
                have N3 := Lib.hid n3
                have N4 := Lib.hid n4
                clear n1 n2 n3 n4 own
                have HG2 : Hid (((aheadR n L ++ []) ++ behindR n (L.take k)).length ≤ 1000) := hle
                clear hle
                generalize ((aheadR n L ++ []) ++ behindR n (L.take k)) = T at *
                have hle := HG2.out
                go_wp2_with (at_builtin; refine wpList_app _ rfl _ _ 46 rfl w.heap.size 89 si _ 2 32 Tryd.underlying46 Hsi.out Sz0.out Sz1.out Sz2.out rfl (by decide) _ _ _ rfl N2.out (some ⟨V.heap.size, 0, none⟩) 1 1 (rfArr x).toList rfl rfl N1.out (rfArr_ones x) (by unfold maxLen; omega) (by omega) N3.out ?_)
                intro v' w' h1 h2
                obtain ⟨h3, h4⟩ := N4.out v' w' h1 h2
                have H3 := Lib.hid h3
                clear h1 h2 h3 N1 N2 N3 N4
                go_wp2_with fail
                go_roundw
                case rel => exact ⟨k + 1, _, hlt, by rw [Int.natCast_add]; rfl, rfl, by rw [HT.out]; exact H3.out, h4⟩
                case measure => simp [intOf]; omega
            · obtain rfl : k = L.length := by omega
              have hj : ¬ (L.length : Int) < L.length := by omega
              rw [List.take_length] at own
              obtain ⟨A9, c9, rfl, hc9, hF9⟩ := own_refs own
              have HH : Hid (SrEnd w R (.returned (.tuple #[.slice A9 ((aheadR n L ++ []) ++ behindR n L).length c9, .int .i64 0])) wr) := by
                show SrEnd _ _ _ _
                rw [HE3.out]
                exact ⟨A9, c9, rfl, hF9, hc9, bel⟩
              clear own hF9 hc9
              generalize ((aheadR n L ++ []) ++ behindR n L).length = m9 at *
              go_wp2_with fail
              go_ret2
              exact HH.out
    · rw [decide_eq_false h7] at hoe
      clear h7 h8 h6 h10
      have HPl : Hid (([] : List Rf).length ≤ 100) := Nat.zero_le _
      go_wp2_with fail
      go_loopw [10, 49] (fun v j wr => SfRel L [] (aheadR n) w v j wr) (fun _ j _ => L.length - (intOf j).toNat)
      case atStart => exact h0.out
      case round =>
        clear h0
        obtain ⟨k, v, hk, rfl, rfl, own, bel⟩ := hrel
        by_cases hlt : k < L.length
        · have hj : (k : Int) < L.length := by omega
          have hx : L[k]? = some L[k] := List.getElem?_eq_getElem hlt
          obtain ⟨ad, rfl, hbl, h0, h1⟩ := hP k L[k] hx
          have g0 := (bel.cell hbl).trans h0
          have g1 := (bel.cell (p := ⟨(ad.add (k * 2)).block, (ad.add (k * 2)).off + 1, none⟩) hbl).trans h1
          have HN := Lib.hid (ahead_next (n := n) hx)
          have hle : ([] ++ aheadR n (L.take k)).length ≤ 1000 := by have := ahead_le n L k; have := HPl.out; rw [List.length_append]; omega
          clear h0 h1 hx
          generalize L[k] = x at *
          have bb : Below wr.heap.size wr ((wr.alloc (.cells rfZero 89)).setRow wr.heap.size (rfArr x)) := below_setRow ((Below.refl _ _).alloc (Nat.le_refl _) _) (Nat.le_refl _) _
          have AX : Arr ((wr.alloc (.cells rfZero 89)).setRow wr.heap.size (rfArr x)) wr.heap.size 89 (rfArr x) := (Arr.new _ _ _).row _
          go_upto_region 13 with (refine wpList_store_row rfl 89 _ _ rfl wr.heap.size (rfArr x) rfl rfl 89 rfZero (Arr.new wr _ _) (rfInfo _) rfl (rfArr_one _) ?_)
          refine wp_forget (fun V => Below w.heap.size w V ∧ Arr V wr.heap.size 89 (rfArr x) ∧ V.ownsRow w.heap.size 89 2 v ([] ++ aheadR n (L.take k)).length (rfCells ([] ++ aheadR n (L.take k)))) (by exact ⟨bel.trans (bb.mono bel.size), AX, own_up own bb⟩) ?_
          clear bb AX bel own g0 g1
          generalize wr.heap.size = q
          rintro V ⟨bel, AX, own⟩
          have c0 : V.cell? ⟨q, 0, none⟩ = some (.string x.name) := AX.cell 0
          have c1 : V.cell? ⟨q, 1, none⟩ = some (.string x.id) := AX.cell 1
          clear AX
          have hq2 : ltB x.name n = Op.bytesLess x.name.toList n.toList := rfl
          rw [hq2] at HN
          clear hq2
          cases hq : Op.bytesLess x.name.toList n.toList
          · rw [hq] at HN
            have HO : Hid (V.ownsRow w.heap.size 89 2 v ([] ++ aheadR n (L.take (k + 1))).length (rfCells ([] ++ aheadR n (L.take (k + 1))))) := by
              have := HN.out
              simp only [Bool.false_eq_true, if_false, List.append_nil] at this
              show World.ownsRow _ _ _ _ _ _ _
              rw [this]
              exact own
            clear own HN
            go_wp2_with fail
            go_roundw
            case rel => exact ⟨k + 1, _, hlt, by rw [Int.natCast_add]; rfl, rfl, HO.out, bel⟩
            case measure => simp [intOf]; omega
          · rw [hq] at HN
            have HT : Hid ([] ++ aheadR n (L.take (k + 1)) = ([] ++ aheadR n (L.take k)) ++ [x]) := by
              have := HN.out
              simp only [if_true] at this
              show _ = _
              rw [this]
              exact (List.append_assoc _ _ _).symm
            clear HN
            obtain ⟨n1, n2, n3, n4⟩ := app_ref (x := x) own bel
            have N1 := Lib.hid n1
            have N2 := Lib.hid n2
            have N3 := Lib.hid n3
            have N4 := Lib.hid n4
            clear n1 n2 n3 n4 own
            have HG2 : Hid (([] ++ aheadR n (L.take k)).length ≤ 1000) := hle
            clear hle
            generalize ([] ++ aheadR n (L.take k)) = T at *
            have hle := HG2.out
            go_wp2_with (at_builtin; refine wpList_app _ rfl _ _ 46 rfl w.heap.size 89 si _ 2 32 Tryd.underlying46 Hsi.out Sz0.out Sz1.out Sz2.out rfl (by decide) _ _ _ rfl N2.out (some ⟨V.heap.size, 0, none⟩) 1 1 (rfArr x).toList rfl rfl N1.out (rfArr_ones x) (by unfold maxLen; omega) (by omega) N3.out ?_)
            intro v' w' h1 h2
            obtain ⟨h3, h4⟩ := N4.out v' w' h1 h2
            have H3 := Lib.hid h3
            clear h1 h2 h3 N1 N2 N3 N4
            go_wp2_with fail
            go_roundw
            case rel => exact ⟨k + 1, _, hlt, by rw [Int.natCast_add]; rfl, rfl, by rw [HT.out]; exact H3.out, h4⟩
            case measure => simp [intOf]; omega
        · obtain rfl : k = L.length := by omega
          have hj : ¬ (L.length : Int) < L.length := by omega
          rw [List.take_length] at own
          clear HPl
          have h0 : Hid (SfRel L (aheadR n L ++ []) (behindR n) w v (.int .i64 0) wr) := ⟨0, _, Nat.zero_le _, rfl, rfl, by simp only [List.take_zero]; simpa [behindR] using own, bel⟩
          have HPl : Hid ((aheadR n L ++ []).length ≤ 100) := by show _ ≤ _; have := ahead_le n L L.length; rw [List.take_length] at this; simp only [List.length_append, List.length_nil]; omega
          clear own
          go_wp2_with fail
          go_loopw [10, 72] (fun v j wr => SfRel L (aheadR n L ++ []) (behindR n) w v j wr) (fun _ j _ => L.length - (intOf j).toNat)
          case atStart => exact h0.out
          case round =>
            clear h0
            obtain ⟨k, v, hk, rfl, rfl, own, bel⟩ := hrel
            by_cases hlt : k < L.length
            · have hj : (k : Int) < L.length := by omega
              have hx : L[k]? = some L[k] := List.getElem?_eq_getElem hlt
              obtain ⟨ad, rfl, hbl, h0, h1⟩ := hP k L[k] hx
              have g0 := (bel.cell hbl).trans h0
              have g1 := (bel.cell (p := ⟨(ad.add (k * 2)).block, (ad.add (k * 2)).off + 1, none⟩) hbl).trans h1
              have HN := Lib.hid (behind_next (n := n) hx)
              have hle : ((aheadR n L ++ []) ++ behindR n (L.take k)).length ≤ 1000 := by have := behind_le n L k; have := HPl.out; rw [List.length_append]; omega
              clear h0 h1 hx
              generalize L[k] = x at *
              have bb : Below wr.heap.size wr ((wr.alloc (.cells rfZero 89)).setRow wr.heap.size (rfArr x)) := below_setRow ((Below.refl _ _).alloc (Nat.le_refl _) _) (Nat.le_refl _) _
              have AX : Arr ((wr.alloc (.cells rfZero 89)).setRow wr.heap.size (rfArr x)) wr.heap.size 89 (rfArr x) := (Arr.new _ _ _).row _
              go_upto_region 21 with (refine wpList_store_row rfl 89 _ _ rfl wr.heap.size (rfArr x) rfl rfl 89 rfZero (Arr.new wr _ _) (rfInfo _) rfl (rfArr_one _) ?_)
              refine wp_forget (fun V => Below w.heap.size w V ∧ Arr V wr.heap.size 89 (rfArr x) ∧ V.ownsRow w.heap.size 89 2 v ((aheadR n L ++ []) ++ behindR n (L.take k)).length (rfCells ((aheadR n L ++ []) ++ behindR n (L.take k)))) (by exact ⟨bel.trans (bb.mono bel.size), AX, own_up own bb⟩) ?_
              clear bb AX bel own g0 g1
              generalize wr.heap.size = q
              rintro V ⟨bel, AX, own⟩
              have c0 : V.cell? ⟨q, 0, none⟩ = some (.string x.name) := AX.cell 0
              have c1 : V.cell? ⟨q, 1, none⟩ = some (.string x.id) := AX.cell 1
              clear AX
              have hq2 : ltB n x.name = Op.bytesLess n.toList x.name.toList := rfl
              rw [hq2] at HN
              clear hq2
              cases hq : Op.bytesLess n.toList x.name.toList
              · rw [hq] at HN
                cases h5 : Op.bytesLess x.name.toList n.toList
                · have h6 := leq_yes hq h5
                  clear hq
                  have HO : Hid (V.ownsRow w.heap.size 89 2 v ((aheadR n L ++ []) ++ behindR n (L.take (k + 1))).length (rfCells ((aheadR n L ++ []) ++ behindR n (L.take (k + 1))))) := by
                    have := HN.out
                    simp only [Bool.false_eq_true, if_false, List.append_nil] at this
                    show World.ownsRow _ _ _ _ _ _ _
                    rw [this]
                    exact own
                  clear own HN
                  go_wp2_with fail
                  go_roundw
                  case rel => exact ⟨k + 1, _, hlt, by rw [Int.natCast_add]; rfl, rfl, HO.out, bel⟩
                  case measure => simp [intOf]; omega
                · clear hq
                  have HO : Hid (V.ownsRow w.heap.size 89 2 v ((aheadR n L ++ []) ++ behindR n (L.take (k + 1))).length (rfCells ((aheadR n L ++ []) ++ behindR n (L.take (k + 1))))) := by
                    have := HN.out
                    simp only [Bool.false_eq_true, if_false, List.append_nil] at this
                    show World.ownsRow _ _ _ _ _ _ _
                    rw [this]
                    exact own
                  clear own HN
                  go_wp2_with fail
                  go_roundw
                  case rel => exact ⟨k + 1, _, hlt, by rw [Int.natCast_add]; rfl, rfl, HO.out, bel⟩
                  case measure => simp [intOf]; omega
              · rw [hq] at HN
                obtain ⟨h5, h6⟩ := leq_no hq
                clear hq
                have HT : Hid ((aheadR n L ++ []) ++ behindR n (L.take (k + 1)) = ((aheadR n L ++ []) ++ behindR n (L.take k)) ++ [x]) := by
                  have := HN.out
                  simp only [if_true] at this
                  show _ = _
                  rw [this]
                  exact (List.append_assoc _ _ _).symm
                clear HN
                obtain ⟨n1, n2, n3, n4⟩ := app_ref (x := x) own bel
                have N1 := Lib.hid n1
                have N2 := Lib.hid n2
                have N3 := Lib.hid n3
                have N4 := Lib.hid n4
                clear n1 n2 n3 n4 own
                have HG2 : Hid (((aheadR n L ++ []) ++ behindR n (L.take k)).length ≤ 1000) := hle
                clear hle
                generalize ((aheadR n L ++ []) ++ behindR n (L.take k)) = T at *
                have hle := HG2.out
                go_wp2_with (at_builtin; refine wpList_app _ rfl _ _ 46 rfl w.heap.size 89 si _ 2 32 Tryd.underlying46 Hsi.out Sz0.out Sz1.out Sz2.out rfl (by decide) _ _ _ rfl N2.out (some ⟨V.heap.size, 0, none⟩) 1 1 (rfArr x).toList rfl rfl N1.out (rfArr_ones x) (by unfold maxLen; omega) (by omega) N3.out ?_)
                intro v' w' h1 h2
                obtain ⟨h3, h4⟩ := N4.out v' w' h1 h2
                have H3 := Lib.hid h3
                clear h1 h2 h3 N1 N2 N3 N4
                go_wp2_with fail
                go_roundw
                case rel => exact ⟨k + 1, _, hlt, by rw [Int.natCast_add]; rfl, rfl, by rw [HT.out]; exact H3.out, h4⟩
                case measure => simp [intOf]; omega
            · obtain rfl : k = L.length := by omega
              have hj : ¬ (L.length : Int) < L.length := by omega
              rw [List.take_length] at own
              obtain ⟨A9, c9, rfl, hc9, hF9⟩ := own_refs own
              have HH : Hid (SrEnd w R (.returned (.tuple #[.slice A9 ((aheadR n L ++ []) ++ behindR n L).length c9, .int .i64 0])) wr) := by
                show SrEnd _ _ _ _
                rw [HE3.out]
                exact ⟨A9, c9, rfl, hF9, hc9, bel⟩
              clear own hF9 hc9
              generalize ((aheadR n L ++ []) ++ behindR n L).length = m9 at *
              go_wp2_with fail
              go_ret2
              exact HH.out
  · rw [decide_eq_false h8] at hie
    rw [if_neg h8] at HE3
    by_cases h7 : o.size = 0
    · rw [decide_eq_true h7] at hoe
      rw [decide_eq_false (fun h9 => h6 ⟨h7, h8, h9⟩)] at h10
      clear h7 h8 h6
      have HPl : Hid (([] : List Rf).length ≤ 100) := Nat.zero_le _
      go_wp2_with fail
      go_loopw [10, 49] (fun v j wr => SfRel L [] (aheadR n) w v j wr) (fun _ j _ => L.length - (intOf j).toNat)
      case atStart => exact h0.out
      case round =>
        clear h0
        obtain ⟨k, v, hk, rfl, rfl, own, bel⟩ := hrel
        by_cases hlt : k < L.length
        · have hj : (k : Int) < L.length := by omega
          have hx : L[k]? = some L[k] := List.getElem?_eq_getElem hlt
          obtain ⟨ad, rfl, hbl, h0, h1⟩ := hP k L[k] hx
          have g0 := (bel.cell hbl).trans h0
          have g1 := (bel.cell (p := ⟨(ad.add (k * 2)).block, (ad.add (k * 2)).off + 1, none⟩) hbl).trans h1
          have HN := Lib.hid (ahead_next (n := n) hx)
          have hle : ([] ++ aheadR n (L.take k)).length ≤ 1000 := by have := ahead_le n L k; have := HPl.out; rw [List.length_append]; omega
          clear h0 h1 hx
          generalize L[k] = x at *
          have bb : Below wr.heap.size wr ((wr.alloc (.cells rfZero 89)).setRow wr.heap.size (rfArr x)) := below_setRow ((Below.refl _ _).alloc (Nat.le_refl _) _) (Nat.le_refl _) _
          have AX : Arr ((wr.alloc (.cells rfZero 89)).setRow wr.heap.size (rfArr x)) wr.heap.size 89 (rfArr x) := (Arr.new _ _ _).row _
          go_upto_region 13 with (refine wpList_store_row rfl 89 _ _ rfl wr.heap.size (rfArr x) rfl rfl 89 rfZero (Arr.new wr _ _) (rfInfo _) rfl (rfArr_one _) ?_)
          refine wp_forget (fun V => Below w.heap.size w V ∧ Arr V wr.heap.size 89 (rfArr x) ∧ V.ownsRow w.heap.size 89 2 v ([] ++ aheadR n (L.take k)).length (rfCells ([] ++ aheadR n (L.take k)))) (by exact ⟨bel.trans (bb.mono bel.size), AX, own_up own bb⟩) ?_
          clear bb AX bel own g0 g1
          generalize wr.heap.size = q
          rintro V ⟨bel, AX, own⟩
          have c0 : V.cell? ⟨q, 0, none⟩ = some (.string x.name) := AX.cell 0
          have c1 : V.cell? ⟨q, 1, none⟩ = some (.string x.id) := AX.cell 1
          clear AX
          have hq2 : ltB x.name n = Op.bytesLess x.name.toList n.toList := rfl
          rw [hq2] at HN
          clear hq2
          cases hq : Op.bytesLess x.name.toList n.toList
          · rw [hq] at HN
            have HO : Hid (V.ownsRow w.heap.size 89 2 v ([] ++ aheadR n (L.take (k + 1))).length (rfCells ([] ++ aheadR n (L.take (k + 1))))) := by
              have := HN.out
              simp only [Bool.false_eq_true, if_false, List.append_nil] at this
              show World.ownsRow _ _ _ _ _ _ _
              rw [this]
              exact own
            clear own HN
            go_wp2_with fail
            go_roundw
            case rel => exact ⟨k + 1, _, hlt, by rw [Int.natCast_add]; rfl, rfl, HO.out, bel⟩
            case measure => simp [intOf]; omega
          · rw [hq] at HN
            have HT : Hid ([] ++ aheadR n (L.take (k + 1)) = ([] ++ aheadR n (L.take k)) ++ [x]) := by
              have := HN.out
              simp only [if_true] at this
              show _ = _
              rw [this]
              exact (List.append_assoc _ _ _).symm
            clear HN
            obtain ⟨n1, n2, n3, n4⟩ := app_ref (x := x) own bel
            have N1 := Lib.hid n1
            have N2 := Lib.hid n2
            have N3 := Lib.hid n3
            have N4 := Lib.hid n4
            clear n1 n2 n3 n4 own
            have HG2 : Hid (([] ++ aheadR n (L.take k)).length ≤ 1000) := hle
            clear hle
            generalize ([] ++ aheadR n (L.take k)) = T at *
            have hle := HG2.out
            go_wp2_with (at_builtin; refine wpList_app _ rfl _ _ 46 rfl w.heap.size 89 si _ 2 32 Tryd.underlying46 Hsi.out Sz0.out Sz1.out Sz2.out rfl (by decide) _ _ _ rfl N2.out (some ⟨V.heap.size, 0, none⟩) 1 1 (rfArr x).toList rfl rfl N1.out (rfArr_ones x) (by unfold maxLen; omega) (by omega) N3.out ?_)
            intro v' w' h1 h2
            obtain ⟨h3, h4⟩ := N4.out v' w' h1 h2
            have H3 := Lib.hid h3
            clear h1 h2 h3 N1 N2 N3 N4
            go_wp2_with fail
            go_roundw
            case rel => exact ⟨k + 1, _, hlt, by rw [Int.natCast_add]; rfl, rfl, by rw [HT.out]; exact H3.out, h4⟩
            case measure => simp [intOf]; omega
        · obtain rfl : k = L.length := by omega
          have hj : ¬ (L.length : Int) < L.length := by omega
          rw [List.take_length] at own
          clear HPl
          obtain ⟨n1, n2, n3, n4⟩ := app_ref (x := ⟨n, i⟩) own bel
          simp only [List.nil_append] at n2 n4
          have N1 := Lib.hid n1
          have N2 := Lib.hid n2
          have N3 := Lib.hid n3
          have N4 := Lib.hid n4
          have hle : (aheadR n L).length ≤ 100 := by have := ahead_le n L L.length; rw [List.take_length] at this; omega
          have HPl : Hid ((aheadR n L ++ [(⟨n, i⟩ : Rf)]).length ≤ 200) := by show _ ≤ _; simp only [List.length_append, List.length_singleton]; omega
          clear n1 n2 n3 n4 own
          go_wp2_with (at_builtin; refine wpList_app _ rfl _ _ 46 rfl w.heap.size 89 si _ 2 32 Tryd.underlying46 Hsi.out Sz0.out Sz1.out Sz2.out rfl (by decide) _ _ _ rfl N2.out (some ⟨wr.heap.size, 0, none⟩) 1 1 (rfArr ⟨n, i⟩).toList rfl rfl N1.out (rfArr_ones _) (by unfold maxLen; omega) (by omega) N3.out ?_)
          intro v' w' h1 h2
          obtain ⟨h3, h4⟩ := N4.out v' w' h1 h2
          have h0 : Hid (SfRel L (aheadR n L ++ [(⟨n, i⟩ : Rf)]) (behindR n) w v' (.int .i64 0) w') := ⟨0, _, Nat.zero_le _, rfl, rfl, by simp only [List.take_zero]; simpa [behindR] using h3, h4⟩
          clear h1 h2 h3 h4 N1 N2 N3 N4 bel hle
          go_wp2_with fail
          go_loopw [10, 72] (fun v j wr => SfRel L (aheadR n L ++ [(⟨n, i⟩ : Rf)]) (behindR n) w v j wr) (fun _ j _ => L.length - (intOf j).toNat)
          case atStart => exact h0.out
          case round =>
            clear h0
            obtain ⟨k, v, hk, rfl, rfl, own, bel⟩ := hrel
            by_cases hlt : k < L.length
            · have hj : (k : Int) < L.length := by omega
              have hx : L[k]? = some L[k] := List.getElem?_eq_getElem hlt
              obtain ⟨ad, rfl, hbl, h0, h1⟩ := hP k L[k] hx
              have g0 := (bel.cell hbl).trans h0
              have g1 := (bel.cell (p := ⟨(ad.add (k * 2)).block, (ad.add (k * 2)).off + 1, none⟩) hbl).trans h1
              have HN := Lib.hid (behind_next (n := n) hx)
              have hle : ((aheadR n L ++ [(⟨n, i⟩ : Rf)]) ++ behindR n (L.take k)).length ≤ 1000 := by have := behind_le n L k; have := HPl.out; rw [List.length_append]; omega
              clear h0 h1 hx
              generalize L[k] = x at *
              have bb : Below wr.heap.size wr ((wr.alloc (.cells rfZero 89)).setRow wr.heap.size (rfArr x)) := below_setRow ((Below.refl _ _).alloc (Nat.le_refl _) _) (Nat.le_refl _) _
              have AX : Arr ((wr.alloc (.cells rfZero 89)).setRow wr.heap.size (rfArr x)) wr.heap.size 89 (rfArr x) := (Arr.new _ _ _).row _
              go_upto_region 21 with (refine wpList_store_row rfl 89 _ _ rfl wr.heap.size (rfArr x) rfl rfl 89 rfZero (Arr.new wr _ _) (rfInfo _) rfl (rfArr_one _) ?_)
              refine wp_forget (fun V => Below w.heap.size w V ∧ Arr V wr.heap.size 89 (rfArr x) ∧ V.ownsRow w.heap.size 89 2 v ((aheadR n L ++ [(⟨n, i⟩ : Rf)]) ++ behindR n (L.take k)).length (rfCells ((aheadR n L ++ [(⟨n, i⟩ : Rf)]) ++ behindR n (L.take k)))) (by exact ⟨bel.trans (bb.mono bel.size), AX, own_up own bb⟩) ?_
              clear bb AX bel own g0 g1
              generalize wr.heap.size = q
              rintro V ⟨bel, AX, own⟩
              have c0 : V.cell? ⟨q, 0, none⟩ = some (.string x.name) := AX.cell 0
              have c1 : V.cell? ⟨q, 1, none⟩ = some (.string x.id) := AX.cell 1
              clear AX
              have hq2 : ltB n x.name = Op.bytesLess n.toList x.name.toList := rfl
              rw [hq2] at HN
              clear hq2
              cases hq : Op.bytesLess n.toList x.name.toList
              · rw [hq] at HN
                cases h5 : Op.bytesLess x.name.toList n.toList
                · have h6 := leq_yes hq h5
                  clear hq
                  have HO : Hid (V.ownsRow w.heap.size 89 2 v ((aheadR n L ++ [(⟨n, i⟩ : Rf)]) ++ behindR n (L.take (k + 1))).length (rfCells ((aheadR n L ++ [(⟨n, i⟩ : Rf)]) ++ behindR n (L.take (k + 1))))) := by
                    have := HN.out
                    simp only [Bool.false_eq_true, if_false, List.append_nil] at this
                    show World.ownsRow _ _ _ _ _ _ _
                    rw [this]
                    exact own
                  clear own HN
                  go_wp2_with fail
                  go_roundw
                  case rel => exact ⟨k + 1, _, hlt, by rw [Int.natCast_add]; rfl, rfl, HO.out, bel⟩
                  case measure => simp [intOf]; omega
                · clear hq
                  have HO : Hid (V.ownsRow w.heap.size 89 2 v ((aheadR n L ++ [(⟨n, i⟩ : Rf)]) ++ behindR n (L.take (k + 1))).length (rfCells ((aheadR n L ++ [(⟨n, i⟩ : Rf)]) ++ behindR n (L.take (k + 1))))) := by
                    have := HN.out
                    simp only [Bool.false_eq_true, if_false, List.append_nil] at this
                    show World.ownsRow _ _ _ _ _ _ _
                    rw [this]
                    exact own
                  clear own HN
                  go_wp2_with fail
                  go_roundw
                  case rel => exact ⟨k + 1, _, hlt, by rw [Int.natCast_add]; rfl, rfl, HO.out, bel⟩
                  case measure => simp [intOf]; omega
              · rw [hq] at HN
                obtain ⟨h5, h6⟩ := leq_no hq
                clear hq
                have HT : Hid ((aheadR n L ++ [(⟨n, i⟩ : Rf)]) ++ behindR n (L.take (k + 1)) = ((aheadR n L ++ [(⟨n, i⟩ : Rf)]) ++ behindR n (L.take k)) ++ [x]) := by
                  have := HN.out
                  simp only [if_true] at this
                  show _ = _
                  rw [this]
                  exact (List.append_assoc _ _ _).symm
                clear HN
                obtain ⟨n1, n2, n3, n4⟩ := app_ref (x := x) own bel
                have N1 := Lib.hid n1
                have N2 := Lib.hid n2
                have N3 := Lib.hid n3
                have N4 := Lib.hid n4
                clear n1 n2 n3 n4 own
                have HG2 : Hid (((aheadR n L ++ [(⟨n, i⟩ : Rf)]) ++ behindR n (L.take k)).length ≤ 1000) := hle
                clear hle
                generalize ((aheadR n L ++ [(⟨n, i⟩ : Rf)]) ++ behindR n (L.take k)) = T at *
                have hle := HG2.out
                go_wp2_with (at_builtin; refine wpList_app _ rfl _ _ 46 rfl w.heap.size 89 si _ 2 32 Tryd.underlying46 Hsi.out Sz0.out Sz1.out Sz2.out rfl (by decide) _ _ _ rfl N2.out (some ⟨V.heap.size, 0, none⟩) 1 1 (rfArr x).toList rfl rfl N1.out (rfArr_ones x) (by unfold maxLen; omega) (by omega) N3.out ?_)
                intro v' w' h1 h2
                obtain ⟨h3, h4⟩ := N4.out v' w' h1 h2
                have H3 := Lib.hid h3
                clear h1 h2 h3 N1 N2 N3 N4
                go_wp2_with fail
                go_roundw
                case rel => exact ⟨k + 1, _, hlt, by rw [Int.natCast_add]; rfl, rfl, by rw [HT.out]; exact H3.out, h4⟩
                case measure => simp [intOf]; omega
            · obtain rfl : k = L.length := by omega
              have hj : ¬ (L.length : Int) < L.length := by omega
              rw [List.take_length] at own
              obtain ⟨A9, c9, rfl, hc9, hF9⟩ := own_refs own
              have HH : Hid (SrEnd w R (.returned (.tuple #[.slice A9 ((aheadR n L ++ [(⟨n, i⟩ : Rf)]) ++ behindR n L).length c9, .int .i64 0])) wr) := by
                show SrEnd _ _ _ _
                rw [HE3.out]
                exact ⟨A9, c9, rfl, hF9, hc9, bel⟩
              clear own hF9 hc9
              generalize ((aheadR n L ++ [(⟨n, i⟩ : Rf)]) ++ behindR n L).length = m9 at *
              go_wp2_with fail
              go_ret2
              exact HH.out
    · rw [decide_eq_false h7] at hoe
      clear h7 h8 h6 h10
      have HPl : Hid (([] : List Rf).length ≤ 100) := Nat.zero_le _
      go_wp2_with fail
      go_loopw [10, 49] (fun v j wr => SfRel L [] (aheadR n) w v j wr) (fun _ j _ => L.length - (intOf j).toNat)
      case atStart => exact h0.out
      case round =>
        clear h0
        obtain ⟨k, v, hk, rfl, rfl, own, bel⟩ := hrel
        by_cases hlt : k < L.length
        · have hj : (k : Int) < L.length := by omega
          have hx : L[k]? = some L[k] := List.getElem?_eq_getElem hlt
          obtain ⟨ad, rfl, hbl, h0, h1⟩ := hP k L[k] hx
          have g0 := (bel.cell hbl).trans h0
          have g1 := (bel.cell (p := ⟨(ad.add (k * 2)).block, (ad.add (k * 2)).off + 1, none⟩) hbl).trans h1
          have HN := Lib.hid (ahead_next (n := n) hx)
          have hle : ([] ++ aheadR n (L.take k)).length ≤ 1000 := by have := ahead_le n L k; have := HPl.out; rw [List.length_append]; omega
          clear h0 h1 hx
          generalize L[k] = x at *
          have bb : Below wr.heap.size wr ((wr.alloc (.cells rfZero 89)).setRow wr.heap.size (rfArr x)) := below_setRow ((Below.refl _ _).alloc (Nat.le_refl _) _) (Nat.le_refl _) _
          have AX : Arr ((wr.alloc (.cells rfZero 89)).setRow wr.heap.size (rfArr x)) wr.heap.size 89 (rfArr x) := (Arr.new _ _ _).row _
          go_upto_region 13 with (refine wpList_store_row rfl 89 _ _ rfl wr.heap.size (rfArr x) rfl rfl 89 rfZero (Arr.new wr _ _) (rfInfo _) rfl (rfArr_one _) ?_)
          refine wp_forget (fun V => Below w.heap.size w V ∧ Arr V wr.heap.size 89 (rfArr x) ∧ V.ownsRow w.heap.size 89 2 v ([] ++ aheadR n (L.take k)).length (rfCells ([] ++ aheadR n (L.take k)))) (by exact ⟨bel.trans (bb.mono bel.size), AX, own_up own bb⟩) ?_
          clear bb AX bel own g0 g1
          generalize wr.heap.size = q
          rintro V ⟨bel, AX, own⟩
          have c0 : V.cell? ⟨q, 0, none⟩ = some (.string x.name) := AX.cell 0
          have c1 : V.cell? ⟨q, 1, none⟩ = some (.string x.id) := AX.cell 1
          clear AX
          have hq2 : ltB x.name n = Op.bytesLess x.name.toList n.toList := rfl
          rw [hq2] at HN
          clear hq2
          cases hq : Op.bytesLess x.name.toList n.toList
          · rw [hq] at HN
            have HO : Hid (V.ownsRow w.heap.size 89 2 v ([] ++ aheadR n (L.take (k + 1))).length (rfCells ([] ++ aheadR n (L.take (k + 1))))) := by
              have := HN.out
              simp only [Bool.false_eq_true, if_false, List.append_nil] at this
              show World.ownsRow _ _ _ _ _ _ _
              rw [this]
              exact own
            clear own HN
            go_wp2_with fail
            go_roundw
            case rel => exact ⟨k + 1, _, hlt, by rw [Int.natCast_add]; rfl, rfl, HO.out, bel⟩
            case measure => simp [intOf]; omega
          · rw [hq] at HN
            have HT : Hid ([] ++ aheadR n (L.take (k + 1)) = ([] ++ aheadR n (L.take k)) ++ [x]) := by
              have := HN.out
              simp only [if_true] at this
              show _ = _
              rw [this]
              exact (List.append_assoc _ _ _).symm
            clear HN
            obtain ⟨n1, n2, n3, n4⟩ := app_ref (x := x) own bel
            have N1 := Lib.hid n1
            have N2 := Lib.hid n2
            have N3 := Lib.hid n3
            have N4 := Lib.hid n4
            clear n1 n2 n3 n4 own
            have HG2 : Hid (([] ++ aheadR n (L.take k)).length ≤ 1000) := hle
            clear hle
            generalize ([] ++ aheadR n (L.take k)) = T at *
            have hle := HG2.out
            go_wp2_with (at_builtin; refine wpList_app _ rfl _ _ 46 rfl w.heap.size 89 si _ 2 32 Tryd.underlying46 Hsi.out Sz0.out Sz1.out Sz2.out rfl (by decide) _ _ _ rfl N2.out (some ⟨V.heap.size, 0, none⟩) 1 1 (rfArr x).toList rfl rfl N1.out (rfArr_ones x) (by unfold maxLen; omega) (by omega) N3.out ?_)
            intro v' w' h1 h2
            obtain ⟨h3, h4⟩ := N4.out v' w' h1 h2
            have H3 := Lib.hid h3
            clear h1 h2 h3 N1 N2 N3 N4
            go_wp2_with fail
            go_roundw
            case rel => exact ⟨k + 1, _, hlt, by rw [Int.natCast_add]; rfl, rfl, by rw [HT.out]; exact H3.out, h4⟩
            case measure => simp [intOf]; omega
        · obtain rfl : k = L.length := by omega
          have hj : ¬ (L.length : Int) < L.length := by omega
          rw [List.take_length] at own
          clear HPl
          obtain ⟨n1, n2, n3, n4⟩ := app_ref (x := ⟨n, i⟩) own bel
          simp only [List.nil_append] at n2 n4
          have N1 := Lib.hid n1
          have N2 := Lib.hid n2
          have N3 := Lib.hid n3
          have N4 := Lib.hid n4
          have hle : (aheadR n L).length ≤ 100 := by have := ahead_le n L L.length; rw [List.take_length] at this; omega
          have HPl : Hid ((aheadR n L ++ [(⟨n, i⟩ : Rf)]).length ≤ 200) := by show _ ≤ _; simp only [List.length_append, List.length_singleton]; omega
          clear n1 n2 n3 n4 own
          go_wp2_with (at_builtin; refine wpList_app _ rfl _ _ 46 rfl w.heap.size 89 si _ 2 32 Tryd.underlying46 Hsi.out Sz0.out Sz1.out Sz2.out rfl (by decide) _ _ _ rfl N2.out (some ⟨wr.heap.size, 0, none⟩) 1 1 (rfArr ⟨n, i⟩).toList rfl rfl N1.out (rfArr_ones _) (by unfold maxLen; omega) (by omega) N3.out ?_)
          intro v' w' h1 h2
          obtain ⟨h3, h4⟩ := N4.out v' w' h1 h2
          have h0 : Hid (SfRel L (aheadR n L ++ [(⟨n, i⟩ : Rf)]) (behindR n) w v' (.int .i64 0) w') := ⟨0, _, Nat.zero_le _, rfl, rfl, by simp only [List.take_zero]; simpa [behindR] using h3, h4⟩
          clear h1 h2 h3 h4 N1 N2 N3 N4 bel hle
          go_wp2_with fail
          go_loopw [10, 72] (fun v j wr => SfRel L (aheadR n L ++ [(⟨n, i⟩ : Rf)]) (behindR n) w v j wr) (fun _ j _ => L.length - (intOf j).toNat)
          case atStart => exact h0.out
          case round =>
            clear h0
            obtain ⟨k, v, hk, rfl, rfl, own, bel⟩ := hrel
            by_cases hlt : k < L.length
            · have hj : (k : Int) < L.length := by omega
              have hx : L[k]? = some L[k] := List.getElem?_eq_getElem hlt
              obtain ⟨ad, rfl, hbl, h0, h1⟩ := hP k L[k] hx
              have g0 := (bel.cell hbl).trans h0
              have g1 := (bel.cell (p := ⟨(ad.add (k * 2)).block, (ad.add (k * 2)).off + 1, none⟩) hbl).trans h1
              have HN := Lib.hid (behind_next (n := n) hx)
              have hle : ((aheadR n L ++ [(⟨n, i⟩ : Rf)]) ++ behindR n (L.take k)).length ≤ 1000 := by have := behind_le n L k; have := HPl.out; rw [List.length_append]; omega
              clear h0 h1 hx
              generalize L[k] = x at *
              have bb : Below wr.heap.size wr ((wr.alloc (.cells rfZero 89)).setRow wr.heap.size (rfArr x)) := below_setRow ((Below.refl _ _).alloc (Nat.le_refl _) _) (Nat.le_refl _) _
              have AX : Arr ((wr.alloc (.cells rfZero 89)).setRow wr.heap.size (rfArr x)) wr.heap.size 89 (rfArr x) := (Arr.new _ _ _).row _
              go_upto_region 21 with (refine wpList_store_row rfl 89 _ _ rfl wr.heap.size (rfArr x) rfl rfl 89 rfZero (Arr.new wr _ _) (rfInfo _) rfl (rfArr_one _) ?_)
              refine wp_forget (fun V => Below w.heap.size w V ∧ Arr V wr.heap.size 89 (rfArr x) ∧ V.ownsRow w.heap.size 89 2 v ((aheadR n L ++ [(⟨n, i⟩ : Rf)]) ++ behindR n (L.take k)).length (rfCells ((aheadR n L ++ [(⟨n, i⟩ : Rf)]) ++ behindR n (L.take k)))) (by exact ⟨bel.trans (bb.mono bel.size), AX, own_up own bb⟩) ?_
              clear bb AX bel own g0 g1
              generalize wr.heap.size = q
              rintro V ⟨bel, AX, own⟩
              have c0 : V.cell? ⟨q, 0, none⟩ = some (.string x.name) := AX.cell 0
              have c1 : V.cell? ⟨q, 1, none⟩ = some (.string x.id) := AX.cell 1
              clear AX
              have hq2 : ltB n x.name = Op.bytesLess n.toList x.name.toList := rfl
              rw [hq2] at HN
              clear hq2
              cases hq : Op.bytesLess n.toList x.name.toList
              · rw [hq] at HN
                cases h5 : Op.bytesLess x.name.toList n.toList
                · have h6 := leq_yes hq h5
                  clear hq
                  have HO : Hid (V.ownsRow w.heap.size 89 2 v ((aheadR n L ++ [(⟨n, i⟩ : Rf)]) ++ behindR n (L.take (k + 1))).length (rfCells ((aheadR n L ++ [(⟨n, i⟩ : Rf)]) ++ behindR n (L.take (k + 1))))) := by
                    have := HN.out
                    simp only [Bool.false_eq_true, if_false, List.append_nil] at this
                    show World.ownsRow _ _ _ _ _ _ _
                    rw [this]
                    exact own
                  clear own HN
                  go_wp2_with fail
                  go_roundw
                  case rel => exact ⟨k + 1, _, hlt, by rw [Int.natCast_add]; rfl, rfl, HO.out, bel⟩
                  case measure => simp [intOf]; omega
                · clear hq
                  have HO : Hid (V.ownsRow w.heap.size 89 2 v ((aheadR n L ++ [(⟨n, i⟩ : Rf)]) ++ behindR n (L.take (k + 1))).length (rfCells ((aheadR n L ++ [(⟨n, i⟩ : Rf)]) ++ behindR n (L.take (k + 1))))) := by
                    have := HN.out
                    simp only [Bool.false_eq_true, if_false, List.append_nil] at this
                    show World.ownsRow _ _ _ _ _ _ _
                    rw [this]
                    exact own
                  clear own HN
                  go_wp2_with fail
                  go_roundw
                  case rel => exact ⟨k + 1, _, hlt, by rw [Int.natCast_add]; rfl, rfl, HO.out, bel⟩
                  case measure => simp [intOf]; omega
              · rw [hq] at HN
                obtain ⟨h5, h6⟩ := leq_no hq
                clear hq
                have HT : Hid ((aheadR n L ++ [(⟨n, i⟩ : Rf)]) ++ behindR n (L.take (k + 1)) = ((aheadR n L ++ [(⟨n, i⟩ : Rf)]) ++ behindR n (L.take k)) ++ [x]) := by
                  have := HN.out
                  simp only [if_true] at this
                  show _ = _
                  rw [this]
                  exact (List.append_assoc _ _ _).symm
                clear HN
                obtain ⟨n1, n2, n3, n4⟩ := app_ref (x := x) own bel
                have N1 := Lib.hid n1
                have N2 := Lib.hid n2
                have N3 := Lib.hid n3
                have N4 := Lib.hid n4
                clear n1 n2 n3 n4 own
                have HG2 : Hid (((aheadR n L ++ [(⟨n, i⟩ : Rf)]) ++ behindR n (L.take k)).length ≤ 1000) := hle
                clear hle
                generalize ((aheadR n L ++ [(⟨n, i⟩ : Rf)]) ++ behindR n (L.take k)) = T at *
                have hle := HG2.out
                go_wp2_with (at_builtin; refine wpList_app _ rfl _ _ 46 rfl w.heap.size 89 si _ 2 32 Tryd.underlying46 Hsi.out Sz0.out Sz1.out Sz2.out rfl (by decide) _ _ _ rfl N2.out (some ⟨V.heap.size, 0, none⟩) 1 1 (rfArr x).toList rfl rfl N1.out (rfArr_ones x) (by unfold maxLen; omega) (by omega) N3.out ?_)
                intro v' w' h1 h2
                obtain ⟨h3, h4⟩ := N4.out v' w' h1 h2
                have H3 := Lib.hid h3
                clear h1 h2 h3 N1 N2 N3 N4
                go_wp2_with fail
                go_roundw
                case rel => exact ⟨k + 1, _, hlt, by rw [Int.natCast_add]; rfl, rfl, by rw [HT.out]; exact H3.out, h4⟩
                case measure => simp [intOf]; omega
            · obtain rfl : k = L.length := by omega
              have hj : ¬ (L.length : Int) < L.length := by omega
              rw [List.take_length] at own
              obtain ⟨A9, c9, rfl, hc9, hF9⟩ := own_refs own
              have HH : Hid (SrEnd w R (.returned (.tuple #[.slice A9 ((aheadR n L ++ [(⟨n, i⟩ : Rf)]) ++ behindR n L).length c9, .int .i64 0])) wr) := by
                show SrEnd _ _ _ _
                rw [HE3.out]
                exact ⟨A9, c9, rfl, hF9, hc9, bel⟩
              clear own hF9 hc9
              generalize ((aheadR n L ++ [(⟨n, i⟩ : Rf)]) ++ behindR n L).length = m9 at *
              go_wp2_with fail
              go_ret2
              exact HH.out
end Go.Proofs.YtbpmgpbmeganoaaDoor

/- keep.sameRefs, ref.SameRefs: their contracts. -/
namespace Go.Proofs.YtbpmgpbmeganoaaDoor
open Go.RowKit

def neR (x y : Rf) : Bool := !(sameB x.name y.name && sameB x.id y.id)
theorem neR_iff (x y : Rf) : neR x y = false ↔ x = y := by
  unfold neR
  obtain ⟨a, b⟩ := x
  obtain ⟨a', b'⟩ := y
  simp [sameB_iff]
set_option maxRecDepth 100000 in
theorem neR_run (a a' b b' : ByteArray) (w : World) :
    (binOp .neq 89 (.agg #[.string a, .string b]) (.agg #[.string a', .string b'])).run Tryd.prog w = .ok (.bool (neR ⟨a, b⟩ ⟨a', b'⟩)) w := by
  unfold neR sameB
  go_simp
  repeat' split
  all_goals simp_all
def SrRel (w : World) (L M : List Rf) (i : Value) (wr : World) : Prop :=
  ∃ k : Nat, k ≤ M.length ∧ i = .int .i64 (k : Int) ∧ L.take k = M.take k ∧ Below w.heap.size w wr
set_option maxRecDepth 100000 in
set_option maxHeartbeats 1000000 in
theorem SameRefs_any (L M : List Rf) (A B : Option Addr) (c d : Nat) (w : World) (hP : Rfs w w.heap.size A L) (hQ : Rfs w w.heap.size B M) (hl : L.length ≤ 140737488355328) (hm : M.length ≤ 140737488355328) :
    Calls Tryd.prog 32 #[.slice A L.length c, .slice B M.length d] w fun e w' => e = .returned (.bool (decide (L = M))) ∧ Below w.heap.size w w' := by
  have HI : Hid (∀ b : Bool, (L = M ↔ b = true) → decide (L = M) = b) := fun b hb => by
    cases b with
    | true => exact decide_eq_true (hb.2 rfl)
    | false => exact decide_eq_false (fun e => by have := hb.1 e; cases this)
  generalize decide (L = M) = D at *
  by_cases hlen : ¬ L.length = M.length
  · have hlb : ((L.length : Int) != M.length) = true := by rw [bne_iff_ne]; omega
    have HF : Hid (D = false) := HI.out false ⟨fun e => absurd (by rw [e]) hlen, fun e => by cases e⟩
    clear hlen HI
    go_enter Tryd.func32, Tryd.ntmps32
    go_wp2_with fail
    go_ret
    exact ⟨by rw [HF.out]; rfl, Below.refl _ _⟩
  replace hlen : L.length = M.length := Decidable.byContradiction hlen
  have hlb : ((L.length : Int) != M.length) = false := by rw [hlen]; simp
  have HR : Hid (SrRel w L M (.int .i64 0) w) := ⟨0, Nat.zero_le _, rfl, rfl, Below.refl _ _⟩
  have HLn := Lib.hid hlen
  clear hlen
  go_enter Tryd.func32, Tryd.ntmps32
  go_wp2_with fail
  clear hlb
  go_loopw [13] (fun i wr => SrRel w L M i wr) (fun i _ => M.length - (intOf i).toNat)
  case atStart => exact HR.out
  case round =>
    clear HR
    obtain ⟨k, hk, rfl, ht, bel⟩ := hrel
    have hlen := HLn.out
    have HT := Lib.hid ht
    clear ht
    by_cases hlt : k < M.length
    · have hlt2 : k < L.length := by omega
      have hj : (k : Int) < L.length := by omega
      have hj2 : (k : Int) < M.length := by omega
      obtain ⟨ad, rfl, hbl, h0, h1⟩ := hP k L[k] (List.getElem?_eq_getElem hlt2)
      obtain ⟨ad2, rfl, hbl2, h0', h1'⟩ := hQ k M[k] (List.getElem?_eq_getElem hlt)
      have g0 := (bel.cell hbl).trans h0
      have g1 := (bel.cell (p := ⟨(ad.add (k * 2)).block, (ad.add (k * 2)).off + 1, none⟩) hbl).trans h1
      have g3 := (bel.cell hbl2).trans h0'
      have g4 := (bel.cell (p := ⟨(ad2.add (k * 2)).block, (ad2.add (k * 2)).off + 1, none⟩) hbl2).trans h1'
      have HS := Lib.hid (fun e => take_same HT.out hlt2 hlt e)
      have HN : Hid (L[k] ≠ M[k] → D = false) := fun h => HI.out false ⟨fun e => by subst e; exact absurd rfl h, fun e => by cases e⟩
      clear h0 h1 h0' h1' HT hlen
      generalize L[k] = x at *
      generalize M[k] = x' at *
      obtain ⟨x1, x2⟩ := x
      obtain ⟨y1, y2⟩ := x'
      simp only at g0 g1 g3 g4
      have hne := neR_run x1 y1 x2 y2
      cases hq : neR ⟨x1, x2⟩ ⟨y1, y2⟩
      · have HS2 := Lib.hid (HS.out ((neR_iff _ _).1 hq))
        rw [hq] at hne
        clear HS HN hq
        go_wp2_with fail
        go_quiet (fail)
        go_wp2_with fail
        refine ⟨⟨k + 1, hlt, by go_num, HS2.out, below_drewN bel _⟩, by simp [intOf]; omega⟩
      · have HF := Lib.hid (HN.out (fun e => by have := (neR_iff _ _).2 e; rw [this] at hq; cases hq))
        rw [hq] at hne
        clear HS HN hq
        go_wp2_with fail
        go_quiet (fail)
        go_wp2_with fail
        go_ret
        exact ⟨by rw [HF.out]; rfl, below_drewN bel _⟩
    · obtain rfl : k = M.length := by omega
      have hj : ¬ (M.length : Int) < L.length := by omega
      have HF : Hid (D = true) := HI.out true ⟨fun _ => rfl, fun _ => by
        have := HT.out
        rwa [List.take_length, List.take_of_length_le (by omega)] at this⟩
      clear HT hlen
      go_wp2_with fail
      go_ret
      exact ⟨by rw [HF.out]; rfl, bel⟩
end Go.Proofs.YtbpmgpbmeganoaaDoor
