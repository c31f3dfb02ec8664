/- Texts in one: RfRefA, RfRefB. -/
import Derived.Test.YtbpmgpbmeganoaaDoorDkCh4
import Derived.Test.YtbpmgpbmeganoaaDoorDkRefA
/- ref.RefName: its contract. -/
namespace Go.Proofs.YtbpmgpbmeganoaaDoor
open Go.RowKit

theorem inP_int (c : UInt8) : inP c = ((decide ((97 : Int) ≤ c.toNat) && decide ((c.toNat : Int) ≤ 122)) || (decide ((48 : Int) ≤ c.toNat) && decide ((c.toNat : Int) ≤ 57)) || ((c.toNat : Int) == 45) || ((c.toNat : Int) == 95)) := by
  have e1 : decide ((97 : Int) ≤ c.toNat) = decide (97 ≤ c.toNat) := decide_eq_decide.2 (by omega)
  have e2 : decide ((c.toNat : Int) ≤ 122) = decide (c.toNat ≤ 122) := decide_eq_decide.2 (by omega)
  have e3 : decide ((48 : Int) ≤ c.toNat) = decide (48 ≤ c.toNat) := decide_eq_decide.2 (by omega)
  have e4 : decide ((c.toNat : Int) ≤ 57) = decide (c.toNat ≤ 57) := decide_eq_decide.2 (by omega)
  have e5 : ((c.toNat : Int) == 45) = decide (c.toNat = 45) := by rw [show ((c.toNat : Int) == 45) = decide ((c.toNat : Int) = 45) from rfl]; exact decide_eq_decide.2 (by omega)
  have e6 : ((c.toNat : Int) == 95) = decide (c.toNat = 95) := by rw [show ((c.toNat : Int) == 95) = decide ((c.toNat : Int) = 95) from rfl]; exact decide_eq_decide.2 (by omega)
  rw [e1, e2, e3, e4, e5, e6]
  rfl
def RnRel (t : ByteArray) (W : World) (p i : Value) (wr : World) : Prop :=
  ∃ m k : Nat, m ≤ k ∧ k ≤ t.size ∧ p = .int .i64 (m : Int) ∧ i = .int .i64 (k : Int) ∧ walkP 0 t.data.toList = walkP m (t.data.toList.drop k) ∧ W = wr
set_option maxRecDepth 100000 in
set_option maxHeartbeats 1000000 in
theorem RefNameR_any (s : ByteArray) (hs : s.size ≤ 140737488355330) (w : World) : Calls Tryd.prog 46 #[.string s] w fun e w' => e = .returned (.bool (namedR s)) ∧ Below w.heap.size w w' := by
  have hN : namedR s = (walkP 0 (s ++ ⟨#[47]⟩).data.toList && decide (s.size ≤ 60)) := by
    rw [named_walk, append_list]
  have ht : (s ++ ⟨#[47]⟩ : ByteArray).size = s.size + 1 := by rw [ByteArray.size_append]; rfl
  obtain ⟨cap, W, hcv, hcell, hB⟩ := conv_name (s ++ ⟨#[47]⟩) w
  have HN := Lib.hid hN
  have HT := Lib.hid ht
  have HC := Lib.hid hcell
  have hb1 : (s.size : Int) + 1 ≤ 9223372036854775807 := by omega
  have hb2 : s.size + 1 ≤ 9223372036854775807 := by omega
  clear hN ht hcell
  go_enter Tryd.func46, Tryd.ntmps46
  go_wp2_with fail
  clear hcv hb1 hb2
  have hts : (s ++ ⟨#[47]⟩ : ByteArray).size ≤ 140737488355331 := by rw [HT.out]; omega
  generalize (s ++ ⟨#[47]⟩ : ByteArray) = t at *
  have h0 : Hid (RnRel t W (.int .i64 0) (.int .i64 0) W) := ⟨0, 0, Nat.le_refl _, Nat.zero_le _, rfl, rfl, by rw [List.drop_zero], rfl⟩
  go_loopw [3, 10] (fun p i wr => RnRel t W p i wr) (fun _ i _ => t.size - (intOf i).toNat)
  case atStart => exact h0.out
  case round =>
    clear h0
    obtain ⟨m, k, hmk, hk, rfl, rfl, hw, rfl⟩ := hrel
    by_cases hlt : k < t.size
    · have hj : (k : Int) < (s.size : Int) + 1 := by have := HT.out; omega
      have g0 := HC.out k hlt
      rw [drop_at t k hlt, walkP] at hw
      by_cases he : t[k].toNat = 47
      · rw [if_pos he] at hw
        have hz : (t[k].toNat : Int) = 47 := by omega
        rw [hz] at g0
        by_cases hm : m = 0
        · subst hm
          rw [if_pos rfl] at hw
          have hf : Hid (namedR s = false) := by show _ = _; rw [HN.out, hw]; rfl
          clear hw he hz
          go_wp2_with fail
          go_ret
          exact ⟨by rw [hf.out]; rfl, hB⟩
        · rw [if_neg hm] at hw
          have hm2 : ((m : Int) == 0) = false := by rw [beq_eq_false_iff_ne]; omega
          have HW := Lib.hid hw
          clear hw he hz
          go_wp2_with fail
          go_roundw
          case rel => exact ⟨0, k + 1, Nat.zero_le _, hlt, rfl, by rw [Int.natCast_add]; rfl, HW.out, rfl⟩
          case measure => simp [intOf]; omega
      · rw [if_neg he] at hw
        have hz : ¬ (t[k].toNat : Int) = 47 := by omega
        have HI := Lib.hid (inP_int t[k])
        have HYes : Hid (inP t[k] = true → RnRel t W (.int .i64 ((m : Int) + 1)) (.int .i64 ((k : Int) + 1)) W) := fun hb => by
          rw [hb] at hw
          exact ⟨m + 1, k + 1, by omega, hlt, rfl, rfl, hw, rfl⟩
        have HNo : Hid (inP t[k] = false → namedR s = false) := fun hb => by
          rw [hb] at hw
          rw [HN.out, hw]
          rfl
        have hmb : (m : Int) ≤ 140737488355331 := by omega
        clear hw he
        generalize inP t[k] = I at *
        generalize (t[k].toNat : Int) = z at *
        have hz' : (z == 47) = false := by rw [beq_eq_false_iff_ne]; exact hz
        clear hz
        by_cases h1 : 97 ≤ z
        · by_cases h2 : z ≤ 122
          · have hy := Lib.hid (HYes.out (by rw [HI.out]; simp [h1, h2]))
            clear HYes HNo HI
            go_wp2_with fail
            go_roundw
            case rel => exact hy.out
            case measure => simp [intOf]; omega
          · have h5 : (z == 45) = false := by rw [beq_eq_false_iff_ne]; omega
            have h3 : 48 ≤ z := by omega
            have h4 : ¬ z ≤ 57 := by omega
            have h6 : (z == 95) = false := by rw [beq_eq_false_iff_ne]; omega
            have hno := Lib.hid (HNo.out (by rw [HI.out, h5, h6]; simp [h2, h4]))
            clear HYes HNo HI
            go_wp2_with fail
            go_ret
            exact ⟨by rw [hno.out]; rfl, hB⟩
        · by_cases h3 : 48 ≤ z
          · by_cases h4 : z ≤ 57
            · have hy := Lib.hid (HYes.out (by rw [HI.out]; simp [h3, h4]))
              clear HYes HNo HI
              go_wp2_with fail
              go_roundw
              case rel => exact hy.out
              case measure => simp [intOf]; omega
            · by_cases h6 : z = 95
              · have hy := Lib.hid (HYes.out (by rw [HI.out]; simp [h6]))
                subst h6
                clear HYes HNo HI h1
                go_wp2_with fail
                go_roundw
                case rel => exact hy.out
                case measure => simp [intOf]; omega
              · have h5' : (z == 45) = false := by rw [beq_eq_false_iff_ne]; omega
                have h6' : (z == 95) = false := by rw [beq_eq_false_iff_ne]; exact h6
                have hno := Lib.hid (HNo.out (by rw [HI.out, h5', h6']; simp [h1, h4]))
                clear HYes HNo HI h6
                go_wp2_with fail
                go_ret
                exact ⟨by rw [hno.out]; rfl, hB⟩
          · by_cases h5 : z = 45
            · have hy := Lib.hid (HYes.out (by rw [HI.out]; simp [h5]))
              subst h5
              clear HYes HNo HI
              go_wp2_with fail
              go_roundw
              case rel => exact hy.out
              case measure => simp [intOf]; omega
            · have h5' : (z == 45) = false := by rw [beq_eq_false_iff_ne]; exact h5
              have h6' : (z == 95) = false := by rw [beq_eq_false_iff_ne]; omega
              have hno := Lib.hid (HNo.out (by rw [HI.out, h5', h6']; simp [h1, h3]))
              clear HYes HNo HI h5
              go_wp2_with fail
              go_ret
              exact ⟨by rw [hno.out]; rfl, hB⟩
    · obtain rfl : k = t.size := by omega
      have hj : ¬ ((t.size : Nat) : Int) < (s.size : Int) + 1 := by have := HT.out; omega
      rw [show t.data.toList.drop t.size = [] from List.drop_length] at hw
      have HN2 : Hid (namedR s = decide (s.size ≤ 60)) := by show _ = _; rw [HN.out, hw]; rfl
      clear HN hw
      by_cases h1 : s.size ≤ 60
      · have i1 : (s.size : Int) ≤ 60 := by omega
        go_wp2_with fail
        go_ret
        exact ⟨by rw [HN2.out, decide_eq_true h1]; rfl, hB⟩
      · have i1 : ¬ (s.size : Int) ≤ 60 := by omega
        go_wp2_with fail
        go_ret
        exact ⟨by rw [HN2.out, decide_eq_false h1]; rfl, hB⟩
end Go.Proofs.YtbpmgpbmeganoaaDoor

/- ref.GoodRefs, GetRef, maybe: their contracts. -/
namespace Go.Proofs.YtbpmgpbmeganoaaDoor
open Go.RowKit

theorem leq_no {a b : ByteArray} (h : Op.bytesLess b.toList a.toList = true) : Op.bytesLess a.toList b.toList = false ∧ (a.toList == b.toList) = false := by
  have h1 : ltB b a = true := h
  refine ⟨ltB_asym h1, ?_⟩
  cases hq : (a.toList == b.toList) with
  | false => rfl
  | true => exact absurd ((sameB_iff a b).1 hq).symm (ltB_ne h1)
theorem leq_yes {a b : ByteArray} (h : Op.bytesLess b.toList a.toList = false) (h2 : Op.bytesLess a.toList b.toList = false) : (a.toList == b.toList) = true := by
  rcases ltB_tri a b with k | k | k
  · rw [show ltB a b = false from h2] at k; cases k
  · exact (sameB_iff a b).2 k
  · rw [show ltB b a = false from h] at k; cases k
def GrRel (L : List Rf) (w : World) (b i : Value) (wr : World) : Prop :=
  ∃ (k : Nat) (n : ByteArray), k ≤ L.length ∧ b = .string n ∧ i = .int .i64 (k : Int) ∧ Below w.heap.size w wr ∧ goodLR ⟨#[]⟩ L = goodLR n (L.drop k)
set_option maxRecDepth 100000 in
set_option maxHeartbeats 1000000 in
theorem GoodRefs_any (L : List Rf) (A : Option Addr) (c : Nat) (w : World) (hP : Rfs w w.heap.size A L) (hz : SizedR L) (hl : L.length ≤ 140737488355328) :
    Calls Tryd.prog 87 #[.slice A L.length c] w fun e w' => e = .returned (.bool (goodR L)) ∧ Below w.heap.size w w' := by
  have hG : goodR L = (decide (L.length ≤ 32) && goodLR ⟨#[]⟩ L) := rfl
  have HG := Lib.hid hG
  clear hG
  generalize goodR L = G at *
  have h1 : Hid (GrRel L w (.string ⟨#[]⟩) (.int .i64 0) w) := ⟨0, ⟨#[]⟩, Nat.zero_le _, rfl, rfl, Below.refl _ _, by rw [List.drop_zero]⟩
  go_enter Tryd.func87, Tryd.ntmps87
  go_wp2_with fail
  go_loopw [3, 8] (fun b i wr => GrRel L w b i wr) (fun _ i _ => L.length - (intOf i).toNat)
  case atStart => exact h1.out
  case round =>
    clear h1
    obtain ⟨k, b, hk, rfl, rfl, bel, he⟩ := hrel
    by_cases hlt : k < L.length
    · have hj : (k : Int) < L.length := by omega
      have hx : L[k]? = some L[k] := List.getElem?_eq_getElem hlt
      obtain ⟨ad, rfl, hbl, h0, h1⟩ := hP k L[k] hx
      have g0 := (bel.cell hbl).trans h0
      have g1 := (bel.cell (p := ⟨(ad.add (k * 2)).block, (ad.add (k * 2)).off + 1, none⟩) hbl).trans h1
      have hs := hz L[k] (List.getElem_mem hlt)
      rw [List.drop_eq_getElem_cons hlt, goodLR] at he
      clear h0 h1 hx
      generalize L[k] = x at *
      have HE := Lib.hid he
      clear he
      have bb : Below wr.heap.size wr ((wr.alloc (.cells rfZero 89)).setRow wr.heap.size (rfArr x)) := below_setRow ((Below.refl _ _).alloc (Nat.le_refl _) _) (Nat.le_refl _) _
      have AX : Arr ((wr.alloc (.cells rfZero 89)).setRow wr.heap.size (rfArr x)) wr.heap.size 89 (rfArr x) := (Arr.new _ _ _).row _
      go_upto_region 5 with (refine wpList_store_row rfl 89 _ _ rfl wr.heap.size (rfArr x) rfl rfl 89 rfZero (Arr.new wr _ _) (rfInfo _) rfl (rfArr_one _) ?_)
      refine wp_forget (fun V => Below w.heap.size w V ∧ Arr V wr.heap.size 89 (rfArr x)) (by exact ⟨bel.trans (bb.mono bel.size), AX⟩) ?_
      clear bb AX bel g0 g1
      generalize wr.heap.size = q
      rintro V ⟨bel, AX⟩
      have c0 : V.cell? ⟨q, 0, none⟩ = some (.string x.name) := AX.cell 0
      have c1 : V.cell? ⟨q, 1, none⟩ = some (.string x.id) := AX.cell 1
      have CN := Lib.hid (RefNameR_any x.name (by omega) V)
      generalize namedR x.name = N at *
      cases N
      · go_wp2_with fail
        (with_reducible refine CN.out.mono ?_)
        rintro _ V2 ⟨rfl, b2⟩
        replace bel := bel.trans (b2.mono bel.size)
        clear b2
        go_wp2_with fail
        go_ret
        exact ⟨by rw [HG.out, HE.out]; simp, bel⟩
      by_cases hid : ¬ x.id.size = 32
      · have hI : (((x.id.size : Nat) : Int) != 32) = true := by rw [bne_iff_ne]; omega
        have HI : Hid (decide (x.id.size = 32) = false) := decide_eq_false hid
        go_wp2_with fail
        (with_reducible refine CN.out.mono ?_)
        clear CN c0 c1
        rintro _ V2 ⟨rfl, b2⟩
        replace AX := AX.below b2 AX.lt
        replace bel := bel.trans (b2.mono bel.size)
        clear b2
        have c1 : V2.cell? ⟨q, 1, none⟩ = some (.string x.id) := AX.cell 1
        go_wp2_with fail
        go_ret
        exact ⟨by rw [HG.out, HE.out, HI.out]; simp, bel⟩
      replace hid : x.id.size = 32 := Decidable.byContradiction hid
      have hI : (((x.id.size : Nat) : Int) != 32) = false := by rw [hid]; rfl
      have HI : Hid (decide (x.id.size = 32) = true) := decide_eq_true hid
      clear hid
      have hle : ltB b x.name = Op.bytesLess b.toList x.name.toList := rfl
      have HE2 : Hid (goodLR ⟨#[]⟩ L = (Op.bytesLess b.toList x.name.toList && goodLR x.name (L.drop (k + 1)))) := by
        show _ = _
        rw [HE.out, HI.out, hle]
        rfl
      clear HE HI hle
      cases hq : Op.bytesLess b.toList x.name.toList
      · cases h5 : Op.bytesLess x.name.toList b.toList
        · have h6 := leq_yes hq h5
          have HQ := Lib.hid hq
          clear hq
          go_wp2_with fail
          (with_reducible refine CN.out.mono ?_)
          clear CN c0 c1
          rintro _ V2 ⟨rfl, b2⟩
          replace AX := AX.below b2 AX.lt
          replace bel := bel.trans (b2.mono bel.size)
          clear b2
          have c0 : V2.cell? ⟨q, 0, none⟩ = some (.string x.name) := AX.cell 0
          have c1 : V2.cell? ⟨q, 1, none⟩ = some (.string x.id) := AX.cell 1
          go_wp2_with fail
          go_ret
          exact ⟨by rw [HG.out, HE2.out, HQ.out]; simp, bel⟩
        · skip
          have HQ := Lib.hid hq
          clear hq
          go_wp2_with fail
          (with_reducible refine CN.out.mono ?_)
          clear CN c0 c1
          rintro _ V2 ⟨rfl, b2⟩
          replace AX := AX.below b2 AX.lt
          replace bel := bel.trans (b2.mono bel.size)
          clear b2
          have c0 : V2.cell? ⟨q, 0, none⟩ = some (.string x.name) := AX.cell 0
          have c1 : V2.cell? ⟨q, 1, none⟩ = some (.string x.id) := AX.cell 1
          go_wp2_with fail
          go_ret
          exact ⟨by rw [HG.out, HE2.out, HQ.out]; simp, bel⟩
      · have HE3 : Hid (goodLR ⟨#[]⟩ L = goodLR x.name (L.drop (k + 1))) := by show _ = _; rw [HE2.out, hq]; rfl
        obtain ⟨h5, h6⟩ := leq_no hq
        clear HE2
        have HQ := Lib.hid hq
        clear hq
        go_wp2_with fail
        (with_reducible refine CN.out.mono ?_)
        clear CN c0 c1
        rintro _ V2 ⟨rfl, b2⟩
        replace AX := AX.below b2 AX.lt
        replace bel := bel.trans (b2.mono bel.size)
        clear b2
        have c0 : V2.cell? ⟨q, 0, none⟩ = some (.string x.name) := AX.cell 0
        have c1 : V2.cell? ⟨q, 1, none⟩ = some (.string x.id) := AX.cell 1
        go_wp2_with fail
        go_roundw
        case rel => exact ⟨k + 1, x.name, hlt, rfl, by rw [Int.natCast_add]; rfl, bel, HE3.out⟩
        case measure => simp [intOf]; omega
    · obtain rfl : k = L.length := by omega
      have hj : ¬ (L.length : Int) < L.length := by omega
      rw [List.drop_length] at he
      have HE : Hid (G = decide (L.length ≤ 32)) := by show _ = _; rw [HG.out, he]; simp [goodLR]
      clear he HG
      by_cases h32 : L.length ≤ 32
      · have i1 : (L.length : Int) ≤ 32 := by omega
        go_wp2_with fail
        go_ret
        exact ⟨by rw [HE.out, decide_eq_true h32]; rfl, bel⟩
      · have i1 : ¬ (L.length : Int) ≤ 32 := by omega
        go_wp2_with fail
        go_ret
        exact ⟨by rw [HE.out, decide_eq_false h32]; rfl, bel⟩
def GtRel (L : List Rf) (n : ByteArray) (w : World) (i : Value) (wr : World) : Prop :=
  ∃ k : Nat, k ≤ L.length ∧ i = .int .i64 (k : Int) ∧ Below w.heap.size w wr ∧ idAt n L = idAt n (L.drop k)
set_option maxRecDepth 100000 in
set_option maxHeartbeats 1000000 in
theorem GetRef_any (L : List Rf) (n : ByteArray) (A : Option Addr) (c : Nat) (w : World) (hP : Rfs w w.heap.size A L) (hl : L.length ≤ 140737488355328) :
    Calls Tryd.prog 88 #[.slice A L.length c, .string n] w fun e w' => e = .returned (.string (idAt n L)) ∧ Below w.heap.size w w' := by
  have h1 : Hid (GtRel L n w (.int .i64 0) w) := ⟨0, Nat.zero_le _, rfl, Below.refl _ _, by rw [List.drop_zero]⟩
  go_enter Tryd.func88, Tryd.ntmps88
  go_wp2_with fail
  go_loopw [9] (fun i wr => GtRel L n w i wr) (fun i _ => L.length - (intOf i).toNat)
  case atStart => exact h1.out
  case round =>
    clear h1
    obtain ⟨k, hk, rfl, bel, he⟩ := hrel
    by_cases hlt : k < L.length
    · have hj : (k : Int) < L.length := by omega
      have hx : L[k]? = some L[k] := List.getElem?_eq_getElem hlt
      obtain ⟨ad, rfl, hbl, h0, h1⟩ := hP k L[k] hx
      have g0 := (bel.cell hbl).trans h0
      have g1 := (bel.cell (p := ⟨(ad.add (k * 2)).block, (ad.add (k * 2)).off + 1, none⟩) hbl).trans h1
      rw [List.drop_eq_getElem_cons hlt] at he
      clear h0 h1 hx
      generalize L[k] = x at *
      have HE : Hid (idAt n L = if x.name = n then x.id else idAt n (L.drop (k + 1))) := by
        show _ = _
        rw [he]
        unfold idAt getRf
        rw [List.find?_cons]
        by_cases e : x.name = n <;> simp [e]
      clear he
      have bb : Below wr.heap.size wr ((wr.alloc (.cells rfZero 89)).setRow wr.heap.size (rfArr x)) := below_setRow ((Below.refl _ _).alloc (Nat.le_refl _) _) (Nat.le_refl _) _
      have AX : Arr ((wr.alloc (.cells rfZero 89)).setRow wr.heap.size (rfArr x)) wr.heap.size 89 (rfArr x) := (Arr.new _ _ _).row _
      go_upto_region 4 with (refine wpList_store_row rfl 89 _ _ rfl wr.heap.size (rfArr x) rfl rfl 89 rfZero (Arr.new wr _ _) (rfInfo _) rfl (rfArr_one _) ?_)
      refine wp_forget (fun V => Below w.heap.size w V ∧ Arr V wr.heap.size 89 (rfArr x)) (by exact ⟨bel.trans (bb.mono bel.size), AX⟩) ?_
      clear bb AX bel g0 g1
      generalize wr.heap.size = q
      rintro V ⟨bel, AX⟩
      have c0 : V.cell? ⟨q, 0, none⟩ = some (.string x.name) := AX.cell 0
      have c1 : V.cell? ⟨q, 1, none⟩ = some (.string x.id) := AX.cell 1
      by_cases e : x.name = n
      · have hs : (x.name.toList == n.toList) = true := (sameB_iff x.name n).2 e
        have HE2 : Hid (idAt n L = x.id) := by show _ = _; rw [HE.out, if_pos e]
        clear HE e
        go_wp2_with fail
        go_ret
        exact ⟨by rw [HE2.out]; rfl, bel⟩
      · have hs : (x.name.toList == n.toList) = false := by
          cases hq : (x.name.toList == n.toList) with
          | false => rfl
          | true => exact absurd ((sameB_iff x.name n).1 hq) e
        have HE2 : Hid (idAt n L = idAt n (L.drop (k + 1))) := by show _ = _; rw [HE.out, if_neg e]
        clear HE e
        go_wp2_with fail
        go_roundw
        case rel => exact ⟨k + 1, hlt, by rw [Int.natCast_add]; rfl, bel, HE2.out⟩
        case measure => simp [intOf]; omega
    · obtain rfl : k = L.length := by omega
      have hj : ¬ (L.length : Int) < L.length := by omega
      rw [List.drop_length] at he
      have HE := Lib.hid he
      clear he
      go_wp2_with fail
      go_ret
      exact ⟨by rw [HE.out]; rfl, bel⟩
theorem maybe_any (s : ByteArray) (w : World) : Calls Tryd.prog 47 #[.string s] w fun e w' => e = .returned (.bool (isId s)) ∧ w' = w := by
  by_cases h0 : s.size = 0
  · have HI : Hid (isId s = true) := by show _ = _; unfold isId; rw [decide_eq_true h0]; rfl
    have hi : (((s.size : Nat) : Int) == 0) = true := by rw [h0]; rfl
    go_enter Tryd.func47, Tryd.ntmps47
    go_wp2_with fail
    go_ret
    exact ⟨by rw [HI.out]; rfl, rfl⟩
  · have hj : (((s.size : Nat) : Int) == 0) = false := by rw [beq_eq_false_iff_ne]; omega
    by_cases h32 : s.size = 32
    · have HI : Hid (isId s = true) := by show _ = _; unfold isId; rw [decide_eq_true h32, Bool.or_true]
      have hi : (((s.size : Nat) : Int) == 32) = true := by rw [h32]; rfl
      go_enter Tryd.func47, Tryd.ntmps47
      go_wp2_with fail
      go_ret
      exact ⟨by rw [HI.out]; rfl, rfl⟩
    · have HI : Hid (isId s = false) := by show _ = _; unfold isId; rw [decide_eq_false h32, decide_eq_false h0]; rfl
      have hi : (((s.size : Nat) : Int) == 32) = false := by rw [beq_eq_false_iff_ne]; omega
      go_enter Tryd.func47, Tryd.ntmps47
      go_wp2_with fail
      go_ret
      exact ⟨by rw [HI.out]; rfl, rfl⟩
end Go.Proofs.YtbpmgpbmeganoaaDoor
