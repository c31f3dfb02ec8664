/- ref.fileName, GoodDisk, at: their contracts. -/
import Derived.Test.YtnijnphalhfabaaDkDisks
import Derived.Laws.IdiomStrings
namespace Go.Proofs.Ytnijnphalhfabaa
open Go.RowKit

theorem conv_name (s : ByteArray) (w : World) : ∃ cap W, (convert 9 67 (.string s)).run Try.prog w = .ok (.slice (some ⟨w.heap.size, 0, none⟩) s.size cap) W ∧
    (∀ (k : Nat) (h : k < s.size), W.cell? ⟨w.heap.size, k, none⟩ = some (.int .u8 (s[k].toNat : Int))) ∧ Below w.heap.size w W := by
  refine ⟨_, _, run_bytes_of_string w 9 67 5 s Try.underlying9 Try.underlying67 Try.underlying5, fun k hk => ?_, (Below.refl _ _).drew.alloc (by simp) _⟩
  have hh : (w.drew.alloc (.cells (bytesRow s (grownCap w s.size 0 5)) 5 ((bytesRow s (grownCap w s.size 0 5)).size, (bytesRow s (grownCap w s.size 0 5)).size + 1))).heap[w.heap.size]? = some (.cells (bytesRow s (grownCap w s.size 0 5)) 5 ((bytesRow s (grownCap w s.size 0 5)).size, (bytesRow s (grownCap w s.size 0 5)).size + 1)) := heap_alloc_new w.drew _
  rw [cell_of_row _ _ k _ _ _ hh]
  rw [bytesRow_at s _ k hk]
  rfl
theorem inName_int (c : UInt8) : inName c = ((decide ((97 : Int) ≤ c.toNat) && decide ((c.toNat : Int) ≤ 122)) || (decide ((48 : Int) ≤ c.toNat) && decide ((c.toNat : Int) ≤ 57)) || ((c.toNat : Int) == 46) || ((c.toNat : Int) == 45)) := by
  have e1 : decide ((97 : Int) ≤ c.toNat) = decide (97 ≤ c.toNat) := decide_eq_decide.2 (by omega)
  have e2 : decide ((c.toNat : Int) ≤ 122) = decide (c.toNat ≤ 122) := decide_eq_decide.2 (by omega)
  have e3 : decide ((48 : Int) ≤ c.toNat) = decide (48 ≤ c.toNat) := decide_eq_decide.2 (by omega)
  have e4 : decide ((c.toNat : Int) ≤ 57) = decide (c.toNat ≤ 57) := decide_eq_decide.2 (by omega)
  have e5 : ((c.toNat : Int) == 46) = decide (c.toNat = 46) := by rw [show ((c.toNat : Int) == 46) = decide ((c.toNat : Int) = 46) from rfl]; exact decide_eq_decide.2 (by omega)
  have e6 : ((c.toNat : Int) == 45) = decide (c.toNat = 45) := by rw [show ((c.toNat : Int) == 45) = decide ((c.toNat : Int) = 45) from rfl]; exact decide_eq_decide.2 (by omega)
  rw [e1, e2, e3, e4, e5, e6]
  rfl
def FnRel (s : ByteArray) (W : World) (i : Value) (wr : World) : Prop :=
  ∃ k : Nat, k ≤ s.size ∧ i = .int .i64 (k : Int) ∧ (s.data.toList.take k).all inName = true ∧ wr = W
set_option maxRecDepth 100000 in
set_option maxHeartbeats 1000000 in
theorem fileName_any (s : ByteArray) (hs : s.size ≤ 140737488355340) (w : World) : Calls Try.prog 43 #[.string s] w fun e w' => e = .returned (.bool (named s)) ∧ Below w.heap.size w w' := by
  obtain ⟨cap, W, hcv, hcell, hB⟩ := conv_name s w
  have HC := Lib.hid hcell
  clear hcell
  have hz : s.data.toList.length = s.size := rfl
  have hN : named s = (decide (1 ≤ s.size) && decide (s.size ≤ 80) && s.data.toList.all inName) := rfl
  have HN := Lib.hid hN
  clear hN
  generalize named s = N at *
  go_enter Try.func43, Try.ntmps43
  go_wp2_with fail
  go_loopw [8] (fun i wr => FnRel s W i wr) (fun i _ => s.size - (intOf i).toNat)
  case atStart => exact ⟨0, Nat.zero_le _, rfl, by simp, rfl⟩
  case round =>
    obtain ⟨k, hk, rfl, ha, rfl⟩ := hrel
    by_cases hlt : k < s.size
    · have hj : (k : Int) < s.size := by omega
      have g0 := HC.out k hlt
      have hx : s.data.toList[k]? = some s[k] := by
        rw [List.getElem?_eq_getElem (by omega)]
        rfl
      have HI := Lib.hid (inName_int s[k])
      have HYes : Hid (inName s[k] = true → (s.data.toList.take (k + 1)).all inName = true) := fun hb => by
        obtain ⟨hk', e⟩ := List.getElem?_eq_some_iff.1 hx
        rw [List.take_succ_eq_append_getElem hk', e, List.all_append, ha]
        simp [hb]
      have HNo : Hid (inName s[k] = false → N = false) := fun hb => by
        rw [HN.out, show s.data.toList.all inName = false from by
          rw [List.all_eq_false]
          exact ⟨_, List.mem_of_getElem? hx, by rw [hb]; simp⟩, Bool.and_false]
      clear hx ha
      generalize inName s[k] = I at *
      generalize (s[k].toNat : Int) = z at *
      by_cases h1 : 97 ≤ z
      · by_cases h2 : z ≤ 122
        · have hy := Lib.hid (HYes.out (by rw [HI.out]; simp [h1, h2]))
          clear HYes HNo HI
          go_wp2_with fail
          go_roundw
          case rel => exact ⟨k + 1, hlt, by rw [Int.natCast_add]; rfl, hy.out, (by first | rfl | trivial)⟩
          case measure => simp [intOf]; omega
        · have hno := Lib.hid (HNo.out (by rw [HI.out]; simp [h2, show ¬ z ≤ 57 by omega, show ¬ z = 46 by omega, show ¬ z = 45 by omega]))
          have h3 : 48 ≤ z := by omega
          have h4 : ¬ z ≤ 57 := by omega
          have h5 : (z == 46) = false := by rw [beq_eq_false_iff_ne]; omega
          have h6 : (z == 45) = false := by rw [beq_eq_false_iff_ne]; omega
          clear HYes HNo HI
          go_wp2_with fail
          go_ret
          exact ⟨by rw [hno.out]; rfl, hB⟩
      · by_cases h3 : 48 ≤ z
        · by_cases h4 : z ≤ 57
          · have hy := Lib.hid (HYes.out (by rw [HI.out]; simp [h3, h4]))
            clear HYes HNo HI
            go_wp2_with fail
            go_roundw
            case rel => exact ⟨k + 1, hlt, by rw [Int.natCast_add]; rfl, hy.out, (by first | rfl | trivial)⟩
            case measure => simp [intOf]; omega
          · have hno := Lib.hid (HNo.out (by rw [HI.out]; simp [h1, h4, show ¬ z = 46 by omega, show ¬ z = 45 by omega]))
            have h5 : (z == 46) = false := by rw [beq_eq_false_iff_ne]; omega
            have h6 : (z == 45) = false := by rw [beq_eq_false_iff_ne]; omega
            clear HYes HNo HI
            go_wp2_with fail
            go_ret
            exact ⟨by rw [hno.out]; rfl, hB⟩
        · by_cases h5 : z = 46
          · have hy := Lib.hid (HYes.out (by rw [HI.out]; simp [h5]))
            subst h5
            clear HYes HNo HI
            go_wp2_with fail
            go_roundw
            case rel => exact ⟨k + 1, hlt, by rw [Int.natCast_add]; rfl, hy.out, (by first | rfl | trivial)⟩
            case measure => simp [intOf]; omega
          · by_cases h6 : z = 45
            · have hy := Lib.hid (HYes.out (by rw [HI.out]; simp [h6]))
              subst h6
              clear HYes HNo HI h5
              go_wp2_with fail
              go_roundw
              case rel => exact ⟨k + 1, hlt, by rw [Int.natCast_add]; rfl, hy.out, (by first | rfl | trivial)⟩
              case measure => simp [intOf]; omega
            · have hno := Lib.hid (HNo.out (by rw [HI.out]; simp [h1, h3, h5, h6]))
              have h5' : (z == 46) = false := by rw [beq_eq_false_iff_ne]; exact h5
              have h6' : (z == 45) = false := by rw [beq_eq_false_iff_ne]; exact h6
              clear HYes HNo HI h5 h6
              go_wp2_with fail
              go_ret
              exact ⟨by rw [hno.out]; rfl, hB⟩
    · obtain rfl : k = s.size := by omega
      have hj : ¬ (s.size : Int) < s.size := by omega
      rw [← hz, List.take_length] at ha
      have HN2 : Hid (N = (decide (1 ≤ s.size) && decide (s.size ≤ 80))) := by show _ = _; rw [HN.out, ha, Bool.and_true]
      clear HN ha hz
      by_cases h1 : 1 ≤ s.size
      · have i1 : (1 : Int) ≤ s.size := by omega
        by_cases h2 : s.size ≤ 80
        · have i2 : (s.size : Int) ≤ 80 := by omega
          go_wp2_with fail
          go_ret
          exact ⟨by rw [HN2.out, decide_eq_true h1, decide_eq_true h2]; rfl, hB⟩
        · have i2 : ¬ (s.size : Int) ≤ 80 := by omega
          go_wp2_with fail
          go_ret
          exact ⟨by rw [HN2.out, decide_eq_true h1, decide_eq_false h2]; rfl, hB⟩
      · have i1 : ¬ (1 : Int) ≤ s.size := by omega
        go_wp2_with fail
        go_ret
        exact ⟨by rw [HN2.out, decide_eq_false h1]; rfl, hB⟩
theorem le_not_lt (a b : ByteArray) : (Op.bytesLess a.toList b.toList || a.toList == b.toList) = !ltB b a := by
  rcases ltB_tri b a with h | rfl | h
  · have h1 : Op.bytesLess a.toList b.toList = false := ltB_asym h
    have h2 : (a.toList == b.toList) = false := by
      rw [beq_eq_false_iff_ne, toList_data, toList_data]
      exact fun q => ltB_ne h (bytes_eq q).symm
    rw [h1, h2, h]
    rfl
  · rw [ltB_irr]; simp
  · have h1 : Op.bytesLess a.toList b.toList = true := h
    rw [h1, ltB_asym h]
    rfl
/-- where GoodDisk stands -/
def RgRel (L : List Fl) (A : Option Addr) (c : Nat) (z : Int) (w : World) (b i : Value) (wr : World) : Prop :=
  ∃ (k : Nat) (s : ByteArray), k ≤ L.length ∧ i = .int .i64 (k : Int) ∧ b = .string s ∧ Arr wr w.heap.size 24 (dkArr L A c z) ∧ Below w.heap.size w wr ∧ goodL ⟨#[]⟩ L = goodL s (L.drop k)
set_option maxRecDepth 100000 in
set_option maxHeartbeats 1000000 in
theorem GoodDisk_any (L : List Fl) (A : Option Addr) (c : Nat) (z : Int) (w : World) (hP : Fls w w.heap.size A L) (hz : Sized L) (hl : L.length ≤ 140737488355328) :
    Calls Try.prog 19 #[.agg (dkArr L A c z)] w fun e w' => e = .returned (.bool (goodD L)) ∧ Below w.heap.size w w' := by
  have A0 : Arr (w.alloc (.cells (dkArr L A c z) 24)) w.heap.size 24 (dkArr L A c z) := Arr.new _ _ _
  have b0 : Below w.heap.size w (w.alloc (.cells (dkArr L A c z) 24)) := (Below.refl _ _).alloc (Nat.le_refl _) _
  have hG : goodD L = (decide (L.length ≤ 400) && goodL ⟨#[]⟩ L) := rfl
  have HG := Lib.hid hG
  clear hG
  generalize goodD L = G at *
  go_enter Try.func19, Try.ntmps19
  go_upto_region 1 with fail
  refine wp_forget (fun V => Arr V w.heap.size 24 (dkArr L A c z) ∧ Below w.heap.size w V) (by exact ⟨A0, b0⟩) ?_
  clear A0 b0
  rintro V ⟨A0, b0⟩
  have c0 : V.cell? ⟨w.heap.size, 0, none⟩ = some (.slice A L.length c) := A0.cell 0
  have h1 : Hid (RgRel L A c z w (.string ⟨#[]⟩) (.int .i64 0) V) := ⟨0, ⟨#[]⟩, Nat.zero_le _, rfl, rfl, A0, b0, by rw [List.drop_zero]⟩
  clear A0 b0
  go_wp2_with fail
  go_loopw [3, 9] (fun b i wr => RgRel L A c z w b i wr) (fun _ i _ => L.length - (intOf i).toNat)
  case atStart => exact h1.out
  case round =>
    clear h1 c0
    clear V
    obtain ⟨k, s, hk, rfl, rfl, A1, bel, he⟩ := hrel
    by_cases hlt : k < L.length
    · have hj : (k : Int) < L.length := by omega
      have hx : L[k]? = some L[k] := List.getElem?_eq_getElem hlt
      obtain ⟨ad, rfl, hbl, h0, h1, h2⟩ := hP k L[k] hx
      have g0 := (bel.cell hbl).trans h0
      have g1 := (bel.cell (p := ⟨(ad.add (k * 3)).block, (ad.add (k * 3)).off + 1, none⟩) hbl).trans h1
      have g2 := (bel.cell (p := ⟨(ad.add (k * 3)).block, (ad.add (k * 3)).off + 2, none⟩) hbl).trans h2
      have hs := hz L[k] (List.getElem_mem hlt)
      rw [List.drop_eq_getElem_cons hlt, goodL] at he
      clear h0 h1 h2 hx
      generalize L[k] = x at *
      have HE := Lib.hid he
      clear he
      have bb : Below wr.heap.size wr ((wr.alloc (.cells flZero 50)).setRow wr.heap.size (flArr x)) := below_setRow ((Below.refl _ _).alloc (Nat.le_refl _) _) (Nat.le_refl _) _
      have AX : Arr ((wr.alloc (.cells flZero 50)).setRow wr.heap.size (flArr x)) wr.heap.size 50 (flArr x) := (Arr.new _ _ _).row _
      go_upto_region 5 with (refine wpList_store_row rfl 50 _ _ rfl wr.heap.size (flArr x) rfl rfl 50 flZero (Arr.new wr _ _) (flInfo _) rfl (flArr_one _) ?_)
      refine wp_forget (fun V => Arr V w.heap.size 24 (dkArr L (some ad) c z) ∧ Below w.heap.size w V ∧ Arr V wr.heap.size 50 (flArr x)) (by exact ⟨A1.below bb A1.lt, bel.trans (bb.mono bel.size), AX⟩) ?_
      clear bb AX A1 bel g0 g1 g2
      generalize wr.heap.size = q
      rintro V ⟨A1, bel, AX⟩
      have c0 : V.cell? ⟨q, 0, none⟩ = some (.string x.name) := AX.cell 0
      have CN := Lib.hid (fileName_any x.name (by omega) V)
      have HF : Hid (fits x = decide (x.safe.size + x.tail.size ≤ 1048576)) := rfl
      have HL := Lib.hid (le_not_lt x.name s)
      generalize named x.name = N at *
      cases N
      · go_wp2_with fail
        (with_reducible refine CN.out.mono ?_)
        rintro _ V2 ⟨rfl, b2⟩
        go_wp2_with fail
        go_ret
        exact ⟨by rw [HG.out, HE.out]; simp, bel.trans (b2.mono bel.size)⟩
      go_wp2_with fail
      (with_reducible refine CN.out.mono ?_)
      clear CN c0
      rintro _ V2 ⟨rfl, b2⟩
      replace A1 := A1.below b2 A1.lt
      replace AX := AX.below b2 AX.lt
      replace bel := bel.trans (b2.mono bel.size)
      clear b2
      have c0 : V2.cell? ⟨q, 0, none⟩ = some (.string x.name) := AX.cell 0
      have c1 : V2.cell? ⟨q, 1, none⟩ = some (.string x.safe) := AX.cell 1
      have c2 : V2.cell? ⟨q, 2, none⟩ = some (.string x.tail) := AX.cell 2
      cases hq : ltB s x.name with
      | false =>
        have hle : (Op.bytesLess x.name.toList s.toList || x.name.toList == s.toList) = true := by rw [HL.out, hq]; rfl
        clear HL
        go_wp2_with fail
        go_ret
        exact ⟨by rw [HG.out, HE.out, hq]; simp, bel⟩
      | true =>
        have hle : (Op.bytesLess x.name.toList s.toList || x.name.toList == s.toList) = false := by rw [HL.out, hq]; rfl
        clear HL
        by_cases hbig : 1048576 < x.safe.size + x.tail.size
        · have hF : Hid (fits x = false) := by show _ = _; rw [HF.out]; exact decide_eq_false (by omega)
          by_cases hb1 : 1048576 < x.safe.size
          · have hj1 : (1048576 : Int) < x.safe.size := by omega
            go_wp2_with fail
            go_ret
            exact ⟨by rw [HG.out, HE.out, hF.out]; simp, bel⟩
          · have hj1 : ¬ (1048576 : Int) < x.safe.size := by omega
            have hj2 : (1048576 : Int) < (x.safe.size : Int) + x.tail.size := by omega
            go_wp2_with fail
            go_ret
            exact ⟨by rw [HG.out, HE.out, hF.out]; simp, bel⟩
        · have hF : Hid (fits x = true) := by show _ = _; rw [HF.out]; exact decide_eq_true (by omega)
          have hj1 : ¬ (1048576 : Int) < x.safe.size := by omega
          have hj2 : ¬ (1048576 : Int) < (x.safe.size : Int) + x.tail.size := by omega
          have HE2 : Hid (goodL ⟨#[]⟩ L = goodL x.name (L.drop (k + 1))) := by show _ = _; rw [HE.out, hF.out, hq]; rfl
          clear HE hF HF hq
          go_wp2_with fail
          go_roundw
          case rel => exact ⟨k + 1, x.name, hlt, by rw [Int.natCast_add]; rfl, rfl, A1, bel, HE2.out⟩
          case measure => simp [intOf]; omega
    · obtain rfl : k = L.length := by omega
      have hj : ¬ (L.length : Int) < L.length := by omega
      rw [List.drop_length] at he
      have HE : Hid (G = decide (L.length ≤ 400)) := by show _ = _; rw [HG.out, he]; simp [goodL]
      clear he HG
      have c0 : wr.cell? ⟨w.heap.size, 0, none⟩ = some (.slice A L.length c) := A1.cell 0
      by_cases h4 : L.length ≤ 400
      · have i4 : (L.length : Int) ≤ 400 := by omega
        go_wp2_with fail
        go_ret
        exact ⟨by rw [HE.out, decide_eq_true h4]; rfl, bel⟩
      · have i4 : ¬ (L.length : Int) ≤ 400 := by omega
        go_wp2_with fail
        go_ret
        exact ⟨by rw [HE.out, decide_eq_false h4]; rfl, bel⟩
end Go.Proofs.Ytnijnphalhfabaa
