/- Texts in one: StRefG, StRefS, StRefIn. -/
import Derived.Test.YtmikfmcgddmplaaGreatDoorRefMath
import Derived.Test.YtmikfmcgddmplaaGreatDoorParts
import Derived.Test.YtmikfmcgddmplaaGreatDoorRefUnhex
import Derived.Test.YtmikfmcgddmplaaGreatDoorRefSum
import Derived.Test.YtmikfmcgddmplaaGreatDoorODecC
import Derived.Test.YtmikfmcgddmplaaGreatDoorDkMath
/- ref.GetObject: its contract. -/
namespace Go.Proofs.YtmikfmcgddmplaaGreatDoor
open Go.RowKit

set_option maxRecDepth 100000 in
set_option maxHeartbeats 1000000 in
theorem RefGetO_any (L : List Fl) (id : ByteArray) (A : Option Addr) (c : Nat) (z : Int) (w : World) (hP : Fls w w.heap.size A L) (hz : Sized L) (hl : L.length ≤ 140737488355328) :
    Calls Tryz.prog 18 #[.agg #[.slice A L.length c, .int .i64 z], .string id] w fun e w' => e = .returned (.tuple #[.string (getO ⟨L, z⟩ id).1, .int .i64 (getO ⟨L, z⟩ id).2]) ∧ Below w.heap.size w w' := by
  have HS : Hid (getO ⟨L, z⟩ id = if id.size ≠ 32 then (⟨#[]⟩, 2) else tellR (readD ⟨L, z⟩ (fileN id)) id) := rfl
  have b0 : Below w.heap.size w (w.alloc (.cells (dkArr L A c z) 37)) := (Below.refl _ _).alloc (Nat.le_refl _) _
  have hs := readD_size ⟨L, z⟩ (fileN id)
  have CR := fun V h => Lib.hid (ReadFile_any L (fileN id) A c z V h hz hl)
  generalize getO ⟨L, z⟩ id = Q at *
  by_cases hi : id.size = 32
  case neg =>
    have hne : ((id.size : Int) != 32) = true := by rw [bne_iff_ne]; omega
    have HQ : Hid (Q = (⟨#[]⟩, 2)) := by show _ = _; rw [HS.out, if_pos hi]
    clear HS hi CR hs
    go_enter Tryz.func18, Tryz.ntmps18
    go_wp2_with fail
    go_ret2
    exact ⟨by rw [HQ.out]; rfl, b0⟩
  have hne : ((id.size : Int) != 32) = false := by rw [hi]; rfl
  have CF := fun V => Lib.hid (RefHex_any id (by omega) V)
  have HS1 : Hid (Q = tellR (readD ⟨L, z⟩ (fileN id)) id) := by show _ = _; rw [HS.out, if_neg (fun h => h hi)]
  have hh : (bs (hexOf id.data.toList)).size ≤ 64 := by rw [bs_size, hexOf_length]; show 2 * id.size ≤ 64; omega
  have HF : fileN id = ⟨#[111]⟩ ++ bs (hexOf id.data.toList) := rfl
  rw [HF] at CR hs HS1
  clear HS hi HF
  generalize bs (hexOf id.data.toList) = H at *
  have HS2 : Hid (Q = if (readD ⟨L, z⟩ (⟨#[111]⟩ ++ H)).2 ≠ 0 then (⟨#[]⟩, (readD ⟨L, z⟩ (⟨#[111]⟩ ++ H)).2) else if sumB (readD ⟨L, z⟩ (⟨#[111]⟩ ++ H)).1 ≠ id then (⟨#[]⟩, 5) else ((readD ⟨L, z⟩ (⟨#[111]⟩ ++ H)).1, 0)) := HS1
  clear HS1
  generalize readD ⟨L, z⟩ (⟨#[111]⟩ ++ H) = R at *
  obtain ⟨s, e⟩ := R
  have hcat : ¬ 9223372036854775807 < 1 + H.size := by omega
  have hs' : s.size ≤ 1048576 := hs
  clear hs
  go_enter Tryz.func18, Tryz.ntmps18
  replace CR : ∀ V, Fls V V.heap.size A L → Hid (Calls Tryz.prog 39 #[.agg #[.slice A L.length c, .int .i64 z], .string (⟨#[111]⟩ ++ H)] V fun x w' => x = .returned (.tuple #[.string s, .int .i64 e]) ∧ Below V.heap.size V w') := CR
  have hV0 : Pv w L A c z (w.alloc (.cells (dkArr L A c z) 37)) := Pv.start hP
  go_upto_region 3 with fail
  refine wp_forget (Pv w L A c z) (by exact hV0) ?_
  clear hV0 b0
  intro V hV0
  have hV := hV0.drew
  go_wp2_with fail
  go_region_held3 (fun w' => w'.cell? ⟨w.heap.size, 0, none⟩ = some (.slice A L.length c) ∧ w'.cell? ⟨w.heap.size, 1, none⟩ = some (.int .i64 z))
    (first | exact hV.hold | exact hV1.hold | exact hV2.hold)
    (first
      | (go_at_call 40
         (with_reducible refine (CF _).out.mono ?_)
         rintro _ w1 ⟨rfl, b1⟩
         have hV1 := hV.below b1)
      | (go_at_call 39
         (with_reducible refine (CR _ hV1.fls).out.mono ?_)
         rintro _ w2 ⟨rfl, b2⟩
         have hV2 := hV1.below b2))
  have b0 := hV2.bel
  go_upto_region 4 with fail
  refine wp_forget (fun W => Below w.heap.size w W) (by exact b0) ?_
  clear b0 hV0 hV hV1 hV2 b1 b2 CF CR
  rintro V3 b0
  by_cases he : e = 0
  case neg =>
    have hb : (e != 0) = true := by rw [bne_iff_ne]; exact he
    have HQ : Hid (Q = (⟨#[]⟩, e)) := by show _ = _; rw [HS2.out, if_pos he]
    clear HS2 he
    go_wp2_with fail
    go_ret2
    exact ⟨by rw [HQ.out]; rfl, b0⟩
  subst he
  have CI : Hid (Calls Tryz.prog 25 #[.string s] V3 fun x w' => x = .returned (.string (sumB s)) ∧ Below V3.heap.size V3 w') := RefSum_any s (by omega) V3
  have HS3 : Hid (Q = if sumB s ≠ id then (⟨#[]⟩, 5) else (s, 0)) := by show _ = _; rw [HS2.out, if_neg (fun h => h rfl)]
  clear HS2
  generalize sumB s = I at *
  go_wp2_with fail
  (with_reducible refine CI.out.mono ?_)
  clear CI
  rintro _ V4 ⟨rfl, b2⟩
  replace b0 := b0.trans (b2.mono b0.size)
  clear b2
  by_cases h : I = id
  · have hb : (I.toList == id.toList) = true := by rw [h]; exact beq_self_eq_true _
    have HQ : Hid (Q = (s, 0)) := by show _ = _; rw [HS3.out, if_neg (fun q => q h)]
    clear HS3 h
    go_wp2_with fail
    go_ret2
    exact ⟨by rw [HQ.out]; rfl, b0⟩
  · have hb : (I.toList == id.toList) = false := by
      rw [beq_eq_false_iff_ne]
      intro q
      rw [toList_data, toList_data] at q
      exact h (bytes_eq q)
    have HQ : Hid (Q = (⟨#[]⟩, 5)) := by show _ = _; rw [HS3.out, if_pos h]
    clear HS3 h
    go_wp2_with fail
    go_ret2
    exact ⟨by rw [HQ.out]; rfl, b0⟩
end Go.Proofs.YtmikfmcgddmplaaGreatDoor

/- The getters of a disk that law.StoreSweeps and ref.Sweep make: their contracts. -/
namespace Go.Proofs.YtmikfmcgddmplaaGreatDoor
open Go.RowKit

theorem get_lw (L : List Fl) (id : ByteArray) (A : Option Addr) (c : Nat) (z : Int) (q : Nat) (w : World) (hq : Arr w q 37 (dkArr L A c z)) (hP : Fls w w.heap.size A L) (hz : Sized L) (hl : L.length ≤ 140737488355328) :
    Calls Tryz.prog 17 #[.string id, .pointer (some ⟨q, 0, none⟩)] w fun e w' => e = .returned (.tuple #[.string (getO ⟨L, z⟩ id).1, .int .i64 (getO ⟨L, z⟩ id).2]) ∧ Below w.heap.size w w' := by
  have C := Lib.hid (RefGetO_any L id A c z w hP hz hl)
  generalize getO ⟨L, z⟩ id = Q at *
  obtain ⟨s, e⟩ := Q
  have c0 : w.cell? ⟨q, 0, none⟩ = some (.slice A L.length c) := hq.cell 0
  have c1 : w.cell? ⟨q, 1, none⟩ = some (.int .i64 z) := hq.cell 1
  go_enter Tryz.func17, Tryz.ntmps17
  go_wp2_with fail
  (with_reducible refine C.out.mono ?_)
  rintro _ w1 ⟨rfl, b1⟩
  go_wp2_with fail
  go_ret2
  exact ⟨rfl, b1⟩
theorem get_rf (L : List Fl) (id : ByteArray) (A : Option Addr) (c : Nat) (z : Int) (q : Nat) (w : World) (hq : Arr w q 37 (dkArr L A c z)) (hP : Fls w w.heap.size A L) (hz : Sized L) (hl : L.length ≤ 140737488355328) :
    Calls Tryz.prog 35 #[.string id, .pointer (some ⟨q, 0, none⟩)] w fun e w' => e = .returned (.tuple #[.string (getO ⟨L, z⟩ id).1, .int .i64 (getO ⟨L, z⟩ id).2]) ∧ Below w.heap.size w w' := by
  have C := Lib.hid (RefGetO_any L id A c z w hP hz hl)
  generalize getO ⟨L, z⟩ id = Q at *
  obtain ⟨s, e⟩ := Q
  have c0 : w.cell? ⟨q, 0, none⟩ = some (.slice A L.length c) := hq.cell 0
  have c1 : w.cell? ⟨q, 1, none⟩ = some (.int .i64 z) := hq.cell 1
  go_enter Tryz.func35, Tryz.ntmps35
  go_wp2_with fail
  (with_reducible refine C.out.mono ?_)
  rintro _ w1 ⟨rfl, b1⟩
  go_wp2_with fail
  go_ret2
  exact ⟨rfl, b1⟩
end Go.Proofs.YtmikfmcgddmplaaGreatDoor

/- ref.in: its contract. -/
namespace Go.Proofs.YtmikfmcgddmplaaGreatDoor
open Go.RowKit

set_option maxRecDepth 100000 in
theorem refin_any (T : List ByteArray) (x : ByteArray) (hl : T.length ≤ 140737488355328) (A : Option Addr) (c : Nat) (w : World) (hT : Txs w w.heap.size A T) :
    Calls Tryz.prog 29 #[.slice A T.length c, .string x] w fun e w' => e = .returned (.bool (memB x T)) ∧ Below w.heap.size w w' := by
  go_enter Tryz.func29, Tryz.ntmps29
  go_wp2_with fail
  go_loopw [9] (fun i wr => ∃ k : Nat, k ≤ T.length ∧ i = .int .i64 (k : Int) ∧ x ∉ T.take k ∧ Below w.heap.size w wr) (fun i _ => T.length - (intOf i).toNat)
  case atStart => exact ⟨0, Nat.zero_le _, rfl, by simp, Below.refl _ _⟩
  case round =>
    obtain ⟨k, hk, rfl, hn, hB⟩ := hrel
    by_cases hlt : k < T.length
    · have hi : (k : Int) < T.length := by omega
      obtain ⟨ad, rfl, hbl, h0⟩ := hT k T[k] (List.getElem?_eq_getElem hlt)
      have g0 := (hB.cell hbl).trans h0
      have hmem : T[k] ∈ T := List.getElem_mem hlt
      have HS : Hid (x ≠ T[k] → x ∉ T.take (k + 1)) := fun h q => by
        rw [List.take_succ_eq_append_getElem hlt] at q
        rcases List.mem_append.1 q with q | q
        · exact hn q
        · exact h (List.mem_singleton.1 q)
      clear h0
      generalize T[k] = y at *
      cases hq : y.toList == x.toList
      · have HS2 := Lib.hid (HS.out (fun e => by rw [e] at hq; simp at hq))
        clear HS hn hmem
        go_wp2_with fail
        refine ⟨⟨k + 1, hlt, by go_num, HS2.out, hB⟩, by simp [intOf]; omega⟩
      · have he : Hid (memB x T = true) := memB_iff.2 (by rw [← (eqB_iff y x).1 hq]; exact hmem)
        clear HS hn hmem
        go_wp2_with fail
        go_ret
        exact ⟨by rw [he.out]; rfl, hB⟩
    · have hi : ¬ (k : Int) < T.length := by omega
      have he : Hid (memB x T = false) := by
        show _ = _
        rw [List.take_of_length_le (by omega)] at hn
        cases hm : memB x T
        · rfl
        · exact absurd (memB_iff.1 hm) hn
      clear hn hT
      go_wp2_with fail
      go_ret
      exact ⟨by rw [he.out]; rfl, hB⟩
end Go.Proofs.YtmikfmcgddmplaaGreatDoor
