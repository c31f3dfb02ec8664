/- (*wire.Writer).Done: its contract. -/
import Derived.Test.YtbpmgpbmeganoaaDoorWWrite
import Derived.BigQuiet
import Derived.Deep.QuietTactic
namespace Go.Proofs.YtbpmgpbmeganoaaDoor
open Go.RowKit

set_option maxRecDepth 100000 in
theorem Done_bad (g : Nat) (e : Int) (he : (e != 0) = true) (w : World) (h : WBad w g e) :
    Calls Tryd.prog 40 #[.pointer (some ⟨g, 0, none⟩)] w fun x w' => x = .returned (.tuple #[.string ⟨#[]⟩, .int .i64 e]) ∧ Below w.heap.size w w' := by
  obtain ⟨v, n, ha⟩ := h
  have c2 := ha.cell 2
  simp only [List.getElem?_toArray, List.getElem?_cons_zero, List.getElem?_cons_succ] at c2
  go_enter Tryd.func40, Tryd.ntmps40
  go_wp2_with fail
  go_quiet (fail)
  go_wp2_with fail
  go_ret2
  exact ⟨rfl, below_drewN (Below.refl _ _) _⟩

def DRel (ps : List ByteArray) (base : Nat) (w : World) (v p : Value) (wr : World) : Prop :=
  ∃ (rest : List ByteArray) (z tail : List UInt8), v = .int .i64 ((cat rest).length : Int) ∧ Chain wr rest p ∧ cat ps = cat rest ++ tail ∧ z.length = (cat rest).length ∧
    Arr wr base 5 (barr (z ++ tail)) ∧ Below base w wr

theorem copied (z x tail : List UInt8) (o : Nat) (h : z.length = o + x.length) :
    (((barr (z ++ tail)).toList.take o ++ Lib.byteCells x) ++ (barr (z ++ tail)).toList.drop (o + x.length)).toArray = barr (z.take o ++ x ++ tail) := by
  have e1 : (barr (z ++ tail)).toList = (z ++ tail).map bv := rfl
  have e2 : Lib.byteCells x = x.map bv := rfl
  rw [e1, e2, ← List.map_take, ← List.map_drop, ← List.map_append, ← List.map_append, List.take_append_of_le_length (by omega), List.drop_append, List.drop_eq_nil_of_le (by omega), List.nil_append, show o + x.length - z.length = 0 from by omega, List.drop_zero]
  rfl

theorem gb_row {w : World} (g : Nat) (cs : Array Value) : w.grownBy (w.setRow g cs) (some g) :=
  ⟨rfl, rfl, rfl, by simp [World.setRow], fun k _ hr => by
    simp only [World.setRow, Array.getElem?_modify]
    rw [if_neg (fun e => hr (by rw [e]))]⟩

set_option maxRecDepth 100000 in
set_option maxHeartbeats 1000000 in
theorem Done_ok (g : Nat) (ps : List ByteArray) (hl : (cat ps).length ≤ 281474976710656) (w : World) (h : WOk w g ps) :
    Calls Tryd.prog 40 #[.pointer (some ⟨g, 0, none⟩)] w fun x w' => x = .returned (.tuple #[.string (bs (cat ps)), .int .i64 0]) ∧ Below w.heap.size w w' := by
  obtain ⟨v, ha, hc⟩ := h
  obtain ⟨a, rfl⟩ := hc.ptr
  have c0 := ha.cell 0
  have c1 := ha.cell 1
  have c2 := ha.cell 2
  have hlt := ha.lt
  simp only [List.getElem?_toArray, List.getElem?_cons_zero, List.getElem?_cons_succ] at c0 c1 c2
  obtain ⟨i, hi, hz0, hz1, hz2⟩ := info_parts info_u8
  have Hi := Lib.hid hi
  have Hz0 := Lib.hid hz0
  have Hz1 := Lib.hid hz1
  have Hz2 := Lib.hid hz2
  clear hi hz0 hz1 hz2
  generalize hN : (cat ps).length = N at *
  have HN := Lib.hid hN
  clear hN
  go_enter Tryd.func40, Tryd.ntmps40
  go_wp2_with (at_make; refine wpList_make_full _ rfl _ _ 93 rfl w.heap.size 5 i _ 1 Tryd.underlying93 Hi.out Hz0.out Hz1.out _ _ _ _ N rfl rfl rfl rfl (by rw [Hz2.out]; omega) (by unfold maxLen; omega) (Nat.le_refl _) ?_)
  intro w1 hown hgrow
  have hb0 : Below w.heap.size w w1 := (Below.refl _ _).grown hgrow (Nat.le_refl _) (by intro k hk; cases hk)
  have hA : Arr w1 w.heap.size 5 (barr (List.replicate N 0 ++ [])) := by
    rcases hown.2 with ⟨h', _⟩ | ⟨g', cap', cur, h', hb, hg, hnc, hcm, hcs, htake⟩
    · simp at h'
    · simp only [Value.slice.injEq, Option.some.injEq, Addr.mk.injEq, and_true, true_and] at h'
      obtain ⟨rfl, rfl⟩ := h'
      have e : cur = barr (List.replicate N 0 ++ []) := by
        rw [List.append_nil, barr_zero]
        apply Array.ext'
        rw [List.take_of_length_le (by simp [hcs])] at htake
        rw [htake, toList_madeCells_one]
        simp
      rw [← e]
      exact hg
  have c0' := (ha.below hb0 hlt).cell 0
  have c1' := (ha.below hb0 hlt).cell 1
  simp only [List.getElem?_toArray, List.getElem?_cons_zero, List.getElem?_cons_succ] at c0' c1'
  have hc1 := hc.below hb0
  clear hown hgrow
  go_wp2_with fail
  go_loopw [5, 6] (fun v p wr => DRel ps w.heap.size w v p wr) (fun _ p _ => ptrN p)
  case atStart => exact ⟨ps, List.replicate N 0, [], by rw [HN.out], hc1, by simp, by simp [HN.out], hA, hb0⟩
  case round =>
    clear hA hb0 hc1 c0' c1' w1
    obtain ⟨rest, z, tail, rfl, hch, hcat, hzl, hA, hB⟩ := hrel
    cases rest with
    | nil =>
      obtain rfl : u6 = .pointer none := hch
      obtain rfl : z = [] := List.eq_nil_of_length_eq_zero hzl
      have hcat' : cat ps = tail := hcat
      have hb := run_bytes (P := Tryd.prog) hA tail (by rw [List.take_of_length_le (by simp [barr])]; rfl) N
      rw [← run_convert_bytes_string wr 93 9 5 _ _ _ Tryd.underlying93 Tryd.underlying5 Tryd.underlying9] at hb
      rw [← hcat', HN.out] at hb
      have HT := Lib.hid hcat'
      clear hcat hcat' hzl hA
      generalize hR : bs (cat ps) = R at *
      have HR := Lib.hid hR
      clear hR
      go_wp2_with fail
      go_ret2
      exact ⟨by rw [HR.out]; rfl, hB⟩
    | cons q r =>
      obtain ⟨gq, v', rfl, hq, hgq, hr⟩ := hch
      have q0 := hq.cell 0
      have q1 := hq.cell 1
      simp only [List.getElem?_toArray, List.getElem?_cons_zero, List.getElem?_cons_succ] at q0 q1
      have hlen : (cat (q :: r)).length = (cat r).length + q.size := by rw [cat, List.length_append]; rfl
      have htl : (cat r).length + q.size + tail.length = N := by rw [← HN.out, hcat, List.length_append, hlen]
      have hcp := copied z q.data.toList tail (cat r).length (by rw [hzl, hlen]; rfl)
      have HC : Hid (cat ps = cat r ++ (q.data.toList ++ tail)) := by show _ = _; rw [hcat, cat, List.append_assoc]
      rw [hlen] at hzl ⊢
      have hne : w.heap.size ≠ gq := hA.ne hq (by decide)
      have HZ := Lib.hid hzl
      have hsz : (barr (z ++ tail)).size = N := by rw [barr_size, List.length_append]; omega
      have hcopy : q.size ≠ 0 → ∀ W : World, Arr W w.heap.size 5 (barr (z ++ tail)) → (Builtin.copy_ #[93, 9] 3 #[.slice (some ⟨w.heap.size, (cat r).length, none⟩) q.size (N - (cat r).length), .string q]).run Tryd.prog W = .ok (goInt q.size) (W.setRow w.heap.size (barr (z.take (cat r).length ++ q.data.toList ++ tail))) := fun _ W hW => by
        rw [← hcp]
        exact Lib.run_copy_row_string W _ _ _ 5 _ _ _ _ q _ _ Tryd.underlying93 (by kernel_rfl) hW (Nat.le_refl _) (by rw [hsz]; omega)
      clear hcat hcp hzl hlen
      have htl2 : (cat r).length + q.size ≤ N := by omega
      generalize hRL : (cat r).length = m at *
      have HRL := Lib.hid hRL
      clear hRL
      by_cases hq0 : q.size = 0
      · have hqe : q = ⟨#[]⟩ := bytes_eq (List.eq_nil_of_length_eq_zero hq0)
        subst hqe
        have hx : ∀ d c W, (Builtin.copy_ #[93, 9] 3 #[.slice d 0 c, .string ⟨#[]⟩]).run Tryd.prog W = .ok (goInt 0) W := fun d c W =>
          Lib.run_copy_empty_string W _ _ _ 5 d 0 c ⟨#[]⟩ Tryd.underlying93 (by kernel_rfl) rfl
        clear hcopy hq0
        rw [show m + (⟨#[]⟩ : ByteArray).size = m from rfl] at htl htl2 HZ ⊢
        go_wp2_with fail
        have s2 : (m : Int) ≤ N := by omega
        go_still_tail 8, (by kernel_rfl)
        change wpList _ _ _ _ _ wr.drew
        have q0' : wr.drew.cell? ⟨gq, 0, none⟩ = some v' := q0
        have hr2 : Chain wr.drew r v' := Chain.kept (w := wr) (r := none) (gb_below (Below.refl _ _).drew) (fun _ e => by cases e) r v' hr
        go_wp2_with fail
        refine ⟨⟨r, z, tail, by rw [HRL.out], hr2, HC.out, by rw [HZ.out, HRL.out], hA.drew, hB.drew⟩, ?_⟩
        show ptrN v' < gq + 1
        omega
      · have hpos : 0 < q.size := by omega
        have hd := hcopy hq0 wr.drew hA
        clear hcopy
        rw [Int.natCast_add]
        go_wp2_with fail
        have s1 : (m : Int) ≤ (m : Int) + q.size := by omega
        have s2 : (m : Int) + q.size ≤ N := by omega
        have s3 : ((m : Int) + q.size).toNat = m + q.size := by omega
        have s4 : N ≠ m := by omega
        have s5 : m + q.size - m = q.size := by omega
        go_still_tail 8, (by kernel_rfl)
        change wpList _ _ _ _ _ wr.drew
        have hk := gb_row (w := wr.drew) w.heap.size (barr (z.take m ++ q.data.toList ++ tail))
        have hq2 := (hq.drew.kept hk (fun e => by cases e; exact hne rfl)).cell 0
        simp only [List.getElem?_toArray, List.getElem?_cons_zero] at hq2
        have hr2 : Chain (wr.drew.setRow w.heap.size (barr (z.take m ++ q.data.toList ++ tail))) r v' := Chain.kept (w := wr.drew) hk (fun g' e => by cases e; exact ⟨_, _, by decide, hA.drew⟩) r v' (Chain.kept (w := wr) (r := none) (gb_below (Below.refl _ _).drew) (fun _ e => by cases e) r v' hr)
        have hA2 := hA.drew.row (barr (z.take m ++ q.data.toList ++ tail))
        have hB2 := below_setRow hB.drew (Nat.le_refl w.heap.size) (barr (z.take m ++ q.data.toList ++ tail))
        generalize wr.drew.setRow w.heap.size (barr (z.take m ++ q.data.toList ++ tail)) = W2 at *
        clear s1 s2 s3 s4 s5 hk
        go_wp2_with fail
        refine ⟨⟨r, z.take m, q.data.toList ++ tail, by rw [HRL.out], hr2, HC.out, ?_, ?_, hB2⟩, ?_⟩
        · rw [List.length_take, HZ.out, HRL.out]; omega
        · rw [← List.append_assoc]; exact hA2
        · show ptrN v' < gq + 1
          omega
end Go.Proofs.YtbpmgpbmeganoaaDoor
