/- Texts in one: RfName, RfIter. -/
import Derived.RangeFuncNested
import Derived.RangeFuncBound
import Derived.RangeFuncCalls
import Derived.RangeFuncLeaves
import Derived.Shelf.Abstract
import Derived.Shelf.RegionOpen
import Derived.WalkKit
import Derived.OwnWalkIn
import Derived.TacticsInMore
import Derived.LoopNIn
import Derived.LoopIn
import Derived.Test.YtbpmgpbmeganoaaDoorRfMem
import Derived.Deep.Cut
import Derived.Deep.RegionWith
import Derived.Deep.RegionLaw
import Derived.StillTailTactics
/- refs.inPieces, isPiece, pieces, Named: their contracts. -/
namespace Go.Proofs.YtbpmgpbmeganoaaDoor
open Go.RowKit Go.Shelf

set_option maxRecDepth 100000 in
theorem inPieces_any (c : UInt8) (w : World) : Calls Tryd.prog 95 #[.int .u8 (c.toNat : Int)] w fun e w' => e = .returned (.bool (inP c)) ∧ w' = w := by
  have hI : inP c = ((decide ((97 : Int) ≤ c.toNat) && decide ((c.toNat : Int) ≤ 122)) || (decide ((48 : Int) ≤ c.toNat) && decide ((c.toNat : Int) ≤ 57)) || ((c.toNat : Int) == 45) || ((c.toNat : Int) == 95)) := by
    have e1 : decide ((97 : Int) ≤ c.toNat) = decide (97 ≤ c.toNat) := decide_eq_decide.2 (by omega)
    have e2 : decide ((c.toNat : Int) ≤ 122) = decide (c.toNat ≤ 122) := decide_eq_decide.2 (by omega)
    have e3 : decide ((48 : Int) ≤ c.toNat) = decide (48 ≤ c.toNat) := decide_eq_decide.2 (by omega)
    have e4 : decide ((c.toNat : Int) ≤ 57) = decide (c.toNat ≤ 57) := decide_eq_decide.2 (by omega)
    have e5 : ((c.toNat : Int) == 45) = decide (c.toNat = 45) := by rw [show ((c.toNat : Int) == 45) = decide ((c.toNat : Int) = 45) from rfl]; exact decide_eq_decide.2 (by omega)
    have e6 : ((c.toNat : Int) == 95) = decide (c.toNat = 95) := by rw [show ((c.toNat : Int) == 95) = decide ((c.toNat : Int) = 95) from rfl]; exact decide_eq_decide.2 (by omega)
    rw [e1, e2, e3, e4, e5, e6]
    rfl
  have HI := Lib.hid hI
  clear hI
  generalize (c.toNat : Int) = z at *
  go_enter Tryd.func95, Tryd.ntmps95
  by_cases h1 : 97 ≤ z
  · by_cases h2 : z ≤ 122
    · go_wp2_with fail
      go_ret
      exact ⟨by rw [HI.out]; simp [h1, h2], rfl⟩
    · by_cases h3 : 48 ≤ z
      · by_cases h4 : z ≤ 57
        · omega
        · have h5' : (z == 45) = false := by rw [beq_eq_false_iff_ne]; omega
          go_wp2_with fail
          go_ret
          exact ⟨by rw [HI.out]; simp [show ¬ z ≤ 122 by omega, show ¬ z ≤ 57 by omega, h5'], rfl⟩
      · omega
  · by_cases h3 : 48 ≤ z
    · by_cases h4 : z ≤ 57
      · go_wp2_with fail
        go_ret
        exact ⟨by rw [HI.out]; simp [h3, h4], rfl⟩
      · have h5' : (z == 45) = false := by rw [beq_eq_false_iff_ne]; omega
        go_wp2_with fail
        go_ret
        exact ⟨by rw [HI.out]; simp [show ¬ (97 : Int) ≤ z by omega, show ¬ z ≤ 57 by omega, h5'], rfl⟩
    · by_cases h5 : z = 45
      · subst h5
        go_wp2_with fail
        go_ret
        exact ⟨by rw [HI.out]; rfl, rfl⟩
      · have h5' : (z == 45) = false := by rw [beq_eq_false_iff_ne]; exact h5
        go_wp2_with fail
        go_ret
        exact ⟨by rw [HI.out]; simp [show ¬ (97 : Int) ≤ z by omega, show ¬ (48 : Int) ≤ z by omega, h5], rfl⟩
def PcRel (s : ByteArray) (w : World) (i : Value) (wr : World) : Prop :=
  ∃ k : Nat, k ≤ s.size ∧ i = .int .i64 (k : Int) ∧ (s.data.toList.take k).all inP = true ∧ wr = w
set_option maxRecDepth 100000 in
theorem isPiece_any (s : ByteArray) (h : s.size ≤ 60) (w : World) : Calls Tryd.prog 73 #[.string s] w fun e w' => e = .returned (.bool (okP s.data.toList)) ∧ w' = w := by
  have hz : s.data.toList.length = s.size := rfl
  have hN : okP s.data.toList = (!s.data.toList.isEmpty && s.data.toList.all inP) := rfl
  have HN := Lib.hid hN
  clear hN
  generalize okP s.data.toList = N at *
  go_enter Tryd.func73, Tryd.ntmps73
  go_wp2_with fail
  go_loopw [6] (fun i wr => PcRel s w i wr) (fun i _ => s.size - (intOf i).toNat)
  case atStart => exact ⟨0, Nat.zero_le _, rfl, by simp, rfl⟩
  case round =>
    obtain ⟨k, hk, rfl, ha, rfl⟩ := hrel
    by_cases hlt : k < s.size
    · have hj : (k : Int) < s.size := by omega
      have C := Lib.hid (inPieces_any s[k] wr)
      have hx : s.data.toList[k]? = some s[k] := by
        rw [List.getElem?_eq_getElem (by omega)]
        rfl
      have HT : Hid (s.data.toList.take (k + 1) = s.data.toList.take k ++ [s[k]]) := by
        obtain ⟨hk', e⟩ := List.getElem?_eq_some_iff.1 hx
        show _ = _
        rw [List.take_succ_eq_append_getElem hk', e]
      have HM : Hid (s[k] ∈ s.data.toList) := List.mem_of_getElem? hx
      clear hx
      cases hb : inP s[k]
      · rw [hb] at C
        have HB := Lib.hid hb
        clear hb
        go_wp2_with fail
        (with_reducible refine C.out.mono ?_)
        rintro _ _ ⟨rfl, rfl⟩
        go_wp2_with fail
        go_ret
        refine ⟨?_, rfl⟩
        rw [HN.out]
        have : s.data.toList.all inP = false := by
          rw [List.all_eq_false]
          exact ⟨_, HM.out, by rw [HB.out]; simp⟩
        rw [this, Bool.and_false]
        rfl
      · rw [hb] at C
        have HA : Hid ((s.data.toList.take (k + 1)).all inP = true) := by
          show _ = _
          rw [HT.out, List.all_append, ha]
          simp [hb]
        clear hb HT HM ha
        go_wp2_with fail
        (with_reducible refine C.out.mono ?_)
        rintro _ _ ⟨rfl, rfl⟩
        go_wp2_with fail
        go_roundw
        case rel => exact ⟨k + 1, hlt, by rw [Int.natCast_add]; rfl, HA.out, (by first | rfl | trivial)⟩
        case measure => simp [intOf]; omega
    · obtain rfl : k = s.size := by omega
      have hj : ¬ (s.size : Int) < s.size := by omega
      rw [← hz, List.take_length] at ha
      have HA := Lib.hid ha
      clear ha hk
      have HL : Hid (s.toList = s.data.toList) := toList_data s
      go_wp2_with fail
      go_ret
      refine ⟨?_, rfl⟩
      show Ending.returned (.bool (!s.toList.isEmpty)) = _
      rw [HN.out, HA.out, HL.out, Bool.and_true]
end Go.Proofs.YtbpmgpbmeganoaaDoor

/- refs.pieces, its closure, Named: their contracts. -/
namespace Go.Proofs.YtbpmgpbmeganoaaDoor
open Go.RowKit Go.Shelf

/-- the pieces of a text, as texts -/
def pcsB (s : ByteArray) : List ByteArray := (splitP [] s.data.toList).map bs
section
attribute [local go_sem] Oper.semAt_some

/-- where the iterator stands: what has come, where the piece begins, where it looks -/
def ItRel (s : ByteArray) (n₀ : Nat) (J : List ByteArray → World → Prop) (W : World) (st i : Value) (wr : World) : Prop :=
  ∃ (a k : Nat) (pre : List ByteArray), a ≤ k ∧ k ≤ s.size ∧ st = .int .i64 (a : Int) ∧ i = .int .i64 (k : Int) ∧
    pre ++ (splitP ((s.data.toList.drop a).take (k - a)) (s.data.toList.drop k)).map bs = pcsB s ∧ J pre wr ∧ Below n₀ W wr
def clip (x : ByteArray) : ByteArray := if x.size ≤ 60 then x else ⟨#[]⟩
theorem clip_le (x : ByteArray) : (clip x).size ≤ 60 := by
  unfold clip
  split
  · assumption
  · exact Nat.zero_le _
theorem clip_eq {x : ByteArray} (h : x.size ≤ 60) : clip x = x := if_pos h
theorem splitP_len : ∀ (l acc : List UInt8), ∀ p ∈ splitP acc l, p.length ≤ acc.length + l.length
  | [], acc, p, hp => by
    unfold splitP at hp
    obtain rfl := List.mem_singleton.1 hp
    omega
  | c :: r, acc, p, hp => by
    unfold splitP at hp
    split at hp
    · rcases List.mem_cons.1 hp with rfl | hp
      · omega
      · have := splitP_len r [] p hp
        simp only [List.length_nil, List.length_cons] at *
        omega
    · have := splitP_len r _ p hp
      simp only [List.length_append, List.length_cons, List.length_nil] at *
      omega
theorem splitP_pos : ∀ (l acc : List UInt8), 0 < (splitP acc l).length
  | [], _ => by simp [splitP]
  | c :: r, acc => by
    unfold splitP
    split
    · simp
    · exact splitP_pos r _
theorem extract_mid (s : ByteArray) (a k : Nat) : s.extract a k = bs ((s.data.toList.drop a).take (k - a)) := bytes_eq (by rw [extract_drop, bs_list])
theorem extract_rest (s : ByteArray) (a : Nat) : s.extract a s.size = bs (s.data.toList.drop a) := bytes_eq (by
  rw [extract_drop, bs_list, List.take_of_length_le]
  rw [List.length_drop]
  exact Nat.le_refl _)
theorem drop_at (s : ByteArray) (k : Nat) (h : k < s.size) : s.data.toList.drop k = s[k] :: s.data.toList.drop (k + 1) := by
  rw [List.drop_eq_getElem_cons (show k < s.data.toList.length from h)]
  rfl
theorem mid_next (s : ByteArray) (a k : Nat) (ha : a ≤ k) (h : k < s.size) : (s.data.toList.drop a).take (k + 1 - a) = (s.data.toList.drop a).take (k - a) ++ [s[k]] := by
  have hl : k - a < (s.data.toList.drop a).length := by
    rw [List.length_drop, show s.data.toList.length = s.size from rfl]
    omega
  rw [show k + 1 - a = (k - a) + 1 from by omega, List.take_succ_eq_append_getElem hl]
  congr 2
  rw [List.getElem_drop]
  simp only [show a + (k - a) = k from by omega]
  rfl
set_option maxRecDepth 100000 in
set_option maxHeartbeats 2000000 in
theorem pieces1_in (n : Nat) (hn : 1 ≤ n) (l Bs n₀ : Nat) (hb : Bs < n₀) (s : ByteArray) (hs : s.size ≤ 60) (J Jx : List ByteArray → World → Prop)
    (hY : ∀ pre x W, x.size ≤ 60 → J pre W → pre.length < (pcsB s).length → YieldAt Fence.wide (n - 1) Tryd.prog l #[.string x] W fun e W' =>
      (e = .returned (.bool true) ∧ J (pre ++ [x]) W' ∧ Below n₀ W W') ∨ (e = .returned (.bool false) ∧ Jx (pre ++ [x]) W'))
    (W : World) (hBs : W.cell? ⟨Bs, 0, none⟩ = some (.string s)) (h0 : J [] W) :
    CallsIn Fence.wide n Tryd.prog 94 #[.func (.yield l) #[] #[], .pointer (some ⟨Bs, 0, none⟩)] W fun e W' => (∃ v, e = .returned v) ∧
      ((∃ ys, ys = pcsB s ∧ J ys W') ∨ (∃ pre, pre <+: pcsB s ∧ Jx pre W')) := by
  have HP : Hid (pcsB s = (splitP [] s.data.toList).map bs) := rfl
  have HX := Lib.hid (fun a k => extract_mid s a k)
  have HR := Lib.hid (fun a => extract_rest s a)
  have HD := Lib.hid (fun k h => drop_at s k h)
  have HM := Lib.hid (fun a k ha h => mid_next s a k ha h)
  have hstart : ItRel s n₀ J W (.int .i64 0) (.int .i64 0) W := ⟨0, 0, [], Nat.le_refl _, Nat.zero_le _, rfl, rfl, by rw [HP.out]; rfl, h0, Below.refl _ _⟩
  have HS := Lib.hid hstart
  clear hstart h0
  refine callsIn_of_wp Tryd.func94 rfl trivial ?_ rfl
  simp only [Tryd.ntmps94, List.size_toArray, List.length_cons, List.length_nil, Nat.reduceAdd, Nat.reduceSub, Array.replicate_succ, Array.replicate_zero, List.push_toArray, List.append_toArray, List.nil_append, List.cons_append]
  gi_wp2
  gi_loopw [3, 7] (fun st i wr => ItRel s n₀ J W st i wr) (fun _ i _ => s.size - (intOf i).toNat)
  case atStart => exact HS.out
  case round =>
    obtain ⟨a, k, pre, hak, hk, rfl, rfl, hpre, hJ, hB⟩ := hrel
    have hc : wr.cell? ⟨Bs, 0, none⟩ = some (.string s) := (hB.cell (p := ⟨Bs, 0, none⟩) hb).trans hBs
    have hcard := splitP_pos (s.data.toList.drop k) ((s.data.toList.drop a).take (k - a))
    have hlen : pre.length < (pcsB s).length := by
      rw [← hpre, List.length_append, List.length_map]
      omega
    by_cases hlt : k < s.size
    · have hj : (k : Int) < s.size := by omega
      by_cases he : s[k].toNat = 47
      · have he' : ((s[k].toNat : Int) != 47) = false := by rw [he]; rfl
        obtain ⟨fn, tmps, assign, body, hy, hR⟩ := hY pre (s.extract a k) wr (by rw [ByteArray.size_extract]; omega) hJ hlen
        have HN : Hid ((pre ++ [s.extract a k]) ++ (splitP [] (s.data.toList.drop (k + 1))).map bs = pcsB s) := by
          show _ = _
          rw [← hpre, HD.out k hlt, splitP, if_pos he, List.map_cons, HX.out a k]
          simp
        clear hcard hlen hpre
        gi_wp2
        refine hR.mono ?_
        rintro e W3 (⟨rfl, hJ3, hk3⟩ | ⟨rfl, hJx3⟩)
        · gi_wp2
          go_roundw
          case rel => exact ⟨k + 1, k + 1, pre ++ [s.extract a k], Nat.le_refl _, hlt, by simp, by simp, by rw [Nat.sub_self, List.take_zero]; exact HN.out, hJ3, hB.trans hk3⟩
          case measure => simp [intOf]; omega
        · gi_wp2
          refine bodyPost_ret (results_none rfl _ _ _) rfl ?_
          exact ⟨⟨_, rfl⟩, .inr ⟨_, ⟨_, HN.out⟩, hJx3⟩⟩
      · have he' : ((s[k].toNat : Int) != 47) = true := by rw [bne_iff_ne]; omega
        have HN : Hid (pre ++ (splitP ((s.data.toList.drop a).take (k + 1 - a)) (s.data.toList.drop (k + 1))).map bs = pcsB s) := by
          show _ = _
          rw [← hpre, HD.out k hlt, splitP, if_neg he, HM.out a k hak hlt]
        clear hcard hlen hpre
        gi_wp2
        go_roundw
        case rel => exact ⟨a, k + 1, pre, by omega, hlt, rfl, by simp, HN.out, hJ, hB⟩
        case measure => simp [intOf]; omega
    · obtain rfl : k = s.size := by omega
      have hj : ¬ (s.size : Int) < s.size := by omega
      obtain ⟨fn, tmps, assign, body, hy, hR⟩ := hY pre (s.extract a s.size) wr (by rw [ByteArray.size_extract]; omega) hJ hlen
      have HN : Hid (pre ++ [s.extract a s.size] = pcsB s) := by
        show _ = _
        rw [← hpre, show s.data.toList.drop s.size = [] from List.drop_length, splitP, HX.out a s.size]
        rfl
      clear hcard hlen hpre
      gi_wp2
      refine hR.mono ?_
      rintro e W3 (⟨rfl, hJ3, hk3⟩ | ⟨rfl, hJx3⟩)
      · gi_wp2
        go_end0
        exact ⟨⟨_, rfl⟩, .inl ⟨_, HN.out, hJ3⟩⟩
      · gi_wp2
        go_end0
        exact ⟨⟨_, rfl⟩, .inr ⟨_, ⟨[], by rw [List.append_nil]; exact HN.out⟩, hJx3⟩⟩
theorem pieces_stops (n : Nat) (hn : 1 ≤ n) (Bs n₀ : Nat) (hb : Bs < n₀) (s : ByteArray) (hs : s.size ≤ 60) (w : World) (hw : n₀ ≤ w.heap.size) (hc : w.cell? ⟨Bs, 0, none⟩ = some (.string s)) :
    SeqStopsK Fence.wide n Tryd.prog 94 #[.pointer (some ⟨Bs, 0, none⟩)] (fun x : ByteArray => #[Value.string (clip x)]) (Below n₀) (fun ys => ys = pcsB s) (fun pre => pre <+: pcsB s) (pcsB s).length w := fun l J Jx W hW _ _ hY h0 =>
  pieces1_in n hn l Bs n₀ hb s hs J Jx (fun pre x W1 hx hj hl => by
    have := hY pre x W1 hj hl
    simp only [clip_eq hx] at this
    exact this) W ((hW.cell (p := ⟨Bs, 0, none⟩) (Nat.lt_of_lt_of_le hb hw)).trans hc) h0
end
set_option maxRecDepth 100000 in
theorem pieces_any (s : ByteArray) (w : World) : Calls Tryd.prog 72 #[.string s] w fun e w' => e = .returned (.func (.func 94) #[] #[.pointer (some ⟨w.heap.size, 0, none⟩)]) ∧ w' = w.alloc (.cells #[.string s] 9) := by
  go_enter Tryd.func72, Tryd.ntmps72
  go_wp2_with fail
  go_ret
  exact ⟨rfl, rfl⟩
section
attribute [local go_sem] Oper.semAt_some
theorem cell_new_r (W : World) (v : Value) (t : TypeId) : (W.alloc (.cells #[v] t)).cell? ⟨W.heap.size, 0, none⟩ = some v ∧ (W.alloc (.cells #[v] t)).frozen? ⟨W.heap.size, 0, none⟩ = false := by
  constructor <;> simp
theorem cell_alloc_r {W : World} {a : Addr} {v : Value} (o : Obj) (h : W.cell? a = some v) : (W.alloc o).cell? a = some v := cell_kept h (World.grownBy_alloc W o none) (fun r e => by cases e)
theorem frozen_alloc_r {W : World} {a : Addr} {v : Value} (o : Obj) (h : W.cell? a = some v) (hf : W.frozen? a = false) : (W.alloc o).frozen? a = false := (frozen_kept h (World.grownBy_alloc W o none) (fun r e => by cases e)).trans hf
set_option maxRecDepth 100000 in
set_option maxHeartbeats 2000000 in
theorem NamedR_any (s : ByteArray) (w : World) : Calls Tryd.prog 43 #[.string s] w fun e w' => e = .returned (.bool (namedR s)) ∧ Below w.heap.size w w' := by
  by_cases h60 : 60 < s.size
  · have hi : (60 : Int) < s.size := by omega
    have HN : Hid (namedR s = false) := by show _ = _; unfold namedR; rw [decide_eq_false (by omega)]; rfl
    have A0 : Arr (w.alloc (.cells #[.bool false] 4)) w.heap.size 4 #[.bool false] := Arr.new _ _ _
    have b0 : Below w.heap.size w (w.alloc (.cells #[.bool false] 4)) := (Below.refl _ _).alloc (Nat.le_refl _) _
    go_enter Tryd.func43, Tryd.ntmps43
    go_upto_region 2 with fail
    refine wp_forget (fun V => Arr V w.heap.size 4 #[.bool false] ∧ Below w.heap.size w V) (by exact ⟨A0, b0⟩) ?_
    clear A0 b0
    rintro V ⟨A0, b0⟩
    have c0 : V.cell? ⟨w.heap.size, 0, none⟩ = some (.bool false) := A0.cell 0
    have f0 : V.frozen? ⟨w.heap.size, 0, none⟩ = false := A0.free 0
    have c1 : (V.setCell ⟨w.heap.size, 0, none⟩ (.bool false)).cell? ⟨w.heap.size, 0, none⟩ = some (.bool false) := World.cell?_setCell_same' _ _ _ (by rw [c0]; rfl)
    have HC := Lib.hid c1
    clear c1
    go_wp2_with fail
    refine bodyPost_ret (v := .bool false) ?_ rfl ⟨by rw [HN.out], b0.setCell (p := ⟨w.heap.size, 0, none⟩) (Nat.le_refl _) _⟩
    have c1 := HC.out
    simp [results, Tryd.f43, go_sem, c1]
  have hi : ¬ (60 : Int) < s.size := by omega
  have hs : s.size ≤ 60 := by omega
  have HN : Hid (namedR s = (pcsB s).all fun y => okP (clip y).data.toList) := by
    show _ = _
    unfold namedR pcsB
    rw [decide_eq_true hs, Bool.true_and, List.all_map]
    have hl : ∀ p ∈ splitP [] s.data.toList, (bs p).size ≤ 60 := fun p hp => by
      have := splitP_len _ _ p hp
      have e : s.data.toList.length = s.size := rfl
      rw [bs_size]
      simp only [List.length_nil] at this
      omega
    generalize splitP [] s.data.toList = Q at *
    clear hi hs h60
    induction Q with
    | nil => rfl
    | cons p Q ih =>
      rw [List.all_cons, List.all_cons, ih fun q hq => hl q (List.mem_cons_of_mem _ hq)]
      simp only [Function.comp, clip_eq (hl p List.mem_cons_self), bs_list]
  refine (callsIn_wide (n := 9)).1 ?_
  refine callsIn_of_wp_marks Tryd.func43 rfl trivial ?_ rfl
  simp only [Tryd.ntmps43, List.size_toArray, List.length_cons, List.length_nil, Nat.reduceAdd, Nat.reduceSub, Array.replicate_succ, Array.replicate_zero, List.push_toArray, List.append_toArray, List.nil_append, List.cons_append]
  gi_wp2_with (refine ⟨trivial, ?_⟩; gi_at_call 72; refine (callsIn_wide.2 (pieces_any s _)).mono ?_; rintro e w' ⟨rfl, rfl⟩)
  have c0 := cell_new_r w (.bool false) 4
  have c1 := cell_new_r (w.alloc (.cells #[.bool false] 4)) (.string s) 9
  rw [World.size_alloc] at c1
  have hB0 : Below w.heap.size w ((w.alloc (.cells #[.bool false] 4)).alloc (.cells #[.string s] 9)) := ((Below.refl _ w).alloc (Nat.le_refl _) _).alloc (by simp) _
  refine wpIn_rangeFunc_ownF rfl (by omega) (gf := 94) (lb := #[.pointer (some ⟨w.heap.size + 1, 0, none⟩)]) rfl trivial (enters_of Tryd.func94 (by kernel_rfl) rfl)
    (pieces_stops _ (by omega) (w.heap.size + 1) (w.heap.size + 2) (by omega) s hs _ (by simp) c1.1) belowK_t (belowK_b (by simp)) (Below.refl _ _) (fun _ => rfl)
    (fun pre W => ((∀ y ∈ pre, okP (clip y).data.toList = true) ∧ W.cell? ⟨w.heap.size, 0, none⟩ = some (.bool false) ∧ W.frozen? ⟨w.heap.size, 0, none⟩ = false) ∧ Below w.heap.size w W)
    (fun c pre W => (c = .ret ∧ (∃ y ∈ pre, okP (clip y).data.toList = false) ∧ W.cell? ⟨w.heap.size, 0, none⟩ = some (.bool false)) ∧ Below w.heap.size w W)
    (OwnFrom.and (Own.from (fun q A B row hs hg hr => ⟨hs.1, cell_kept hs.2.1 hg hr, (frozen_kept hs.2.1 hg hr).trans hs.2.2⟩) _) (ownFrom_below (Nat.le_refl _) (by simp; omega)))
    (fun c => OwnFrom.and (Own.from (fun q A B row hs hg hr => ⟨hs.1, hs.2.1, cell_kept hs.2.2 hg hr⟩) _) (ownFrom_below (Nat.le_refl _) (by simp; omega)))
    ⟨⟨by simp, cell_alloc_r _ c0.1, frozen_alloc_r _ c0.1 c0.2⟩, hB0⟩
    (fun x => { tmps := #[.string s, undef, .pointer (some ⟨w.heap.size, 0, none⟩), .string (clip x), .string s, .int .i64 s.size, .bool false, .string s, .func (.func 94) #[] #[.pointer (some ⟨w.heap.size + 1, 0, none⟩)], .string (clip x), undef, undef, undef], defers := [] }) ?assign ?body ?done ?stop
  case assign =>
    intro l x W K hK
    gi_wp2
    exact hK
  case body =>
    rintro l pre x W ⟨⟨hp, hc, hf⟩, hB⟩ _
    have C := isPiece_any (clip x) (clip_le x) W
    cases hx : okP (clip x).data.toList
    · rw [hx] at C
      gi_wp2_with (refine ⟨trivial, ?_⟩; gi_at_call 73; refine (CallsIn.inRound l (callsIn_wide.2 C)).mono ?_; rintro e w' ⟨rfl, rfl⟩)
      exact ⟨KeepsOthers.setCell _ _ _, ⟨rfl, ⟨x, by simp, hx⟩, World.cell?_setCell_same' _ _ _ (by rw [hc]; rfl)⟩, hB.setCell (p := ⟨w.heap.size, 0, none⟩) (Nat.le_refl _) _⟩
    · rw [hx] at C
      gi_wp2_with (refine ⟨trivial, ?_⟩; gi_at_call 73; refine (CallsIn.inRound l (callsIn_wide.2 C)).mono ?_; rintro e w' ⟨rfl, rfl⟩)
      exact ⟨KeepsOthers.refl _, Below.refl _ _, ⟨fun y hy => (List.mem_append.1 hy).elim (hp y) (fun e => by rw [List.mem_singleton.1 e]; exact hx), hc, hf⟩, hB⟩
  case done =>
    rintro D ys W hD rfl ⟨⟨hp, hc, hf⟩, hB⟩ hK
    have hT : namedR s = true := by rw [HN.out, List.all_eq_true]; exact hp
    gi_wp2
    have hK' := (KeepsOthers.setCell W ⟨w.heap.size, 0, none⟩ (.bool true)).same D _ hK rfl
    refine ⟨by simp, .inl ⟨_, _, rfl, run_takeDeferred hK', ?_⟩⟩
    have hc5 := cell_kept (World.cell?_setCell_same' W ⟨w.heap.size, 0, none⟩ (.bool true) (by rw [hc]; rfl)) (grownBy_putObj' _ D (.deferred none)) (fun r e => by cases e; exact ⟨_, hK', rfl⟩)
    refine ⟨.bool true, ?_, by rw [hT], (hB.setCell (p := ⟨w.heap.size, 0, none⟩) (Nat.le_refl _) _).trans (belowK_b (w := w) (Nat.le_refl _) _ D _ _ (by simp at hD; omega) hK' rfl rfl)⟩
    simp [results, Tryd.f43, go_sem, hc5]
  case stop =>
    rintro D c pre W hD hpre ⟨⟨rfl, ⟨y, hy, hyf⟩, hc⟩, hB⟩ hK
    have hT : namedR s = false := by rw [HN.out, List.all_eq_false]; exact ⟨y, hpre.subset hy, by rw [hyf]; simp⟩
    gi_wp2
    refine ⟨by simp, .inl ⟨_, _, rfl, run_takeDeferred hK, ?_⟩⟩
    have hc5 := cell_kept hc (grownBy_putObj' _ D (.deferred none)) (fun r e => by cases e; exact ⟨_, hK, rfl⟩)
    refine ⟨.bool false, ?_, by rw [hT], hB.trans (belowK_b (w := w) (Nat.le_refl _) W D _ _ (by simp at hD; omega) hK rfl rfl)⟩
    simp [results, Tryd.f43, go_sem, hc5]
end
end Go.Proofs.YtbpmgpbmeganoaaDoor
