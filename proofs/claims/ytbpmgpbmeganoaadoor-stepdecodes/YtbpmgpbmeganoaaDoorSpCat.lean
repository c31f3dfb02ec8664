/- Texts in one: SpCcI, SpCcT, SpCat. -/
import Derived.Test.YtbpmgpbmeganoaaDoorSpMem
import Derived.Test.YtbpmgpbmeganoaaDoorRfConcat
/- slices.Grow at nil, slices.Concat, of lists of numbers: contracts (wip/tools/genconc.py). -/
namespace Go.Proofs.YtbpmgpbmeganoaaDoor
open Go.RowKit

set_option maxRecDepth 100000 in
theorem Grow_anyI (n : Nat) (hn : n ≤ 1000) (W : World) :
    Calls Tryd.prog 82 #[.slice none 0 0, .int .i64 (n : Int)] W fun e W' => ∃ v, e = .returned v ∧ W'.ownsRow W.heap.size 3 1 v 0 [] ∧ Below W.heap.size W W' := by
  by_cases h0 : n = 0
  · subst h0
    go_enter Tryd.func82, Tryd.ntmps82
    go_wp2_with fail
    go_ret
    exact ⟨_, rfl, own_nil _ _ _ _, Below.refl _ _⟩
  obtain ⟨si, hsi, sz0, sz1, sz2⟩ := info_parts info_int
  have hrun : ∀ ty, (Builtin.append_ #[22, 3] ty #[.slice none 0 0, .int .i64 (n : Int)]).run Tryd.prog W = .ok (.slice (some ⟨W.heap.size, 0, none⟩) n (grownCap W n 0 3)) (W.drew.alloc (.cells (Builtin.zeroCells #[.int .i64 0] n ++ Builtin.zeroCells #[.int .i64 0] (grownCap W n 0 3 - n)) 3)) := fun ty =>
    run_append_zeros_nil (P := Tryd.prog) W 22 3 ty 3 si _ .i64 .i64 Tryd.underlying22 Tryd.underlying3 hsi sz0 0 n (by omega) (by omega) (by omega) (by omega) (by rw [sz2]; omega) (by rw [sz2]; exact growslice_fits (by omega) (by omega))
  have hgc := grownCap_ge W n 0 3
  have hgm := grownCap_le_maxLen W n 0 3 (by unfold maxLen; omega)
  generalize grownCap W n 0 3 = cap at *
  have hZ : (Builtin.zeroCells #[.int .i64 0] n ++ Builtin.zeroCells #[.int .i64 0] (cap - n)).size = cap * 1 := by
    rw [Array.size_append, size_zeroCells, size_zeroCells]
    show n * 1 + (cap - n) * 1 = _
    omega
  generalize Builtin.zeroCells #[.int .i64 0] n ++ Builtin.zeroCells #[.int .i64 0] (cap - n) = Z at *
  have A2 : Arr (W.drew.alloc (.cells Z 3)) W.heap.size 3 Z := Arr.new_at _ _ _ rfl
  have bel2 : Below W.heap.size W (W.drew.alloc (.cells Z 3)) := ((Below.refl _ W).drew).alloc (Nat.le_refl _) _
  generalize W.drew.alloc (.cells Z 3) = W2 at *
  have HE : Hid (∃ v, Ending.returned (.slice (some ⟨W.heap.size, 0, none⟩) 0 cap) = .returned v ∧ W2.ownsRow W.heap.size 3 1 v 0 [] ∧ Below W.heap.size W W2) :=
    ⟨_, rfl, ⟨rfl, .inr ⟨W.heap.size, cap, Z, rfl, Nat.le_refl _, A2, Nat.zero_le _, hgm, hZ, by simp⟩⟩, bel2⟩
  have b1 : (0 : Int) < n := by omega
  have b2 : ¬ (n : Int) < 0 := by omega
  have b3 : (n : Int) ≤ 1000 := by omega
  have b4 : (0 : Int) ≤ cap := by omega
  clear hsi sz0 sz1 sz2 hZ A2 bel2 hn
  go_enter Tryd.func82, Tryd.ntmps82
  go_wp2_with (at_builtin; refine Lib.wpList_append_run _ rfl _ _ _ _ rfl _ _ rfl rfl _ _ (hrun _) ?_)
  go_ret
  exact HE.out
/-- pieces: slices of refs, each where it lies -/
abbrev PcI := Option Addr × List Int × Nat
def catPI (Ps : List PcI) : List Int := (Ps.map (·.2.1)).flatten
theorem catP_nextI (Ps : List PcI) (k : Nat) (p : PcI) (h : Ps[k]? = some p) : catPI (Ps.take (k + 1)) = catPI (Ps.take k) ++ p.2.1 := by
  obtain ⟨hk, rfl⟩ := List.getElem?_eq_some_iff.1 h
  unfold catPI
  rw [List.take_succ_eq_append_getElem hk, List.map_append, List.flatten_append]
  simp
theorem catP_leI (Ps : List PcI) (k : Nat) : (catPI (Ps.take k)).length ≤ (catPI Ps).length := by
  have h : catPI Ps = catPI (Ps.take k) ++ catPI (Ps.drop k) := by
    unfold catPI
    rw [← List.flatten_append, ← List.map_append, List.take_append_drop]
  rw [h, List.length_append]
  omega
def PcsI (W : World) (B g : Nat) (Ps : List PcI) : Prop := ∀ k p, Ps[k]? = some p → W.cell? ⟨g, k, none⟩ = some (.slice p.1 p.2.1.length p.2.2) ∧ NumsA W B p.1 p.2.1
theorem PcsI.below {W W' : World} {B g : Nat} {Ps : List PcI} (h : PcsI W B g Ps) (hg : g < B) (b : Below B W W') : PcsI W' B g Ps := fun k p hp => by
  obtain ⟨h1, h2⟩ := h k p hp
  exact ⟨(b.cell (p := ⟨g, k, none⟩) hg).trans h1, h2.below b⟩
def CcRel1I (Ps : List PcI) (W : World) (z i : Value) (wr : World) : Prop :=
  ∃ k : Nat, k ≤ Ps.length ∧ z = .int .i64 ((catPI (Ps.take k)).length : Int) ∧ i = .int .i64 (k : Int) ∧ W = wr
def CcRel2I (Ps : List PcI) (W : World) (B : Nat) (v i : Value) (wr : World) : Prop :=
  ∃ k : Nat, k ≤ Ps.length ∧ wr.ownsRow B 3 1 v (catPI (Ps.take k)).length ((catPI (Ps.take k)).map iv) ∧ i = .int .i64 (k : Int) ∧ Below B W wr
set_option maxRecDepth 100000 in
set_option maxHeartbeats 1000000 in
theorem Concat_anyI (Ps : List PcI) (hm : Ps.length ≤ 100) (ht : (catPI Ps).length ≤ 1000) (g : Nat) (W : World) (hg : g < W.heap.size) (hP : PcsI W W.heap.size g Ps) :
    Calls Tryd.prog 59 #[.slice (some ⟨g, 0, none⟩) Ps.length Ps.length] W fun e W' => ∃ v, e = .returned v ∧ W'.ownsRow W.heap.size 3 1 v (catPI Ps).length ((catPI Ps).map iv) ∧ Below W.heap.size W W' := by
  have hle := fun k => catP_leI Ps k
  have HN := Lib.hid (fun k p h => catP_nextI Ps k p h)
  have hs1 : Hid (CcRel1I Ps W (.int .i64 0) (.int .i64 0) W) := ⟨0, Nat.zero_le _, rfl, rfl, rfl⟩
  go_enter Tryd.func59, Tryd.ntmps59
  go_wp2_with fail
  go_loopw [3, 11] (fun z i wr => CcRel1I Ps W z i wr) (fun _ i _ => Ps.length - (intOf i).toNat)
  case atStart => exact hs1.out
  case round =>
    clear hs1
    obtain ⟨k, hk, rfl, rfl, rfl⟩ := hrel
    by_cases hlt : k < Ps.length
    · have hj : (k : Int) < Ps.length := by omega
      have hx := List.getElem?_eq_getElem hlt
      obtain ⟨hc, _⟩ := hP _ _ hx
      have H1 : Hid (catPI (Ps.take (k + 1)) = catPI (Ps.take k) ++ Ps[k].2.1) := HN.out _ _ hx
      have l1 : (catPI (Ps.take k)).length + Ps[k].2.1.length ≤ 1000 := by
        have := hle (k + 1)
        rw [H1.out, List.length_append] at this
        omega
      have l2 : ((catPI (Ps.take k)).length : Int) + (Ps[k].2.1.length : Int) ≤ 1000 := by omega
      have l3 : ¬ ((catPI (Ps.take k)).length : Int) + (Ps[k].2.1.length : Int) < 0 := by omega
      clear hle hx
      go_wp2_with fail
      go_roundw
      case rel => exact ⟨k + 1, hlt, by rw [H1.out, List.length_append, Int.natCast_add], by rw [Int.natCast_add]; rfl, rfl⟩
      case measure => simp [intOf]; omega
    · obtain rfl : k = Ps.length := by omega
      have hj : ¬ (Ps.length : Int) < Ps.length := by omega
      rw [List.take_length]
      have C := Lib.hid (Grow_anyI (catPI Ps).length ht W)
      clear hle
      go_wp2_with fail
      (with_reducible refine C.out.mono ?_)
      clear C
      rintro _ w2 ⟨v, rfl, hown, b2⟩
      have hs2 : Hid (CcRel2I Ps W W.heap.size v (.int .i64 0) w2) := ⟨0, Nat.zero_le _, hown, rfl, b2⟩
      clear hown b2
      go_wp2_with fail
      go_loopw [6, 27] (fun v i w3 => CcRel2I Ps W W.heap.size v i w3) (fun _ i _ => Ps.length - (intOf i).toNat)
      case atStart => exact hs2.out
      case round =>
        clear hs2
        obtain ⟨k, hk, hown, rfl, b3⟩ := hrel
        by_cases hlt : k < Ps.length
        · have hj : (k : Int) < Ps.length := by omega
          have hx := List.getElem?_eq_getElem hlt
          obtain ⟨hc, hR⟩ := hP.below hg b3 _ _ hx
          have H1 : Hid (catPI (Ps.take (k + 1)) = catPI (Ps.take k) ++ Ps[k].2.1) := HN.out _ _ hx
          have l1 : (catPI (Ps.take k)).length + Ps[k].2.1.length ≤ 1000 := by
            have := catP_leI Ps (k + 1)
            rw [H1.out, List.length_append] at this
            omega
          obtain ⟨si, hsi, sz0, sz1, sz2⟩ := info_parts info_int
          have Hsi := Lib.hid hsi
          have Sz0 := Lib.hid sz0
          have Sz1 := Lib.hid sz1
          have Sz2 := Lib.hid sz2
          have HW := Lib.hid hR.news
          have HO := Lib.hid hown
          have HB := Lib.hid b3
          clear hsi sz0 sz1 sz2 hx hR hown
          go_wp2_with (at_builtin; refine wpList_app _ rfl _ _ 22 rfl W.heap.size 3 si _ 1 8 Tryd.underlying22 Hsi.out Sz0.out Sz1.out Sz2.out rfl (by decide) _ _ _ rfl HO.out Ps[k].1 Ps[k].2.1.length Ps[k].2.2 (Ps[k].2.1.map iv) rfl (by rw [List.length_map, Nat.mul_one]) HW.out (iv_one _) (by unfold maxLen; omega) (by omega) b3.size ?_)
          intro v' w' h1 h2
          have b4 : Below W.heap.size W w' := b3.grown h2 b3.size (fun q hq => own_at HO.out q hq)
          have h3 : Hid (w'.ownsRow W.heap.size 3 1 v' (catPI (Ps.take (k + 1))).length ((catPI (Ps.take (k + 1))).map iv)) := by
            show World.ownsRow _ _ _ _ _ _ _
            rw [H1.out, List.map_append, List.length_append]
            exact h1
          clear h1 h2 b3
          go_wp2_with fail
          go_roundw
          case rel => exact ⟨k + 1, hlt, h3.out, by rw [Int.natCast_add]; rfl, b4⟩
          case measure => simp [intOf]; omega
        · obtain rfl : k = Ps.length := by omega
          have hj : ¬ (Ps.length : Int) < Ps.length := by omega
          rw [List.take_length] at hown
          have HO := Lib.hid hown
          clear hown
          go_wp2_with fail
          go_ret
          exact ⟨_, rfl, HO.out, b3⟩
end Go.Proofs.YtbpmgpbmeganoaaDoor

/- slices.Grow at nil, slices.Concat, of lists of texts: contracts (wip/tools/genconc.py). -/
namespace Go.Proofs.YtbpmgpbmeganoaaDoor
open Go.RowKit

set_option maxRecDepth 100000 in
theorem Grow_anyT (n : Nat) (hn : n ≤ 1000) (W : World) :
    Calls Tryd.prog 83 #[.slice none 0 0, .int .i64 (n : Int)] W fun e W' => ∃ v, e = .returned v ∧ W'.ownsRow W.heap.size 9 1 v 0 [] ∧ Below W.heap.size W W' := by
  by_cases h0 : n = 0
  · subst h0
    go_enter Tryd.func83, Tryd.ntmps83
    go_wp2_with fail
    go_ret
    exact ⟨_, rfl, own_nil _ _ _ _, Below.refl _ _⟩
  obtain ⟨si, hsi, sz0, sz1, sz2⟩ := info_parts info_str
  have hrun : ∀ ty, (Builtin.append_ #[23, 3] ty #[.slice none 0 0, .int .i64 (n : Int)]).run Tryd.prog W = .ok (.slice (some ⟨W.heap.size, 0, none⟩) n (grownCap W n 0 9)) (W.drew.alloc (.cells (Builtin.zeroCells #[.string ⟨#[]⟩] n ++ Builtin.zeroCells #[.string ⟨#[]⟩] (grownCap W n 0 9 - n)) 9)) := fun ty =>
    run_append_zeros_nil (P := Tryd.prog) W 23 3 ty 9 si _ .i64 .i64 Tryd.underlying23 Tryd.underlying3 hsi sz0 0 n (by omega) (by omega) (by omega) (by omega) (by rw [sz2]; omega) (by rw [sz2]; exact growslice_fits (by omega) (by omega))
  have hgc := grownCap_ge W n 0 9
  have hgm := grownCap_le_maxLen W n 0 9 (by unfold maxLen; omega)
  generalize grownCap W n 0 9 = cap at *
  have hZ : (Builtin.zeroCells #[.string ⟨#[]⟩] n ++ Builtin.zeroCells #[.string ⟨#[]⟩] (cap - n)).size = cap * 1 := by
    rw [Array.size_append, size_zeroCells, size_zeroCells]
    show n * 1 + (cap - n) * 1 = _
    omega
  generalize Builtin.zeroCells #[.string ⟨#[]⟩] n ++ Builtin.zeroCells #[.string ⟨#[]⟩] (cap - n) = Z at *
  have A2 : Arr (W.drew.alloc (.cells Z 9)) W.heap.size 9 Z := Arr.new_at _ _ _ rfl
  have bel2 : Below W.heap.size W (W.drew.alloc (.cells Z 9)) := ((Below.refl _ W).drew).alloc (Nat.le_refl _) _
  generalize W.drew.alloc (.cells Z 9) = W2 at *
  have HE : Hid (∃ v, Ending.returned (.slice (some ⟨W.heap.size, 0, none⟩) 0 cap) = .returned v ∧ W2.ownsRow W.heap.size 9 1 v 0 [] ∧ Below W.heap.size W W2) :=
    ⟨_, rfl, ⟨rfl, .inr ⟨W.heap.size, cap, Z, rfl, Nat.le_refl _, A2, Nat.zero_le _, hgm, hZ, by simp⟩⟩, bel2⟩
  have b1 : (0 : Int) < n := by omega
  have b2 : ¬ (n : Int) < 0 := by omega
  have b3 : (n : Int) ≤ 1000 := by omega
  have b4 : (0 : Int) ≤ cap := by omega
  clear hsi sz0 sz1 sz2 hZ A2 bel2 hn
  go_enter Tryd.func83, Tryd.ntmps83
  go_wp2_with (at_builtin; refine Lib.wpList_append_run _ rfl _ _ _ _ rfl _ _ rfl rfl _ _ (hrun _) ?_)
  go_ret
  exact HE.out
/-- pieces: slices of refs, each where it lies -/
abbrev PcT := Option Addr × List ByteArray × Nat
def catPT (Ps : List PcT) : List ByteArray := (Ps.map (·.2.1)).flatten
theorem catP_nextT (Ps : List PcT) (k : Nat) (p : PcT) (h : Ps[k]? = some p) : catPT (Ps.take (k + 1)) = catPT (Ps.take k) ++ p.2.1 := by
  obtain ⟨hk, rfl⟩ := List.getElem?_eq_some_iff.1 h
  unfold catPT
  rw [List.take_succ_eq_append_getElem hk, List.map_append, List.flatten_append]
  simp
theorem catP_leT (Ps : List PcT) (k : Nat) : (catPT (Ps.take k)).length ≤ (catPT Ps).length := by
  have h : catPT Ps = catPT (Ps.take k) ++ catPT (Ps.drop k) := by
    unfold catPT
    rw [← List.flatten_append, ← List.map_append, List.take_append_drop]
  rw [h, List.length_append]
  omega
def PcsT (W : World) (B g : Nat) (Ps : List PcT) : Prop := ∀ k p, Ps[k]? = some p → W.cell? ⟨g, k, none⟩ = some (.slice p.1 p.2.1.length p.2.2) ∧ Txs W B p.1 p.2.1
theorem PcsT.below {W W' : World} {B g : Nat} {Ps : List PcT} (h : PcsT W B g Ps) (hg : g < B) (b : Below B W W') : PcsT W' B g Ps := fun k p hp => by
  obtain ⟨h1, h2⟩ := h k p hp
  exact ⟨(b.cell (p := ⟨g, k, none⟩) hg).trans h1, h2.below b⟩
def CcRel1T (Ps : List PcT) (W : World) (z i : Value) (wr : World) : Prop :=
  ∃ k : Nat, k ≤ Ps.length ∧ z = .int .i64 ((catPT (Ps.take k)).length : Int) ∧ i = .int .i64 (k : Int) ∧ W = wr
def CcRel2T (Ps : List PcT) (W : World) (B : Nat) (v i : Value) (wr : World) : Prop :=
  ∃ k : Nat, k ≤ Ps.length ∧ wr.ownsRow B 9 1 v (catPT (Ps.take k)).length ((catPT (Ps.take k)).map sv) ∧ i = .int .i64 (k : Int) ∧ Below B W wr
set_option maxRecDepth 100000 in
set_option maxHeartbeats 1000000 in
theorem Concat_anyT (Ps : List PcT) (hm : Ps.length ≤ 100) (ht : (catPT Ps).length ≤ 1000) (g : Nat) (W : World) (hg : g < W.heap.size) (hP : PcsT W W.heap.size g Ps) :
    Calls Tryd.prog 60 #[.slice (some ⟨g, 0, none⟩) Ps.length Ps.length] W fun e W' => ∃ v, e = .returned v ∧ W'.ownsRow W.heap.size 9 1 v (catPT Ps).length ((catPT Ps).map sv) ∧ Below W.heap.size W W' := by
  have hle := fun k => catP_leT Ps k
  have HN := Lib.hid (fun k p h => catP_nextT Ps k p h)
  have hs1 : Hid (CcRel1T Ps W (.int .i64 0) (.int .i64 0) W) := ⟨0, Nat.zero_le _, rfl, rfl, rfl⟩
  go_enter Tryd.func60, Tryd.ntmps60
  go_wp2_with fail
  go_loopw [3, 11] (fun z i wr => CcRel1T Ps W z i wr) (fun _ i _ => Ps.length - (intOf i).toNat)
  case atStart => exact hs1.out
  case round =>
    clear hs1
    obtain ⟨k, hk, rfl, rfl, rfl⟩ := hrel
    by_cases hlt : k < Ps.length
    · have hj : (k : Int) < Ps.length := by omega
      have hx := List.getElem?_eq_getElem hlt
      obtain ⟨hc, _⟩ := hP _ _ hx
      have H1 : Hid (catPT (Ps.take (k + 1)) = catPT (Ps.take k) ++ Ps[k].2.1) := HN.out _ _ hx
      have l1 : (catPT (Ps.take k)).length + Ps[k].2.1.length ≤ 1000 := by
        have := hle (k + 1)
        rw [H1.out, List.length_append] at this
        omega
      have l2 : ((catPT (Ps.take k)).length : Int) + (Ps[k].2.1.length : Int) ≤ 1000 := by omega
      have l3 : ¬ ((catPT (Ps.take k)).length : Int) + (Ps[k].2.1.length : Int) < 0 := by omega
      clear hle hx
      go_wp2_with fail
      go_roundw
      case rel => exact ⟨k + 1, hlt, by rw [H1.out, List.length_append, Int.natCast_add], by rw [Int.natCast_add]; rfl, rfl⟩
      case measure => simp [intOf]; omega
    · obtain rfl : k = Ps.length := by omega
      have hj : ¬ (Ps.length : Int) < Ps.length := by omega
      rw [List.take_length]
      have C := Lib.hid (Grow_anyT (catPT Ps).length ht W)
      clear hle
      go_wp2_with fail
      (with_reducible refine C.out.mono ?_)
      clear C
      rintro _ w2 ⟨v, rfl, hown, b2⟩
      have hs2 : Hid (CcRel2T Ps W W.heap.size v (.int .i64 0) w2) := ⟨0, Nat.zero_le _, hown, rfl, b2⟩
      clear hown b2
      go_wp2_with fail
      go_loopw [6, 27] (fun v i w3 => CcRel2T Ps W W.heap.size v i w3) (fun _ i _ => Ps.length - (intOf i).toNat)
      case atStart => exact hs2.out
      case round =>
        clear hs2
        obtain ⟨k, hk, hown, rfl, b3⟩ := hrel
        by_cases hlt : k < Ps.length
        · have hj : (k : Int) < Ps.length := by omega
          have hx := List.getElem?_eq_getElem hlt
          obtain ⟨hc, hR⟩ := hP.below hg b3 _ _ hx
          have H1 : Hid (catPT (Ps.take (k + 1)) = catPT (Ps.take k) ++ Ps[k].2.1) := HN.out _ _ hx
          have l1 : (catPT (Ps.take k)).length + Ps[k].2.1.length ≤ 1000 := by
            have := catP_leT Ps (k + 1)
            rw [H1.out, List.length_append] at this
            omega
          obtain ⟨si, hsi, sz0, sz1, sz2⟩ := info_parts info_str
          have Hsi := Lib.hid hsi
          have Sz0 := Lib.hid sz0
          have Sz1 := Lib.hid sz1
          have Sz2 := Lib.hid sz2
          have HW := Lib.hid hR.news
          have HO := Lib.hid hown
          have HB := Lib.hid b3
          clear hsi sz0 sz1 sz2 hx hR hown
          go_wp2_with (at_builtin; refine wpList_app _ rfl _ _ 23 rfl W.heap.size 9 si _ 1 16 Tryd.underlying23 Hsi.out Sz0.out Sz1.out Sz2.out rfl (by decide) _ _ _ rfl HO.out Ps[k].1 Ps[k].2.1.length Ps[k].2.2 (Ps[k].2.1.map sv) rfl (by rw [List.length_map, Nat.mul_one]) HW.out (sv_one _) (by unfold maxLen; omega) (by omega) b3.size ?_)
          intro v' w' h1 h2
          have b4 : Below W.heap.size W w' := b3.grown h2 b3.size (fun q hq => own_at HO.out q hq)
          have h3 : Hid (w'.ownsRow W.heap.size 9 1 v' (catPT (Ps.take (k + 1))).length ((catPT (Ps.take (k + 1))).map sv)) := by
            show World.ownsRow _ _ _ _ _ _ _
            rw [H1.out, List.map_append, List.length_append]
            exact h1
          clear h1 h2 b3
          go_wp2_with fail
          go_roundw
          case rel => exact ⟨k + 1, hlt, h3.out, by rw [Int.natCast_add]; rfl, b4⟩
          case measure => simp [intOf]; omega
        · obtain rfl : k = Ps.length := by omega
          have hj : ¬ (Ps.length : Int) < Ps.length := by omega
          rw [List.take_length] at hown
          have HO := Lib.hid hown
          clear hown
          go_wp2_with fail
          go_ret
          exact ⟨_, rfl, HO.out, b3⟩
end Go.Proofs.YtbpmgpbmeganoaaDoor

/- Lists of numbers, of texts: parts, and three pieces joined, the middle one new. -/
namespace Go.Proofs.YtbpmgpbmeganoaaDoor
open Go.RowKit

theorem own_lessS {w : World} {base B : Nat} {e : TypeId} {size : Nat} {v : Value} {n : Nat} {xs : List Value} (h : w.ownsRow base e size v n xs) (hb : B ≤ base) : w.ownsRow B e size v n xs := by
  refine ⟨h.1, ?_⟩
  rcases h.2 with hn | ⟨g, cap, cur, hv, hbs, rest⟩
  · exact .inl hn
  · exact .inr ⟨g, cap, cur, hv, Nat.le_trans hb hbs, rest⟩
theorem cat_threeI (w : World) (X Y : List Int) (r : Int) (A A' : Option Addr) (c c' x y : Nat) (hx : x = X.length) (hy : y = Y.length) (hl : X.length + Y.length ≤ 900) (W : World) (b : Below w.heap.size w W) (h : NumsA w w.heap.size A X) (h' : NumsA w w.heap.size A' Y) :
    Calls Tryd.prog 59 #[.slice (some ⟨W.heap.size + 1, 0, none⟩) 3 3] ((W.alloc (.cells #[.int .i64 r] 3)).alloc (.cells #[.slice A x c, .slice (some ⟨W.heap.size, 0, none⟩) 1 1, .slice A' y c'] 22)) fun e W' => ∃ v, e = .returned v ∧ W'.ownsRow w.heap.size 3 1 v (X ++ r :: Y).length ((X ++ r :: Y).map iv) ∧ Below w.heap.size w W' := by
  subst hx hy
  have A1 : Arr (W.alloc (.cells #[.int .i64 r] 3)) W.heap.size 3 #[.int .i64 r] := Arr.new _ _ _
  have b1 : Below w.heap.size w (W.alloc (.cells #[.int .i64 r] 3)) := b.alloc b.size _
  have hz : (W.alloc (.cells #[.int .i64 r] 3)).heap.size = W.heap.size + 1 := World.size_alloc _ _
  generalize W.alloc (.cells #[.int .i64 r] 3) = U at *
  have A0 : Arr (U.alloc (.cells #[.slice A X.length c, .slice (some ⟨W.heap.size, 0, none⟩) 1 1, .slice A' Y.length c'] 22)) U.heap.size 22 #[.slice A X.length c, .slice (some ⟨W.heap.size, 0, none⟩) 1 1, .slice A' Y.length c'] := Arr.new _ _ _
  have bu : Below U.heap.size U (U.alloc (.cells #[.slice A X.length c, .slice (some ⟨W.heap.size, 0, none⟩) 1 1, .slice A' Y.length c'] 22)) := (Below.refl _ _).alloc (Nat.le_refl _) _
  have bb := b1.trans (bu.mono b1.size)
  replace A1 := A1.below bu A1.lt
  have hlt := A0.lt
  rw [hz] at A0 hlt
  have hg : W.heap.size ≥ w.heap.size := b.size
  generalize U.alloc (.cells #[.slice A X.length c, .slice (some ⟨W.heap.size, 0, none⟩) 1 1, .slice A' Y.length c'] 22) = V at *
  have e : catPI [(A, X, c), (some ⟨W.heap.size, 0, none⟩, [r], 1), (A', Y, c')] = X ++ r :: Y := by simp [catPI]
  have q := Concat_anyI [(A, X, c), (some ⟨W.heap.size, 0, none⟩, [r], 1), (A', Y, c')] (by simp) (by rw [e, List.length_append, List.length_cons]; omega) (W.heap.size + 1) V hlt (fun k p hp => by
    match k, hp with
    | 0, hp => obtain rfl := Option.some.inj hp; exact ⟨A0.cell 0, (h.below bb).mono bb.size⟩
    | 1, hp =>
      obtain rfl := Option.some.inj hp
      refine ⟨A0.cell 1, fun k x hx => ?_⟩
      match k, hx with
      | 0, hx => obtain rfl := Option.some.inj hx; exact ⟨_, rfl, A1.lt, A1.cell 0⟩
      | k + 1, hx => simp at hx
    | 2, hp => obtain rfl := Option.some.inj hp; exact ⟨A0.cell 2, (h'.below bb).mono bb.size⟩
    | k + 3, hp => simp at hp)
  rw [e] at q
  refine q.mono ?_
  rintro e W' ⟨v, rfl, h1, h2⟩
  exact ⟨v, rfl, own_lessS h1 bb.size, bb.trans (h2.mono bb.size)⟩
/-- the same in a region that draws -/
theorem cat_drewI (w : World) (X Y : List Int) (r : Int) (A A' : Option Addr) (c c' x y : Nat) (hx : x = X.length) (hy : y = Y.length) (hl : X.length + Y.length ≤ 900) (W : World) (b : Below w.heap.size w W) (h : NumsA w w.heap.size A X) (h' : NumsA w w.heap.size A' Y) :
    Calls Tryd.prog 59 #[.slice (some ⟨W.heap.size + 1, 0, none⟩) 3 3] ((W.alloc (.cells #[.int .i64 r] 3)).alloc (.cells #[.slice A x c, .slice (some ⟨W.heap.size, 0, none⟩) 1 1, .slice A' y c'] 22)).drew fun e W' => ∃ v, e = .returned v ∧ W'.ownsRow w.heap.size 3 1 v (X ++ r :: Y).length ((X ++ r :: Y).map iv) ∧ Below w.heap.size w W' :=
  cat_threeI w X Y r A A' c c' x y hx hy hl W.drew b.drew h h'
theorem NumsA.drop' {w : World} {B : Nat} {ad : Addr} {L : List Int} (h : NumsA w B (some ad) L) (k : Nat) : NumsA w B (some (ad.add k)) (L.drop k) := fun j x hx => by
  rw [List.getElem?_drop] at hx
  obtain ⟨a, e, hb, h0⟩ := h (k + j) x hx
  cases e
  refine ⟨_, rfl, ?_⟩
  rw [Addr.add_add]
  exact ⟨hb, h0⟩
theorem NumsA.take' {w : World} {B : Nat} {A : Option Addr} {L : List Int} (h : NumsA w B A L) (k : Nat) : NumsA w B A (L.take k) := fun j x hx => by
  rw [List.getElem?_take] at hx
  split at hx
  · exact h j x hx
  · cases hx
theorem NumsA.rest' {w : World} {B : Nat} {ad : Addr} {L : List Int} (h : NumsA w B (some ad) L) (k c : Nat) (hc : L.length ≤ c) : NumsA w B (if c = k then some ad else some (ad.add k)) (L.drop k) := by
  by_cases e : c = k
  · rw [List.drop_of_length_le (by omega)]
    exact NumsA.nil _ _ _
  · rw [if_neg e]
    exact h.drop' k
theorem cat_threeT (w : World) (X Y : List ByteArray) (r : ByteArray) (A A' : Option Addr) (c c' x y : Nat) (hx : x = X.length) (hy : y = Y.length) (hl : X.length + Y.length ≤ 900) (W : World) (b : Below w.heap.size w W) (h : Txs w w.heap.size A X) (h' : Txs w w.heap.size A' Y) :
    Calls Tryd.prog 60 #[.slice (some ⟨W.heap.size + 1, 0, none⟩) 3 3] ((W.alloc (.cells #[.string r] 9)).alloc (.cells #[.slice A x c, .slice (some ⟨W.heap.size, 0, none⟩) 1 1, .slice A' y c'] 23)) fun e W' => ∃ v, e = .returned v ∧ W'.ownsRow w.heap.size 9 1 v (X ++ r :: Y).length ((X ++ r :: Y).map sv) ∧ Below w.heap.size w W' := by
  subst hx hy
  have A1 : Arr (W.alloc (.cells #[.string r] 9)) W.heap.size 9 #[.string r] := Arr.new _ _ _
  have b1 : Below w.heap.size w (W.alloc (.cells #[.string r] 9)) := b.alloc b.size _
  have hz : (W.alloc (.cells #[.string r] 9)).heap.size = W.heap.size + 1 := World.size_alloc _ _
  generalize W.alloc (.cells #[.string r] 9) = U at *
  have A0 : Arr (U.alloc (.cells #[.slice A X.length c, .slice (some ⟨W.heap.size, 0, none⟩) 1 1, .slice A' Y.length c'] 23)) U.heap.size 23 #[.slice A X.length c, .slice (some ⟨W.heap.size, 0, none⟩) 1 1, .slice A' Y.length c'] := Arr.new _ _ _
  have bu : Below U.heap.size U (U.alloc (.cells #[.slice A X.length c, .slice (some ⟨W.heap.size, 0, none⟩) 1 1, .slice A' Y.length c'] 23)) := (Below.refl _ _).alloc (Nat.le_refl _) _
  have bb := b1.trans (bu.mono b1.size)
  replace A1 := A1.below bu A1.lt
  have hlt := A0.lt
  rw [hz] at A0 hlt
  have hg : W.heap.size ≥ w.heap.size := b.size
  generalize U.alloc (.cells #[.slice A X.length c, .slice (some ⟨W.heap.size, 0, none⟩) 1 1, .slice A' Y.length c'] 23) = V at *
  have e : catPT [(A, X, c), (some ⟨W.heap.size, 0, none⟩, [r], 1), (A', Y, c')] = X ++ r :: Y := by simp [catPT]
  have q := Concat_anyT [(A, X, c), (some ⟨W.heap.size, 0, none⟩, [r], 1), (A', Y, c')] (by simp) (by rw [e, List.length_append, List.length_cons]; omega) (W.heap.size + 1) V hlt (fun k p hp => by
    match k, hp with
    | 0, hp => obtain rfl := Option.some.inj hp; exact ⟨A0.cell 0, (h.below bb).mono bb.size⟩
    | 1, hp =>
      obtain rfl := Option.some.inj hp
      refine ⟨A0.cell 1, fun k x hx => ?_⟩
      match k, hx with
      | 0, hx => obtain rfl := Option.some.inj hx; exact ⟨_, rfl, A1.lt, A1.cell 0⟩
      | k + 1, hx => simp at hx
    | 2, hp => obtain rfl := Option.some.inj hp; exact ⟨A0.cell 2, (h'.below bb).mono bb.size⟩
    | k + 3, hp => simp at hp)
  rw [e] at q
  refine q.mono ?_
  rintro e W' ⟨v, rfl, h1, h2⟩
  exact ⟨v, rfl, own_lessS h1 bb.size, bb.trans (h2.mono bb.size)⟩
/-- the same in a region that draws -/
theorem cat_drewT (w : World) (X Y : List ByteArray) (r : ByteArray) (A A' : Option Addr) (c c' x y : Nat) (hx : x = X.length) (hy : y = Y.length) (hl : X.length + Y.length ≤ 900) (W : World) (b : Below w.heap.size w W) (h : Txs w w.heap.size A X) (h' : Txs w w.heap.size A' Y) :
    Calls Tryd.prog 60 #[.slice (some ⟨W.heap.size + 1, 0, none⟩) 3 3] ((W.alloc (.cells #[.string r] 9)).alloc (.cells #[.slice A x c, .slice (some ⟨W.heap.size, 0, none⟩) 1 1, .slice A' y c'] 23)).drew fun e W' => ∃ v, e = .returned v ∧ W'.ownsRow w.heap.size 9 1 v (X ++ r :: Y).length ((X ++ r :: Y).map sv) ∧ Below w.heap.size w W' :=
  cat_threeT w X Y r A A' c c' x y hx hy hl W.drew b.drew h h'
theorem Txs.drop' {w : World} {B : Nat} {ad : Addr} {L : List ByteArray} (h : Txs w B (some ad) L) (k : Nat) : Txs w B (some (ad.add k)) (L.drop k) := fun j x hx => by
  rw [List.getElem?_drop] at hx
  obtain ⟨a, e, hb, h0⟩ := h (k + j) x hx
  cases e
  refine ⟨_, rfl, ?_⟩
  rw [Addr.add_add]
  exact ⟨hb, h0⟩
theorem Txs.take' {w : World} {B : Nat} {A : Option Addr} {L : List ByteArray} (h : Txs w B A L) (k : Nat) : Txs w B A (L.take k) := fun j x hx => by
  rw [List.getElem?_take] at hx
  split at hx
  · exact h j x hx
  · cases hx
theorem Txs.rest' {w : World} {B : Nat} {ad : Addr} {L : List ByteArray} (h : Txs w B (some ad) L) (k c : Nat) (hc : L.length ≤ c) : Txs w B (if c = k then some ad else some (ad.add k)) (L.drop k) := by
  by_cases e : c = k
  · rw [List.drop_of_length_le (by omega)]
    exact Txs.nil _ _ _
  · rw [if_neg e]
    exact h.drop' k
end Go.Proofs.YtbpmgpbmeganoaaDoor
