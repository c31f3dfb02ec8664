/- step.Replay: its contract. -/
import Derived.Test.YtbpmgpbmeganoaaDoorRfSame
import Derived.Test.YtbpmgpbmeganoaaDoorRfLaw
namespace Go.Proofs.YtbpmgpbmeganoaaDoor
open Go.RowKit

/-- what Replay answers, in memory -/
def SqEnd (w : World) (r : List Rf × Int × Int) (e : Ending) (w' : World) : Prop :=
  ∃ A c, e = .returned (.tuple #[.slice A r.1.length c, .int .i64 r.2.1, .int .i64 r.2.2]) ∧ Rfs w' w'.heap.size A r.1 ∧ r.1.length ≤ c ∧ Below w.heap.size w w'
theorem sq_no (w w' : World) (i z : Int) (b : Below w.heap.size w w') : SqEnd w ([], i, z) (.returned (.tuple #[.slice none 0 0, .int .i64 i, .int .i64 z])) w' := ⟨none, 0, rfl, Rfs.nil _ _ _, Nat.le_refl _, b⟩
/-- where Replay stands: the keys' box -/
def Sq0 (w : World) (k : Ky) (q : KyAt) (W : World) : Prop := Arr W w.heap.size 41 (kyArr k q) ∧ Below w.heap.size w W
theorem Sq0.below {w W W' : World} {k : Ky} {q : KyAt} (h : Sq0 w k q W) (b : Below W.heap.size W W') : Sq0 w k q W' := ⟨h.1.below b h.1.lt, h.2.trans (b.mono h.2.size)⟩
theorem Sq0.bel {w W : World} {k : Ky} {q : KyAt} (h : Sq0 w k q W) : Below w.heap.size w W := h.2
theorem Sq0.start (w : World) (k : Ky) (q : KyAt) : Sq0 w k q (w.alloc (.cells (kyArr k q) 41)) := ⟨Arr.new _ _ _, (Below.refl _ _).alloc (Nat.le_refl _) _⟩
def SqRel (w : World) (k : Ky) (q : KyAt) (LL : List Sp) (i v : Value) (wr : World) : Prop :=
  ∃ (j : Nat) (cur : List Rf) (A : Option Addr) (c : Nat), j ≤ LL.length ∧ i = .int .i64 (j : Int) ∧ v = .slice A cur.length c ∧ Rfs wr wr.heap.size A cur ∧ cur.length ≤ c ∧ goodR cur = true ∧ Sq0 w k q wr ∧
    spGo k.sig k.need 0 [] LL = spGo k.sig k.need j cur (LL.drop j)
theorem goodR_small {L : List Rf} (h : goodR L = true) : L.length ≤ 32 ∧ SizedR L := by
  obtain ⟨h1, _, h2⟩ := (goodR_iff L).1 h
  refine ⟨h1, fun f hf => ?_⟩
  obtain ⟨h3, h4⟩ := h2 f hf
  have := named_le h3
  exact ⟨by omega, by omega⟩
theorem apply_good {K : List ByteArray} {need i : Int} {L : List Rf} {s : Sp} (h : (spApply K need i L s).2 = 0) : goodR (spApply K need i L s).1 = true := by
  unfold spApply at h ⊢
  split at h
  · rename_i h2
    exact absurd h h2
  · rename_i h2
    rw [if_neg h2]
    obtain ⟨h3, h4, _, h6, _, h7, h8⟩ := setR_ok h
    rw [h8]
    exact changed_good h3 h4 h6 h7
theorem apply_no {K : List ByteArray} {need i : Int} {L : List Rf} {s : Sp} (h : ¬ (spApply K need i L s).2 = 0) : (spApply K need i L s).1 = [] := by
  unfold spApply at h ⊢
  split at h
  · rename_i h2
    rw [if_pos h2]
  · rename_i h2
    rw [if_neg h2]
    exact setR_no h
set_option maxRecDepth 100000 in
set_option maxHeartbeats 4000000 in
theorem Replay_any (k : Ky) (q : KyAt) (LL : List SpL) (A : Option Addr) (c : Nat) (w : World) (hK : KyIn w w.heap.size k q) (hP : Spx w w.heap.size A LL)
    (hks : k.sig.length ≤ 140737488351232) (hke : ∀ t ∈ k.sig, t.size ≤ 140737488355328) (hz : SzL LL) (hl : LL.length ≤ 140737488355328) (ht : Tab w) :
    Calls Tryd.prog 29 #[.agg (kyArr k q), .slice A LL.length c] w (SqEnd w (spReplay k.sig k.need (plS LL))) := by
  have h1 := Lib.hid (Sq0.start w k q)
  have CA : Hid (∀ V (L : List Rf) (B : Option Addr) (d : Nat) (i : Int) (x : SpL), x ∈ LL → Below w.heap.size w V → SpIn w w.heap.size x.1 x.2 → Rfs V V.heap.size B L → L.length ≤ d → goodR L = true →
      Calls Tryd.prog 63 #[.agg (kyArr k q), .slice B L.length d, .int .i64 i, .agg (spArr x.1 x.2)] V (SrEnd V (spApply k.sig k.need i L x.1))) := fun V L B d i x hx b hI hR hd hg =>
    apply_any k q L B d i x.1 x.2 V (hK.up b) (hI.up b) hR hd (by have := (goodR_small hg).1; omega) hks hke (by have := (hz x hx).who; omega) (by have := (hz x hx).seals; omega) (ht.below b ht.1)
  have hlen := plS_len LL
  have HP := Lib.hid hP
  have HLn := Lib.hid hlen
  obtain ⟨ka, kc, ka2, kc2⟩ := q
  generalize hA2 : kyArr k ⟨ka, kc, ka2, kc2⟩ = arr2 at *
  have HA2 := Lib.hid hA2
  clear hA2 hK hP hlen ht hke hz
  by_cases hq : (200 : Int) < (LL.length : Int)
  · rw [spReplay_long (by rw [HLn.out]; omega)]
    go_enter Tryd.func29, Tryd.ntmps29
    go_wp2_with fail
    go_ret3
    rw [← HA2.out]
    exact sq_no _ _ _ _ (Sq0.start w k ⟨ka, kc, ka2, kc2⟩).2
  · rw [spReplay_go (by rw [HLn.out]; omega)]
    have hS := HLn.out
    generalize hG : spGo k.sig k.need 0 [] (plS LL) = R at *
    have h2 : Hid (SqRel w k ⟨ka, kc, ka2, kc2⟩ (plS LL) (.int .i64 0) (.slice none 0 0) (w.alloc (.cells arr2 41))) := by
      show SqRel _ _ _ _ _ _ _
      rw [← HA2.out]
      exact ⟨0, [], none, 0, Nat.zero_le _, rfl, rfl, Rfs.nil _ _ _, Nat.le_refl _, rfl, Sq0.start w k ⟨ka, kc, ka2, kc2⟩, rfl⟩
    have HG := Lib.hid hG
    clear h1 hS hG
    go_enter Tryd.func29, Tryd.ntmps29
    go_wp2_with fail
    go_loopw [17, 7] (fun i v wr => SqRel w k ⟨ka, kc, ka2, kc2⟩ (plS LL) i v wr) (fun i _ _ => LL.length - (intOf i).toNat)
    case atStart => exact h2.out
    case round =>
      clear h2
      obtain ⟨j, cur, B, d, hj, rfl, rfl, hR, hd, hg, hX, he⟩ := hrel
      rw [HLn.out] at hj
      by_cases hlt : j < LL.length
      · have hji : (j : Int) < LL.length := by omega
        have hx : LL[j]? = some LL[j] := List.getElem?_eq_getElem hlt
        have hm := Lib.hid (List.mem_of_getElem? hx)
        obtain ⟨ad, rfl, hb, g0, g1, g2, g3, g4, hI⟩ := HP.out j LL[j] hx
        replace g0 := (hX.2.cell hb).trans g0
        replace g1 := (hX.2.cell (p := ⟨(ad.add (j * 5)).block, (ad.add (j * 5)).off + 1, none⟩) hb).trans g1
        replace g2 := (hX.2.cell (p := ⟨(ad.add (j * 5)).block, (ad.add (j * 5)).off + 2, none⟩) hb).trans g2
        replace g3 := (hX.2.cell (p := ⟨(ad.add (j * 5)).block, (ad.add (j * 5)).off + 3, none⟩) hb).trans g3
        replace g4 := (hX.2.cell (p := ⟨(ad.add (j * 5)).block, (ad.add (j * 5)).off + 4, none⟩) hb).trans g4
        have hdr : (plS LL).drop j = LL[j].1 :: (plS LL).drop (j + 1) := by
          rw [← plS_drop, List.drop_eq_getElem_cons hlt, ← plS_drop]
          rfl
        rw [hdr, spGo_apply] at he
        have HEq := Lib.hid he
        clear he hx hdr
        generalize LL[j] = x at *
        have hAC : Hid (Sq0 w k ⟨ka, kc, ka2, kc2⟩ ((wr.alloc (.cells spZero 25)).setRow wr.heap.size (spArr x.1 x.2)) ∧ Arr ((wr.alloc (.cells spZero 25)).setRow wr.heap.size (spArr x.1 x.2)) wr.heap.size 25 (spArr x.1 x.2) ∧ Rfs ((wr.alloc (.cells spZero 25)).setRow wr.heap.size (spArr x.1 x.2)) ((wr.alloc (.cells spZero 25)).setRow wr.heap.size (spArr x.1 x.2)).heap.size B cur) := by
          have bb : Below wr.heap.size wr ((wr.alloc (.cells spZero 25)).setRow wr.heap.size (spArr x.1 x.2)) := below_setRow ((Below.refl _ _).alloc (Nat.le_refl _) _) (Nat.le_refl _) _
          exact ⟨hX.below bb, (Arr.new _ _ _).row _, hR.up bb⟩
        clear hR
        go_upto_region 7 with (refine wpList_store_row rfl 25 _ _ rfl wr.heap.size (spArr x.1 x.2) rfl rfl 25 spZero (Arr.new wr _ _) (spInfo _ _) rfl (spArr_one _ _) ?_)
        refine wp_forget (fun V => Sq0 w k ⟨ka, kc, ka2, kc2⟩ V ∧ Arr V wr.heap.size 25 (spArr x.1 x.2) ∧ Rfs V V.heap.size B cur) (by exact hAC.out) ?_
        clear hAC g0 g1 g2 g3 g4 hX
        generalize wr.heap.size = y
        rintro V ⟨hX, AX, hR⟩
        have C := Lib.hid (CA.out V cur B d (j : Int) x hm.out hX.2 hI hR hd hg)
        have hgd := Lib.hid (fun h => apply_good (K := k.sig) (need := k.need) (i := (j : Int)) (L := cur) (s := x.1) h)
        have hgn := Lib.hid (fun h => apply_no (K := k.sig) (need := k.need) (i := (j : Int)) (L := cur) (s := x.1) h)
        have AK := hX.1
        rw [← HA2.out] at C
        clear hR hI hm
        generalize spApply k.sig k.need (j : Int) cur x.1 = G at *
        obtain ⟨nx, z⟩ := G
        simp only at HEq hgd hgn
        obtain ⟨s, wa, wc, sa, sc⟩ := x
        go_wp2_with (first
          | refine wpList_load_row rfl 41 _ rfl w.heap.size rfl 41 _ (0, 0) _ AK Tryd.underlying41 rfl (kyInfo _ _) ?_
          | refine wpList_load_row rfl 25 _ rfl y rfl 25 _ (0, 0) _ AX Tryd.underlying25 rfl (spInfo _ _) ?_)
        (with_reducible refine C.out.mono ?_)
        clear C
        rintro _ V2 ⟨A2, c2, rfl, hR2, hc2, b2⟩
        replace hX := hX.below b2
        clear AX AK b2
        by_cases hz : z = 0
        · subst hz
          rw [if_neg (by simp)] at HEq
          have hg2 := hgd.out rfl
          clear hgd hgn
          go_wp2_with fail
          go_roundw
          case rel => exact ⟨j + 1, nx, A2, c2, by rw [HLn.out]; omega, by rw [Int.natCast_add]; rfl, rfl, hR2, hc2, hg2, hX, HEq.out⟩
          case measure => simp [intOf]; omega
        · rw [if_pos hz] at HEq
          have hz2 : (z != 0) = true := by rw [bne_iff_ne]; exact hz
          obtain rfl := hgn.out hz
          have HH : Hid (SqEnd w R (.returned (.tuple #[.slice none 0 0, .int .i64 (j : Int), .int .i64 z])) V2) := by
            show SqEnd _ _ _ _
            rw [← HG.out, HEq.out]
            exact sq_no _ _ _ _ hX.2
          clear hgd hgn HEq hX hR2 hc2
          go_wp2_with fail
          go_ret3
          exact HH.out
      · obtain rfl : j = LL.length := by omega
        have hd0 : (plS LL).drop LL.length = [] := by rw [← HLn.out]; exact List.drop_length
        rw [hd0, spGo_nil] at he
        have HH : Hid (SqEnd w R (.returned (.tuple #[.slice B cur.length d, .int .i64 0, .int .i64 0])) wr) := by
          show SqEnd _ _ _ _
          rw [← HG.out, he]
          exact ⟨B, d, rfl, hR, hd, hX.2⟩
        clear hd0 he hR hX
        go_wp2_with fail
        go_ret3
        exact HH.out
end Go.Proofs.YtbpmgpbmeganoaaDoor
