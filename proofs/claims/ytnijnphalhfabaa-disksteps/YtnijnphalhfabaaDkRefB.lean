/- ref.at, CopyDisk, SameDisk, ReadFile: their contracts. -/
import Derived.Test.YtnijnphalhfabaaDkRefA
namespace Go.Proofs.Ytnijnphalhfabaa
open Go.RowKit

/-- where a file of this name stands, or -1 -/
def atP (n : ByteArray) (L : List Fl) : Int := if hasN n L then (low n L : Int) else -1
theorem at_yes {n : ByteArray} {L : List Fl} {b : ByteArray} (hr : ris b L) {k : Nat} {f : Fl} (hk : L[k]? = some f) (hn : f.name = n) : atP n L = (k : Int) := by
  have hlt := (List.getElem?_eq_some_iff.1 hk).1
  have h1 : hasN n L = true := by
    unfold hasN getF
    rw [List.find?_isSome]
    exact ⟨f, List.mem_of_getElem? hk, decide_eq_true hn⟩
  obtain ⟨f', _, h2, h3, h4⟩ := has_some hr h1
  have e1 : ¬ k < low n L := fun h => by
    have := (low_split n L b hr k f hk).2 h
    rw [hn, ltB_irr] at this
    cases this
  have e2 : ¬ low n L < k := fun h => by
    have hp : ∀ (L : List Fl) (b : ByteArray), ris b L → ∀ (i j : Nat) (x y : Fl), i < j → L[i]? = some x → L[j]? = some y → ltB x.name y.name = true := fun L => by
      induction L with
      | nil => intro b _ i j x y _ hi _; simp at hi
      | cons g l ih =>
        intro b hr i j x y hij hi hj
        cases j with
        | zero => omega
        | succ j =>
          rw [List.getElem?_cons_succ] at hj
          cases i with
          | zero =>
            simp at hi
            subst hi
            exact ris_lt hr.2 y (List.mem_of_getElem? hj)
          | succ i =>
            rw [List.getElem?_cons_succ] at hi
            exact ih g.name hr.2 i j x y (by omega) hi hj
    have := hp L b hr _ _ _ _ h h2 hk
    rw [h3, hn, ltB_irr] at this
    cases this
  unfold atP
  rw [if_pos h1]
  omega
theorem at_no {n : ByteArray} {L : List Fl} (h : ∀ (k : Nat) (f : Fl), L[k]? = some f → f.name ≠ n) : atP n L = -1 := by
  unfold atP hasN
  rw [if_neg]
  intro hs
  cases hg : getF n L with
  | none => rw [hg] at hs; cases hs
  | some f =>
    obtain ⟨h1, h2⟩ := getF_name hg
    obtain ⟨k, hk, rfl⟩ := List.getElem_of_mem h2
    exact h k _ (List.getElem?_eq_getElem hk) h1
def AtRel (L : List Fl) (n : ByteArray) (A : Option Addr) (c : Nat) (z : Int) (w : World) (i : Value) (wr : World) : Prop :=
  ∃ k : Nat, k ≤ L.length ∧ i = .int .i64 (k : Int) ∧ Arr wr w.heap.size 24 (dkArr L A c z) ∧ Below w.heap.size w wr ∧ ∀ (j : Nat) (f : Fl), j < k → L[j]? = some f → f.name ≠ n
set_option maxRecDepth 100000 in
set_option maxHeartbeats 1000000 in
theorem at_any (L : List Fl) (n : ByteArray) (A : Option Addr) (c : Nat) (z : Int) (w : World) (hP : Fls w w.heap.size A L) (hl : L.length ≤ 140737488355328) (hr : ris ⟨#[]⟩ L) :
    Calls Try.prog 42 #[.agg #[.slice A L.length c, .int .i64 z], .string n] w fun e w' => e = .returned (.int .i64 (atP n L)) ∧ Below w.heap.size w w' := by
  have A0 : Arr (w.alloc (.cells (dkArr L A c z) 24)) w.heap.size 24 (dkArr L A c z) := Arr.new _ _ _
  have b0 : Below w.heap.size w (w.alloc (.cells (dkArr L A c z) 24)) := (Below.refl _ _).alloc (Nat.le_refl _) _
  have HY := Lib.hid (fun k f h1 h2 => at_yes (n := n) hr (k := k) (f := f) h1 h2)
  have HNo := Lib.hid (fun h => at_no (n := n) (L := L) h)
  generalize atP n L = P at *
  go_enter Try.func42, Try.ntmps42
  go_upto_region 1 with fail
  refine wp_forget (fun V => Arr V w.heap.size 24 (dkArr L A c z) ∧ Below w.heap.size w V) (by exact ⟨A0, b0⟩) ?_
  clear A0 b0
  rintro V ⟨A0, b0⟩
  have c0 : V.cell? ⟨w.heap.size, 0, none⟩ = some (.slice A L.length c) := A0.cell 0
  have h1 : Hid (AtRel L n A c z w (.int .i64 0) V) := ⟨0, Nat.zero_le _, rfl, A0, b0, fun j f h => by omega⟩
  clear A0 b0
  go_wp2_with fail
  go_loopw [10] (fun i wr => AtRel L n A c z w i wr) (fun i _ => L.length - (intOf i).toNat)
  case atStart => exact h1.out
  case round =>
    clear h1 c0
    clear V
    obtain ⟨k, hk, rfl, A1, bel, hno⟩ := hrel
    by_cases hlt : k < L.length
    · have hj : (k : Int) < L.length := by omega
      have hx : L[k]? = some L[k] := List.getElem?_eq_getElem hlt
      obtain ⟨ad, rfl, hbl, h0, h1, h2⟩ := hP k L[k] hx
      have g0 := (bel.cell hbl).trans h0
      have g1 := (bel.cell (p := ⟨(ad.add (k * 3)).block, (ad.add (k * 3)).off + 1, none⟩) hbl).trans h1
      have g2 := (bel.cell (p := ⟨(ad.add (k * 3)).block, (ad.add (k * 3)).off + 2, none⟩) hbl).trans h2
      have HYk : Hid (L[k].name = n → P = (k : Int)) := fun h => HY.out k _ hx h
      have HNk : Hid (L[k].name ≠ n → ∀ (j : Nat) (f : Fl), j < k + 1 → L[j]? = some f → f.name ≠ n) := fun h j f hj hf => by
        by_cases e : j = k
        · subst e
          rw [hx] at hf
          cases hf
          exact h
        · exact hno j f (by omega) hf
      clear h0 h1 h2 hx hno
      generalize L[k] = x at *
      have bb : Below wr.heap.size wr ((wr.alloc (.cells flZero 50)).setRow wr.heap.size (flArr x)) := below_setRow ((Below.refl _ _).alloc (Nat.le_refl _) _) (Nat.le_refl _) _
      have AX : Arr ((wr.alloc (.cells flZero 50)).setRow wr.heap.size (flArr x)) wr.heap.size 50 (flArr x) := (Arr.new _ _ _).row _
      go_upto_region 4 with (refine wpList_store_row rfl 50 _ _ rfl wr.heap.size (flArr x) rfl rfl 50 flZero (Arr.new wr _ _) (flInfo _) rfl (flArr_one _) ?_)
      refine wp_forget (fun V => Arr V w.heap.size 24 (dkArr L (some ad) c z) ∧ Below w.heap.size w V ∧ Arr V wr.heap.size 50 (flArr x)) (by exact ⟨A1.below bb A1.lt, bel.trans (bb.mono bel.size), AX⟩) ?_
      clear bb AX A1 bel g0 g1 g2
      generalize wr.heap.size = q
      rintro V ⟨A1, bel, AX⟩
      have c0 : V.cell? ⟨q, 0, none⟩ = some (.string x.name) := AX.cell 0
      cases hq : x.name.toList == n.toList
      · have hne := Lib.hid (HNk.out (fun e => by rw [e] at hq; simp at hq))
        clear HYk HNk
        go_wp2_with fail
        go_roundw
        case rel => exact ⟨k + 1, hlt, by rw [Int.natCast_add]; rfl, A1, bel, hne.out⟩
        case measure => simp [intOf]; omega
      · have hy := Lib.hid (HYk.out ((sameB_iff _ _).1 hq))
        clear HYk HNk
        go_wp2_with fail
        go_ret
        exact ⟨by rw [hy.out]; rfl, bel⟩
    · obtain rfl : k = L.length := by omega
      have hj : ¬ (L.length : Int) < L.length := by omega
      have hy := Lib.hid (HNo.out (fun k f hk => hno k f (List.getElem?_eq_some_iff.1 hk).1 hk))
      clear hno
      go_wp2_with fail
      go_ret
      exact ⟨by rw [hy.out]; rfl, bel⟩
set_option maxRecDepth 100000 in
set_option maxHeartbeats 1000000 in
theorem RefSameDisk_any (L M : List Fl) (A B : Option Addr) (c d : Nat) (z y : Int) (w : World) (hP : Fls w w.heap.size A L) (hQ : Fls w w.heap.size B M) (hl : L.length ≤ 140737488355328) (hm : M.length ≤ 140737488355328) :
    Calls Try.prog 17 #[.agg #[.slice A L.length c, .int .i64 z], .agg #[.slice B M.length d, .int .i64 y]] w fun e w' => e = .returned (.bool (decide ((⟨L, z⟩ : Dk) = ⟨M, y⟩))) ∧ Below w.heap.size w w' := by
  have h0 := Lib.hid (two_start w L M A B c d z y)
  have HD : Hid (∀ b : Bool, ((⟨L, z⟩ : Dk) = ⟨M, y⟩ ↔ b = true) → decide ((⟨L, z⟩ : Dk) = ⟨M, y⟩) = b) := fun b hb => by
    cases b with
    | true => exact decide_eq_true (hb.2 rfl)
    | false => exact decide_eq_false (fun e => by have := hb.1 e; cases this)
  have HI : Hid ((⟨L, z⟩ : Dk) = ⟨M, y⟩ ↔ L = M ∧ z = y) := by show _ ↔ _; simp
  generalize decide ((⟨L, z⟩ : Dk) = ⟨M, y⟩) = D at *
  go_enter Try.func17, Try.ntmps17
  go_upto_region 1 with fail
  refine wp_forget (fun V => Two w L M A B c d z y V) (by exact h0.out) ?_
  clear h0
  intro V T
  have c0 : V.cell? ⟨w.heap.size, 0, none⟩ = some (.slice A L.length c) := T.a.cell 0
  have c1 : V.cell? ⟨w.heap.size, 1, none⟩ = some (.int .i64 z) := T.a.cell 1
  have d0 : V.cell? ⟨w.heap.size + 1, 0, none⟩ = some (.slice B M.length d) := T.b.cell 0
  have d1 : V.cell? ⟨w.heap.size + 1, 1, none⟩ = some (.int .i64 y) := T.b.cell 1
  by_cases hlen : L.length = M.length
  case neg =>
    have hlb : ((L.length : Int) != M.length) = true := by rw [bne_iff_ne]; omega
    have HF : Hid (D = false) := HD.out false (by rw [HI.out]; exact ⟨fun ⟨e, _⟩ => absurd (by rw [e]) hlen, fun e => by cases e⟩)
    clear hlen HD HI
    go_wp2_with fail
    go_ret
    exact ⟨by rw [HF.out]; rfl, T.bel⟩
  have hlb : ((L.length : Int) != M.length) = false := by rw [hlen]; simp
  by_cases hzy : z = y
  case neg =>
    have hzb : (z != y) = true := by rw [bne_iff_ne]; exact hzy
    have HF : Hid (D = false) := HD.out false (by rw [HI.out]; exact ⟨fun ⟨_, e⟩ => absurd e hzy, fun e => by cases e⟩)
    clear hlen hzy HD HI
    go_wp2_with fail
    go_ret
    exact ⟨by rw [HF.out]; rfl, T.bel⟩
  have hzb : (z != y) = false := by rw [hzy]; simp
  have HR : Hid (SdRel w L M A B c d z y (.int .i64 0) V) := ⟨0, Nat.zero_le _, rfl, rfl, T⟩
  have HZ := Lib.hid hzy
  have HLn := Lib.hid hlen
  clear T hzy hlen
  go_wp2_with fail
  clear c0 c1 d0 d1 hlb hzb
  go_loopw [23] (fun i wr => SdRel w L M A B c d z y i wr) (fun i _ => M.length - (intOf i).toNat)
  case atStart => exact HR.out
  case round =>
    clear HR
    obtain ⟨k, hk, rfl, ht, T⟩ := hrel
    have hlen := HLn.out
    have c0 : wr.cell? ⟨w.heap.size, 0, none⟩ = some (.slice A L.length c) := T.a.cell 0
    have d0 : wr.cell? ⟨w.heap.size + 1, 0, none⟩ = some (.slice B M.length d) := T.b.cell 0
    have HT := Lib.hid ht
    clear ht
    by_cases hlt : k < M.length
    · have hlt2 : k < L.length := by omega
      have hj : (k : Int) < L.length := by omega
      have hj2 : (k : Int) < M.length := by omega
      obtain ⟨ad, rfl, hbl, h0, h1, h2⟩ := hP k L[k] (List.getElem?_eq_getElem hlt2)
      obtain ⟨ad2, rfl, hbl2, h0', h1', h2'⟩ := hQ k M[k] (List.getElem?_eq_getElem hlt)
      have g0 := (T.bel.cell hbl).trans h0
      have g1 := (T.bel.cell (p := ⟨(ad.add (k * 3)).block, (ad.add (k * 3)).off + 1, none⟩) hbl).trans h1
      have g2 := (T.bel.cell (p := ⟨(ad.add (k * 3)).block, (ad.add (k * 3)).off + 2, none⟩) hbl).trans h2
      have g3 := (T.bel.cell hbl2).trans h0'
      have g4 := (T.bel.cell (p := ⟨(ad2.add (k * 3)).block, (ad2.add (k * 3)).off + 1, none⟩) hbl2).trans h1'
      have g5 := (T.bel.cell (p := ⟨(ad2.add (k * 3)).block, (ad2.add (k * 3)).off + 2, none⟩) hbl2).trans h2'
      have HS := Lib.hid (fun e => take_same HT.out hlt2 hlt e)
      have HN : Hid (L[k] ≠ M[k] → D = false) := fun h => HD.out false (by rw [HI.out]; exact ⟨fun ⟨e, _⟩ => by subst e; exact absurd rfl h, fun e => by cases e⟩)
      clear h0 h1 h2 h0' h1' h2' HT hlen
      generalize L[k] = x at *
      generalize M[k] = x' at *
      obtain ⟨x1, x2, x3⟩ := x
      obtain ⟨y1, y2, y3⟩ := x'
      simp only at g0 g1 g2 g3 g4 g5
      have hne := neF_run x1 y1 x2 y2 x3 y3
      cases hq : neF ⟨x1, x2, x3⟩ ⟨y1, y2, y3⟩
      · have HS2 := Lib.hid (HS.out ((neF_iff _ _).1 hq))
        rw [hq] at hne
        clear HS HN hq
        go_wp2_with fail
        go_quiet (fail)
        go_wp2_with fail
        refine ⟨⟨k + 1, hlt, by go_num, HS2.out, T.drewN _⟩, by simp [intOf]; omega⟩
      · have HF := Lib.hid (HN.out (fun e => by have := (neF_iff _ _).2 e; rw [this] at hq; cases hq))
        rw [hq] at hne
        clear HS HN hq
        go_wp2_with fail
        go_quiet (fail)
        go_wp2_with fail
        go_ret
        exact ⟨by rw [HF.out]; rfl, below_drewN T.bel _⟩
    · obtain rfl : k = M.length := by omega
      have hj : ¬ (M.length : Int) < L.length := by omega
      have HF : Hid (D = true) := HD.out true (by
        rw [HI.out]
        refine ⟨fun _ => rfl, fun _ => ⟨?_, HZ.out⟩⟩
        have := HT.out
        rwa [List.take_length, List.take_of_length_le (by omega)] at this)
      clear HT hlen
      go_wp2_with fail
      go_ret
      exact ⟨by rw [HF.out]; rfl, T.bel⟩
set_option maxRecDepth 100000 in
set_option maxHeartbeats 1000000 in
theorem ReadFile_any (L : List Fl) (n : ByteArray) (A : Option Addr) (c : Nat) (z : Int) (w : World) (hP : Fls w w.heap.size A L) (hz : Sized L) (hl : L.length ≤ 140737488355328) :
    Calls Try.prog 22 #[.agg #[.slice A L.length c, .int .i64 z], .string n] w fun e w' => e = .returned (.tuple #[.string (readD ⟨L, z⟩ n).1, .int .i64 (readD ⟨L, z⟩ n).2]) ∧ Below w.heap.size w w' := by
  have A0 : Arr (w.alloc (.cells (dkArr L A c z) 24)) w.heap.size 24 (dkArr L A c z) := Arr.new _ _ _
  have b0 : Below w.heap.size w (w.alloc (.cells (dkArr L A c z) 24)) := (Below.refl _ _).alloc (Nat.le_refl _) _
  have HS : Hid (readD ⟨L, z⟩ n = if !goodD L then ((⟨#[]⟩, 3) : ByteArray × Int) else match getF n L with
    | none => (⟨#[]⟩, 7)
    | some f => (f.safe ++ f.tail, 0)) := rfl
  generalize readD ⟨L, z⟩ n = Q at *
  go_enter Try.func22, Try.ntmps22
  go_upto_region 1 with fail
  refine wp_forget (fun V => Arr V w.heap.size 24 (dkArr L A c z) ∧ Below w.heap.size w V) (by exact ⟨A0, b0⟩) ?_
  clear A0 b0
  rintro V ⟨A0, b0⟩
  have c0 : V.cell? ⟨w.heap.size, 0, none⟩ = some (.slice A L.length c) := A0.cell 0
  have c1 : V.cell? ⟨w.heap.size, 1, none⟩ = some (.int .i64 z) := A0.cell 1
  have CG : Hid (Calls Try.prog 19 #[.agg #[.slice A L.length c, .int .i64 z]] V fun e w' => e = .returned (.bool (goodD L)) ∧ Below V.heap.size V w') := GoodDisk_any L A c z V (hP.up b0) hz hl
  cases hg : goodD L with
  | false =>
    rw [hg] at CG
    have HQ : Hid (Q = (⟨#[]⟩, 3)) := by show _ = _; rw [HS.out, hg]; rfl
    clear HS hg
    go_wp2_with fail
    (with_reducible refine CG.out.mono ?_)
    clear CG c0 c1
    rintro _ V2 ⟨rfl, b2⟩
    go_wp2_with fail
    go_ret2
    exact ⟨by rw [HQ.out]; rfl, b0.trans (b2.mono b0.size)⟩
  | true =>
    rw [hg] at CG
    obtain ⟨h4, hr, hall⟩ := (goodD_iff L).1 hg
    go_wp2_with fail
    (with_reducible refine CG.out.mono ?_)
    clear CG c0 c1
    rintro _ V2 ⟨rfl, b2⟩
    replace A0 := A0.below b2 A0.lt
    replace b0 := b0.trans (b2.mono b0.size)
    clear b2
    have c0 : V2.cell? ⟨w.heap.size, 0, none⟩ = some (.slice A L.length c) := A0.cell 0
    have c1 : V2.cell? ⟨w.heap.size, 1, none⟩ = some (.int .i64 z) := A0.cell 1
    have CF := Lib.hid (at_any L n A c z V2 (hP.up b0) hl hr)
    unfold atP at CF
    cases hbn : hasN n L with
    | false =>
      rw [hbn, if_neg (by simp)] at CF
      have HQ : Hid (Q = (⟨#[]⟩, 7)) := by
        show _ = _
        rw [HS.out, hg]
        unfold hasN at hbn
        cases hgf : getF n L with
        | none => rfl
        | some f => rw [hgf] at hbn; cases hbn
      clear HS hg hbn
      go_wp2_with fail
      (with_reducible refine CF.out.mono ?_)
      clear CF c0 c1
      rintro _ V3 ⟨rfl, b4⟩
      go_wp2_with fail
      go_ret2
      exact ⟨by rw [HQ.out]; rfl, b0.trans (b4.mono b0.size)⟩
    | true =>
      rw [hbn, if_pos rfl] at CF
      obtain ⟨f, hgf, hx, hfn, hlt⟩ := has_some hr hbn
      clear hfn
      have HQ : Hid (Q = (f.safe ++ f.tail, 0)) := by show _ = _; rw [HS.out, hg, hgf]; rfl
      have hfit : f.safe.size + f.tail.size ≤ 1048576 := by
        have := (hall f (List.mem_of_getElem? hx)).2
        unfold fits at this
        exact of_decide_eq_true this
      have hli : (low n L : Int) < L.length := by omega
      have hl0 : ¬ (low n L : Int) < 0 := by omega
      generalize low n L = i at *
      clear HS hg hbn hgf hall hr
      go_wp2_with fail
      (with_reducible refine CF.out.mono ?_)
      clear CF c0 c1
      rintro _ V3 ⟨rfl, b4⟩
      replace A0 := A0.below b4 A0.lt
      replace b0 := b0.trans (b4.mono b0.size)
      obtain ⟨ad, rfl, hbk, d0, d1, d2⟩ := (hP.up b0) i f hx
      have c0 : V3.cell? ⟨w.heap.size, 0, none⟩ = some (.slice (some ad) L.length c) := A0.cell 0
      clear b4 hx
      go_wp2_with fail
      have hcc : ¬ 9223372036854775807 < f.safe.size + f.tail.size := by omega
      go_quiet (fail)
      go_wp2_with fail
      go_ret2
      exact ⟨by rw [HQ.out]; rfl, below_drewN b0 _⟩
end Go.Proofs.Ytnijnphalhfabaa
