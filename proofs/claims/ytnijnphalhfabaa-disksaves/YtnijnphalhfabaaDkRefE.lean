/- Texts in one: DkRefB, DkCrash, DkRefC, DkRefD, DkRefE. -/
import Derived.Test.YtnijnphalhfabaaDkRefA
/- ref.at, CopyDisk, SameDisk, ReadFile: their contracts. -/
namespace Go.Proofs.Ytnijnphalhfabaa
open Go.RowKit

/-- where a file of this name stands, or -1 -/
def atP (n : ByteArray) (L : List Fl) : Int := if hasN n L then (low n L : Int) else -1
theorem at_yes {n : ByteArray} {L : List Fl} {b : ByteArray} (hr : ris b L) {k : Nat} {f : Fl} (hk : L[k]? = some f) (hn : f.name = n) : atP n L = (k : Int) := by
  have hlt := (List.getElem?_eq_some_iff.1 hk).1
  have h1 : hasN n L = true := by
    unfold hasN getF
    rw [List.find?_isSome]
    exact ⟨f, List.mem_of_getElem? hk, decide_eq_true hn⟩
  obtain ⟨f', _, h2, h3, h4⟩ := has_some hr h1
  have e1 : ¬ k < low n L := fun h => by
    have := (low_split n L b hr k f hk).2 h
    rw [hn, ltB_irr] at this
    cases this
  have e2 : ¬ low n L < k := fun h => by
    have hp : ∀ (L : List Fl) (b : ByteArray), ris b L → ∀ (i j : Nat) (x y : Fl), i < j → L[i]? = some x → L[j]? = some y → ltB x.name y.name = true := fun L => by
      induction L with
      | nil => intro b _ i j x y _ hi _; simp at hi
      | cons g l ih =>
        intro b hr i j x y hij hi hj
        cases j with
        | zero => omega
        | succ j =>
          rw [List.getElem?_cons_succ] at hj
          cases i with
          | zero =>
            simp at hi
            subst hi
            exact ris_lt hr.2 y (List.mem_of_getElem? hj)
          | succ i =>
            rw [List.getElem?_cons_succ] at hi
            exact ih g.name hr.2 i j x y (by omega) hi hj
    have := hp L b hr _ _ _ _ h h2 hk
    rw [h3, hn, ltB_irr] at this
    cases this
  unfold atP
  rw [if_pos h1]
  omega
theorem at_no {n : ByteArray} {L : List Fl} (h : ∀ (k : Nat) (f : Fl), L[k]? = some f → f.name ≠ n) : atP n L = -1 := by
  unfold atP hasN
  rw [if_neg]
  intro hs
  cases hg : getF n L with
  | none => rw [hg] at hs; cases hs
  | some f =>
    obtain ⟨h1, h2⟩ := getF_name hg
    obtain ⟨k, hk, rfl⟩ := List.getElem_of_mem h2
    exact h k _ (List.getElem?_eq_getElem hk) h1
def AtRel (L : List Fl) (n : ByteArray) (A : Option Addr) (c : Nat) (z : Int) (w : World) (i : Value) (wr : World) : Prop :=
  ∃ k : Nat, k ≤ L.length ∧ i = .int .i64 (k : Int) ∧ Arr wr w.heap.size 24 (dkArr L A c z) ∧ Below w.heap.size w wr ∧ ∀ (j : Nat) (f : Fl), j < k → L[j]? = some f → f.name ≠ n
set_option maxRecDepth 100000 in
set_option maxHeartbeats 1000000 in
theorem at_any (L : List Fl) (n : ByteArray) (A : Option Addr) (c : Nat) (z : Int) (w : World) (hP : Fls w w.heap.size A L) (hl : L.length ≤ 140737488355328) (hr : ris ⟨#[]⟩ L) :
    Calls Try.prog 42 #[.agg #[.slice A L.length c, .int .i64 z], .string n] w fun e w' => e = .returned (.int .i64 (atP n L)) ∧ Below w.heap.size w w' := by
  have A0 : Arr (w.alloc (.cells (dkArr L A c z) 24)) w.heap.size 24 (dkArr L A c z) := Arr.new _ _ _
  have b0 : Below w.heap.size w (w.alloc (.cells (dkArr L A c z) 24)) := (Below.refl _ _).alloc (Nat.le_refl _) _
  have HY := Lib.hid (fun k f h1 h2 => at_yes (n := n) hr (k := k) (f := f) h1 h2)
  have HNo := Lib.hid (fun h => at_no (n := n) (L := L) h)
  generalize atP n L = P at *
  go_enter Try.func42, Try.ntmps42
  go_upto_region 1 with fail
  refine wp_forget (fun V => Arr V w.heap.size 24 (dkArr L A c z) ∧ Below w.heap.size w V) (by exact ⟨A0, b0⟩) ?_
  clear A0 b0
  rintro V ⟨A0, b0⟩
  have c0 : V.cell? ⟨w.heap.size, 0, none⟩ = some (.slice A L.length c) := A0.cell 0
  have h1 : Hid (AtRel L n A c z w (.int .i64 0) V) := ⟨0, Nat.zero_le _, rfl, A0, b0, fun j f h => by omega⟩
  clear A0 b0
  go_wp2_with fail
  go_loopw [10] (fun i wr => AtRel L n A c z w i wr) (fun i _ => L.length - (intOf i).toNat)
  case atStart => exact h1.out
  case round =>
    clear h1 c0
    clear V
    obtain ⟨k, hk, rfl, A1, bel, hno⟩ := hrel
    by_cases hlt : k < L.length
    · have hj : (k : Int) < L.length := by omega
      have hx : L[k]? = some L[k] := List.getElem?_eq_getElem hlt
      obtain ⟨ad, rfl, hbl, h0, h1, h2⟩ := hP k L[k] hx
      have g0 := (bel.cell hbl).trans h0
      have g1 := (bel.cell (p := ⟨(ad.add (k * 3)).block, (ad.add (k * 3)).off + 1, none⟩) hbl).trans h1
      have g2 := (bel.cell (p := ⟨(ad.add (k * 3)).block, (ad.add (k * 3)).off + 2, none⟩) hbl).trans h2
      have HYk : Hid (L[k].name = n → P = (k : Int)) := fun h => HY.out k _ hx h
      have HNk : Hid (L[k].name ≠ n → ∀ (j : Nat) (f : Fl), j < k + 1 → L[j]? = some f → f.name ≠ n) := fun h j f hj hf => by
        by_cases e : j = k
        · subst e
          rw [hx] at hf
          cases hf
          exact h
        · exact hno j f (by omega) hf
      clear h0 h1 h2 hx hno
      generalize L[k] = x at *
      have bb : Below wr.heap.size wr ((wr.alloc (.cells flZero 50)).setRow wr.heap.size (flArr x)) := below_setRow ((Below.refl _ _).alloc (Nat.le_refl _) _) (Nat.le_refl _) _
      have AX : Arr ((wr.alloc (.cells flZero 50)).setRow wr.heap.size (flArr x)) wr.heap.size 50 (flArr x) := (Arr.new _ _ _).row _
      go_upto_region 4 with (refine wpList_store_row rfl 50 _ _ rfl wr.heap.size (flArr x) rfl rfl 50 flZero (Arr.new wr _ _) (flInfo _) rfl (flArr_one _) ?_)
      refine wp_forget (fun V => Arr V w.heap.size 24 (dkArr L (some ad) c z) ∧ Below w.heap.size w V ∧ Arr V wr.heap.size 50 (flArr x)) (by exact ⟨A1.below bb A1.lt, bel.trans (bb.mono bel.size), AX⟩) ?_
      clear bb AX A1 bel g0 g1 g2
      generalize wr.heap.size = q
      rintro V ⟨A1, bel, AX⟩
      have c0 : V.cell? ⟨q, 0, none⟩ = some (.string x.name) := AX.cell 0
      cases hq : x.name.toList == n.toList
      · have hne := Lib.hid (HNk.out (fun e => by rw [e] at hq; simp at hq))
        clear HYk HNk
        go_wp2_with fail
        go_roundw
        case rel => exact ⟨k + 1, hlt, by rw [Int.natCast_add]; rfl, A1, bel, hne.out⟩
        case measure => simp [intOf]; omega
      · have hy := Lib.hid (HYk.out ((sameB_iff _ _).1 hq))
        clear HYk HNk
        go_wp2_with fail
        go_ret
        exact ⟨by rw [hy.out]; rfl, bel⟩
    · obtain rfl : k = L.length := by omega
      have hj : ¬ (L.length : Int) < L.length := by omega
      have hy := Lib.hid (HNo.out (fun k f hk => hno k f (List.getElem?_eq_some_iff.1 hk).1 hk))
      clear hno
      go_wp2_with fail
      go_ret
      exact ⟨by rw [hy.out]; rfl, bel⟩
set_option maxRecDepth 100000 in
set_option maxHeartbeats 1000000 in
theorem RefSameDisk_any (L M : List Fl) (A B : Option Addr) (c d : Nat) (z y : Int) (w : World) (hP : Fls w w.heap.size A L) (hQ : Fls w w.heap.size B M) (hl : L.length ≤ 140737488355328) (hm : M.length ≤ 140737488355328) :
    Calls Try.prog 17 #[.agg #[.slice A L.length c, .int .i64 z], .agg #[.slice B M.length d, .int .i64 y]] w fun e w' => e = .returned (.bool (decide ((⟨L, z⟩ : Dk) = ⟨M, y⟩))) ∧ Below w.heap.size w w' := by
  have h0 := Lib.hid (two_start w L M A B c d z y)
  have HD : Hid (∀ b : Bool, ((⟨L, z⟩ : Dk) = ⟨M, y⟩ ↔ b = true) → decide ((⟨L, z⟩ : Dk) = ⟨M, y⟩) = b) := fun b hb => by
    cases b with
    | true => exact decide_eq_true (hb.2 rfl)
    | false => exact decide_eq_false (fun e => by have := hb.1 e; cases this)
  have HI : Hid ((⟨L, z⟩ : Dk) = ⟨M, y⟩ ↔ L = M ∧ z = y) := by show _ ↔ _; simp
  generalize decide ((⟨L, z⟩ : Dk) = ⟨M, y⟩) = D at *
  go_enter Try.func17, Try.ntmps17
  go_upto_region 1 with fail
  refine wp_forget (fun V => Two w L M A B c d z y V) (by exact h0.out) ?_
  clear h0
  intro V T
  have c0 : V.cell? ⟨w.heap.size, 0, none⟩ = some (.slice A L.length c) := T.a.cell 0
  have c1 : V.cell? ⟨w.heap.size, 1, none⟩ = some (.int .i64 z) := T.a.cell 1
  have d0 : V.cell? ⟨w.heap.size + 1, 0, none⟩ = some (.slice B M.length d) := T.b.cell 0
  have d1 : V.cell? ⟨w.heap.size + 1, 1, none⟩ = some (.int .i64 y) := T.b.cell 1
  by_cases hlen : L.length = M.length
  case neg =>
    have hlb : ((L.length : Int) != M.length) = true := by rw [bne_iff_ne]; omega
    have HF : Hid (D = false) := HD.out false (by rw [HI.out]; exact ⟨fun ⟨e, _⟩ => absurd (by rw [e]) hlen, fun e => by cases e⟩)
    clear hlen HD HI
    go_wp2_with fail
    go_ret
    exact ⟨by rw [HF.out]; rfl, T.bel⟩
  have hlb : ((L.length : Int) != M.length) = false := by rw [hlen]; simp
  by_cases hzy : z = y
  case neg =>
    have hzb : (z != y) = true := by rw [bne_iff_ne]; exact hzy
    have HF : Hid (D = false) := HD.out false (by rw [HI.out]; exact ⟨fun ⟨_, e⟩ => absurd e hzy, fun e => by cases e⟩)
    clear hlen hzy HD HI
    go_wp2_with fail
    go_ret
    exact ⟨by rw [HF.out]; rfl, T.bel⟩
  have hzb : (z != y) = false := by rw [hzy]; simp
  have HR : Hid (SdRel w L M A B c d z y (.int .i64 0) V) := ⟨0, Nat.zero_le _, rfl, rfl, T⟩
  have HZ := Lib.hid hzy
  have HLn := Lib.hid hlen
  clear T hzy hlen
  go_wp2_with fail
  clear c0 c1 d0 d1 hlb hzb
  go_loopw [23] (fun i wr => SdRel w L M A B c d z y i wr) (fun i _ => M.length - (intOf i).toNat)
  case atStart => exact HR.out
  case round =>
    clear HR
    obtain ⟨k, hk, rfl, ht, T⟩ := hrel
    have hlen := HLn.out
    have c0 : wr.cell? ⟨w.heap.size, 0, none⟩ = some (.slice A L.length c) := T.a.cell 0
    have d0 : wr.cell? ⟨w.heap.size + 1, 0, none⟩ = some (.slice B M.length d) := T.b.cell 0
    have HT := Lib.hid ht
    clear ht
    by_cases hlt : k < M.length
    · have hlt2 : k < L.length := by omega
      have hj : (k : Int) < L.length := by omega
      have hj2 : (k : Int) < M.length := by omega
      obtain ⟨ad, rfl, hbl, h0, h1, h2⟩ := hP k L[k] (List.getElem?_eq_getElem hlt2)
      obtain ⟨ad2, rfl, hbl2, h0', h1', h2'⟩ := hQ k M[k] (List.getElem?_eq_getElem hlt)
      have g0 := (T.bel.cell hbl).trans h0
      have g1 := (T.bel.cell (p := ⟨(ad.add (k * 3)).block, (ad.add (k * 3)).off + 1, none⟩) hbl).trans h1
      have g2 := (T.bel.cell (p := ⟨(ad.add (k * 3)).block, (ad.add (k * 3)).off + 2, none⟩) hbl).trans h2
      have g3 := (T.bel.cell hbl2).trans h0'
      have g4 := (T.bel.cell (p := ⟨(ad2.add (k * 3)).block, (ad2.add (k * 3)).off + 1, none⟩) hbl2).trans h1'
      have g5 := (T.bel.cell (p := ⟨(ad2.add (k * 3)).block, (ad2.add (k * 3)).off + 2, none⟩) hbl2).trans h2'
      have HS := Lib.hid (fun e => take_same HT.out hlt2 hlt e)
      have HN : Hid (L[k] ≠ M[k] → D = false) := fun h => HD.out false (by rw [HI.out]; exact ⟨fun ⟨e, _⟩ => by subst e; exact absurd rfl h, fun e => by cases e⟩)
      clear h0 h1 h2 h0' h1' h2' HT hlen
      generalize L[k] = x at *
      generalize M[k] = x' at *
      obtain ⟨x1, x2, x3⟩ := x
      obtain ⟨y1, y2, y3⟩ := x'
      simp only at g0 g1 g2 g3 g4 g5
      have hne := neF_run x1 y1 x2 y2 x3 y3
      cases hq : neF ⟨x1, x2, x3⟩ ⟨y1, y2, y3⟩
      · have HS2 := Lib.hid (HS.out ((neF_iff _ _).1 hq))
        rw [hq] at hne
        clear HS HN hq
        go_wp2_with fail
        go_quiet (fail)
        go_wp2_with fail
        refine ⟨⟨k + 1, hlt, by go_num, HS2.out, T.drewN _⟩, by simp [intOf]; omega⟩
      · have HF := Lib.hid (HN.out (fun e => by have := (neF_iff _ _).2 e; rw [this] at hq; cases hq))
        rw [hq] at hne
        clear HS HN hq
        go_wp2_with fail
        go_quiet (fail)
        go_wp2_with fail
        go_ret
        exact ⟨by rw [HF.out]; rfl, below_drewN T.bel _⟩
    · obtain rfl : k = M.length := by omega
      have hj : ¬ (M.length : Int) < L.length := by omega
      have HF : Hid (D = true) := HD.out true (by
        rw [HI.out]
        refine ⟨fun _ => rfl, fun _ => ⟨?_, HZ.out⟩⟩
        have := HT.out
        rwa [List.take_length, List.take_of_length_le (by omega)] at this)
      clear HT hlen
      go_wp2_with fail
      go_ret
      exact ⟨by rw [HF.out]; rfl, T.bel⟩
set_option maxRecDepth 100000 in
set_option maxHeartbeats 1000000 in
theorem ReadFile_any (L : List Fl) (n : ByteArray) (A : Option Addr) (c : Nat) (z : Int) (w : World) (hP : Fls w w.heap.size A L) (hz : Sized L) (hl : L.length ≤ 140737488355328) :
    Calls Try.prog 22 #[.agg #[.slice A L.length c, .int .i64 z], .string n] w fun e w' => e = .returned (.tuple #[.string (readD ⟨L, z⟩ n).1, .int .i64 (readD ⟨L, z⟩ n).2]) ∧ Below w.heap.size w w' := by
  have A0 : Arr (w.alloc (.cells (dkArr L A c z) 24)) w.heap.size 24 (dkArr L A c z) := Arr.new _ _ _
  have b0 : Below w.heap.size w (w.alloc (.cells (dkArr L A c z) 24)) := (Below.refl _ _).alloc (Nat.le_refl _) _
  have HS : Hid (readD ⟨L, z⟩ n = if !goodD L then ((⟨#[]⟩, 3) : ByteArray × Int) else match getF n L with
    | none => (⟨#[]⟩, 7)
    | some f => (f.safe ++ f.tail, 0)) := rfl
  generalize readD ⟨L, z⟩ n = Q at *
  go_enter Try.func22, Try.ntmps22
  go_upto_region 1 with fail
  refine wp_forget (fun V => Arr V w.heap.size 24 (dkArr L A c z) ∧ Below w.heap.size w V) (by exact ⟨A0, b0⟩) ?_
  clear A0 b0
  rintro V ⟨A0, b0⟩
  have c0 : V.cell? ⟨w.heap.size, 0, none⟩ = some (.slice A L.length c) := A0.cell 0
  have c1 : V.cell? ⟨w.heap.size, 1, none⟩ = some (.int .i64 z) := A0.cell 1
  have CG : Hid (Calls Try.prog 19 #[.agg #[.slice A L.length c, .int .i64 z]] V fun e w' => e = .returned (.bool (goodD L)) ∧ Below V.heap.size V w') := GoodDisk_any L A c z V (hP.up b0) hz hl
  cases hg : goodD L with
  | false =>
    rw [hg] at CG
    have HQ : Hid (Q = (⟨#[]⟩, 3)) := by show _ = _; rw [HS.out, hg]; rfl
    clear HS hg
    go_wp2_with fail
    (with_reducible refine CG.out.mono ?_)
    clear CG c0 c1
    rintro _ V2 ⟨rfl, b2⟩
    go_wp2_with fail
    go_ret2
    exact ⟨by rw [HQ.out]; rfl, b0.trans (b2.mono b0.size)⟩
  | true =>
    rw [hg] at CG
    obtain ⟨h4, hr, hall⟩ := (goodD_iff L).1 hg
    go_wp2_with fail
    (with_reducible refine CG.out.mono ?_)
    clear CG c0 c1
    rintro _ V2 ⟨rfl, b2⟩
    replace A0 := A0.below b2 A0.lt
    replace b0 := b0.trans (b2.mono b0.size)
    clear b2
    have c0 : V2.cell? ⟨w.heap.size, 0, none⟩ = some (.slice A L.length c) := A0.cell 0
    have c1 : V2.cell? ⟨w.heap.size, 1, none⟩ = some (.int .i64 z) := A0.cell 1
    have CF := Lib.hid (at_any L n A c z V2 (hP.up b0) hl hr)
    unfold atP at CF
    cases hbn : hasN n L with
    | false =>
      rw [hbn, if_neg (by simp)] at CF
      have HQ : Hid (Q = (⟨#[]⟩, 7)) := by
        show _ = _
        rw [HS.out, hg]
        unfold hasN at hbn
        cases hgf : getF n L with
        | none => rfl
        | some f => rw [hgf] at hbn; cases hbn
      clear HS hg hbn
      go_wp2_with fail
      (with_reducible refine CF.out.mono ?_)
      clear CF c0 c1
      rintro _ V3 ⟨rfl, b4⟩
      go_wp2_with fail
      go_ret2
      exact ⟨by rw [HQ.out]; rfl, b0.trans (b4.mono b0.size)⟩
    | true =>
      rw [hbn, if_pos rfl] at CF
      obtain ⟨f, hgf, hx, hfn, hlt⟩ := has_some hr hbn
      clear hfn
      have HQ : Hid (Q = (f.safe ++ f.tail, 0)) := by show _ = _; rw [HS.out, hg, hgf]; rfl
      have hfit : f.safe.size + f.tail.size ≤ 1048576 := by
        have := (hall f (List.mem_of_getElem? hx)).2
        unfold fits at this
        exact of_decide_eq_true this
      have hli : (low n L : Int) < L.length := by omega
      have hl0 : ¬ (low n L : Int) < 0 := by omega
      generalize low n L = i at *
      clear HS hg hbn hgf hall hr
      go_wp2_with fail
      (with_reducible refine CF.out.mono ?_)
      clear CF c0 c1
      rintro _ V3 ⟨rfl, b4⟩
      replace A0 := A0.below b4 A0.lt
      replace b0 := b0.trans (b4.mono b0.size)
      obtain ⟨ad, rfl, hbk, d0, d1, d2⟩ := (hP.up b0) i f hx
      have c0 : V3.cell? ⟨w.heap.size, 0, none⟩ = some (.slice (some ad) L.length c) := A0.cell 0
      clear b4 hx
      go_wp2_with fail
      have hcc : ¬ 9223372036854775807 < f.safe.size + f.tail.size := by omega
      go_quiet (fail)
      go_wp2_with fail
      go_ret2
      exact ⟨by rw [HQ.out]; rfl, below_drewN b0 _⟩
end Go.Proofs.Ytnijnphalhfabaa

/- disk.Crash: its contract. -/
namespace Go.Proofs.Ytnijnphalhfabaa
open Go.RowKit

def zeroFl : Fl := ⟨⟨#[]⟩, ⟨#[]⟩, ⟨#[]⟩⟩
theorem cells_zero : ∀ n : Nat, flCells (List.replicate n zeroFl) = List.replicate (n * 3) (.string ⟨#[]⟩)
  | 0 => rfl
  | n + 1 => by
    rw [List.replicate_succ, flCells, cells_zero n, show (n + 1) * 3 = n * 3 + 1 + 1 + 1 from by omega]
    rfl
theorem made_zero (n : Nat) : (madeCells flZero (n * 3)).toList = flCells (List.replicate n zeroFl) := by
  rw [cells_zero]
  apply List.ext_getElem?
  intro j
  by_cases hj : j < n * 3
  · rw [List.getElem?_replicate, if_pos hj]
    have hm : j % 3 = 0 ∨ j % 3 = 1 ∨ j % 3 = 2 := by omega
    have e : flZero[j % flZero.size]! = .string ⟨#[]⟩ := by
      show flZero[j % 3]! = _
      rcases hm with m | m | m <;> rw [m] <;> rfl
    simp [madeCells, hj, e]
  · rw [List.getElem?_eq_none (by simp [madeCells]; omega), List.getElem?_eq_none (by simp; omega)]
/-- the first k files as a crash leaves them, the others not made yet -/
def mix (L : List Fl) (m k : Nat) : List Fl := (L.take k).map (crashF m) ++ List.replicate (L.length - k) zeroFl
theorem mix_len (L : List Fl) (m k : Nat) (h : k ≤ L.length) : (mix L m k).length = L.length := by
  unfold mix
  rw [List.length_append, List.length_map, List.length_take, List.length_replicate]
  omega
theorem mix_set {L : List Fl} {m k : Nat} {x : Fl} (h : L[k]? = some x) : (mix L m k).set k (crashF m x) = mix L m (k + 1) := by
  obtain ⟨hlt, he⟩ := List.getElem?_eq_some_iff.1 h
  unfold mix
  have hl : ((L.take k).map (crashF m)).length = k := by rw [List.length_map, List.length_take]; omega
  rw [List.set_append_right _ _ (by omega), hl, Nat.sub_self, List.take_succ_eq_append_getElem hlt, he, List.map_append, List.append_assoc, show L.length - k = (L.length - (k + 1)) + 1 from by omega, List.replicate_succ, List.set_cons_zero]
  rfl
def CrRel (L : List Fl) (m : Nat) (A : Option Addr) (c : Nat) (z : Int) (w : World) (g : Nat) (i : Value) (wr : World) : Prop :=
  ∃ k : Nat, k ≤ L.length ∧ i = .int .i64 (k : Int) ∧ Arr wr w.heap.size 24 (dkArr L A c z) ∧ Arr wr (w.heap.size + 1) 24 dkZero ∧ Arr wr g 50 (flCells (mix L m k)).toArray ∧ Below w.heap.size w wr
set_option maxRecDepth 100000 in
set_option maxHeartbeats 2000000 in
theorem Crash_any (L : List Fl) (keep : Int) (hk2 : keep ≤ 9223372036854775807) (A : Option Addr) (c : Nat) (z : Int) (w : World) (hP : Fls w w.heap.size A L) (hz : Sized L) (hl : L.length ≤ 140737488355328) (hc : L.length ≤ c) :
    Calls Try.prog 23 #[.agg #[.slice A L.length c, .int .i64 z], .int .i64 keep] w (StEnd w (crashD ⟨L, z⟩ keep)) := by
  obtain ⟨si, hsi, sz0, sz1, sz2⟩ := info_parts info_file
  have Hsi := Lib.hid hsi
  have Sz0 := Lib.hid sz0
  have Sz1 := Lib.hid sz1
  have Sz2 := Lib.hid sz2
  clear hsi sz0 sz1 sz2
  have A0 : Arr ((w.alloc (.cells (dkArr L A c z) 24)).alloc (.cells dkZero 24)) w.heap.size 24 (dkArr L A c z) := (Arr.new _ _ _).alloc _
  have A1 : Arr ((w.alloc (.cells (dkArr L A c z) 24)).alloc (.cells dkZero 24)) (w.heap.size + 1) 24 dkZero := Arr.new_at _ _ _ (by simp)
  have b0 : Below w.heap.size w ((w.alloc (.cells (dkArr L A c z) 24)).alloc (.cells dkZero 24)) := ((Below.refl _ _).alloc (Nat.le_refl _) _).alloc (by simp) _
  have HS : Hid (crashD ⟨L, z⟩ keep = if !goodD L || decide (keep < 0) then (⟨L, z⟩, 3) else (⟨L.map (crashF keep.toNat), -1⟩, 0)) := rfl
  generalize crashD ⟨L, z⟩ keep = Q at *
  go_enter Try.func23, Try.ntmps23
  go_upto_region 1 with fail
  refine wp_forget (fun V => Arr V w.heap.size 24 (dkArr L A c z) ∧ Arr V (w.heap.size + 1) 24 dkZero ∧ Below w.heap.size w V) (by exact ⟨A0, A1, b0⟩) ?_
  clear A0 A1 b0
  rintro V ⟨A0, A1, b0⟩
  have c0 : V.cell? ⟨w.heap.size, 0, none⟩ = some (.slice A L.length c) := A0.cell 0
  have c1 : V.cell? ⟨w.heap.size, 1, none⟩ = some (.int .i64 z) := A0.cell 1
  have CG : Hid (Calls Try.prog 18 #[.agg #[.slice A L.length c, .int .i64 z]] V fun e w' => e = .returned (.bool (goodD L)) ∧ Below V.heap.size V w') := DkGood_any L A c z V (hP.up b0) hz hl
  have HRet : Hid (∀ (W : World) (a : Act) (d : Dk) (A' : Option Addr) (c' : Nat) (e : Int), Arr W (w.heap.size + 1) 24 (dkArr d.files A' c' d.fuse) → Below w.heap.size w W → Fls W W.heap.size A' d.files → d.files.length ≤ c' → a.tmps[4]? = some (.pointer (some ⟨w.heap.size + 1, 0, none⟩)) → a.tmps[5]? = some (.int .i64 e) → a.defers = [] → bodyPost Try.prog Try.f23 (StEnd w (d, e)) .ret a W) := fun W a d A' c' e h1 h2 h3 h4 h5 h6 h7 => by
    refine bodyPost_ret (v := .tuple #[.agg (dkArr d.files A' c' d.fuse), .int .i64 e]) ?_ h7 ⟨A', c', rfl, h3, h4, h2⟩
    rw [results_cell_tmp Try.results23]
    have hld := run_loadVar_row (P := Try.prog) _ _ _ 24 _ _ _ h1 Try.underlying24 rfl (dkInfo _ _ _ _)
    simp [Array.getD_eq_getD_getElem?, h5, h6, asAddr, hld, Result.andThen]
  cases hg : goodD L with
  | false =>
    rw [hg] at CG
    have HQ : Hid (Q = (⟨L, z⟩, 3)) := by show _ = _; rw [HS.out, hg]; rfl
    clear HS hg
    go_wp2_with fail
    (with_reducible refine CG.out.mono ?_)
    clear CG c0 c1
    rintro _ V2 ⟨rfl, b2⟩
    have A2 := A0.below b2 A0.lt
    have A3 := A1.below b2 A1.lt
    have b3 := b0.trans (b2.mono b0.size)
    have c0 : V2.cell? ⟨w.heap.size, 0, none⟩ = some (.slice A L.length c) := A2.cell 0
    have c1 : V2.cell? ⟨w.heap.size, 1, none⟩ = some (.int .i64 z) := A2.cell 1
    go_wp2_with (refine wpList_store_row rfl 24 _ _ rfl (w.heap.size + 1) (dkArr L A c z) rfl rfl 24 dkZero A3 (dkInfo _ _ _ _) rfl (dkArr_one _ _ _ _) ?_)
    rw [HQ.out]
    have b4 := below_setRow b3 (show w.heap.size ≤ w.heap.size + 1 by omega) (dkArr L A c z)
    exact HRet.out _ _ ⟨L, z⟩ A c 3 (A3.row _) b4 (hP.up b4) hc rfl rfl rfl
  | true =>
    rw [hg] at CG
    by_cases h0 : keep < 0
    · have HQ : Hid (Q = (⟨L, z⟩, 3)) := by show _ = _; rw [HS.out, hg, decide_eq_true h0]; rfl
      clear HS hg
      go_wp2_with fail
      (with_reducible refine CG.out.mono ?_)
      clear CG c0 c1
      rintro _ V2 ⟨rfl, b2⟩
      have A2 := A0.below b2 A0.lt
      have A3 := A1.below b2 A1.lt
      have b3 := b0.trans (b2.mono b0.size)
      have c0 : V2.cell? ⟨w.heap.size, 0, none⟩ = some (.slice A L.length c) := A2.cell 0
      have c1 : V2.cell? ⟨w.heap.size, 1, none⟩ = some (.int .i64 z) := A2.cell 1
      go_wp2_with (refine wpList_store_row rfl 24 _ _ rfl (w.heap.size + 1) (dkArr L A c z) rfl rfl 24 dkZero A3 (dkInfo _ _ _ _) rfl (dkArr_one _ _ _ _) ?_)
      rw [HQ.out]
      have b4 := below_setRow b3 (show w.heap.size ≤ w.heap.size + 1 by omega) (dkArr L A c z)
      exact HRet.out _ _ ⟨L, z⟩ A c 3 (A3.row _) b4 (hP.up b4) hc rfl rfl rfl
    have HQ : Hid (Q = (⟨L.map (crashF keep.toNat), -1⟩, 0)) := by show _ = _; rw [HS.out, hg, decide_eq_false h0]; rfl
    obtain ⟨h4, _, hall⟩ := (goodD_iff L).1 hg
    have HAll : Hid (∀ f ∈ L, f.safe.size + f.tail.size ≤ 1048576) := fun f hf => by
      have := (hall f hf).2
      unfold fits at this
      exact of_decide_eq_true this
    obtain ⟨m, hm⟩ := Int.eq_ofNat_of_zero_le (show 0 ≤ keep by omega)
    subst hm
    rw [Int.toNat_natCast] at HQ
    clear HS hg h0 hall
    have h0 : ¬ (m : Int) < 0 := by omega
    go_wp2_with fail
    (with_reducible refine CG.out.mono ?_)
    clear CG c0 c1
    rintro _ V2 ⟨rfl, b2⟩
    have A2 := A0.below b2 A0.lt
    have A3 := A1.below b2 A1.lt
    have b3 := b0.trans (b2.mono b0.size)
    clear A0 A1 b0 b2
    have c0 : V2.cell? ⟨w.heap.size, 0, none⟩ = some (.slice A L.length c) := A2.cell 0
    have c1 : V2.cell? ⟨w.heap.size, 1, none⟩ = some (.int .i64 z) := A2.cell 1
    go_upto_region 4 with (at_make; refine wpList_make_full _ rfl _ _ 22 rfl V2.heap.size 50 si _ 3 Try.underlying22 Hsi.out Sz0.out Sz1.out _ _ _ _ L.length rfl rfl rfl rfl (by rw [Sz2.out]; omega) (by unfold maxLen; omega) (Nat.le_refl _) ?_)
    intro w1 hown hgrow
    have hb1 : Below V2.heap.size V2 w1 := (Below.refl _ _).grown hgrow (Nat.le_refl _) (by intro k hk; cases hk)
    have hA : Arr w1 V2.heap.size 50 (flCells (mix L m 0)).toArray := by
      rcases hown.2 with ⟨h', _⟩ | ⟨g', cap', cur, h', hb, hg, hnc, hcm, hcs, htake⟩
      · simp at h'
      · simp only [Value.slice.injEq, Option.some.injEq, Addr.mk.injEq, and_true, true_and] at h'
        obtain ⟨rfl, rfl⟩ := h'
        have e : cur = (flCells (mix L m 0)).toArray := by
          apply Array.ext'
          rw [List.take_of_length_le (by simp [hcs])] at htake
          rw [htake]
          have : mix L m 0 = List.replicate L.length zeroFl := by simp [mix]
          rw [this, List.toList_toArray, ← made_zero]
          rfl
        rw [← e]
        exact hg
    have A4 := A2.below hb1 A2.lt
    have A5 := A3.below hb1 A3.lt
    have b5 := b3.trans (hb1.mono b3.size)
    have hgq : w.heap.size + 1 < V2.heap.size := A3.lt
    have h1 : Hid (CrRel L m A c z w V2.heap.size (.int .i64 0) w1) := ⟨0, Nat.zero_le _, rfl, A4, A5, hA, b5⟩
    have d0 : w1.cell? ⟨w.heap.size, 0, none⟩ = some (.slice A L.length c) := A4.cell 0
    have hbg := b3.size
    clear hown hgrow hb1 hA A4 A5 A2 A3 c0 c1 b3 b5
    generalize V2.heap.size = g at *
    go_wp2_with fail
    go_loopw [25] (fun i wr => CrRel L m A c z w g i wr) (fun i _ => L.length - (intOf i).toNat)
    case atStart => exact h1.out
    case round =>
      clear h1 d0
      clear w1
      obtain ⟨k, hk, rfl, A4, A5, G, bel⟩ := hrel
      by_cases hlt : k < L.length
      · have hj : (k : Int) < L.length := by omega
        have hx : L[k]? = some L[k] := List.getElem?_eq_getElem hlt
        obtain ⟨ad, rfl, hbl, h0', h1, h2⟩ := hP k L[k] hx
        have g0 := (bel.cell hbl).trans h0'
        have g1 := (bel.cell (p := ⟨(ad.add (k * 3)).block, (ad.add (k * 3)).off + 1, none⟩) hbl).trans h1
        have g2 := (bel.cell (p := ⟨(ad.add (k * 3)).block, (ad.add (k * 3)).off + 2, none⟩) hbl).trans h2
        have hs := HAll.out L[k] (List.getElem_mem hlt)
        have HX := Lib.hid hx
        have hml := mix_len L m k hk
        clear h0' h1 h2 hx
        have HSet := Lib.hid (mix_set (m := m) HX.out)
        have HT := Lib.hid (take_set3 (f' := crashF m L[k]) (C := flCells (mix L m k)) (L := mix L m k) (i := k) (cap := L.length) (List.take_of_length_le (by rw [flCells_len]; exact Nat.le_refl _)) (by rw [flCells_len, hml]) (by rw [hml]; exact Nat.le_refl _) (by rw [hml]; exact hlt))
        generalize L[k] = x at *
        have bb : Below wr.heap.size wr ((wr.alloc (.cells flZero 50)).setRow wr.heap.size (flArr x)) := below_setRow ((Below.refl _ _).alloc (Nat.le_refl _) _) (Nat.le_refl _) _
        have AX : Arr ((wr.alloc (.cells flZero 50)).setRow wr.heap.size (flArr x)) wr.heap.size 50 (flArr x) := (Arr.new _ _ _).row _
        have hgl := G.lt
        go_upto_region 7 with (refine wpList_store_row rfl 50 _ _ rfl wr.heap.size (flArr x) rfl rfl 50 flZero (Arr.new wr _ _) (flInfo _) rfl (flArr_one _) ?_)
        refine wp_forget (fun W => Arr W w.heap.size 24 (dkArr L (some ad) c z) ∧ Arr W (w.heap.size + 1) 24 dkZero ∧ Arr W g 50 (flCells (mix L m k)).toArray ∧ Arr W wr.heap.size 50 (flArr x) ∧ Below w.heap.size w W) (by exact ⟨A4.below bb A4.lt, A5.below bb A5.lt, G.below bb G.lt, AX, bel.trans (bb.mono bel.size)⟩) ?_
        clear bb AX A4 A5 G bel g0 g1 g2
        generalize wr.heap.size = q at *
        rintro W ⟨A4, A5, G, AX, bel⟩
        have e0 : W.cell? ⟨q, 0, none⟩ = some (.string x.name) := AX.cell 0
        have e1 : W.cell? ⟨q, 1, none⟩ = some (.string x.safe) := AX.cell 1
        have e2 : W.cell? ⟨q, 2, none⟩ = some (.string x.tail) := AX.cell 2
        have hcl : (flCells (mix L m k)).length = L.length * 3 := by rw [flCells_len, hml]
        have hat : ∀ j, j < L.length * 3 → ∃ u, W.cell? ⟨g, j, none⟩ = some u := fun j hj => ⟨_, by rw [G.cell, List.getElem?_toArray]; exact List.getElem?_eq_getElem (by omega)⟩
        obtain ⟨t, ht⟩ : ∃ t, t = x.tail.extract 0 (min m x.tail.size) := ⟨_, rfl⟩
        have hcf : crashF m x = ⟨x.name, x.safe ++ t, ⟨#[]⟩⟩ := by rw [ht]; rfl
        rw [hcf] at HSet HT
        have hts : t.size ≤ 1048576 := by rw [ht, ByteArray.size_extract]; omega
        obtain ⟨u0, d0⟩ := hat (k * 3) (by omega)
        have f0 := G.free (k * 3)
        have G3 := G.put (k * 3) (.string x.name)
        rw [List.setIfInBounds_toArray] at G3
        have hat1 : ∃ u, (W.setCell ⟨g, k * 3, none⟩ (.string x.name)).cell? ⟨g, k * 3 + 1, none⟩ = some u := ⟨_, by rw [G3.cell, List.getElem?_toArray]; exact List.getElem?_eq_getElem (by rw [List.length_set]; omega)⟩
        obtain ⟨u1, d1⟩ := hat1
        have f1 := G3.free (k * 3 + 1)
        have G4 := G3.put (k * 3 + 1) (.string (x.safe ++ t))
        rw [List.setIfInBounds_toArray] at G4
        have hat2 : ∃ u, ((W.setCell ⟨g, k * 3, none⟩ (.string x.name)).setCell ⟨g, k * 3 + 1, none⟩ (.string (x.safe ++ t))).cell? ⟨g, k * 3 + 2, none⟩ = some u := ⟨_, by rw [G4.cell, List.getElem?_toArray]; exact List.getElem?_eq_getElem (by rw [List.length_set, List.length_set]; omega)⟩
        obtain ⟨u2, d2⟩ := hat2
        have f2 := G4.free (k * 3 + 2)
        have G5 := G4.put (k * 3 + 2) (.string ⟨#[]⟩)
        rw [List.setIfInBounds_toArray] at G5
        have hG5 := HT.out
        rw [List.take_of_length_le (by rw [List.length_set, List.length_set, List.length_set, flCells_len]; exact Nat.le_refl _), HSet.out] at hG5
        rw [hG5] at G5
        have k1 : W.grownBy (((W.setCell ⟨g, k * 3, none⟩ (.string x.name)).setCell ⟨g, k * 3 + 1, none⟩ (.string (x.safe ++ t))).setCell ⟨g, k * 3 + 2, none⟩ (.string ⟨#[]⟩)) (some g) := gb_trans (gb_trans (gb_set _ _ _) (gb_set _ _ _)) (gb_set _ _ _)
        have bel3 := below_gb bel k1 hbg bel.size
        have A6 := A4.kept k1 (fun e => by have := Option.some.inj e; omega)
        have A7 := A5.kept k1 (fun e => by have := Option.some.inj e; omega)
        clear G G3 G4 k1 hat hG5 HT HSet hcf A4 A5 AX bel hml hcl
        by_cases hmt : m ≤ x.tail.size
        · have i1 : (m : Int) ≤ x.tail.size := by omega
          rw [Nat.min_eq_left hmt] at ht
          subst ht
          go_wp2_with fail
          go_roundw
          case rel => exact ⟨k + 1, hlt, by rw [Int.natCast_add]; rfl, A6, A7, G5, bel3⟩
          case measure => simp [intOf]; omega
        · have i1 : ¬ (m : Int) ≤ x.tail.size := by omega
          rw [Nat.min_eq_right (by omega)] at ht
          have ht2 : t = x.tail := by
            rw [ht]
            apply bytes_eq
            rw [extract_drop, List.drop_zero, Nat.sub_zero]
            exact List.take_length
          subst ht2
          clear ht
          go_wp2_with fail
          go_roundw
          case rel => exact ⟨k + 1, hlt, by rw [Int.natCast_add]; rfl, A6, A7, G5, bel3⟩
          case measure => simp [intOf]; omega
      · obtain rfl : k = L.length := by omega
        have hj : ¬ (L.length : Int) < L.length := by omega
        have hmx : mix L m L.length = L.map (crashF m) := by unfold mix; rw [List.take_length, Nat.sub_self]; simp
        rw [hmx] at G
        have hF : Fls wr wr.heap.size (some ⟨g, 0, none⟩) (L.map (crashF m)) := by
          have ho : wr.ownsRow 0 50 3 (.slice (some ⟨g, 0, none⟩) (L.map (crashF m)).length L.length) (L.map (crashF m)).length (flCells (L.map (crashF m))) := ⟨by rw [flCells_len], .inr ⟨g, L.length, _, rfl, Nat.zero_le _, G, by rw [List.length_map]; exact Nat.le_refl _, by unfold maxLen; omega, by rw [List.size_toArray, flCells_len, List.length_map], by rw [List.toList_toArray]; exact List.take_of_length_le (by rw [flCells_len]; exact Nat.le_refl _)⟩⟩
          obtain ⟨A', c', e, _, h⟩ := own_files ho
          simp only [Value.slice.injEq] at e
          rw [e.1]
          exact h
        have d0 : wr.cell? ⟨w.heap.size, 0, none⟩ = some (.slice A L.length c) := A4.cell 0
        go_wp2_with (refine wpList_store_row rfl 24 _ _ rfl (w.heap.size + 1) (dkArr (L.map (crashF m)) (some ⟨g, 0, none⟩) L.length (-1)) rfl (by simp [dkArr]; rfl) 24 dkZero A5 (dkInfo _ _ _ _) rfl (dkArr_one _ _ _ _) ?_)
        rw [HQ.out]
        have b4 := below_setRow bel (show w.heap.size ≤ w.heap.size + 1 by omega) (dkArr (L.map (crashF m)) (some ⟨g, 0, none⟩) L.length (-1))
        exact HRet.out _ _ ⟨L.map (crashF m), -1⟩ (some ⟨g, 0, none⟩) L.length 0 (A5.row _) b4 (hF.row A5 _) (by rw [List.length_map]; exact Nat.le_refl _) rfl rfl rfl
end Go.Proofs.Ytnijnphalhfabaa

/- ref.CopyDisk, ref.Crash: their contracts. -/
namespace Go.Proofs.Ytnijnphalhfabaa
open Go.RowKit

/-- a disk laid into its place -/
theorem laid_disk {w W : World} {q : Nat} {L : List Fl} {A : Option Addr} {c : Nat} (y : Int) (hF : Fls W W.heap.size A L) (hA : Arr W q 24 dkZero) (hb : Below w.heap.size w W) (hq : w.heap.size ≤ q) :
    Arr ((W.setCell ⟨q, 0, none⟩ (.slice A L.length c)).setCell ⟨q, 1, none⟩ (.int .i64 y)) q 24 (dkArr L A c y) ∧ Fls ((W.setCell ⟨q, 0, none⟩ (.slice A L.length c)).setCell ⟨q, 1, none⟩ (.int .i64 y)) ((W.setCell ⟨q, 0, none⟩ (.slice A L.length c)).setCell ⟨q, 1, none⟩ (.int .i64 y)).heap.size A L ∧ Below w.heap.size w ((W.setCell ⟨q, 0, none⟩ (.slice A L.length c)).setCell ⟨q, 1, none⟩ (.int .i64 y)) := by
  have k : W.grownBy ((W.setCell ⟨q, 0, none⟩ (.slice A L.length c)).setCell ⟨q, 1, none⟩ (.int .i64 y)) (some q) := gb_trans (gb_set _ _ _) (gb_set _ _ _)
  refine ⟨(hA.put 0 (.slice A L.length c)).put 1 (.int .i64 y), fun k' x hx => ?_, below_gb hb k hq hb.size⟩
  obtain ⟨ad, e, hbk, h0, h1, h2⟩ := hF k' x hx
  have hn : ¬ some (ad.add (k' * 3)).block = some q := fun e2 => by
    rw [Option.some.inj e2, hA.cell] at h1
    exact dkZero_no _ _ h1
  exact ⟨ad, e, Nat.lt_of_lt_of_le hbk k.size, k.cell h0 hn, k.cell h1 hn, k.cell h2 hn⟩
/-- behind CopyDisk -/
def CyEnd (w : World) (L : List Fl) (z : Int) (x : Ending) (w' : World) : Prop := ∃ A c, x = .returned (.agg (dkArr L A c z)) ∧ Fls w' w'.heap.size A L ∧ L.length ≤ c ∧ Below w.heap.size w w'
set_option maxRecDepth 100000 in
set_option maxHeartbeats 1000000 in
theorem CopyDisk_any (L : List Fl) (A : Option Addr) (c : Nat) (z : Int) (w : World) (hP : Fls w w.heap.size A L) (hl : L.length * 48 ≤ 140737488355328) :
    Calls Try.prog 11 #[.agg #[.slice A L.length c, .int .i64 z]] w (CyEnd w L z) := by
  obtain ⟨si, hsi, sz0, sz1, sz2⟩ := info_parts info_file
  have Hsi := Lib.hid hsi
  have Sz0 := Lib.hid sz0
  have Sz1 := Lib.hid sz1
  have Sz2 := Lib.hid sz2
  clear hsi sz0 sz1 sz2
  have A0 : Arr ((w.alloc (.cells (dkArr L A c z) 24)).alloc (.cells dkZero 24)) w.heap.size 24 (dkArr L A c z) := (Arr.new _ _ _).alloc _
  have A1 : Arr ((w.alloc (.cells (dkArr L A c z) 24)).alloc (.cells dkZero 24)) (w.heap.size + 1) 24 dkZero := Arr.new_at _ _ _ (by simp)
  have b0 : Below w.heap.size w ((w.alloc (.cells (dkArr L A c z) 24)).alloc (.cells dkZero 24)) := ((Below.refl _ _).alloc (Nat.le_refl _) _).alloc (by simp) _
  go_enter Try.func11, Try.ntmps11
  go_upto_region 1 with fail
  refine wp_forget (fun V => Arr V w.heap.size 24 (dkArr L A c z) ∧ Arr V (w.heap.size + 1) 24 dkZero ∧ Below w.heap.size w V) (by exact ⟨A0, A1, b0⟩) ?_
  clear A0 A1 b0
  rintro V ⟨A0, A1, b0⟩
  have c0 : V.drew.cell? ⟨w.heap.size, 0, none⟩ = some (.slice A L.length c) := A0.cell 0
  have c1 : V.drew.cell? ⟨w.heap.size, 1, none⟩ = some (.int .i64 z) := A0.cell 1
  have HN : Hid (News V.drew A L.length (flCells L)) := (hP.up b0.drew).news
  have hml : L.length ≤ 140737488355328 := by omega
  go_region_law (first
    | (refine step_app _ rfl _ _ 22 rfl V.heap.size 50 si _ 3 48 Try.underlying22 Hsi.out Sz0.out Sz1.out Sz2.out rfl (by decide) _ _ _ rfl (own_nil _ _ _ _) A L.length c (flCells L) rfl (flCells_len L) HN.out (flCells_one L) (by unfold maxLen; omega) (by omega) (Nat.le_refl _) ?_
       intro v1 w1 hown1 hg1
       rw [Nat.zero_add, List.nil_append] at hown1
       have k1 : Below V.heap.size V w1 := ((Below.refl _ V).drew).grown hg1 (Nat.le_refl _) (by intro k hk; cases hk)
       obtain ⟨A9, c9, rfl, hc9, hF9⟩ := own_files hown1
       have e1 : w1.cell? ⟨w.heap.size, 1, none⟩ = some (.int .i64 z) := (A0.below k1 A0.lt).cell 1
       have B1 := A1.below k1 A1.lt
       have x0 : w1.cell? ⟨w.heap.size + 1, 0, none⟩ = some (.slice none 0 0) := B1.cell 0
       have x1 := B1.free 0
       have B2 := B1.put 0 (.slice A9 L.length c9)
       have x2 : (w1.setCell ⟨w.heap.size + 1, 0, none⟩ (.slice A9 L.length c9)).cell? ⟨w.heap.size + 1, 1, none⟩ = some (.int .i64 0) := B2.cell 1
       have x3 := B2.free 1
       have HF := Lib.hid (laid_disk (c := c9) z hF9 B1 (b0.trans (k1.mono b0.size)) (by omega))))
  all_goals
    go_wp2_with fail
    obtain ⟨B3, F3, b3⟩ := HF.out
    refine bodyPost_ret (v := .agg (dkArr L A9 c9 z)) ?_ rfl ⟨A9, c9, rfl, F3, hc9, b3⟩
    exact results_cell_row Try.results11 _ _ (w.heap.size + 1) 24 _ (0, 0) _ rfl B3 Try.underlying24 rfl (dkInfo _ _ _ _)
theorem own_slice {w : World} {base : Nat} {v : Value} {n : Nat} {cs : List Value} (h : w.ownsRow base 50 3 v n cs) : ∃ A c, v = .slice A n c := by
  rcases h.2 with ⟨rfl, hn⟩ | ⟨g, cap, cur, rfl, hb, hg, hnc, hcm, hcs, htake⟩
  · exact ⟨none, 0, by rw [hn]⟩
  · exact ⟨some ⟨g, 0, none⟩, cap, rfl⟩
/-- where ref.Crash stands -/
def RcRel (L : List Fl) (m : Nat) (A : Option Addr) (c : Nat) (z : Int) (w : World) (q : Nat) (i : Value) (wr : World) : Prop :=
  ∃ (k : Nat) (v : Value), k ≤ L.length ∧ i = .int .i64 (k : Int) ∧ Arr wr w.heap.size 24 (dkArr L A c z) ∧ Arr wr (w.heap.size + 1) 24 dkZero ∧ Arr wr q 24 #[v, .int .i64 (-1)] ∧
    wr.ownsRow (q + 1) 50 3 v ((L.take k).map (crashF m)).length (flCells ((L.take k).map (crashF m))) ∧ Below w.heap.size w wr
set_option maxRecDepth 100000 in
set_option maxHeartbeats 2000000 in
theorem RefCrash_any (L : List Fl) (keep : Int) (hk2 : keep ≤ 9223372036854775807) (A : Option Addr) (c : Nat) (z : Int) (w : World) (hP : Fls w w.heap.size A L) (hz : Sized L) (hl : L.length ≤ 140737488355328) (hc : L.length ≤ c) :
    Calls Try.prog 24 #[.agg #[.slice A L.length c, .int .i64 z], .int .i64 keep] w (StEnd w (crashD ⟨L, z⟩ keep)) := by
  obtain ⟨si, hsi, sz0, sz1, sz2⟩ := info_parts info_file
  have Hsi := Lib.hid hsi
  have Sz0 := Lib.hid sz0
  have Sz1 := Lib.hid sz1
  have Sz2 := Lib.hid sz2
  clear hsi sz0 sz1 sz2
  have A0 : Arr ((w.alloc (.cells (dkArr L A c z) 24)).alloc (.cells dkZero 24)) w.heap.size 24 (dkArr L A c z) := (Arr.new _ _ _).alloc _
  have A1 : Arr ((w.alloc (.cells (dkArr L A c z) 24)).alloc (.cells dkZero 24)) (w.heap.size + 1) 24 dkZero := Arr.new_at _ _ _ (by simp)
  have b0 : Below w.heap.size w ((w.alloc (.cells (dkArr L A c z) 24)).alloc (.cells dkZero 24)) := ((Below.refl _ _).alloc (Nat.le_refl _) _).alloc (by simp) _
  have HS : Hid (crashD ⟨L, z⟩ keep = if !goodD L || decide (keep < 0) then (⟨L, z⟩, 3) else (⟨L.map (crashF keep.toNat), -1⟩, 0)) := rfl
  generalize crashD ⟨L, z⟩ keep = Q at *
  go_enter Try.func24, Try.ntmps24
  go_upto_region 1 with fail
  refine wp_forget (fun V => Arr V w.heap.size 24 (dkArr L A c z) ∧ Arr V (w.heap.size + 1) 24 dkZero ∧ Below w.heap.size w V) (by exact ⟨A0, A1, b0⟩) ?_
  clear A0 A1 b0
  rintro V ⟨A0, A1, b0⟩
  have c0 : V.cell? ⟨w.heap.size, 0, none⟩ = some (.slice A L.length c) := A0.cell 0
  have c1 : V.cell? ⟨w.heap.size, 1, none⟩ = some (.int .i64 z) := A0.cell 1
  have CG : Hid (Calls Try.prog 19 #[.agg #[.slice A L.length c, .int .i64 z]] V fun e w' => e = .returned (.bool (goodD L)) ∧ Below V.heap.size V w') := GoodDisk_any L A c z V (hP.up b0) hz hl
  have HRet : Hid (∀ (W : World) (a : Act) (d : Dk) (A' : Option Addr) (c' : Nat) (e : Int), Arr W (w.heap.size + 1) 24 (dkArr d.files A' c' d.fuse) → Below w.heap.size w W → Fls W W.heap.size A' d.files → d.files.length ≤ c' → a.tmps[4]? = some (.pointer (some ⟨w.heap.size + 1, 0, none⟩)) → a.tmps[5]? = some (.int .i64 e) → a.defers = [] → bodyPost Try.prog Try.f24 (StEnd w (d, e)) .ret a W) := fun W a d A' c' e h1 h2 h3 h4 h5 h6 h7 => by
    refine bodyPost_ret (v := .tuple #[.agg (dkArr d.files A' c' d.fuse), .int .i64 e]) ?_ h7 ⟨A', c', rfl, h3, h4, h2⟩
    rw [results_cell_tmp Try.results24]
    have hld := run_loadVar_row (P := Try.prog) _ _ _ 24 _ _ _ h1 Try.underlying24 rfl (dkInfo _ _ _ _)
    simp [Array.getD_eq_getD_getElem?, h5, h6, asAddr, hld, Result.andThen]
  cases hg : goodD L with
  | false =>
    rw [hg] at CG
    have HQ : Hid (Q = (⟨L, z⟩, 3)) := by show _ = _; rw [HS.out, hg]; rfl
    clear HS hg
    go_wp2_with fail
    (with_reducible refine CG.out.mono ?_)
    clear CG c0 c1
    rintro _ V2 ⟨rfl, b2⟩
    have A2 := A0.below b2 A0.lt
    have A3 := A1.below b2 A1.lt
    have b3 := b0.trans (b2.mono b0.size)
    have c0 : V2.cell? ⟨w.heap.size, 0, none⟩ = some (.slice A L.length c) := A2.cell 0
    have c1 : V2.cell? ⟨w.heap.size, 1, none⟩ = some (.int .i64 z) := A2.cell 1
    go_wp2_with (refine wpList_store_row rfl 24 _ _ rfl (w.heap.size + 1) (dkArr L A c z) rfl rfl 24 dkZero A3 (dkInfo _ _ _ _) rfl (dkArr_one _ _ _ _) ?_)
    rw [HQ.out]
    have b4 := below_setRow b3 (show w.heap.size ≤ w.heap.size + 1 by omega) (dkArr L A c z)
    exact HRet.out _ _ ⟨L, z⟩ A c 3 (A3.row _) b4 (hP.up b4) hc rfl rfl rfl
  | true =>
    rw [hg] at CG
    by_cases h0 : keep < 0
    · have HQ : Hid (Q = (⟨L, z⟩, 3)) := by show _ = _; rw [HS.out, hg, decide_eq_true h0]; rfl
      clear HS hg
      go_wp2_with fail
      (with_reducible refine CG.out.mono ?_)
      clear CG c0 c1
      rintro _ V2 ⟨rfl, b2⟩
      have A2 := A0.below b2 A0.lt
      have A3 := A1.below b2 A1.lt
      have b3 := b0.trans (b2.mono b0.size)
      have c0 : V2.cell? ⟨w.heap.size, 0, none⟩ = some (.slice A L.length c) := A2.cell 0
      have c1 : V2.cell? ⟨w.heap.size, 1, none⟩ = some (.int .i64 z) := A2.cell 1
      go_wp2_with (refine wpList_store_row rfl 24 _ _ rfl (w.heap.size + 1) (dkArr L A c z) rfl rfl 24 dkZero A3 (dkInfo _ _ _ _) rfl (dkArr_one _ _ _ _) ?_)
      rw [HQ.out]
      have b4 := below_setRow b3 (show w.heap.size ≤ w.heap.size + 1 by omega) (dkArr L A c z)
      exact HRet.out _ _ ⟨L, z⟩ A c 3 (A3.row _) b4 (hP.up b4) hc rfl rfl rfl
    have HQ : Hid (Q = (⟨L.map (crashF keep.toNat), -1⟩, 0)) := by show _ = _; rw [HS.out, hg, decide_eq_false h0]; rfl
    obtain ⟨h4, _, hall⟩ := (goodD_iff L).1 hg
    have HAll : Hid (∀ f ∈ L, f.safe.size + f.tail.size ≤ 1048576) := fun f hf => by
      have := (hall f hf).2
      unfold fits at this
      exact of_decide_eq_true this
    obtain ⟨m, hm⟩ := Int.eq_ofNat_of_zero_le (show 0 ≤ keep by omega)
    subst hm
    rw [Int.toNat_natCast] at HQ
    clear HS hg h0 hall
    have h0 : ¬ (m : Int) < 0 := by omega
    go_wp2_with fail
    (with_reducible refine CG.out.mono ?_)
    clear CG c0 c1
    rintro _ V2 ⟨rfl, b2⟩
    have A2 := A0.below b2 A0.lt
    have A3 := A1.below b2 A1.lt
    have b3 := b0.trans (b2.mono b0.size)
    clear A0 A1 b0 b2
    have hlq := A3.lt
    have bb : Below V2.heap.size V2 ((V2.alloc (.cells dkZero 24)).setRow V2.heap.size (dkArr [] none 0 (-1))) := below_setRow ((Below.refl _ _).alloc (Nat.le_refl _) _) (Nat.le_refl _) _
    have AX : Arr ((V2.alloc (.cells dkZero 24)).setRow V2.heap.size (dkArr [] none 0 (-1))) V2.heap.size 24 (dkArr [] none 0 (-1)) := (Arr.new _ _ _).row _
    go_upto_region 4 with (refine wpList_store_row rfl 24 _ _ rfl V2.heap.size (dkArr [] none 0 (-1)) rfl rfl 24 dkZero (Arr.new V2 _ _) (dkInfo _ _ _ _) rfl (dkArr_one _ _ _ _) ?_)
    refine wp_forget (RcRel L m A c z w V2.heap.size (.int .i64 0)) (by exact ⟨0, .slice none 0 0, Nat.zero_le _, rfl, A2.below bb A2.lt, A3.below bb A3.lt, AX, by simp only [List.take_zero, List.map_nil, flCells]; exact own_nil _ _ _ _, b3.trans (bb.mono b3.size)⟩) ?_
    clear AX bb A2 A3 b3
    generalize V2.heap.size = q at *
    intro V3 hR0
    have c0 : V3.cell? ⟨w.heap.size, 0, none⟩ = some (.slice A L.length c) := by
      obtain ⟨_, _, _, _, h, _⟩ := hR0
      exact h.cell 0
    have HR0 := Lib.hid hR0
    clear hR0
    go_wp2_with fail
    go_loopw [22] (fun i wr => RcRel L m A c z w q i wr) (fun i _ => L.length - (intOf i).toNat)
    case atStart => exact HR0.out
    case round =>
      clear HR0 c0
      obtain ⟨k, v, hk, rfl, A4, A5, G, own, bel⟩ := hrel
      by_cases hlt : k < L.length
      · have hj : (k : Int) < L.length := by omega
        have hx : L[k]? = some L[k] := List.getElem?_eq_getElem hlt
        obtain ⟨ad, rfl, hbl, h0', h1, h2⟩ := hP k L[k] hx
        have g0 := (bel.cell hbl).trans h0'
        have g1 := (bel.cell (p := ⟨(ad.add (k * 3)).block, (ad.add (k * 3)).off + 1, none⟩) hbl).trans h1
        have g2 := (bel.cell (p := ⟨(ad.add (k * 3)).block, (ad.add (k * 3)).off + 2, none⟩) hbl).trans h2
        have hs := HAll.out L[k] (List.getElem_mem hlt)
        have HT : Hid ((L.take (k + 1)).map (crashF m) = (L.take k).map (crashF m) ++ [crashF m L[k]]) := by show _ = _; rw [List.take_succ_eq_append_getElem hlt, List.map_append]; rfl
        have hTl : ((L.take k).map (crashF m)).length ≤ 400 := by rw [List.length_map, List.length_take]; omega
        clear h0' h1 h2 hx
        generalize (L.take k).map (crashF m) = T at *
        generalize L[k] = x at *
        have bb : Below wr.heap.size wr ((wr.alloc (.cells flZero 50)).setRow wr.heap.size (flArr x)) := below_setRow ((Below.refl _ _).alloc (Nat.le_refl _) _) (Nat.le_refl _) _
        have AX : Arr ((wr.alloc (.cells flZero 50)).setRow wr.heap.size (flArr x)) wr.heap.size 50 (flArr x) := (Arr.new _ _ _).row _
        go_upto_region 7 with (refine wpList_store_row rfl 50 _ _ rfl wr.heap.size (flArr x) rfl rfl 50 flZero (Arr.new wr _ _) (flInfo _) rfl (flArr_one _) ?_)
        refine wp_forget (fun W => Arr W w.heap.size 24 (dkArr L (some ad) c z) ∧ Arr W (w.heap.size + 1) 24 dkZero ∧ Arr W q 24 #[v, .int .i64 (-1)] ∧ Arr W wr.heap.size 50 (flArr x) ∧ W.ownsRow (q + 1) 50 3 v T.length (flCells T) ∧ Below w.heap.size w W) (by exact ⟨A4.below bb A4.lt, A5.below bb A5.lt, G.below bb G.lt, AX, dk_own_below own bb, bel.trans (bb.mono bel.size)⟩) ?_
        clear bb AX A4 A5 G bel g0 g1 g2 own
        generalize wr.heap.size = p at *
        rintro W ⟨A4, A5, G, AX, own, bel⟩
        have e0 : W.cell? ⟨p, 0, none⟩ = some (.string x.name) := AX.cell 0
        have e1 : W.cell? ⟨p, 1, none⟩ = some (.string x.safe) := AX.cell 1
        have e2 : W.cell? ⟨p, 2, none⟩ = some (.string x.tail) := AX.cell 2
        have e3 : W.cell? ⟨q, 0, none⟩ = some v := G.cell 0
        have hql := G.lt
        obtain ⟨t, ht⟩ : ∃ t, t = x.tail.extract 0 (min m x.tail.size) := ⟨_, rfl⟩
        have hcf : crashF m x = ⟨x.name, x.safe ++ t, ⟨#[]⟩⟩ := by rw [ht]; rfl
        rw [hcf] at HT
        have hts : t.size ≤ 1048576 := by rw [ht, ByteArray.size_extract]; omega
        have bq : Below W.heap.size W (W.alloc (.cells (flArr ⟨x.name, x.safe ++ t, ⟨#[]⟩⟩) 50)) := (Below.refl _ _).alloc (Nat.le_refl _) _
        have HNw : Hid (News (W.alloc (.cells (flArr ⟨x.name, x.safe ++ t, ⟨#[]⟩⟩) 50)) (some ⟨W.heap.size, 0, none⟩) 1 (flArr ⟨x.name, x.safe ++ t, ⟨#[]⟩⟩).toList) := x_news (Arr.new _ _ _)
        have HOw := Lib.hid (dk_own_below own bq)
        have HFin : Hid (∀ v' w', w'.ownsRow (q + 1) 50 3 v' (T.length + 1) (flCells T ++ (flArr ⟨x.name, x.safe ++ t, ⟨#[]⟩⟩).toList) → (W.alloc (.cells (flArr ⟨x.name, x.safe ++ t, ⟨#[]⟩⟩) 50)).grownBy w' v.ownBlock → RcRel L m (some ad) c z w q (.int .i64 ((k : Int) + 1)) (w'.setCell ⟨q, 0, none⟩ v') ∧ w'.cell? ⟨q, 0, none⟩ = some v ∧ w'.frozen? ⟨q, 0, none⟩ = false) := fun v' w' h1 h2 => by
          have hne : ∀ g, g ≤ q → ¬ some g = v.ownBlock := fun g hg e => by have := own_row_ge own _ e.symm; omega
          have G1 := (G.below bq G.lt).kept h2 (hne _ (Nat.le_refl _))
          have k2 : w'.grownBy (w'.setCell ⟨q, 0, none⟩ v') (some q) := gb_set _ _ _
          have b1 := (bel.trans (bq.mono bel.size)).trans ((Below.refl w.heap.size (W.alloc (.cells (flArr ⟨x.name, x.safe ++ t, ⟨#[]⟩⟩) 50))).grown h2 (Nat.le_trans bel.size bq.size) (fun g hg => by have := own_row_ge own g hg; omega))
          refine ⟨⟨k + 1, v', hlt, by rw [Int.natCast_add]; rfl, ((A4.below bq A4.lt).kept h2 (hne _ (by omega))).kept k2 (fun e => by have := Option.some.inj e; omega), ((A5.below bq A5.lt).kept h2 (hne _ (by omega))).kept k2 (fun e => by have := Option.some.inj e; omega), G1.put 0 v', ?_, below_gb b1 k2 (by omega) b1.size⟩, G1.cell 0, G1.free 0⟩
          rw [HT.out, List.length_append, flCells_app]
          simp only [flCells, List.append_nil, List.length_singleton]
          exact own_kp h1 (Kp.gb k2) (fun g hg e => by have := own_row_ge h1 g hg; have := Option.some.inj e; omega)
        have hbq : q + 1 ≤ (W.alloc (.cells (flArr ⟨x.name, x.safe ++ t, ⟨#[]⟩⟩) 50)).heap.size := by have := bq.size; omega
        clear A4 A5 AX bel G HT hcf
        by_cases hmt : m < x.tail.size
        · have i1 : (m : Int) < x.tail.size := by omega
          rw [Nat.min_eq_left (by omega)] at ht
          subst ht
          go_wp2_with (at_builtin; refine wpList_app _ rfl _ _ 22 rfl (q + 1) 50 si _ 3 48 Try.underlying22 Hsi.out Sz0.out Sz1.out Sz2.out rfl (by decide) _ _ _ rfl HOw.out (some ⟨W.heap.size, 0, none⟩) 1 1 (flArr ⟨x.name, x.safe ++ x.tail.extract 0 m, ⟨#[]⟩⟩).toList rfl rfl HNw.out (flArr_ones _) (by unfold maxLen; omega) (by omega) hbq ?_)
          intro v' w' h1 h2
          obtain ⟨A9, c9, rfl⟩ := own_slice h1
          obtain ⟨hrel', y0, y1⟩ := HFin.out _ w' h1 h2
          have HR' := Lib.hid hrel'
          clear hrel' HFin HOw HNw own
          go_wp2_with fail
          go_roundw
          case rel => exact HR'.out
          case measure => simp [intOf]; omega
        · have i1 : ¬ (m : Int) < x.tail.size := by omega
          rw [Nat.min_eq_right (by omega)] at ht
          have ht2 : t = x.tail := by
            rw [ht]
            apply bytes_eq
            rw [extract_drop, List.drop_zero, Nat.sub_zero]
            exact List.take_length
          subst ht2
          clear ht
          go_wp2_with (at_builtin; refine wpList_app _ rfl _ _ 22 rfl (q + 1) 50 si _ 3 48 Try.underlying22 Hsi.out Sz0.out Sz1.out Sz2.out rfl (by decide) _ _ _ rfl HOw.out (some ⟨W.heap.size, 0, none⟩) 1 1 (flArr ⟨x.name, x.safe ++ x.tail, ⟨#[]⟩⟩).toList rfl rfl HNw.out (flArr_ones _) (by unfold maxLen; omega) (by omega) hbq ?_)
          intro v' w' h1 h2
          obtain ⟨A9, c9, rfl⟩ := own_slice h1
          obtain ⟨hrel', y0, y1⟩ := HFin.out _ w' h1 h2
          have HR' := Lib.hid hrel'
          clear hrel' HFin HOw HNw own
          go_wp2_with fail
          go_roundw
          case rel => exact HR'.out
          case measure => simp [intOf]; omega
      · obtain rfl : k = L.length := by omega
        have hj : ¬ (L.length : Int) < L.length := by omega
        rw [List.take_length] at own
        obtain ⟨A9, c9, rfl, hc9, hF9⟩ := own_files own
        have e0 : wr.cell? ⟨q, 0, none⟩ = some (.slice A9 (L.map (crashF m)).length c9) := G.cell 0
        have e1 : wr.cell? ⟨q, 1, none⟩ = some (.int .i64 (-1)) := G.cell 1
        have hFr := hF9.row A5 (dkArr (L.map (crashF m)) A9 c9 (-1))
        have br := below_setRow bel (show w.heap.size ≤ w.heap.size + 1 by omega) (dkArr (L.map (crashF m)) A9 c9 (-1))
        have Br := A5.row (dkArr (L.map (crashF m)) A9 c9 (-1))
        generalize L.map (crashF m) = Lm at *
        go_wp2_with (refine wpList_store_row rfl 24 _ _ rfl (w.heap.size + 1) (dkArr Lm A9 c9 (-1)) rfl rfl 24 dkZero A5 (dkInfo _ _ _ _) rfl (dkArr_one _ _ _ _) ?_)
        rw [HQ.out]
        exact HRet.out _ _ ⟨Lm, -1⟩ A9 c9 0 Br br hFr hc9 rfl rfl rfl
end Go.Proofs.Ytnijnphalhfabaa

/- ref.put: its contract. -/
namespace Go.Proofs.Ytnijnphalhfabaa
open Go.RowKit

/-- a round of put: has the file been laid, and the files so far -/
def puS (f : Fl) (s : Bool × List Fl) (x : Fl) : Bool × List Fl := if x.name = f.name then s else if !s.1 && ltB f.name x.name then (true, s.2 ++ [f] ++ [x]) else (s.1, s.2 ++ [x])
def puE (f : Fl) (s : Bool × List Fl) : List Fl := if s.1 then s.2 else s.2 ++ [f]
theorem puS_done (f : Fl) : ∀ (L out : List Fl), (∀ x ∈ L, x.name ≠ f.name) → L.foldl (puS f) (true, out) = (true, out ++ L)
  | [], out, _ => by simp
  | x :: l, out, h => by
    have hx : x.name ≠ f.name := h x (by simp)
    have e : puS f (true, out) x = (true, out ++ [x]) := by unfold puS; rw [if_neg hx]; simp
    rw [List.foldl_cons, e, puS_done f l _ (fun y hy => h y (by simp [hy]))]
    simp
theorem putL_first (f : Fl) (L : List Fl) (h : ∀ x ∈ L, ltB f.name x.name = true) : putL f L = f :: L := by
  cases L with
  | nil => rfl
  | cons x l =>
    have hx := h x (by simp)
    unfold putL
    rw [ltB_asym hx, if_neg (by simp), if_neg (fun e => ltB_ne hx e.symm)]
theorem puE_fold (f : Fl) : ∀ (L out : List Fl) (b : ByteArray), ris b L → puE f (L.foldl (puS f) (false, out)) = out ++ putL f L
  | [], out, _, _ => rfl
  | x :: l, out, b, hr => by
    rw [List.foldl_cons]
    rcases ltB_tri x.name f.name with h | h | h
    · have e : puS f (false, out) x = (false, out ++ [x]) := by unfold puS; rw [if_neg (ltB_ne h), ltB_asym h]; simp
      have e2 : putL f (x :: l) = x :: putL f l := by rw [putL, if_pos h]
      rw [e, puE_fold f l _ x.name hr.2, e2]
      simp
    · have e : puS f (false, out) x = (false, out) := by unfold puS; rw [if_pos h]
      have hf : ∀ y ∈ l, ltB f.name y.name = true := fun y hy => by rw [← h]; exact ris_lt hr.2 y hy
      have e2 : putL f (x :: l) = f :: l := by rw [putL, h, ltB_irr, if_neg (by simp), if_pos rfl]
      rw [e, puE_fold f l _ x.name hr.2, putL_first f l hf, e2]
    · have e : puS f (false, out) x = (true, out ++ [f] ++ [x]) := by unfold puS; rw [if_neg (fun e => ltB_ne h e.symm), h]; simp
      have hf : ∀ y ∈ x :: l, ltB f.name y.name = true := fun y hy => by
        rcases List.mem_cons.1 hy with rfl | hy
        · exact h
        · exact ltB_trans h (ris_lt hr.2 y hy)
      rw [e, puS_done f l _ (fun y hy e => ltB_ne (hf y (by simp [hy])) e.symm), putL_first f _ hf]
      simp [puE]
theorem own_hi {w : World} {base : Nat} {e : TypeId} {size n : Nat} {v : Value} {xs : List Value} (h : w.ownsRow base e size v n xs) (k : Nat) (hk : v.ownBlock = some k) : k < w.heap.size := by
  rcases h.2 with ⟨rfl, _⟩ | ⟨g, cap, cur, rfl, hb, hg, _⟩
  · cases hk
  · cases hk; exact (Array.getElem?_eq_some_iff.1 hg).1
/-- where ref.put stands -/
def PuRel (L : List Fl) (f : Fl) (w : World) (v b i : Value) (wr : World) : Prop :=
  ∃ (k : Nat) (d : Bool) (T : List Fl) (v0 : Value), v0 = v ∧ k ≤ L.length ∧ i = .int .i64 (k : Int) ∧ b = .bool d ∧ (L.take k).foldl (puS f) (false, []) = (d, T) ∧ T.length ≤ 2 * k ∧ Arr wr w.heap.size 50 (flArr f) ∧
    wr.ownsRow (w.heap.size + 1) 50 3 v T.length (flCells T) ∧ Below w.heap.size w wr
theorem app_row {w' : World} {base : Nat} {v' : Value} {T : List Fl} {x : Fl} (h : w'.ownsRow base 50 3 v' (T.length + 1) (flCells T ++ (flArr x).toList)) :
    w'.ownsRow base 50 3 v' (T ++ [x]).length (flCells (T ++ [x])) := by
  rw [List.length_append, flCells_app]
  simp only [flCells, List.append_nil, List.length_singleton]
  exact h
/-- behind an append of a file: what stands -/
theorem app_stand {w W w' : World} {v v' : Value} {T : List Fl} {f x : Fl} {q : Nat} (hown : W.ownsRow (q + 1) 50 3 v T.length (flCells T)) (hA : Arr W q 50 (flArr f)) (hb : Below w.heap.size w W) (hq : w.heap.size ≤ q)
    (h : w'.ownsRow (q + 1) 50 3 v' (T.length + 1) (flCells T ++ (flArr x).toList)) (hg : (W.alloc (.cells (flArr x) 50)).grownBy w' v.ownBlock) :
    w'.ownsRow (q + 1) 50 3 v' (T ++ [x]).length (flCells (T ++ [x])) ∧ Arr w' q 50 (flArr f) ∧ Below w.heap.size w w' ∧
    ∀ (p : Nat) (y : Fl), Arr W p 50 (flArr y) → (∀ g, v.ownBlock = some g → g ≠ p) → Arr w' p 50 (flArr y) := by
  have bq : Below W.heap.size W (W.alloc (.cells (flArr x) 50)) := (Below.refl _ _).alloc (Nat.le_refl _) _
  have hne : ¬ some q = v.ownBlock := fun e => by have := own_row_ge hown _ e.symm; omega
  refine ⟨app_row h, (hA.below bq hA.lt).kept hg hne, ?_, fun p y hy hp => (hy.below bq hy.lt).kept hg (fun e => hp p e.symm rfl)⟩
  exact (hb.trans (bq.mono hb.size)).trans ((Below.refl w.heap.size (W.alloc (.cells (flArr x) 50))).grown hg (Nat.le_trans hb.size bq.size) (fun g hg => by have := own_row_ge hown g hg; omega))
set_option maxRecDepth 100000 in
set_option maxHeartbeats 2000000 in
theorem RefPut_any (L : List Fl) (f : Fl) (A : Option Addr) (c : Nat) (w : World) (hP : Fls w w.heap.size A L) (hl : L.length ≤ 400) (hr : ris ⟨#[]⟩ L) :
    Calls Try.prog 44 #[.slice A L.length c, .agg (flArr f)] w fun e w' => ∃ A' c', e = .returned (.slice A' (putL f L).length c') ∧ (putL f L).length ≤ c' ∧ Fls w' w'.heap.size A' (putL f L) ∧ Below w.heap.size w w' := by
  obtain ⟨si, hsi, sz0, sz1, sz2⟩ := info_parts info_file
  have Hsi := Lib.hid hsi
  have Sz0 := Lib.hid sz0
  have Sz1 := Lib.hid sz1
  have Sz2 := Lib.hid sz2
  clear hsi sz0 sz1 sz2
  have HE := Lib.hid (puE_fold f L [] _ hr)
  rw [List.nil_append] at HE
  clear hr
  generalize putL f L = M at *
  have A0 : Arr (w.alloc (.cells (flArr f) 50)) w.heap.size 50 (flArr f) := Arr.new _ _ _
  have b0 : Below w.heap.size w (w.alloc (.cells (flArr f) 50)) := (Below.refl _ _).alloc (Nat.le_refl _) _
  go_enter Try.func44, Try.ntmps44
  go_upto_region 1 with fail
  refine wp_forget (fun V => Arr V w.heap.size 50 (flArr f) ∧ Below w.heap.size w V) (by exact ⟨A0, b0⟩) ?_
  clear A0 b0
  rintro V ⟨A0, b0⟩
  go_wp2_with fail
  go_loopw [5, 6, 11] (fun v b i wr => PuRel L f w v b i wr) (fun _ _ i _ => L.length - (intOf i).toNat)
  case atStart => exact ⟨0, false, [], _, rfl, Nat.zero_le _, rfl, rfl, rfl, Nat.zero_le _, A0, own_nil _ _ _ _, b0⟩
  case round =>
    clear A0 b0
    obtain ⟨k, d, T, v, rfl, hk, rfl, rfl, hfold, hT, A1, own, bel⟩ := hrel
    by_cases hlt : k < L.length
    · have hj : (k : Int) < L.length := by omega
      have hx : L[k]? = some L[k] := List.getElem?_eq_getElem hlt
      obtain ⟨ad, rfl, hbl, h0', h1, h2⟩ := hP k L[k] hx
      have g0 := (bel.cell hbl).trans h0'
      have g1 := (bel.cell (p := ⟨(ad.add (k * 3)).block, (ad.add (k * 3)).off + 1, none⟩) hbl).trans h1
      have g2 := (bel.cell (p := ⟨(ad.add (k * 3)).block, (ad.add (k * 3)).off + 2, none⟩) hbl).trans h2
      have HT : Hid ((L.take (k + 1)).foldl (puS f) (false, []) = puS f (d, T) L[k]) := by show _ = _; rw [List.take_succ_eq_append_getElem hlt, List.foldl_append, hfold]; rfl
      clear h0' h1 h2 hx hfold
      generalize L[k] = x at *
      have HS : Hid (puS f (d, T) x = if x.name = f.name then (d, T) else if !d && ltB f.name x.name then (true, T ++ [f] ++ [x]) else (d, T ++ [x])) := rfl
      have hpl := A1.lt
      have hge := bel.size
      have hin : ∀ g, v.ownBlock = some g → g < wr.heap.size := own_hi own
      have HIn := Lib.hid hin
      clear hin
      have bb : Below wr.heap.size wr ((wr.alloc (.cells flZero 50)).setRow wr.heap.size (flArr x)) := below_setRow ((Below.refl _ _).alloc (Nat.le_refl _) _) (Nat.le_refl _) _
      have AX : Arr ((wr.alloc (.cells flZero 50)).setRow wr.heap.size (flArr x)) wr.heap.size 50 (flArr x) := (Arr.new _ _ _).row _
      go_upto_region 6 with (refine wpList_store_row rfl 50 _ _ rfl wr.heap.size (flArr x) rfl rfl 50 flZero (Arr.new wr _ _) (flInfo _) rfl (flArr_one _) ?_)
      refine wp_forget (fun W => Arr W w.heap.size 50 (flArr f) ∧ Arr W wr.heap.size 50 (flArr x) ∧ W.ownsRow (w.heap.size + 1) 50 3 v T.length (flCells T) ∧ Below w.heap.size w W) (by exact ⟨A1.below bb A1.lt, AX, dk_own_below own bb, bel.trans (bb.mono bel.size)⟩) ?_
      clear bb AX A1 bel g0 g1 g2 own
      generalize wr.heap.size = p at *
      rintro W ⟨A1, AX, own, bel⟩
      have e0 : W.cell? ⟨p, 0, none⟩ = some (.string x.name) := AX.cell 0
      have e1 : W.cell? ⟨p, 1, none⟩ = some (.string x.safe) := AX.cell 1
      have e2 : W.cell? ⟨p, 2, none⟩ = some (.string x.tail) := AX.cell 2
      have f0 : W.cell? ⟨w.heap.size, 0, none⟩ = some (.string f.name) := A1.cell 0
      have f1 : W.cell? ⟨w.heap.size, 1, none⟩ = some (.string f.safe) := A1.cell 1
      have f2 : W.cell? ⟨w.heap.size, 2, none⟩ = some (.string f.tail) := A1.cell 2
      cases hq : x.name.toList == f.name.toList with
      | true =>
        have hnm : x.name = f.name := (sameB_iff _ _).1 hq
        have HR' : Hid (PuRel L f w v (.bool d) (.int .i64 ((k : Int) + 1)) W) := ⟨k + 1, d, T, v, rfl, hlt, by rw [Int.natCast_add]; rfl, rfl, by rw [HT.out, HS.out, if_pos hnm], by omega, A1, own, bel⟩
        clear HT HS hnm own A1 AX bel
        go_wp2_with fail
        go_roundw
        case rel => exact HR'.out
        case measure => simp [intOf]; omega
      | false =>
        have hne : x.name ≠ f.name := fun e => by rw [e] at hq; simp at hq
        have HApp : Hid (∀ (W : World) (v : Value) (T : List Fl) (x : Fl), W.ownsRow (w.heap.size + 1) 50 3 v T.length (flCells T) → w.heap.size < W.heap.size → (W.alloc (.cells (flArr x) 50)).ownsRow (w.heap.size + 1) 50 3 v T.length (flCells T) ∧ News (W.alloc (.cells (flArr x) 50)) (some ⟨W.heap.size, 0, none⟩) 1 (flArr x).toList ∧ w.heap.size + 1 ≤ (W.alloc (.cells (flArr x) 50)).heap.size) := fun W v T x h hlt => by
          have bq : Below W.heap.size W (W.alloc (.cells (flArr x) 50)) := (Below.refl _ _).alloc (Nat.le_refl _) _
          exact ⟨dk_own_below h bq, x_news (Arr.new _ _ _), by have := bq.size; omega⟩
        cases d with
        | true =>
          obtain ⟨o9, n9, hbq⟩ := HApp.out W v T x own A1.lt
          have HOw := Lib.hid o9
          have HNw := Lib.hid n9
          clear o9 n9
          go_wp2_with (at_builtin; refine wpList_app _ rfl _ _ 22 rfl (w.heap.size + 1) 50 si _ 3 48 Try.underlying22 Hsi.out Sz0.out Sz1.out Sz2.out rfl (by decide) _ _ _ rfl HOw.out (some ⟨W.heap.size, 0, none⟩) 1 1 (flArr x).toList rfl rfl HNw.out (flArr_ones _) (by unfold maxLen; omega) (by omega) hbq ?_)
          intro v2 w2 h1 h2
          obtain ⟨own2, A2, bel2, _⟩ := app_stand own A1 bel (Nat.le_refl _) h1 h2
          have HR' : Hid (PuRel L f w v2 (.bool true) (.int .i64 ((k : Int) + 1)) w2) := ⟨k + 1, true, T ++ [x], v2, rfl, hlt, by rw [Int.natCast_add]; rfl, rfl, by rw [HT.out, HS.out, if_neg hne]; rfl, by simp only [List.length_append, List.length_singleton]; omega, A2, own2, bel2⟩
          clear HT HS own2 A2 bel2 h1 h2 HOw HNw hbq
          go_wp2_with fail
          go_roundw
          case rel => exact HR'.out
          case measure => simp [intOf]; omega
        | false =>
          cases hgt : Op.bytesLess f.name.toList x.name.toList with
          | false =>
            have hgt2 : ltB f.name x.name = false := hgt
            have hgt3 : Op.bytesLess x.name.toList f.name.toList = true := by
              rcases ltB_tri x.name f.name with h | h | h
              · exact h
              · exact (hne h).elim
              · rw [hgt2] at h; cases h
            obtain ⟨o9, n9, hbq⟩ := HApp.out W v T x own A1.lt
            have HOw := Lib.hid o9
            have HNw := Lib.hid n9
            clear o9 n9
            go_wp2_with (at_builtin; refine wpList_app _ rfl _ _ 22 rfl (w.heap.size + 1) 50 si _ 3 48 Try.underlying22 Hsi.out Sz0.out Sz1.out Sz2.out rfl (by decide) _ _ _ rfl HOw.out (some ⟨W.heap.size, 0, none⟩) 1 1 (flArr x).toList rfl rfl HNw.out (flArr_ones _) (by unfold maxLen; omega) (by omega) hbq ?_)
            intro v2 w2 h1 h2
            obtain ⟨own2, A2, bel2, _⟩ := app_stand own A1 bel (Nat.le_refl _) h1 h2
            have HR' : Hid (PuRel L f w v2 (.bool false) (.int .i64 ((k : Int) + 1)) w2) := ⟨k + 1, false, T ++ [x], v2, rfl, hlt, by rw [Int.natCast_add]; rfl, rfl, by rw [HT.out, HS.out, if_neg hne, hgt2]; rfl, by simp only [List.length_append, List.length_singleton]; omega, A2, own2, bel2⟩
            clear HT HS own2 A2 bel2 h1 h2 HOw HNw hbq
            go_wp2_with fail
            go_roundw
            case rel => exact HR'.out
            case measure => simp [intOf]; omega
          | true =>
            have hgt2 : ltB f.name x.name = true := hgt
            have hgt3 : Op.bytesLess x.name.toList f.name.toList = false := ltB_asym hgt2
            obtain ⟨o9, n9, hbq⟩ := HApp.out W v T f own A1.lt
            have HOw := Lib.hid o9
            have HNw := Lib.hid n9
            clear o9 n9
            go_wp2_with (at_builtin; refine wpList_app _ rfl _ _ 22 rfl (w.heap.size + 1) 50 si _ 3 48 Try.underlying22 Hsi.out Sz0.out Sz1.out Sz2.out rfl (by decide) _ _ _ rfl HOw.out (some ⟨W.heap.size, 0, none⟩) 1 1 (flArr f).toList rfl rfl HNw.out (flArr_ones _) (by unfold maxLen; omega) (by omega) hbq ?_)
            intro v1 w1 h1 h2
            obtain ⟨own1, A3, bel1, hX⟩ := app_stand own A1 bel (Nat.le_refl _) h1 h2
            have AX1 := hX p x AX (fun g hg => by have := HIn.out g hg; omega)
            clear HOw HNw hbq h1 h2 hX own A1 bel AX e0 e1 e2 f0 f1 f2
            have hT1 : (T ++ [f]).length ≤ 2 * k + 1 := by simp only [List.length_append, List.length_singleton]; omega
            obtain ⟨T1, hT1e⟩ : ∃ T1, T1 = T ++ [f] := ⟨_, rfl⟩
            rw [← hT1e] at own1 hT1
            have HT1 := Lib.hid hT1e
            clear hT1e
            obtain ⟨A9, c9, rfl⟩ := own_slice own1
            have e0 : w1.cell? ⟨p, 0, none⟩ = some (.string x.name) := AX1.cell 0
            have e1 : w1.cell? ⟨p, 1, none⟩ = some (.string x.safe) := AX1.cell 1
            have e2 : w1.cell? ⟨p, 2, none⟩ = some (.string x.tail) := AX1.cell 2
            obtain ⟨o9, n9, hbq⟩ := HApp.out w1 _ T1 x own1 A3.lt
            have HOw := Lib.hid o9
            have HNw := Lib.hid n9
            clear o9 n9
            go_wp2_with (at_builtin; refine wpList_app _ rfl _ _ 22 rfl (w.heap.size + 1) 50 si _ 3 48 Try.underlying22 Hsi.out Sz0.out Sz1.out Sz2.out rfl (by decide) _ _ _ rfl HOw.out (some ⟨w1.heap.size, 0, none⟩) 1 1 (flArr x).toList rfl rfl HNw.out (flArr_ones _) (by unfold maxLen; omega) (by omega) hbq ?_)
            intro v2 w2 h1 h2
            obtain ⟨own2, A2, bel2, _⟩ := app_stand own1 A3 bel1 (Nat.le_refl _) h1 h2
            have HR' : Hid (PuRel L f w v2 (.bool true) (.int .i64 ((k : Int) + 1)) w2) := ⟨k + 1, true, T1 ++ [x], v2, rfl, hlt, by rw [Int.natCast_add]; rfl, rfl, by rw [HT.out, HS.out, if_neg hne, hgt2, HT1.out]; rfl, by simp only [List.length_append, List.length_singleton]; omega, A2, own2, bel2⟩
            clear HT HS own2 A2 bel2 h1 h2 HOw HNw hbq
            go_wp2_with fail
            go_roundw
            case rel => exact HR'.out
            case measure => simp [intOf]; omega
    · obtain rfl : k = L.length := by omega
      have hj : ¬ (L.length : Int) < L.length := by omega
      rw [List.take_length] at hfold
      rw [hfold] at HE
      cases d with
      | true =>
        obtain rfl : T = M := HE.out
        obtain ⟨A9, c9, rfl, hc9, hF9⟩ := own_files own
        clear HE
        go_wp2_with fail
        go_ret
        exact ⟨A9, c9, rfl, hc9, hF9, bel⟩
      | false =>
        have hM : T ++ [f] = M := HE.out
        have f0 : wr.cell? ⟨w.heap.size, 0, none⟩ = some (.string f.name) := A1.cell 0
        have f1 : wr.cell? ⟨w.heap.size, 1, none⟩ = some (.string f.safe) := A1.cell 1
        have f2 : wr.cell? ⟨w.heap.size, 2, none⟩ = some (.string f.tail) := A1.cell 2
        have bq : Below wr.heap.size wr (wr.alloc (.cells (flArr f) 50)) := (Below.refl _ _).alloc (Nat.le_refl _) _
        have HOw := Lib.hid (dk_own_below own bq)
        have HNw : Hid (News (wr.alloc (.cells (flArr f) 50)) (some ⟨wr.heap.size, 0, none⟩) 1 (flArr f).toList) := x_news (Arr.new _ _ _)
        have hbq : w.heap.size + 1 ≤ (wr.alloc (.cells (flArr f) 50)).heap.size := by have := bq.size; have := A1.lt; omega
        go_wp2_with (at_builtin; refine wpList_app _ rfl _ _ 22 rfl (w.heap.size + 1) 50 si _ 3 48 Try.underlying22 Hsi.out Sz0.out Sz1.out Sz2.out rfl (by decide) _ _ _ rfl HOw.out (some ⟨wr.heap.size, 0, none⟩) 1 1 (flArr f).toList rfl rfl HNw.out (flArr_ones _) (by unfold maxLen; omega) (by omega) hbq ?_)
        intro v1 w1 h1 h2
        obtain ⟨own1, A3, bel1, _⟩ := app_stand own A1 bel (Nat.le_refl _) h1 h2
        rw [hM] at own1
        clear HOw HNw hbq h1 h2 own A1 bel HE
        obtain ⟨A9, c9, rfl, hc9, hF9⟩ := own_files own1
        go_wp2_with fail
        go_ret
        exact ⟨A9, c9, rfl, hc9, hF9, bel1⟩
end Go.Proofs.Ytnijnphalhfabaa

/- ref.Do 1 (Sync): its contract. -/
namespace Go.Proofs.Ytnijnphalhfabaa
open Go.RowKit

theorem dkArr_not (L : List Fl) (A : Option Addr) (c : Nat) (z : Int) (i : Nat) (s : ByteArray) : (dkArr L A c z)[i]? ≠ some (.string s) := by
  intro h
  match i, h with
  | 0, h => simp [dkArr] at h
  | 1, h => simp [dkArr] at h
  | i + 2, h => simp [dkArr] at h
theorem at_cases {L : List Fl} {b : ByteArray} (hr : ris b L) (n : ByteArray) : (getF n L = none ∧ atP n L = -1) ∨ ∃ (k : Nat) (f : Fl), getF n L = some f ∧ L[k]? = some f ∧ atP n L = (k : Int) := by
  cases hg : getF n L with
  | none =>
    refine .inl ⟨rfl, at_no fun k f hk e => ?_⟩
    unfold getF at hg
    exact absurd (decide_eq_true e) (List.find?_eq_none.1 hg f (List.mem_of_getElem? hk))
  | some f =>
    obtain ⟨h1, h2⟩ := getF_name hg
    obtain ⟨k, hk, rfl⟩ := List.getElem_of_mem h2
    exact .inr ⟨k, _, rfl, List.getElem?_eq_getElem hk, at_yes hr (List.getElem?_eq_getElem hk) h1⟩
/-- a number laid into a disk's place -/
theorem fls_cell {W : World} {q i : Nat} {u : Value} {L M : List Fl} {A B : Option Addr} {c : Nat} {z : Int} (hF : Fls W W.heap.size A L) (hA : Arr W q 24 (dkArr M B c z)) : Fls (W.setCell ⟨q, i, none⟩ u) (W.setCell ⟨q, i, none⟩ u).heap.size A L := fun k' x hx => by
  have kk : W.grownBy (W.setCell ⟨q, i, none⟩ u) (some q) := gb_set _ _ _
  obtain ⟨ad, e, hbk, h0, h1, h2⟩ := hF k' x hx
  have hn : ¬ some (ad.add (k' * 3)).block = some q := fun e2 => by
    rw [Option.some.inj e2, hA.cell] at h1
    exact dkArr_not _ _ _ _ _ _ h1
  exact ⟨ad, e, Nat.lt_of_lt_of_le hbk kk.size, kk.cell h0 hn, kk.cell h1 hn, kk.cell h2 hn⟩
/-- what a step comes to whose disk is good and has power -/
def okP (d : Dk) (r : Except Int (List Fl)) : Dk × Int := match r with
  | .error e => (d, e)
  | .ok L => (⟨L, burnt d.fuse⟩, 0)
set_option maxRecDepth 100000 in
set_option maxHeartbeats 2000000 in
theorem RefDo_sync (L : List Fl) (n s : ByteArray) (A : Option Addr) (c : Nat) (z : Int) (hz1 : -9223372036854775808 ≤ z) (hz2 : z ≤ 9223372036854775807) (w : World) (hP : Fls w w.heap.size A L) (hz : Sized L) (hl : L.length * 48 ≤ 140737488355328) (hc : L.length ≤ c) :
    Calls Try.prog 16 #[.int .i64 1, .agg (dkArr L A c z), .string n, .string s] w (StEnd w (stepP ⟨L, z⟩ (syP L n))) := by
  have hl1 : L.length ≤ 140737488355328 := by omega
  have A0 : Arr ((w.alloc (.cells (dkArr L A c z) 24)).alloc (.cells dkZero 24)) w.heap.size 24 (dkArr L A c z) := (Arr.new _ _ _).alloc _
  have A1 : Arr ((w.alloc (.cells (dkArr L A c z) 24)).alloc (.cells dkZero 24)) (w.heap.size + 1) 24 dkZero := Arr.new_at _ _ _ (by simp)
  have b0 : Below w.heap.size w ((w.alloc (.cells (dkArr L A c z) 24)).alloc (.cells dkZero 24)) := ((Below.refl _ _).alloc (Nat.le_refl _) _).alloc (by simp) _
  have HS : Hid (stepP ⟨L, z⟩ (syP L n) = if !goodD L then (⟨L, z⟩, 3) else if z = 0 then (⟨L, z⟩, 12) else okP ⟨L, z⟩ (syP L n)) := rfl
  have HY : Hid (syP L n = match getF n L with | none => .error 7 | some f => .ok (putL ⟨n, f.safe ++ f.tail, ⟨#[]⟩⟩ L)) := rfl
  generalize syP L n = Y at *
  generalize stepP ⟨L, z⟩ Y = Q at *
  go_enter Try.func16, Try.ntmps16
  go_upto_region 1 with fail
  refine wp_forget (fun V => Arr V w.heap.size 24 (dkArr L A c z) ∧ Arr V (w.heap.size + 1) 24 dkZero ∧ Below w.heap.size w V) (by exact ⟨A0, A1, b0⟩) ?_
  clear A0 A1 b0
  rintro V ⟨A0, A1, b0⟩
  have c0 : V.cell? ⟨w.heap.size, 0, none⟩ = some (.slice A L.length c) := A0.cell 0
  have c1 : V.cell? ⟨w.heap.size, 1, none⟩ = some (.int .i64 z) := A0.cell 1
  have CG : Hid (Calls Try.prog 19 #[.agg #[.slice A L.length c, .int .i64 z]] V fun e w' => e = .returned (.bool (goodD L)) ∧ Below V.heap.size V w') := GoodDisk_any L A c z V (hP.up b0) hz hl1
  have HRet : Hid (∀ (W : World) (a : Act) (d : Dk) (A' : Option Addr) (c' : Nat) (e : Int), Arr W (w.heap.size + 1) 24 (dkArr d.files A' c' d.fuse) → Below w.heap.size w W → Fls W W.heap.size A' d.files → d.files.length ≤ c' → a.tmps[8]? = some (.pointer (some ⟨w.heap.size + 1, 0, none⟩)) → a.tmps[9]? = some (.int .i64 e) → a.defers = [] → bodyPost Try.prog Try.f16 (StEnd w (d, e)) .ret a W) := fun W a d A' c' e h1 h2 h3 h4 h5 h6 h7 => by
    refine bodyPost_ret (v := .tuple #[.agg (dkArr d.files A' c' d.fuse), .int .i64 e]) ?_ h7 ⟨A', c', rfl, h3, h4, h2⟩
    rw [results_cell_tmp Try.results16]
    have hld := run_loadVar_row (P := Try.prog) _ _ _ 24 _ _ _ h1 Try.underlying24 rfl (dkInfo _ _ _ _)
    simp [Array.getD_eq_getD_getElem?, h5, h6, asAddr, hld, Result.andThen]
  have HBad : Hid (∀ (W : World) (a : Act) (e : Int), Q = (⟨L, z⟩, e) → Arr W (w.heap.size + 1) 24 dkZero → Below w.heap.size w W → a.tmps[8]? = some (.pointer (some ⟨w.heap.size + 1, 0, none⟩)) → a.tmps[9]? = some (.int .i64 e) → a.defers = [] → bodyPost Try.prog Try.f16 (StEnd w Q) .ret a (W.setRow (w.heap.size + 1) (dkArr L A c z))) := fun W a e hQ h1 h2 h3 h4 h5 => by
    rw [hQ]
    have b4 := below_setRow h2 (show w.heap.size ≤ w.heap.size + 1 by omega) (dkArr L A c z)
    exact HRet.out _ _ ⟨L, z⟩ A c e (h1.row _) b4 (hP.up b4) hc h3 h4 h5
  cases hg : goodD L with
  | false =>
    rw [hg] at CG
    have HQ : Hid (Q = (⟨L, z⟩, 3)) := by show _ = _; rw [HS.out, hg]; rfl
    clear HS hg
    go_wp2_with fail
    (with_reducible refine CG.out.mono ?_)
    clear CG c0 c1
    rintro _ V2 ⟨rfl, b2⟩
    have A2 := A0.below b2 A0.lt
    have A3 := A1.below b2 A1.lt
    have b3 := b0.trans (b2.mono b0.size)
    have c0 : V2.cell? ⟨w.heap.size, 0, none⟩ = some (.slice A L.length c) := A2.cell 0
    have c1 : V2.cell? ⟨w.heap.size, 1, none⟩ = some (.int .i64 z) := A2.cell 1
    go_wp2_with (refine wpList_store_row rfl 24 _ _ rfl (w.heap.size + 1) (dkArr L A c z) rfl rfl 24 dkZero A3 (dkInfo _ _ _ _) rfl (dkArr_one _ _ _ _) ?_)
    exact HBad.out _ _ 3 HQ.out A3 b3 rfl rfl rfl
  | true =>
    rw [hg] at CG
    obtain ⟨h4, hris, hall⟩ := (goodD_iff L).1 hg
    go_wp2_with fail
    (with_reducible refine CG.out.mono ?_)
    clear CG c0 c1
    rintro _ V2 ⟨rfl, b2⟩
    have A2 := A0.below b2 A0.lt
    have A3 := A1.below b2 A1.lt
    have b3 := b0.trans (b2.mono b0.size)
    clear A0 A1 b0 b2
    have c0 : V2.cell? ⟨w.heap.size, 0, none⟩ = some (.slice A L.length c) := A2.cell 0
    have c1 : V2.cell? ⟨w.heap.size, 1, none⟩ = some (.int .i64 z) := A2.cell 1
    cases hz0 : z == 0
    case true =>
      have HQ : Hid (Q = (⟨L, z⟩, 12)) := by show _ = _; rw [HS.out, hg, if_pos (eq_of_beq hz0)]; rfl
      clear HS hg
      go_wp2_with (refine wpList_store_row rfl 24 _ _ rfl (w.heap.size + 1) (dkArr L A c z) rfl rfl 24 dkZero A3 (dkInfo _ _ _ _) rfl (dkArr_one _ _ _ _) ?_)
      exact HBad.out _ _ 12 HQ.out A3 b3 rfl rfl rfl
    have HQ : Hid (Q = okP ⟨L, z⟩ Y) := by show _ = _; rw [HS.out, if_neg (by rw [hg]; decide), if_neg (fun e => by rw [e] at hz0; cases hz0)]
    clear HS hg
    have C1 := Lib.hid (CopyDisk_any L A c z V2 (hP.up b3) hl)
    go_wp2_with fail
    (with_reducible refine C1.out.mono ?_)
    clear C1 c0 c1
    rintro _ V3 ⟨Ac, cc, rfl, hFc, hcc, b2⟩
    replace A2 := A2.below b2 A2.lt
    replace A3 := A3.below b2 A3.lt
    replace b3 := b3.trans (b2.mono b3.size)
    clear b2
    have bb : Below V3.heap.size V3 ((V3.alloc (.cells dkZero 24)).setRow V3.heap.size (dkArr L Ac cc z)) := below_setRow ((Below.refl _ _).alloc (Nat.le_refl _) _) (Nat.le_refl _) _
    have AX : Arr ((V3.alloc (.cells dkZero 24)).setRow V3.heap.size (dkArr L Ac cc z)) V3.heap.size 24 (dkArr L Ac cc z) := (Arr.new _ _ _).row _
    have hq1 := A3.lt
    go_upto_region 6 with (refine wpList_store_row rfl 24 _ _ rfl V3.heap.size (dkArr L Ac cc z) rfl rfl 24 dkZero (Arr.new V3 _ _) (dkInfo _ _ _ _) rfl (dkArr_one _ _ _ _) ?_)
    refine wp_forget (fun W => Arr W V3.heap.size 24 (dkArr L Ac cc z) ∧ Arr W w.heap.size 24 (dkArr L A c z) ∧ Arr W (w.heap.size + 1) 24 dkZero ∧ Fls W W.heap.size Ac L ∧ Below w.heap.size w W) (by exact ⟨AX, A2.below bb A2.lt, A3.below bb A3.lt, hFc.up bb, b3.trans (bb.mono b3.size)⟩) ?_
    clear AX bb A2 A3 b3 hFc
    generalize V3.heap.size = q at *
    rintro V4 ⟨AX, A2, A3, hFc, b3⟩
    have d1 : V4.cell? ⟨q, 1, none⟩ = some (.int .i64 z) := AX.cell 1
    have x1 := AX.free 1
    have AY : Arr (V4.setCell ⟨q, 1, none⟩ (.int .i64 (z - 1))) q 24 (dkArr L Ac cc (z - 1)) := AX.put 1 (.int .i64 (z - 1))
    have kk : V4.grownBy (V4.setCell ⟨q, 1, none⟩ (.int .i64 (z - 1))) (some q) := gb_set _ _ _
    have hqq : w.heap.size + 1 < q := hq1
    have hFy := fls_cell (i := 1) (u := .int .i64 (z - 1)) hFc AX
    by_cases hpos : 0 < z
    case' pos =>
      have hb : burnt z = z - 1 := if_pos hpos
      go_upto_region 8 with fail
      refine wp_forget (fun W => Arr W q 24 (dkArr L Ac cc (burnt z)) ∧ Arr W w.heap.size 24 (dkArr L A c z) ∧ Arr W (w.heap.size + 1) 24 dkZero ∧ Fls W W.heap.size Ac L ∧ Below w.heap.size w W) (by rw [hb]; exact ⟨AY, A2.kept kk (fun e => by have := Option.some.inj e; omega), A3.kept kk (fun e => by have := Option.some.inj e; omega), hFy, below_gb b3 kk (by omega) b3.size⟩) ?_
    case' neg =>
      have hb : burnt z = z := if_neg hpos
      go_upto_region 8 with fail
      refine wp_forget (fun W => Arr W q 24 (dkArr L Ac cc (burnt z)) ∧ Arr W w.heap.size 24 (dkArr L A c z) ∧ Arr W (w.heap.size + 1) 24 dkZero ∧ Fls W W.heap.size Ac L ∧ Below w.heap.size w W) (by rw [hb]; exact ⟨AX, A2, A3, hFc, b3⟩) ?_
    all_goals
      clear AX AY A2 A3 b3 hFc hFy d1 x1 kk
      rintro V5 ⟨AX, A2, A3, hFc, b3⟩
      have c0 : V5.cell? ⟨w.heap.size, 0, none⟩ = some (.slice A L.length c) := A2.cell 0
      have c1 : V5.cell? ⟨w.heap.size, 1, none⟩ = some (.int .i64 z) := A2.cell 1
      have C1 := Lib.hid (at_any L n A c z V5 (hP.up b3) hl1 hris)
      obtain ⟨y, hy⟩ : ∃ y, y = burnt z := ⟨_, rfl⟩
      rw [← hy] at AX
      have HB := Lib.hid hy
      clear hy hb
      have hca := at_cases hris n
      generalize atP n L = p at *
      go_wp2_with fail
      (with_reducible refine C1.out.mono ?_)
      clear C1 c0 c1
      rintro _ V6 ⟨rfl, b2⟩
      replace A2 := A2.below b2 A2.lt
      replace A3 := A3.below b2 A3.lt
      replace AX := AX.below b2 AX.lt
      replace hFc := hFc.up b2
      replace b3 := b3.trans (b2.mono b3.size)
      clear b2
      have c0 : V6.cell? ⟨w.heap.size, 0, none⟩ = some (.slice A L.length c) := A2.cell 0
      have c1 : V6.cell? ⟨w.heap.size, 1, none⟩ = some (.int .i64 z) := A2.cell 1
      rcases hca with ⟨hgn, rfl⟩ | ⟨k, f, hgs, hk, rfl⟩
      · have HQ7 : Hid (Q = (⟨L, z⟩, 7)) := by show _ = _; rw [HQ.out, HY.out, hgn]; rfl
        clear HQ HY
        go_wp2_with (refine wpList_store_row rfl 24 _ _ rfl (w.heap.size + 1) (dkArr L A c z) rfl rfl 24 dkZero A3 (dkInfo _ _ _ _) rfl (dkArr_one _ _ _ _) ?_)
        exact HBad.out _ _ 7 HQ7.out A3 b3 rfl rfl rfl
      · have HQ0 : Hid (Q = (⟨putL ⟨n, f.safe ++ f.tail, ⟨#[]⟩⟩ L, y⟩, 0)) := by show _ = _; rw [HQ.out, HY.out, hgs, HB.out]; rfl
        clear HQ HY HB hgs
        have hlt := (List.getElem?_eq_some_iff.1 hk).1
        have hsum : f.safe.size + f.tail.size ≤ 1048576 := by
          have := (hall f (List.mem_of_getElem? hk)).2
          unfold fits at this
          exact of_decide_eq_true this
        have hj : (k : Int) < L.length := by omega
        have hj0 : ¬ (k : Int) < 0 := by omega
        obtain ⟨ad, rfl, hbl, h0', h1, h2⟩ := hP k f hk
        have g0 := (b3.cell hbl).trans h0'
        have g1 := (b3.cell (p := ⟨(ad.add (k * 3)).block, (ad.add (k * 3)).off + 1, none⟩) hbl).trans h1
        have g2 := (b3.cell (p := ⟨(ad.add (k * 3)).block, (ad.add (k * 3)).off + 2, none⟩) hbl).trans h2
        clear h0' h1 h2 hk
        have bb : Below V6.heap.size V6 ((V6.alloc (.cells flZero 50)).setRow V6.heap.size (flArr f)) := below_setRow ((Below.refl _ _).alloc (Nat.le_refl _) _) (Nat.le_refl _) _
        have AZ : Arr ((V6.alloc (.cells flZero 50)).setRow V6.heap.size (flArr f)) V6.heap.size 50 (flArr f) := (Arr.new _ _ _).row _
        go_upto_region 29 with (refine wpList_store_row rfl 50 _ _ rfl V6.heap.size (flArr f) rfl rfl 50 flZero (Arr.new V6 _ _) (flInfo _) rfl (flArr_one _) ?_)
        refine wp_forget (fun W => Arr W V6.heap.size 50 (flArr f) ∧ Arr W q 24 (dkArr L Ac cc y) ∧ Arr W (w.heap.size + 1) 24 dkZero ∧ Fls W W.heap.size Ac L ∧ Below w.heap.size w W) (by exact ⟨AZ, AX.below bb AX.lt, A3.below bb A3.lt, hFc.up bb, b3.trans (bb.mono b3.size)⟩) ?_
        clear AZ bb AX A2 A3 b3 hFc c0 c1 g0 g1 g2
        generalize V6.heap.size = r at *
        rintro W ⟨AZ, AX, A3, hFc, b3⟩
        have e1 : W.cell? ⟨r, 1, none⟩ = some (.string f.safe) := AZ.cell 1
        have e2 : W.cell? ⟨r, 2, none⟩ = some (.string f.tail) := AZ.cell 2
        have d0 : W.cell? ⟨q, 0, none⟩ = some (.slice Ac L.length cc) := AX.cell 0
        have C1 : Hid (Calls Try.prog 44 #[.slice Ac L.length cc, .agg #[.string n, .string (f.safe ++ f.tail), .string ⟨#[]⟩]] W fun e w' => ∃ A' c', e = .returned (.slice A' (putL ⟨n, f.safe ++ f.tail, ⟨#[]⟩⟩ L).length c') ∧ (putL ⟨n, f.safe ++ f.tail, ⟨#[]⟩⟩ L).length ≤ c' ∧ Fls w' w'.heap.size A' (putL ⟨n, f.safe ++ f.tail, ⟨#[]⟩⟩ L) ∧ Below W.heap.size W w') := RefPut_any L ⟨n, f.safe ++ f.tail, ⟨#[]⟩⟩ Ac cc W hFc h4 hris
        generalize putL ⟨n, f.safe ++ f.tail, ⟨#[]⟩⟩ L = M at *
        go_wp2_with fail
        (with_reducible refine C1.out.mono ?_)
        clear C1 d0 e1 e2
        rintro _ W2 ⟨Ab, cb, rfl, hcb, hFb, b2⟩
        replace A3 := A3.below b2 A3.lt
        replace AX := AX.below b2 AX.lt
        replace b3 := b3.trans (b2.mono b3.size)
        clear b2 AZ hFc
        have d0 : W2.cell? ⟨q, 0, none⟩ = some (.slice Ac L.length cc) := AX.cell 0
        have x0 := AX.free 0
        have AY : Arr (W2.setCell ⟨q, 0, none⟩ (.slice Ab M.length cb)) q 24 (dkArr M Ab cb y) := AX.put 0 (.slice Ab M.length cb)
        have kk : W2.grownBy (W2.setCell ⟨q, 0, none⟩ (.slice Ab M.length cb)) (some q) := gb_set _ _ _
        go_upto_region 39 with fail
        refine wp_forget (fun W => Arr W q 24 (dkArr M Ab cb y) ∧ Arr W (w.heap.size + 1) 24 dkZero ∧ Fls W W.heap.size Ab M ∧ Below w.heap.size w W) (by exact ⟨AY, A3.kept kk (fun e => by have := Option.some.inj e; omega), fls_cell hFb AX, below_gb b3 kk (by omega) b3.size⟩) ?_
        clear AX AY A3 b3 hFb d0 x0 kk
        rintro W ⟨AX, A3, hFb, b3⟩
        have d0 : W.cell? ⟨q, 0, none⟩ = some (.slice Ab M.length cb) := AX.cell 0
        have d1 : W.cell? ⟨q, 1, none⟩ = some (.int .i64 y) := AX.cell 1
        go_wp2_with (refine wpList_store_row rfl 24 _ _ rfl (w.heap.size + 1) (dkArr M Ab cb y) rfl rfl 24 dkZero A3 (dkInfo _ _ _ _) rfl (dkArr_one _ _ _ _) ?_)
        rw [HQ0.out]
        exact HRet.out _ _ ⟨M, y⟩ Ab cb 0 (A3.row _) (below_setRow b3 (show w.heap.size ≤ w.heap.size + 1 by omega) _) (hFb.row A3 _) hcb rfl rfl rfl
end Go.Proofs.Ytnijnphalhfabaa
