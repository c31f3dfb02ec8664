/- disk.Read; keep.sameDisk, keep.disks: contracts. -/
import Derived.Test.YtnijnphalhfabaaDkSteps
namespace Go.Proofs.Ytnijnphalhfabaa
open Go.RowKit

set_option maxRecDepth 100000 in
set_option maxHeartbeats 1000000 in
theorem DkRead_any (L : List Fl) (n : ByteArray) (A : Option Addr) (c : Nat) (z : Int) (w : World) (hP : Fls w w.heap.size A L) (hz : Sized L) (hl : L.length ≤ 140737488355328) :
    Calls Try.prog 21 #[.agg #[.slice A L.length c, .int .i64 z], .string n] w fun e w' => e = .returned (.tuple #[.string (readD ⟨L, z⟩ n).1, .int .i64 (readD ⟨L, z⟩ n).2]) ∧ Below w.heap.size w w' := by
  have A0 : Arr (w.alloc (.cells (dkArr L A c z) 24)) w.heap.size 24 (dkArr L A c z) := Arr.new _ _ _
  have b0 : Below w.heap.size w (w.alloc (.cells (dkArr L A c z) 24)) := (Below.refl _ _).alloc (Nat.le_refl _) _
  have HS : Hid (readD ⟨L, z⟩ n = if !goodD L then ((⟨#[]⟩, 3) : ByteArray × Int) else match getF n L with
    | none => (⟨#[]⟩, 7)
    | some f => (f.safe ++ f.tail, 0)) := rfl
  generalize readD ⟨L, z⟩ n = Q at *
  go_enter Try.func21, Try.ntmps21
  go_upto_region 1 with fail
  refine wp_forget (fun V => Arr V w.heap.size 24 (dkArr L A c z) ∧ Below w.heap.size w V) (by exact ⟨A0, b0⟩) ?_
  clear A0 b0
  rintro V ⟨A0, b0⟩
  have c0 : V.cell? ⟨w.heap.size, 0, none⟩ = some (.slice A L.length c) := A0.cell 0
  have c1 : V.cell? ⟨w.heap.size, 1, none⟩ = some (.int .i64 z) := A0.cell 1
  have CG : Hid (Calls Try.prog 18 #[.agg #[.slice A L.length c, .int .i64 z]] V fun e w' => e = .returned (.bool (goodD L)) ∧ Below V.heap.size V w') := Good_any L A c z V (hP.up b0) hz hl
  cases hg : goodD L with
  | false =>
    rw [hg] at CG
    have HQ : Hid (Q = (⟨#[]⟩, 3)) := by show _ = _; rw [HS.out, hg]; rfl
    clear HS hg
    go_wp2_with fail
    (with_reducible refine CG.out.mono ?_)
    clear CG c0 c1
    rintro _ V2 ⟨rfl, b2⟩
    go_wp2_with fail
    go_ret2
    exact ⟨by rw [HQ.out]; rfl, b0.trans (b2.mono b0.size)⟩
  | true =>
    rw [hg] at CG
    obtain ⟨h4, hr, hall⟩ := (goodD_iff L).1 hg
    go_wp2_with fail
    (with_reducible refine CG.out.mono ?_)
    clear CG c0 c1
    rintro _ V2 ⟨rfl, b2⟩
    have A2 := A0.below b2 A0.lt
    have b3 := b0.trans (b2.mono b0.size)
    have c0 : V2.cell? ⟨w.heap.size, 0, none⟩ = some (.slice A L.length c) := A2.cell 0
    have CF := Lib.hid (find_any L n A c V2 (hP.up b3) (by omega) hr)
    clear A0 b0 b2
    cases hbn : hasN n L with
    | false =>
      rw [hbn] at CF
      have HQ : Hid (Q = (⟨#[]⟩, 7)) := by
        show _ = _
        rw [HS.out, hg]
        unfold hasN at hbn
        cases hgf : getF n L with
        | none => rfl
        | some f => rw [hgf] at hbn; cases hbn
      clear HS hg hbn
      go_wp2_with fail
      (with_reducible refine CF.out.mono ?_)
      clear CF c0
      rintro _ V3 ⟨rfl, b4⟩
      go_wp2_with fail
      go_ret2
      exact ⟨by rw [HQ.out]; rfl, b3.trans (b4.mono b3.size)⟩
    | true =>
      rw [hbn] at CF
      obtain ⟨f, hgf, hx, hfn, hlt⟩ := has_some hr hbn
      clear hfn
      have HQ : Hid (Q = (f.safe ++ f.tail, 0)) := by show _ = _; rw [HS.out, hg, hgf]; rfl
      have hfit : f.safe.size + f.tail.size ≤ 1048576 := by
        have := (hall f (List.mem_of_getElem? hx)).2
        unfold fits at this
        exact of_decide_eq_true this
      have hli : (low n L : Int) < L.length := by omega
      generalize low n L = i at *
      clear HS hg hbn hgf hall hr
      go_wp2_with fail
      (with_reducible refine CF.out.mono ?_)
      clear CF c0
      rintro _ V3 ⟨rfl, b4⟩
      have A3 := A2.below b4 A2.lt
      have b5 := b3.trans (b4.mono b3.size)
      obtain ⟨ad, rfl, hbk, d0, d1, d2⟩ := (hP.up b5) i f hx
      have c0 : V3.cell? ⟨w.heap.size, 0, none⟩ = some (.slice (some ad) L.length c) := A3.cell 0
      have CC : Hid (Calls Try.prog 37 #[.agg #[.string f.name, .string f.safe, .string f.tail]] V3 fun e w' => e = .returned (.string (f.safe ++ f.tail)) ∧ Below V3.heap.size V3 w') := content_any f (by omega) (by omega) V3
      clear A2 b3 b4 hx
      go_wp2_with fail
      (with_reducible refine CC.out.mono ?_)
      clear CC c0 d0 d1 d2
      rintro _ V4 ⟨rfl, b6⟩
      go_wp2_with fail
      go_ret2
      exact ⟨by rw [HQ.out]; rfl, b5.trans (b6.mono b5.size)⟩
def neF (x y : Fl) : Bool := !(sameB x.name y.name && sameB x.safe y.safe && sameB x.tail y.tail)
theorem neF_iff (x y : Fl) : neF x y = false ↔ x = y := by
  unfold neF
  obtain ⟨a, b, c⟩ := x
  obtain ⟨a', b', c'⟩ := y
  simp [sameB_iff, and_assoc]
set_option maxRecDepth 100000 in
theorem neF_run (a a' b b' c c' : ByteArray) (w : World) :
    (binOp .neq 50 (.agg #[.string a, .string b, .string c]) (.agg #[.string a', .string b', .string c'])).run Try.prog w = .ok (.bool (neF ⟨a, b, c⟩ ⟨a', b', c'⟩)) w := by
  unfold neF sameB
  go_simp
  repeat' split
  all_goals simp_all
theorem take_same {α : Type} {T U : List α} {k : Nat} (h : T.take k = U.take k) (h1 : k < T.length) (h2 : k < U.length) (e : T[k] = U[k]) : T.take (k + 1) = U.take (k + 1) := by
  rw [List.take_succ_eq_append_getElem h1, List.take_succ_eq_append_getElem h2, h, e]
/-- two disks, boxed -/
structure Two (w : World) (L M : List Fl) (A B : Option Addr) (c d : Nat) (z y : Int) (W : World) : Prop where
  a : Arr W w.heap.size 24 (dkArr L A c z)
  b : Arr W (w.heap.size + 1) 24 (dkArr M B d y)
  bel : Below w.heap.size w W
theorem Two.drewN {w : World} {L M : List Fl} {A B : Option Addr} {c d : Nat} {z y : Int} {W : World} (h : Two w L M A B c d z y W) (n : Nat) : Two w L M A B c d z y (W.drewN n) := ⟨h.a.drewN n, h.b.drewN n, below_drewN h.bel n⟩
theorem two_start (w : World) (L M : List Fl) (A B : Option Addr) (c d : Nat) (z y : Int) : Two w L M A B c d z y ((w.alloc (.cells (dkArr L A c z) 24)).alloc (.cells (dkArr M B d y) 24)) :=
  ⟨(Arr.new _ _ _).alloc _, Arr.new_at _ _ _ (by simp), ((Below.refl _ _).alloc (Nat.le_refl _) _).alloc (by simp) _⟩
def SdRel (w : World) (L M : List Fl) (A B : Option Addr) (c d : Nat) (z y : Int) (i : Value) (wr : World) : Prop :=
  ∃ k : Nat, k ≤ M.length ∧ i = .int .i64 (k : Int) ∧ L.take k = M.take k ∧ Two w L M A B c d z y wr
set_option maxRecDepth 100000 in
set_option maxHeartbeats 1000000 in
theorem sameDisk_any (L M : List Fl) (A B : Option Addr) (c d : Nat) (z y : Int) (w : World) (hP : Fls w w.heap.size A L) (hQ : Fls w w.heap.size B M) (hl : L.length ≤ 140737488355328) (hm : M.length ≤ 140737488355328) :
    Calls Try.prog 29 #[.agg #[.slice A L.length c, .int .i64 z], .agg #[.slice B M.length d, .int .i64 y]] w fun e w' => e = .returned (.bool (decide ((⟨L, z⟩ : Dk) = ⟨M, y⟩))) ∧ Below w.heap.size w w' := by
  have h0 := Lib.hid (two_start w L M A B c d z y)
  have HD : Hid (∀ b : Bool, ((⟨L, z⟩ : Dk) = ⟨M, y⟩ ↔ b = true) → decide ((⟨L, z⟩ : Dk) = ⟨M, y⟩) = b) := fun b hb => by
    cases b with
    | true => exact decide_eq_true (hb.2 rfl)
    | false => exact decide_eq_false (fun e => by have := hb.1 e; cases this)
  have HI : Hid ((⟨L, z⟩ : Dk) = ⟨M, y⟩ ↔ L = M ∧ z = y) := by show _ ↔ _; simp
  generalize decide ((⟨L, z⟩ : Dk) = ⟨M, y⟩) = D at *
  go_enter Try.func29, Try.ntmps29
  go_upto_region 1 with fail
  refine wp_forget (fun V => Two w L M A B c d z y V) (by exact h0.out) ?_
  clear h0
  intro V T
  have c0 : V.cell? ⟨w.heap.size, 0, none⟩ = some (.slice A L.length c) := T.a.cell 0
  have c1 : V.cell? ⟨w.heap.size, 1, none⟩ = some (.int .i64 z) := T.a.cell 1
  have d0 : V.cell? ⟨w.heap.size + 1, 0, none⟩ = some (.slice B M.length d) := T.b.cell 0
  have d1 : V.cell? ⟨w.heap.size + 1, 1, none⟩ = some (.int .i64 y) := T.b.cell 1
  by_cases hlen : L.length = M.length
  case neg =>
    have hlb : ((L.length : Int) != M.length) = true := by rw [bne_iff_ne]; omega
    have HF : Hid (D = false) := HD.out false (by rw [HI.out]; exact ⟨fun ⟨e, _⟩ => absurd (by rw [e]) hlen, fun e => by cases e⟩)
    clear hlen HD HI
    go_wp2_with fail
    go_ret
    exact ⟨by rw [HF.out]; rfl, T.bel⟩
  have hlb : ((L.length : Int) != M.length) = false := by rw [hlen]; simp
  by_cases hzy : z = y
  case neg =>
    have hzb : (z != y) = true := by rw [bne_iff_ne]; exact hzy
    have HF : Hid (D = false) := HD.out false (by rw [HI.out]; exact ⟨fun ⟨_, e⟩ => absurd e hzy, fun e => by cases e⟩)
    clear hlen hzy HD HI
    go_wp2_with fail
    go_ret
    exact ⟨by rw [HF.out]; rfl, T.bel⟩
  have hzb : (z != y) = false := by rw [hzy]; simp
  have HR : Hid (SdRel w L M A B c d z y (.int .i64 0) V) := ⟨0, Nat.zero_le _, rfl, rfl, T⟩
  have HZ := Lib.hid hzy
  have HLn := Lib.hid hlen
  clear T hzy hlen
  go_wp2_with fail
  clear c0 c1 d0 d1 hlb hzb
  go_loopw [5] (fun i wr => SdRel w L M A B c d z y i wr) (fun i _ => M.length - (intOf i).toNat)
  case atStart => exact HR.out
  case round =>
    clear HR
    obtain ⟨k, hk, rfl, ht, T⟩ := hrel
    have hlen := HLn.out
    have c0 : wr.cell? ⟨w.heap.size, 0, none⟩ = some (.slice A L.length c) := T.a.cell 0
    have d0 : wr.cell? ⟨w.heap.size + 1, 0, none⟩ = some (.slice B M.length d) := T.b.cell 0
    have HT := Lib.hid ht
    clear ht
    by_cases hlt : k < M.length
    · have hlt2 : k < L.length := by omega
      have hj : (k : Int) < L.length := by omega
      have hj2 : (k : Int) < M.length := by omega
      obtain ⟨ad, rfl, hbl, h0, h1, h2⟩ := hP k L[k] (List.getElem?_eq_getElem hlt2)
      obtain ⟨ad2, rfl, hbl2, h0', h1', h2'⟩ := hQ k M[k] (List.getElem?_eq_getElem hlt)
      have g0 := (T.bel.cell hbl).trans h0
      have g1 := (T.bel.cell (p := ⟨(ad.add (k * 3)).block, (ad.add (k * 3)).off + 1, none⟩) hbl).trans h1
      have g2 := (T.bel.cell (p := ⟨(ad.add (k * 3)).block, (ad.add (k * 3)).off + 2, none⟩) hbl).trans h2
      have g3 := (T.bel.cell hbl2).trans h0'
      have g4 := (T.bel.cell (p := ⟨(ad2.add (k * 3)).block, (ad2.add (k * 3)).off + 1, none⟩) hbl2).trans h1'
      have g5 := (T.bel.cell (p := ⟨(ad2.add (k * 3)).block, (ad2.add (k * 3)).off + 2, none⟩) hbl2).trans h2'
      have HS := Lib.hid (fun e => take_same HT.out hlt2 hlt e)
      have HN : Hid (L[k] ≠ M[k] → D = false) := fun h => HD.out false (by rw [HI.out]; exact ⟨fun ⟨e, _⟩ => by subst e; exact absurd rfl h, fun e => by cases e⟩)
      clear h0 h1 h2 h0' h1' h2' HT hlen
      generalize L[k] = x at *
      generalize M[k] = x' at *
      obtain ⟨x1, x2, x3⟩ := x
      obtain ⟨y1, y2, y3⟩ := x'
      simp only at g0 g1 g2 g3 g4 g5
      have hne := neF_run x1 y1 x2 y2 x3 y3
      cases hq : neF ⟨x1, x2, x3⟩ ⟨y1, y2, y3⟩
      · have HS2 := Lib.hid (HS.out ((neF_iff _ _).1 hq))
        rw [hq] at hne
        clear HS HN hq
        go_wp2_with fail
        go_quiet (fail)
        go_wp2_with fail
        refine ⟨⟨k + 1, hlt, by go_num, HS2.out, T.drewN _⟩, by simp [intOf]; omega⟩
      · have HF := Lib.hid (HN.out (fun e => by have := (neF_iff _ _).2 e; rw [this] at hq; cases hq))
        rw [hq] at hne
        clear HS HN hq
        go_wp2_with fail
        go_quiet (fail)
        go_wp2_with fail
        go_ret
        exact ⟨by rw [HF.out]; rfl, below_drewN T.bel _⟩
    · obtain rfl : k = M.length := by omega
      have hj : ¬ (M.length : Int) < L.length := by omega
      have HF : Hid (D = true) := HD.out true (by
        rw [HI.out]
        refine ⟨fun _ => rfl, fun _ => ⟨?_, HZ.out⟩⟩
        have := HT.out
        rwa [List.take_length, List.take_of_length_le (by omega)] at this)
      clear HT hlen
      go_wp2_with fail
      go_ret
      exact ⟨by rw [HF.out]; rfl, T.bel⟩
end Go.Proofs.Ytnijnphalhfabaa
