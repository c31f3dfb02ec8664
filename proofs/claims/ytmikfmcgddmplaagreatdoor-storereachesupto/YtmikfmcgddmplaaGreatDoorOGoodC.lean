/- object.Good: its contract. -/
import Derived.Test.YtmikfmcgddmplaaGreatDoorOStray
import Derived.Deep.Cut
namespace Go.Proofs.YtmikfmcgddmplaaGreatDoor
open Go.RowKit

theorem kindB_cases {k : Int} (h : kindB k = true) : k = 1 ∨ k = 2 ∨ k = 3 ∨ k = 4 := by
  unfold kindB at h
  simp only [Bool.or_eq_true, beq_iff_eq] at h
  omega
theorem stray_any (o : Ob) (p : At) (hk : kindB o.kind = true) (w : World) :
    Calls Tryz.prog 114 #[.agg (obArr o p)] w fun e w' => e = .returned (.bool (strayB o)) ∧ Below w.heap.size w w' := by
  unfold obArr
  rcases kindB_cases hk with h | h | h | h <;> rw [h]
  · exact stray1 _ _ _ _ _ _ _ _ _ _ _ _ _ (by unfold strayB; rw [h]; simp [Bool.or_assoc]) w
  · exact stray2 _ _ _ _ _ _ _ _ _ _ _ _ _ (by unfold strayB; rw [h]; simp [Bool.or_assoc]) w
  · exact stray3 _ _ _ _ _ _ _ _ _ _ _ _ _ (by unfold strayB; rw [h]; simp [Bool.or_assoc]) w
  · exact stray4 _ _ _ _ _ _ _ _ _ _ _ _ _ (by unfold strayB; rw [h]; simp [Bool.or_assoc]) w

/-- the boxed object, and nothing else has turned -/
def Bx (w : World) (o : Ob) (p : At) (W : World) : Prop := Arr W w.heap.size 53 (obArr o p) ∧ ObIn W w.heap.size o p ∧ Below w.heap.size w W
theorem Bx.start {w : World} {o : Ob} {p : At} (h : ObIn w w.heap.size o p) : Bx w o p (w.alloc (.cells (obArr o p) 53)) :=
  ⟨Arr.new _ _ _, box_in h (Nat.le_refl _) _, (Below.refl _ _).alloc (Nat.le_refl _) _⟩
theorem Bx.below {w W W' : World} {o : Ob} {p : At} (h : Bx w o p W) (b : Below W.heap.size W W') : Bx w o p W' :=
  ⟨h.1.below b h.1.lt, h.2.1.below (b.mono (Nat.le_of_lt h.1.lt)), h.2.2.trans (b.mono h.2.2.size)⟩
theorem Bx.c {w W : World} {o : Ob} {p : At} (h : Bx w o p W) :
    W.cell? ⟨w.heap.size, 0, none⟩ = some (.int .i64 o.kind) ∧ W.cell? ⟨w.heap.size, 1, none⟩ = some (.string o.data) ∧ W.cell? ⟨w.heap.size, 2, none⟩ = some (.slice p.ea o.ents.length p.ec) ∧
    W.cell? ⟨w.heap.size, 3, none⟩ = some (.string o.tree) ∧ W.cell? ⟨w.heap.size, 4, none⟩ = some (.slice p.pa o.pars.length p.pc) ∧ W.cell? ⟨w.heap.size, 5, none⟩ = some (.string o.who) ∧
    W.cell? ⟨w.heap.size, 6, none⟩ = some (.string o.note) ∧ W.cell? ⟨w.heap.size, 7, none⟩ = some (.int .i64 o.time) ∧ W.cell? ⟨w.heap.size, 8, none⟩ = some (.string o.target) :=
  ⟨h.1.cell 0, h.1.cell 1, h.1.cell 2, h.1.cell 3, h.1.cell 4, h.1.cell 5, h.1.cell 6, h.1.cell 7, h.1.cell 8⟩

theorem max_three (a b c : Nat) : decide ((4096 : Int) < (if (if a < b then (b : Int) else a) < c then (c : Int) else if a < b then (b : Int) else a)) = (decide (4096 < a) || decide (4096 < b) || decide (4096 < c)) := by
  rw [Bool.eq_iff_iff]
  simp only [Bool.or_eq_true, decide_eq_true_eq]
  split <;> split <;> omega
set_option maxRecDepth 100000 in
set_option maxHeartbeats 2000000 in
theorem Good_any (o : Ob) (p : At) (w : World) (hO : ObIn w w.heap.size o p) :
    Calls Tryz.prog 76 #[.agg (obArr o p)] w fun e w' => e = .returned (.int .i64 (good o)) ∧ Below w.heap.size w w' := by
  have h1 := Lib.hid (Bx.start hO)
  obtain ⟨G, HG⟩ : ∃ G, Hid (G = good o) := ⟨_, rfl⟩
  rw [← HG.out]
  have CS := fun hk => Lib.hid (stray_any o p hk)
  have CK := Lib.hid (isKind_any o.kind)
  have hmx := max_three o.data.size o.who.size o.note.size
  have hlong : longB o = _ := hmx.symm
  generalize hM : (if (if o.data.size < o.who.size then (o.who.size : Int) else o.data.size) < o.note.size then (o.note.size : Int) else if o.data.size < o.who.size then (o.who.size : Int) else o.data.size) = M at hlong
  have HL := Lib.hid hlong
  clear hlong hmx hO
  generalize hA : obArr o p = arr at *
  have HA := Lib.hid hA
  clear hA
  go_enter Tryz.func76, Tryz.ntmps76
  go_upto_region 1 with fail
  refine wp_forget (Bx w o p) h1.out ?_
  clear h1
  intro W hW
  obtain ⟨c0, c1, c2, c3, c4, c5, c6, c7, c8⟩ := hW.c
  go_wp2_with fail
  (with_reducible refine (CK.out _).mono ?_)
  rintro _ w1 ⟨rfl, rfl⟩
  clear CK
  unfold good at HG
  cases hk : kindB o.kind <;> rw [hk] at HG
  · go_wp2_with fail
    go_ret
    exact ⟨by rw [HG.out]; rfl, hW.2.2⟩
  have CS1 := CS hk
  have HKind := Lib.hid (kindB_cases hk)
  clear CS hk
  have hA := HA.out
  clear HA
  subst hA
  go_wp2_with (refine wpList_load_row rfl 53 _ rfl w.heap.size rfl 53 _ (0, 0) _ hW.1 Tryz.underlying53 rfl (obInfo o p) ?_)
  (with_reducible refine (CS1.out _).mono ?_)
  rintro _ W2 ⟨rfl, b2⟩
  have hW2 := hW.below b2
  clear c0 c1 c2 c3 c4 c5 c6 c7 c8 hW b2 CS1
  obtain ⟨c0, c1, c2, c3, c4, c5, c6, c7, c8⟩ := hW2.c
  cases hs : strayB o <;> rw [hs] at HG
  case true =>
    go_wp2_with fail
    go_ret
    exact ⟨by rw [HG.out]; rfl, hW2.2.2⟩
  clear hs
  rw [HL.out] at HG
  clear HL
  by_cases hm : (4096 : Int) < M
  · rw [decide_eq_true hm] at HG
    go_wp2_with fail
    go_ret
    exact ⟨by rw [HG.out]; rfl, hW2.2.2⟩
  rw [decide_eq_false hm] at HG
  unfold fullB at HG
  by_cases he : (64 : Int) < o.ents.length
  · rw [show decide (64 < o.ents.length) = true from decide_eq_true (by omega)] at HG
    go_wp2_with fail
    go_ret
    exact ⟨by rw [HG.out]; rfl, hW2.2.2⟩
  rw [show decide (64 < o.ents.length) = false from decide_eq_false (by omega)] at HG
  by_cases hp : (4 : Int) < o.pars.length
  · rw [show decide (4 < o.pars.length) = true from decide_eq_true (by omega)] at HG
    go_wp2_with fail
    go_ret
    exact ⟨by rw [HG.out]; rfl, hW2.2.2⟩
  rw [show decide (4 < o.pars.length) = false from decide_eq_false (by omega)] at HG
  have CE := Lib.hid (goodEntries_any o.ents (by omega) p.ea p.ec W2 (hW2.2.1.ents.mono hW2.2.2.size))
  have hpl : o.pars.length ≤ 4 := by omega
  go_wp2_with fail
  (with_reducible refine CE.out.mono ?_)
  rintro _ W3 ⟨rfl, b3⟩
  have hW3 := hW2.below b3
  clear c0 c1 c2 c3 c4 c5 c6 c7 c8 hW2 b3 CE
  obtain ⟨c0, c1, c2, c3, c4, c5, c6, c7, c8⟩ := hW3.c
  cases hs : entsB ⟨#[]⟩ o.ents <;> rw [hs] at HG
  · go_wp2_with fail
    go_ret
    exact ⟨by rw [HG.out]; rfl, hW3.2.2⟩
  clear hs
  have CP := Lib.hid (parentsError_any o.pars hpl p.pa p.pc hW3.2.1.room W3 (hW3.2.1.pars.mono hW3.2.2.size))
  generalize parsE [] o.pars = P at *
  go_wp2_with fail
  (with_reducible refine CP.out.mono ?_)
  rintro _ W4 ⟨rfl, b4⟩
  have hW4 := hW3.below b4
  clear c0 c1 c2 c3 c4 c5 c6 c7 c8 hW3 b4 CP
  obtain ⟨c0, c1, c2, c3, c4, c5, c6, c7, c8⟩ := hW4.c
  cases hs : P != 0
  case true =>
    have hs2 : P ≠ 0 := by simpa using hs
    go_wp2_with fail
    go_ret
    exact ⟨by rw [HG.out]; simp [hs2], hW4.2.2⟩
  have hs2 : P = 0 := by simpa using hs
  subst hs2
  clear hs
  unfold noIdB at HG
  have CI := Lib.hid (isId_any o.tree)
  have CT := Lib.hid (isId_any o.target)
  have CW := Lib.hid (zero_any o.who)
  have CN := Lib.hid (zero_any o.note)
  unfold zeroB lateB at HG
  generalize hasZero o.who = zw at *
  generalize hasZero o.note = zn at *
  generalize idB o.tree = it at *
  generalize idB o.target = ig at *
  have hkind : (o.kind == 3) = true ∧ (o.kind == 4) = false ∨ (o.kind == 3) = false ∧ (o.kind == 4) = true ∨ (o.kind == 3) = false ∧ (o.kind == 4) = false := by
    rcases HKind.out with h | h | h | h <;> rw [h] <;> decide
  clear HKind hM
  rcases hkind with ⟨k3, k4⟩ | ⟨k3, k4⟩ | ⟨k3, k4⟩
  · rw [k3, k4] at HG
    go_wp2_with fail
    (with_reducible refine (CI.out _).mono ?_)
    rintro _ _ ⟨rfl, rfl⟩
    cases it
    · go_wp2_with fail
      go_ret
      exact ⟨by rw [HG.out]; rfl, hW4.2.2⟩
    go_wp2_with fail
    (with_reducible refine (CW.out _).mono ?_)
    rintro _ W5 ⟨rfl, b5⟩
    have hW5 := hW4.below b5
    clear c0 c1 c2 c3 c4 c5 c6 c7 c8 hW4 b5 CW
    obtain ⟨c0, c1, c2, c3, c4, c5, c6, c7, c8⟩ := hW5.c
    cases zw
    case true =>
      go_wp2_with fail
      go_ret
      exact ⟨by rw [HG.out]; rfl, hW5.2.2⟩
    go_wp2_with fail
    (with_reducible refine (CN.out _).mono ?_)
    rintro _ W6 ⟨rfl, b6⟩
    have hW6 := hW5.below b6
    clear c0 c1 c2 c3 c4 c5 c6 c7 c8 hW5 b6 CN
    obtain ⟨c0, c1, c2, c3, c4, c5, c6, c7, c8⟩ := hW6.c
    cases zn
    case true =>
      go_wp2_with fail
      go_ret
      exact ⟨by rw [HG.out]; rfl, hW6.2.2⟩
    by_cases ht : o.time < 0
    · rw [decide_eq_true ht] at HG
      go_wp2_with fail
      go_ret
      exact ⟨by rw [HG.out]; rfl, hW6.2.2⟩
    rw [decide_eq_false ht] at HG
    by_cases ht2 : 1099511627776 ≤ o.time
    · rw [decide_eq_true ht2] at HG
      go_wp2_with fail
      go_ret
      exact ⟨by rw [HG.out]; rfl, hW6.2.2⟩
    rw [decide_eq_false ht2] at HG
    go_wp2_with fail
    go_ret
    exact ⟨by rw [HG.out]; rfl, hW6.2.2⟩
  · rw [k3, k4] at HG
    go_wp2_with fail
    (with_reducible refine (CT.out _).mono ?_)
    rintro _ _ ⟨rfl, rfl⟩
    cases ig
    · go_wp2_with fail
      go_ret
      exact ⟨by rw [HG.out]; rfl, hW4.2.2⟩
    go_wp2_with fail
    (with_reducible refine (CW.out _).mono ?_)
    rintro _ W5 ⟨rfl, b5⟩
    have hW5 := hW4.below b5
    clear c0 c1 c2 c3 c4 c5 c6 c7 c8 hW4 b5 CW
    obtain ⟨c0, c1, c2, c3, c4, c5, c6, c7, c8⟩ := hW5.c
    cases zw
    case true =>
      go_wp2_with fail
      go_ret
      exact ⟨by rw [HG.out]; rfl, hW5.2.2⟩
    go_wp2_with fail
    (with_reducible refine (CN.out _).mono ?_)
    rintro _ W6 ⟨rfl, b6⟩
    have hW6 := hW5.below b6
    clear c0 c1 c2 c3 c4 c5 c6 c7 c8 hW5 b6 CN
    obtain ⟨c0, c1, c2, c3, c4, c5, c6, c7, c8⟩ := hW6.c
    cases zn
    case true =>
      go_wp2_with fail
      go_ret
      exact ⟨by rw [HG.out]; rfl, hW6.2.2⟩
    by_cases ht : o.time < 0
    · rw [decide_eq_true ht] at HG
      go_wp2_with fail
      go_ret
      exact ⟨by rw [HG.out]; rfl, hW6.2.2⟩
    rw [decide_eq_false ht] at HG
    by_cases ht2 : 1099511627776 ≤ o.time
    · rw [decide_eq_true ht2] at HG
      go_wp2_with fail
      go_ret
      exact ⟨by rw [HG.out]; rfl, hW6.2.2⟩
    rw [decide_eq_false ht2] at HG
    go_wp2_with fail
    go_ret
    exact ⟨by rw [HG.out]; rfl, hW6.2.2⟩
  · rw [k3, k4] at HG
    go_wp2_with fail
    (with_reducible refine (CW.out _).mono ?_)
    rintro _ W5 ⟨rfl, b5⟩
    have hW5 := hW4.below b5
    clear c0 c1 c2 c3 c4 c5 c6 c7 c8 hW4 b5 CW
    obtain ⟨c0, c1, c2, c3, c4, c5, c6, c7, c8⟩ := hW5.c
    cases zw
    case true =>
      go_wp2_with fail
      go_ret
      exact ⟨by rw [HG.out]; rfl, hW5.2.2⟩
    go_wp2_with fail
    (with_reducible refine (CN.out _).mono ?_)
    rintro _ W6 ⟨rfl, b6⟩
    have hW6 := hW5.below b6
    clear c0 c1 c2 c3 c4 c5 c6 c7 c8 hW5 b6 CN
    obtain ⟨c0, c1, c2, c3, c4, c5, c6, c7, c8⟩ := hW6.c
    cases zn
    case true =>
      go_wp2_with fail
      go_ret
      exact ⟨by rw [HG.out]; rfl, hW6.2.2⟩
    by_cases ht : o.time < 0
    · rw [decide_eq_true ht] at HG
      go_wp2_with fail
      go_ret
      exact ⟨by rw [HG.out]; rfl, hW6.2.2⟩
    rw [decide_eq_false ht] at HG
    by_cases ht2 : 1099511627776 ≤ o.time
    · rw [decide_eq_true ht2] at HG
      go_wp2_with fail
      go_ret
      exact ⟨by rw [HG.out]; rfl, hW6.2.2⟩
    rw [decide_eq_false ht2] at HG
    go_wp2_with fail
    go_ret
    exact ⟨by rw [HG.out]; rfl, hW6.2.2⟩
end Go.Proofs.YtmikfmcgddmplaaGreatDoor
