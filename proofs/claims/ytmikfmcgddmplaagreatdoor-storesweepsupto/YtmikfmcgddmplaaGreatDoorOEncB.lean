/- Texts in one: OGoodC, ODecF, OPure, OEncB. -/
import Derived.Test.YtmikfmcgddmplaaGreatDoorOStray
import Derived.Deep.Cut
import Derived.Test.YtmikfmcgddmplaaGreatDoorDkMem
/- object.Good: its contract. -/
namespace Go.Proofs.YtmikfmcgddmplaaGreatDoor
open Go.RowKit

theorem kindB_cases {k : Int} (h : kindB k = true) : k = 1 ∨ k = 2 ∨ k = 3 ∨ k = 4 := by
  unfold kindB at h
  simp only [Bool.or_eq_true, beq_iff_eq] at h
  omega
theorem stray_any (o : Ob) (p : At) (hk : kindB o.kind = true) (w : World) :
    Calls Tryz.prog 114 #[.agg (obArr o p)] w fun e w' => e = .returned (.bool (strayB o)) ∧ Below w.heap.size w w' := by
  unfold obArr
  rcases kindB_cases hk with h | h | h | h <;> rw [h]
  · exact stray1 _ _ _ _ _ _ _ _ _ _ _ _ _ (by unfold strayB; rw [h]; simp [Bool.or_assoc]) w
  · exact stray2 _ _ _ _ _ _ _ _ _ _ _ _ _ (by unfold strayB; rw [h]; simp [Bool.or_assoc]) w
  · exact stray3 _ _ _ _ _ _ _ _ _ _ _ _ _ (by unfold strayB; rw [h]; simp [Bool.or_assoc]) w
  · exact stray4 _ _ _ _ _ _ _ _ _ _ _ _ _ (by unfold strayB; rw [h]; simp [Bool.or_assoc]) w

/-- the boxed object, and nothing else has turned -/
def Bx (w : World) (o : Ob) (p : At) (W : World) : Prop := Arr W w.heap.size 53 (obArr o p) ∧ ObIn W w.heap.size o p ∧ Below w.heap.size w W
theorem Bx.start {w : World} {o : Ob} {p : At} (h : ObIn w w.heap.size o p) : Bx w o p (w.alloc (.cells (obArr o p) 53)) :=
  ⟨Arr.new _ _ _, box_in h (Nat.le_refl _) _, (Below.refl _ _).alloc (Nat.le_refl _) _⟩
theorem Bx.below {w W W' : World} {o : Ob} {p : At} (h : Bx w o p W) (b : Below W.heap.size W W') : Bx w o p W' :=
  ⟨h.1.below b h.1.lt, h.2.1.below (b.mono (Nat.le_of_lt h.1.lt)), h.2.2.trans (b.mono h.2.2.size)⟩
theorem Bx.c {w W : World} {o : Ob} {p : At} (h : Bx w o p W) :
    W.cell? ⟨w.heap.size, 0, none⟩ = some (.int .i64 o.kind) ∧ W.cell? ⟨w.heap.size, 1, none⟩ = some (.string o.data) ∧ W.cell? ⟨w.heap.size, 2, none⟩ = some (.slice p.ea o.ents.length p.ec) ∧
    W.cell? ⟨w.heap.size, 3, none⟩ = some (.string o.tree) ∧ W.cell? ⟨w.heap.size, 4, none⟩ = some (.slice p.pa o.pars.length p.pc) ∧ W.cell? ⟨w.heap.size, 5, none⟩ = some (.string o.who) ∧
    W.cell? ⟨w.heap.size, 6, none⟩ = some (.string o.note) ∧ W.cell? ⟨w.heap.size, 7, none⟩ = some (.int .i64 o.time) ∧ W.cell? ⟨w.heap.size, 8, none⟩ = some (.string o.target) :=
  ⟨h.1.cell 0, h.1.cell 1, h.1.cell 2, h.1.cell 3, h.1.cell 4, h.1.cell 5, h.1.cell 6, h.1.cell 7, h.1.cell 8⟩

theorem max_three (a b c : Nat) : decide ((4096 : Int) < (if (if a < b then (b : Int) else a) < c then (c : Int) else if a < b then (b : Int) else a)) = (decide (4096 < a) || decide (4096 < b) || decide (4096 < c)) := by
  rw [Bool.eq_iff_iff]
  simp only [Bool.or_eq_true, decide_eq_true_eq]
  split <;> split <;> omega
set_option maxRecDepth 100000 in
set_option maxHeartbeats 2000000 in
theorem Good_any (o : Ob) (p : At) (w : World) (hO : ObIn w w.heap.size o p) :
    Calls Tryz.prog 76 #[.agg (obArr o p)] w fun e w' => e = .returned (.int .i64 (good o)) ∧ Below w.heap.size w w' := by
  have h1 := Lib.hid (Bx.start hO)
  obtain ⟨G, HG⟩ : ∃ G, Hid (G = good o) := ⟨_, rfl⟩
  rw [← HG.out]
  have CS := fun hk => Lib.hid (stray_any o p hk)
  have CK := Lib.hid (isKind_any o.kind)
  have hmx := max_three o.data.size o.who.size o.note.size
  have hlong : longB o = _ := hmx.symm
  generalize hM : (if (if o.data.size < o.who.size then (o.who.size : Int) else o.data.size) < o.note.size then (o.note.size : Int) else if o.data.size < o.who.size then (o.who.size : Int) else o.data.size) = M at hlong
  have HL := Lib.hid hlong
  clear hlong hmx hO
  generalize hA : obArr o p = arr at *
  have HA := Lib.hid hA
  clear hA
  go_enter Tryz.func76, Tryz.ntmps76
  go_upto_region 1 with fail
  refine wp_forget (Bx w o p) h1.out ?_
  clear h1
  intro W hW
  obtain ⟨c0, c1, c2, c3, c4, c5, c6, c7, c8⟩ := hW.c
  go_wp2_with fail
  (with_reducible refine (CK.out _).mono ?_)
  rintro _ w1 ⟨rfl, rfl⟩
  clear CK
  unfold good at HG
  cases hk : kindB o.kind <;> rw [hk] at HG
  · go_wp2_with fail
    go_ret
    exact ⟨by rw [HG.out]; rfl, hW.2.2⟩
  have CS1 := CS hk
  have HKind := Lib.hid (kindB_cases hk)
  clear CS hk
  have hA := HA.out
  clear HA
  subst hA
  go_wp2_with (refine wpList_load_row rfl 53 _ rfl w.heap.size rfl 53 _ (0, 0) _ hW.1 Tryz.underlying53 rfl (obInfo o p) ?_)
  (with_reducible refine (CS1.out _).mono ?_)
  rintro _ W2 ⟨rfl, b2⟩
  have hW2 := hW.below b2
  clear c0 c1 c2 c3 c4 c5 c6 c7 c8 hW b2 CS1
  obtain ⟨c0, c1, c2, c3, c4, c5, c6, c7, c8⟩ := hW2.c
  cases hs : strayB o <;> rw [hs] at HG
  case true =>
    go_wp2_with fail
    go_ret
    exact ⟨by rw [HG.out]; rfl, hW2.2.2⟩
  clear hs
  rw [HL.out] at HG
  clear HL
  by_cases hm : (4096 : Int) < M
  · rw [decide_eq_true hm] at HG
    go_wp2_with fail
    go_ret
    exact ⟨by rw [HG.out]; rfl, hW2.2.2⟩
  rw [decide_eq_false hm] at HG
  unfold fullB at HG
  by_cases he : (64 : Int) < o.ents.length
  · rw [show decide (64 < o.ents.length) = true from decide_eq_true (by omega)] at HG
    go_wp2_with fail
    go_ret
    exact ⟨by rw [HG.out]; rfl, hW2.2.2⟩
  rw [show decide (64 < o.ents.length) = false from decide_eq_false (by omega)] at HG
  by_cases hp : (4 : Int) < o.pars.length
  · rw [show decide (4 < o.pars.length) = true from decide_eq_true (by omega)] at HG
    go_wp2_with fail
    go_ret
    exact ⟨by rw [HG.out]; rfl, hW2.2.2⟩
  rw [show decide (4 < o.pars.length) = false from decide_eq_false (by omega)] at HG
  have CE := Lib.hid (goodEntries_any o.ents (by omega) p.ea p.ec W2 (hW2.2.1.ents.mono hW2.2.2.size))
  have hpl : o.pars.length ≤ 4 := by omega
  go_wp2_with fail
  (with_reducible refine CE.out.mono ?_)
  rintro _ W3 ⟨rfl, b3⟩
  have hW3 := hW2.below b3
  clear c0 c1 c2 c3 c4 c5 c6 c7 c8 hW2 b3 CE
  obtain ⟨c0, c1, c2, c3, c4, c5, c6, c7, c8⟩ := hW3.c
  cases hs : entsB ⟨#[]⟩ o.ents <;> rw [hs] at HG
  · go_wp2_with fail
    go_ret
    exact ⟨by rw [HG.out]; rfl, hW3.2.2⟩
  clear hs
  have CP := Lib.hid (parentsError_any o.pars hpl p.pa p.pc hW3.2.1.room W3 (hW3.2.1.pars.mono hW3.2.2.size))
  generalize parsE [] o.pars = P at *
  go_wp2_with fail
  (with_reducible refine CP.out.mono ?_)
  rintro _ W4 ⟨rfl, b4⟩
  have hW4 := hW3.below b4
  clear c0 c1 c2 c3 c4 c5 c6 c7 c8 hW3 b4 CP
  obtain ⟨c0, c1, c2, c3, c4, c5, c6, c7, c8⟩ := hW4.c
  cases hs : P != 0
  case true =>
    have hs2 : P ≠ 0 := by simpa using hs
    go_wp2_with fail
    go_ret
    exact ⟨by rw [HG.out]; simp [hs2], hW4.2.2⟩
  have hs2 : P = 0 := by simpa using hs
  subst hs2
  clear hs
  unfold noIdB at HG
  have CI := Lib.hid (isId_any o.tree)
  have CT := Lib.hid (isId_any o.target)
  have CW := Lib.hid (zero_any o.who)
  have CN := Lib.hid (zero_any o.note)
  unfold zeroB lateB at HG
  generalize hasZero o.who = zw at *
  generalize hasZero o.note = zn at *
  generalize idB o.tree = it at *
  generalize idB o.target = ig at *
  have hkind : (o.kind == 3) = true ∧ (o.kind == 4) = false ∨ (o.kind == 3) = false ∧ (o.kind == 4) = true ∨ (o.kind == 3) = false ∧ (o.kind == 4) = false := by
    rcases HKind.out with h | h | h | h <;> rw [h] <;> decide
  clear HKind hM
  rcases hkind with ⟨k3, k4⟩ | ⟨k3, k4⟩ | ⟨k3, k4⟩
  · rw [k3, k4] at HG
    go_wp2_with fail
    (with_reducible refine (CI.out _).mono ?_)
    rintro _ _ ⟨rfl, rfl⟩
    cases it
    · go_wp2_with fail
      go_ret
      exact ⟨by rw [HG.out]; rfl, hW4.2.2⟩
    go_wp2_with fail
    (with_reducible refine (CW.out _).mono ?_)
    rintro _ W5 ⟨rfl, b5⟩
    have hW5 := hW4.below b5
    clear c0 c1 c2 c3 c4 c5 c6 c7 c8 hW4 b5 CW
    obtain ⟨c0, c1, c2, c3, c4, c5, c6, c7, c8⟩ := hW5.c
    cases zw
    case true =>
      go_wp2_with fail
      go_ret
      exact ⟨by rw [HG.out]; rfl, hW5.2.2⟩
    go_wp2_with fail
    (with_reducible refine (CN.out _).mono ?_)
    rintro _ W6 ⟨rfl, b6⟩
    have hW6 := hW5.below b6
    clear c0 c1 c2 c3 c4 c5 c6 c7 c8 hW5 b6 CN
    obtain ⟨c0, c1, c2, c3, c4, c5, c6, c7, c8⟩ := hW6.c
    cases zn
    case true =>
      go_wp2_with fail
      go_ret
      exact ⟨by rw [HG.out]; rfl, hW6.2.2⟩
    by_cases ht : o.time < 0
    · rw [decide_eq_true ht] at HG
      go_wp2_with fail
      go_ret
      exact ⟨by rw [HG.out]; rfl, hW6.2.2⟩
    rw [decide_eq_false ht] at HG
    by_cases ht2 : 1099511627776 ≤ o.time
    · rw [decide_eq_true ht2] at HG
      go_wp2_with fail
      go_ret
      exact ⟨by rw [HG.out]; rfl, hW6.2.2⟩
    rw [decide_eq_false ht2] at HG
    go_wp2_with fail
    go_ret
    exact ⟨by rw [HG.out]; rfl, hW6.2.2⟩
  · rw [k3, k4] at HG
    go_wp2_with fail
    (with_reducible refine (CT.out _).mono ?_)
    rintro _ _ ⟨rfl, rfl⟩
    cases ig
    · go_wp2_with fail
      go_ret
      exact ⟨by rw [HG.out]; rfl, hW4.2.2⟩
    go_wp2_with fail
    (with_reducible refine (CW.out _).mono ?_)
    rintro _ W5 ⟨rfl, b5⟩
    have hW5 := hW4.below b5
    clear c0 c1 c2 c3 c4 c5 c6 c7 c8 hW4 b5 CW
    obtain ⟨c0, c1, c2, c3, c4, c5, c6, c7, c8⟩ := hW5.c
    cases zw
    case true =>
      go_wp2_with fail
      go_ret
      exact ⟨by rw [HG.out]; rfl, hW5.2.2⟩
    go_wp2_with fail
    (with_reducible refine (CN.out _).mono ?_)
    rintro _ W6 ⟨rfl, b6⟩
    have hW6 := hW5.below b6
    clear c0 c1 c2 c3 c4 c5 c6 c7 c8 hW5 b6 CN
    obtain ⟨c0, c1, c2, c3, c4, c5, c6, c7, c8⟩ := hW6.c
    cases zn
    case true =>
      go_wp2_with fail
      go_ret
      exact ⟨by rw [HG.out]; rfl, hW6.2.2⟩
    by_cases ht : o.time < 0
    · rw [decide_eq_true ht] at HG
      go_wp2_with fail
      go_ret
      exact ⟨by rw [HG.out]; rfl, hW6.2.2⟩
    rw [decide_eq_false ht] at HG
    by_cases ht2 : 1099511627776 ≤ o.time
    · rw [decide_eq_true ht2] at HG
      go_wp2_with fail
      go_ret
      exact ⟨by rw [HG.out]; rfl, hW6.2.2⟩
    rw [decide_eq_false ht2] at HG
    go_wp2_with fail
    go_ret
    exact ⟨by rw [HG.out]; rfl, hW6.2.2⟩
  · rw [k3, k4] at HG
    go_wp2_with fail
    (with_reducible refine (CW.out _).mono ?_)
    rintro _ W5 ⟨rfl, b5⟩
    have hW5 := hW4.below b5
    clear c0 c1 c2 c3 c4 c5 c6 c7 c8 hW4 b5 CW
    obtain ⟨c0, c1, c2, c3, c4, c5, c6, c7, c8⟩ := hW5.c
    cases zw
    case true =>
      go_wp2_with fail
      go_ret
      exact ⟨by rw [HG.out]; rfl, hW5.2.2⟩
    go_wp2_with fail
    (with_reducible refine (CN.out _).mono ?_)
    rintro _ W6 ⟨rfl, b6⟩
    have hW6 := hW5.below b6
    clear c0 c1 c2 c3 c4 c5 c6 c7 c8 hW5 b6 CN
    obtain ⟨c0, c1, c2, c3, c4, c5, c6, c7, c8⟩ := hW6.c
    cases zn
    case true =>
      go_wp2_with fail
      go_ret
      exact ⟨by rw [HG.out]; rfl, hW6.2.2⟩
    by_cases ht : o.time < 0
    · rw [decide_eq_true ht] at HG
      go_wp2_with fail
      go_ret
      exact ⟨by rw [HG.out]; rfl, hW6.2.2⟩
    rw [decide_eq_false ht] at HG
    by_cases ht2 : 1099511627776 ≤ o.time
    · rw [decide_eq_true ht2] at HG
      go_wp2_with fail
      go_ret
      exact ⟨by rw [HG.out]; rfl, hW6.2.2⟩
    rw [decide_eq_false ht2] at HG
    go_wp2_with fail
    go_ret
    exact ⟨by rw [HG.out]; rfl, hW6.2.2⟩
end Go.Proofs.YtmikfmcgddmplaaGreatDoor

/- object.Decode: its contract. -/
namespace Go.Proofs.YtmikfmcgddmplaaGreatDoor
open Go.RowKit

/-- what Decode answers -/
def decO (l : List UInt8) : Ob × Int :=
  if 8192 < l.length then (Ob.none, 1) else match rdNum l with
    | none => (Ob.none, 2)
    | some (n, r) => if kindB (n : Int) = false then (Ob.none, 4) else match rdFields (n : Int) r with
      | none => (Ob.none, 2)
      | some (o, rest) => if 0 < rest.length then (Ob.none, 2) else if good o ≠ 0 then (Ob.none, good o) else (o, 0)
def DEnd (w : World) (o : Ob) (e : Int) (x : Ending) (w' : World) : Prop := ∃ p, x = .returned (.tuple #[.agg (obArr o p), .int .i64 e]) ∧ ObIn w' w'.heap.size o p ∧ Below w.heap.size w w'
/-- and its slices lie in blocks behind the result's -/
def DEndA (w : World) (o : Ob) (e : Int) (x : Ending) (w' : World) : Prop := ∃ p, x = .returned (.tuple #[.agg (obArr o p), .int .i64 e]) ∧ ObIn w' w'.heap.size o p ∧ Below w.heap.size w w' ∧ Above w.heap.size p
/-- the result's block, still empty -/
def Dx (w W : World) : Prop := Arr W w.heap.size 53 zeroO ∧ Below w.heap.size w W
theorem Dx.below {w W W' : World} (h : Dx w W) (b : Below W.heap.size W W') : Dx w W' := ⟨h.1.below b h.1.lt, h.2.trans (b.mono h.2.size)⟩
theorem Dx.kept {w W W' : World} {g : Nat} (h : Dx w W) (k : W.grownBy W' (some g)) (hg : w.heap.size < g) : Dx w W' :=
  ⟨h.1.kept k (fun e => by cases e; omega), below_gb h.2 k (Nat.le_of_lt hg) h.2.size⟩
theorem noneIn (W : World) (B : Nat) : ObIn W B Ob.none atNil := ⟨Ens.nil _ _ _, Txs.nil _ _ _, Nat.le_refl _⟩
theorem above_nil (b : Nat) : Above b atNil := ⟨(fun _ e => by cases e), (fun _ e => by cases e)⟩
theorem Dx.noneA {w W : World} (h : Dx w W) (e : Int) : DEndA w Ob.none e (.returned (.tuple #[.agg (obArr Ob.none atNil), .int .i64 e])) (W.setRow w.heap.size (obArr Ob.none atNil)) :=
  ⟨atNil, rfl, noneIn _ _, below_setRow h.2 (Nat.le_refl _) _, above_nil _⟩
theorem Dx.none {w W : World} (h : Dx w W) (e : Int) : DEnd w Ob.none e (.returned (.tuple #[.agg (obArr Ob.none atNil), .int .i64 e])) (W.setRow w.heap.size (obArr Ob.none atNil)) :=
  ⟨atNil, rfl, noneIn _ _, below_setRow h.2 (Nat.le_refl _) _⟩
theorem DEnd_eq {w : World} {a : Ob × Int} {o : Ob} {e : Int} (h : a = (o, e)) {x : Ending} {w' : World} (k : DEnd w o e x w') : DEnd w a.1 a.2 x w' := by rw [h]; exact k
theorem DEndA_eq {w : World} {a : Ob × Int} {o : Ob} {e : Int} (h : a = (o, e)) {x : Ending} {w' : World} (k : DEndA w o e x w') : DEndA w a.1 a.2 x w' := by rw [h]; exact k

set_option maxRecDepth 100000 in
set_option maxHeartbeats 4000000 in
theorem Decode_far (s : ByteArray) (w : World) : Calls Tryz.prog 41 #[.string s] w (DEndA w (decO s.data.toList).1 (decO s.data.toList).2) := by
  obtain ⟨R, hR⟩ : ∃ R, R = decO s.data.toList := ⟨_, rfl⟩
  rw [← hR]
  unfold decO at hR
  have hl : s.data.toList.length = s.size := rfl
  rw [hl] at hR
  go_enter Tryz.func41, Tryz.ntmps41
  go_upto_region 1 with fail
  refine wp_forget (Dx w) ⟨Arr.new _ _ _, (Below.refl _ _).alloc (Nat.le_refl _) _⟩ ?_
  intro W hW
  by_cases hlong : 8192 < s.size
  · rw [if_pos hlong] at hR
    have hi : (8192 : Int) < s.size := by omega
    have HR := Lib.hid hR
    clear hR hlong
    go_wp2_with (refine wpList_store_row rfl 53 _ _ rfl w.heap.size (obArr Ob.none atNil) rfl rfl 53 zeroO hW.1 (obInfo _ _) rfl (obArr_one _ _) ?_)
    refine bodyPost_ret (v := .tuple #[.agg (obArr Ob.none atNil), .int .i64 1]) ?_ rfl (DEndA_eq HR.out (hW.noneA 1))
    rw [results_cell_tmp Tryz.results41]
    have hld := run_loadVar_row (P := Tryz.prog) _ _ _ 53 _ _ _ (hW.1.row (obArr Ob.none atNil)) Tryz.underlying53 rfl (obInfo Ob.none atNil)
    simp [asAddr, hld, Result.andThen]
  rw [if_neg hlong] at hR
  have hi : ¬ (8192 : Int) < s.size := by omega
  have HR0 := Lib.hid hR
  clear hR
  go_wp2_with fail
  (with_reducible refine (Read_any s W).mono ?_)
  rintro _ W1 ⟨rfl, hRd, b1⟩
  have hW1 := hW.below b1
  have hgr : w.heap.size < W.heap.size := hW.1.lt
  have hRS : RS W1 W.heap.size (some s.data.toList) := ⟨by rw [bs_of]; exact hRd, by omega⟩
  generalize W.heap.size = g at *
  clear hW b1 hRd W
  generalize s.data.toList = l at *
  clear hl
  have q := rs_num g (some l) W1 hRS
  have hn62 := stNum_lt (some l)
  cases hnum : rdNum l with
  | none =>
    have e1 : stNum (some l) = (0, none) := by simp [stNum, hnum]
    rw [e1] at q
    have hR := HR0.out
    rw [hnum] at hR
    have HR := Lib.hid hR
    clear hR HR0 e1 hnum hn62 hlong
    go_wp2_with fail
    (with_reducible refine q.mono ?_)
    clear q
    rintro _ W2 ⟨rfl, h2, k2⟩
    have hW2 := hW1.kept k2 hgr
    clear hW1 hRS k2
    go_wp2_with fail
    (with_reducible refine (rs_bad g none W2 h2).mono ?_)
    rintro _ _ ⟨⟨e, rfl, he⟩, rfl⟩
    rw [Option.isNone_none] at he
    go_wp2_with (refine wpList_store_row rfl 53 _ _ rfl w.heap.size (obArr Ob.none atNil) rfl rfl 53 zeroO hW2.1 (obInfo _ _) rfl (obArr_one _ _) ?_)
    refine bodyPost_ret (v := .tuple #[.agg (obArr Ob.none atNil), .int .i64 2]) ?_ rfl (DEndA_eq HR.out (hW2.noneA 2))
    rw [results_cell_tmp Tryz.results41]
    have hld := run_loadVar_row (P := Tryz.prog) _ _ _ 53 _ _ _ (hW2.1.row (obArr Ob.none atNil)) Tryz.underlying53 rfl (obInfo Ob.none atNil)
    simp [asAddr, hld, Result.andThen]
  | some y =>
    obtain ⟨n, r⟩ := y
    have e1 : stNum (some l) = (n, some r) := by simp [stNum, hnum]
    rw [e1] at q hn62
    have hR := HR0.out
    rw [hnum] at hR
    simp only at hR hn62
    clear HR0
    have CK := Lib.hid (isKind_any (n : Int))
    have HKc := Lib.hid (kindB_cases (k := (n : Int)))
    generalize hkb : kindB (n : Int) = kb at *
    have HR1 := Lib.hid hR
    clear e1 hnum hlong hkb hR
    go_wp2_with fail
    (with_reducible refine q.mono ?_)
    clear q
    rintro _ W2 ⟨rfl, h2, k2⟩
    have hW2 := hW1.kept k2 hgr
    clear hW1 hRS k2
    go_wp2_with fail
    (with_reducible refine (rs_bad g (some r) W2 h2).mono ?_)
    rintro _ _ ⟨⟨e, rfl, he⟩, rfl⟩
    rw [Option.isNone_some] at he
    go_wp2_with fail
    (with_reducible refine (CK.out W2).mono ?_)
    rintro _ _ ⟨rfl, rfl⟩
    clear CK
    cases kb with
    | false =>
      have hR := HR1.out
      rw [if_pos rfl] at hR
      clear HR1
      have HR := Lib.hid hR
      clear hR
      go_wp2_with (refine wpList_store_row rfl 53 _ _ rfl w.heap.size (obArr Ob.none atNil) rfl rfl 53 zeroO hW2.1 (obInfo _ _) rfl (obArr_one _ _) ?_)
      refine bodyPost_ret (v := .tuple #[.agg (obArr Ob.none atNil), .int .i64 4]) ?_ rfl (DEndA_eq HR.out (hW2.noneA 4))
      rw [results_cell_tmp Tryz.results41]
      have hld := run_loadVar_row (P := Tryz.prog) _ _ _ 53 _ _ _ (hW2.1.row (obArr Ob.none atNil)) Tryz.underlying53 rfl (obInfo Ob.none atNil)
      simp [asAddr, hld, Result.andThen]
    | true =>
      have hR := HR1.out
      rw [if_neg (by decide)] at hR
      clear HR1
      have CF := Lib.hid (readFields_any g r (n : Int) (HKc.out rfl) W2 h2)
      generalize rdFields (n : Int) r = res at *
      have HR := Lib.hid hR
      clear hR h2 HKc
      go_wp2_with fail
      (with_reducible refine CF.out.mono ?_)
      clear CF
      rintro _ W3 ⟨o, p, ok, rfl, k3, hres⟩
      have hW3 := hW2.kept k3 hgr
      obtain ⟨st, hst, HC⟩ : ∃ st, RS W3 g st ∧ Hid ((∃ r, res = some (o, r) ∧ ok = true ∧ st = some r ∧ ObIn W3 W3.heap.size o p ∧ Above w.heap.size p) ∨ (res = none ∧ (ok = false ∨ st = none))) := by
        rcases hres with ⟨r, e1, e2, h2, h3, h4⟩ | ⟨e1, st2, h2, e2⟩
        · exact ⟨some r, h2, .inl ⟨r, e1, e2, rfl, h3, h4.mono (by have := hW2.1.lt; omega)⟩⟩
        · exact ⟨st2, h2, .inr ⟨e1, e2⟩⟩
      clear hres hW2 k3
      have hlt3 := hW3.1.lt
      have hglt := hst.lt
      go_upto_region 10 with (refine wpList_store_row rfl 53 _ _ rfl W3.heap.size (obArr o p) rfl rfl 53 zeroO (Arr.new W3 _ _) (obInfo _ _) rfl (obArr_one _ _) ?_)
      have bel : Below W3.heap.size W3 ((W3.alloc (.cells zeroO 53)).setRow W3.heap.size (obArr o p)) := below_setRow ((Below.refl _ _).alloc (Nat.le_refl _) _) (Nat.le_refl _) _
      refine wp_forget (fun W => Dx w W ∧ Arr W W3.heap.size 53 (obArr o p) ∧ RS W g st ∧ Hid ((∃ r, res = some (o, r) ∧ ok = true ∧ st = some r ∧ ObIn W W.heap.size o p ∧ Above w.heap.size p) ∨ (res = none ∧ (ok = false ∨ st = none)))) ⟨hW3.below bel, (Arr.new W3 _ _).row _, hst.below bel, ?_⟩ ?_
      · rcases HC.out with ⟨r, e1, e2, e3, h4, h5⟩ | h4
        · exact .inl ⟨r, e1, e2, e3, (h4.below bel).mono bel.size, h5⟩
        · exact .inr h4
      clear bel HC hst hW3
      generalize W3.heap.size = b at *
      clear W3
      rintro W ⟨hW, hX, hst, HC⟩
      have HZ : ∀ st, RS W g st → Hid (∀ w, w = W → Calls Tryz.prog 72 #[.pointer (some ⟨g, 0, none⟩)] w fun x w' => (∃ e : Int, x = .returned (.int .i64 e) ∧ (e != 0) = st.isNone) ∧ w = w') := fun st h w e => by subst e; exact rs_bad g st w h
      rcases HC.out with ⟨rest, rfl, rfl, rfl, hO, hfar⟩ | ⟨rfl, hf⟩
      · clear HC HZ
        have HFar := Lib.hid hfar
        clear hfar
        go_wp2_with fail
        (with_reducible refine (rs_bad g (some rest) W hst).mono ?_)
        rintro _ _ ⟨⟨e, rfl, he⟩, rfl⟩
        rw [Option.isNone_some] at he
        have hRd : Rd W g (bs rest) 0 := by
          unfold RS at hst
          exact hst.1
        have hsz : (bs rest).size = rest.length := bs_size rest
        go_wp2_with fail
        (with_reducible refine (Left_any g (bs rest) 0 W hRd).mono ?_)
        rintro _ _ ⟨rfl, rfl⟩
        rw [hsz]
        clear hsz
        have hro : R = if 0 < rest.length then (Ob.none, 2) else if good o ≠ 0 then (Ob.none, good o) else (o, 0) := HR.out
        by_cases hrest : 0 < rest.length
        · rw [if_pos hrest] at hro
          have hri : (0 : Int) < rest.length := by omega
          have HR2 := Lib.hid hro
          clear hro HR
          go_wp2_with (refine wpList_store_row rfl 53 _ _ rfl w.heap.size (obArr Ob.none atNil) rfl rfl 53 zeroO hW.1 (obInfo _ _) rfl (obArr_one _ _) ?_)
          refine bodyPost_ret (v := .tuple #[.agg (obArr Ob.none atNil), .int .i64 2]) ?_ rfl (DEndA_eq HR2.out (hW.noneA 2))
          rw [results_cell_tmp Tryz.results41]
          have hld := run_loadVar_row (P := Tryz.prog) _ _ _ 53 _ _ _ (hW.1.row (obArr Ob.none atNil)) Tryz.underlying53 rfl (obInfo Ob.none atNil)
          simp [asAddr, hld, Result.andThen]
        · rw [if_neg hrest] at hro
          have hr0 : rest.length = 0 := by omega
          have CG := Lib.hid (Good_any o p W hO)
          have HR2 := Lib.hid hro
          clear hro HR
          rw [hr0]
          clear hrest
          go_wp2_with (refine wpList_load_row rfl 53 _ rfl b rfl 53 _ (0, 0) _ hX Tryz.underlying53 rfl (obInfo o p) ?_)
          (with_reducible refine CG.out.mono ?_)
          clear CG
          rintro _ W5 ⟨rfl, b5⟩
          have hW5 := hW.below b5
          have hX5 := hX.below b5 hX.lt
          have hO5 := (hO.below b5).mono b5.size
          clear hW hX hO hst b5
          generalize good o = G at *
          cases hG : G != 0
          case true =>
            have hG2 : G ≠ 0 := by simpa using hG
            have hro := HR2.out
            rw [if_pos hG2] at hro
            have HR3 := Lib.hid hro
            clear hro HR2 hG2
            go_wp2_with (refine wpList_store_row rfl 53 _ _ rfl w.heap.size (obArr Ob.none atNil) rfl rfl 53 zeroO hW5.1 (obInfo _ _) rfl (obArr_one _ _) ?_)
            refine bodyPost_ret (v := .tuple #[.agg (obArr Ob.none atNil), .int .i64 G]) ?_ rfl (DEndA_eq HR3.out (hW5.noneA G))
            rw [results_cell_tmp Tryz.results41]
            have hld := run_loadVar_row (P := Tryz.prog) _ _ _ 53 _ _ _ (hW5.1.row (obArr Ob.none atNil)) Tryz.underlying53 rfl (obInfo Ob.none atNil)
            simp [asAddr, hld, Result.andThen]
          have hG2 : G = 0 := by simpa using hG
          subst hG2
          have hro := HR2.out
          rw [if_neg (by simp)] at hro
          have HR3 := Lib.hid hro
          clear hro HR2 hG
          go_wp2_with (first | (refine wpList_load_row rfl 53 _ rfl b rfl 53 _ (0, 0) _ hX5 Tryz.underlying53 rfl (obInfo o p) ?_) | (refine wpList_store_row rfl 53 _ _ rfl w.heap.size (obArr o p) rfl rfl 53 zeroO hW5.1 (obInfo _ _) rfl (obArr_one _ _) ?_))
          refine bodyPost_ret (v := .tuple #[.agg (obArr o p), .int .i64 0]) ?_ rfl (DEndA_eq HR3.out ⟨p, rfl, ?_, below_setRow hW5.2 (Nat.le_refl _) _, HFar.out⟩)
          · rw [results_cell_tmp Tryz.results41]
            have hld := run_loadVar_row (P := Tryz.prog) _ _ _ 53 _ _ _ (hW5.1.row (obArr o p)) Tryz.underlying53 rfl (obInfo o p)
            simp [asAddr, hld, Result.andThen]
          · have hlt5 := hW5.1.lt
            exact ObIn.far hO5 (gb_row w.heap.size _) (HFar.out)
      · clear HC
        have HR2 : Hid (R = (Ob.none, 2)) := HR.out
        clear HR
        cases ok with
        | false =>
          clear hf HZ
          go_wp2_with (refine wpList_store_row rfl 53 _ _ rfl w.heap.size (obArr Ob.none atNil) rfl rfl 53 zeroO hW.1 (obInfo _ _) rfl (obArr_one _ _) ?_)
          refine bodyPost_ret (v := .tuple #[.agg (obArr Ob.none atNil), .int .i64 2]) ?_ rfl (DEndA_eq HR2.out (hW.noneA 2))
          rw [results_cell_tmp Tryz.results41]
          have hld := run_loadVar_row (P := Tryz.prog) _ _ _ 53 _ _ _ (hW.1.row (obArr Ob.none atNil)) Tryz.underlying53 rfl (obInfo Ob.none atNil)
          simp [asAddr, hld, Result.andThen]
        | true =>
          have hst2 : st = none := by rcases hf with h | h; cases h; exact h
          subst hst2
          clear hf HZ
          go_wp2_with fail
          (with_reducible refine (rs_bad g none W hst).mono ?_)
          rintro _ _ ⟨⟨e, rfl, he⟩, rfl⟩
          rw [Option.isNone_none] at he
          go_wp2_with (refine wpList_store_row rfl 53 _ _ rfl w.heap.size (obArr Ob.none atNil) rfl rfl 53 zeroO hW.1 (obInfo _ _) rfl (obArr_one _ _) ?_)
          refine bodyPost_ret (v := .tuple #[.agg (obArr Ob.none atNil), .int .i64 2]) ?_ rfl (DEndA_eq HR2.out (hW.noneA 2))
          rw [results_cell_tmp Tryz.results41]
          have hld := run_loadVar_row (P := Tryz.prog) _ _ _ 53 _ _ _ (hW.1.row (obArr Ob.none atNil)) Tryz.underlying53 rfl (obInfo Ob.none atNil)
          simp [asAddr, hld, Result.andThen]
theorem Decode_any (s : ByteArray) (w : World) : Calls Tryz.prog 41 #[.string s] w (DEnd w (decO s.data.toList).1 (decO s.data.toList).2) :=
  (Decode_far s w).mono fun _ _ ⟨p, h1, h2, h3, _⟩ => ⟨p, h1, h2, h3⟩
end Go.Proofs.YtmikfmcgddmplaaGreatDoor

/- Writing and reading an object's bytes undo one another: plain facts. -/
namespace Go.Proofs.YtmikfmcgddmplaaGreatDoor
open Go.RowKit

theorem rdText_txt (s : ByteArray) (h : s.size ≤ 4096) (r : List UInt8) : rdText (txt s ++ r) = some (s, r) := by
  unfold rdText txt
  rw [List.append_assoc, rdNum_num _ (by omega)]
  have e : s.data.toList.length = s.size := rfl
  simp only
  rw [if_pos ⟨h, by rw [List.length_append]; omega⟩, ← e, List.take_left', List.drop_left', bs_of] <;> rfl
theorem rdId_id (s : ByteArray) (h : s.size = 32) (r : List UInt8) : rdId (s.data.toList ++ r) = some (s, r) := by
  unfold rdId
  have e : s.data.toList.length = 32 := h
  rw [if_pos (by rw [List.length_append]; omega), List.take_left' e, List.drop_left' e, bs_of]
theorem rdPars_pars : ∀ (T : List ByteArray), (∀ e ∈ T, e.size = 32) → ∀ r, rdPars T.length (parsL T ++ r) = some (T, r)
  | [], _, r => rfl
  | p :: T, h, r => by
    rw [List.length_cons, rdPars, parsL, List.append_assoc, rdId_id p (h p (by simp))]
    simp only
    rw [rdPars_pars T (fun e he => h e (by simp [he])) r]
theorem dir_back (d : Bool) : (dirN d == 1) = d := by cases d <;> rfl
theorem rdEnt_ent (e : Ent) (h : e.name.size ≤ 60 ∧ e.id.size = 32) (r : List UInt8) : rdEnt (entL e ++ r) = some (e, r) := by
  unfold rdEnt entL
  have hd : dirN e.dir ≤ 1 := by unfold dirN; split <;> omega
  rw [List.append_assoc, List.append_assoc, rdText_txt _ (by omega)]
  simp only
  rw [rdNum_num _ (by omega)]
  simp only
  rw [rdId_id _ h.2]
  simp only
  rw [if_neg (by omega), dir_back]
theorem rdEnts_ents : ∀ (T : List Ent), (∀ e ∈ T, e.name.size ≤ 60 ∧ e.id.size = 32) → ∀ r, rdEnts T.length (entsL T ++ r) = some (T, r)
  | [], _, r => rfl
  | p :: T, h, r => by
    rw [List.length_cons, rdEnts, entsL, List.append_assoc, rdEnt_ent p (h p (by simp))]
    simp only
    rw [rdEnts_ents T (fun e he => h e (by simp [he])) r]
theorem stTxt_txt (s : ByteArray) (h : s.size ≤ 4096) (r : List UInt8) : stTxt (some (txt s ++ r)) = (s, some r) := by simp [stTxt, rdText_txt s h r]
theorem stNum_num (n : Nat) (h : n < 4611686018427387904) (r : List UInt8) : stNum (some (num n ++ r)) = (n, some r) := by simp [stNum, rdNum_num n h r]
theorem stId_id (s : ByteArray) (h : s.size = 32) (r : List UInt8) : stId (some (s.data.toList ++ r)) = (s, some r) := by simp [stId, rdId_id s h r]
theorem stPars_pars (T : List ByteArray) (hl : T.length ≤ 4) (h : ∀ e ∈ T, e.size = 32) (r : List UInt8) : stPars (some (num T.length ++ (parsL T ++ r))) = (T, some r) := by
  unfold stPars
  rw [stNum_num _ (by omega)]
  simp only
  rw [rdPars_pars T h r]
theorem nilB_eq {s : ByteArray} (h : nilB s = true) : s = ⟨#[]⟩ := (nilB_iff s).1 h
theorem rdFields_fields {o : Ob} (h : GoodF o) (r : List UInt8) : rdFields o.kind (fieldsL o ++ r) = some (o, r) := by
  have hs := h.stray
  have h1 := h.data
  have h2 := h.who
  have h3 := h.note
  have h4 := h.pars
  have h5 := parsE_all _ _ h.ids
  have h6 := entsB_all _ _ h.each
  have h7 := h.ents
  have h8 := h.tree
  have h9 := h.target
  have h10 := h.early
  have h11 := h.late
  have hk := h.kind
  clear h
  obtain ⟨k, data, ents, tree, pars, who, note, time, target⟩ := o
  simp only at *
  unfold strayB at hs
  unfold fieldsL rdFields
  simp only at *
  rcases hk with rfl | rfl | rfl | rfl
  · simp at hs
    obtain ⟨⟨⟨rfl, ⟨⟨b1, rfl⟩, rfl⟩⟩, b2⟩, b3, b4⟩ := hs
    rw [if_pos rfl, if_pos rfl, stTxt_txt _ h1]
    simp only
    rw [nilB_eq b1, nilB_eq b2, nilB_eq b3, nilB_eq b4]
  · simp at hs
    obtain ⟨⟨⟨b0, ⟨⟨b1, rfl⟩, rfl⟩⟩, b2⟩, b3, b4⟩ := hs
    rw [if_neg (by decide), if_pos rfl, if_neg (by decide), if_pos rfl]
    unfold rdEntsS
    rw [List.append_assoc, stNum_num _ (by omega)]
    simp only
    rw [rdEnts_ents ents h6 r]
    simp only
    rw [nilB_eq b0, nilB_eq b1, nilB_eq b2, nilB_eq b3, nilB_eq b4]
  · simp at hs
    obtain ⟨⟨b0, rfl⟩, b1⟩ := hs
    rw [if_neg (by decide), if_neg (by decide), if_pos rfl, if_neg (by decide), if_neg (by decide), if_pos rfl]
    simp only [List.append_assoc]
    rw [stId_id _ (h8 rfl)]
    simp only
    rw [stPars_pars _ h4 h5]
    simp only
    rw [stTxt_txt _ h2]
    simp only
    rw [stNum_num _ (by omega)]
    simp only
    rw [stTxt_txt _ h3]
    simp only
    rw [nilB_eq b0, nilB_eq b1, show ((time.toNat : Nat) : Int) = time from by omega]
  · simp at hs
    obtain ⟨⟨b0, rfl⟩, ⟨b1, rfl⟩, rfl⟩ := hs
    rw [if_neg (by decide), if_neg (by decide), if_neg (by decide), if_neg (by decide), if_neg (by decide), if_neg (by decide)]
    simp only [List.append_assoc]
    rw [stId_id _ (h9 rfl)]
    simp only
    rw [stTxt_txt _ h2]
    simp only
    rw [stTxt_txt _ h3]
    simp only
    rw [nilB_eq b0, nilB_eq b1]

theorem num_rd {l r : List UInt8} {n : Nat} (h : rdNum l = some (n, r)) : l = num n ++ r := by
  unfold rdNum at h
  cases hg : got l with
  | none => simp [hg] at h
  | some y =>
    obtain ⟨m, k⟩ := y
    simp only [hg, Option.some.injEq, Prod.mk.injEq] at h
    have hk := (got_some l m k hg).2.1
    rw [← h.1, hk, ← h.2, List.take_append_drop]
theorem text_rd {l r : List UInt8} {t : ByteArray} (h : rdText l = some (t, r)) : l = txt t ++ r := by
  unfold rdText at h
  cases hg : rdNum l with
  | none => simp [hg] at h
  | some y =>
    obtain ⟨n, r1⟩ := y
    simp only [hg] at h
    split at h
    · rename_i hc
      simp only [Option.some.injEq, Prod.mk.injEq] at h
      rw [num_rd hg, ← h.1, ← h.2]
      unfold txt
      rw [bs_size, bs_list, List.length_take, Nat.min_eq_left hc.2, List.append_assoc, List.take_append_drop]
    · cases h
theorem id_rd {l r : List UInt8} {t : ByteArray} (h : rdId l = some (t, r)) : l = t.data.toList ++ r := by
  unfold rdId at h
  split at h
  · simp only [Option.some.injEq, Prod.mk.injEq] at h
    rw [← h.1, ← h.2, bs_list, List.take_append_drop]
  · cases h
theorem pars_rd : ∀ (n : Nat) (l r : List UInt8) (T : List ByteArray), rdPars n l = some (T, r) → l = parsL T ++ r ∧ T.length = n
  | 0, l, r, T, h => by
    rw [rdPars] at h
    simp only [Option.some.injEq, Prod.mk.injEq] at h
    rw [← h.1, ← h.2]
    exact ⟨rfl, rfl⟩
  | n + 1, l, r, T, h => by
    rw [rdPars] at h
    cases h1 : rdId l with
    | none => simp [h1] at h
    | some y =>
      obtain ⟨p, r1⟩ := y
      simp only [h1] at h
      cases h2 : rdPars n r1 with
      | none => simp [h2] at h
      | some z =>
        obtain ⟨T2, r2⟩ := z
        simp only [h2, Option.some.injEq, Prod.mk.injEq] at h
        obtain ⟨e1, e2⟩ := pars_rd n r1 r2 T2 h2
        rw [← h.1, ← h.2, id_rd h1, e1, parsL, List.append_assoc, List.length_cons, e2]
        exact ⟨rfl, rfl⟩
theorem ent_rd {l r : List UInt8} {e : Ent} (h : rdEnt l = some (e, r)) : l = entL e ++ r := by
  unfold rdEnt at h
  cases h1 : rdText l with
  | none => simp [h1] at h
  | some y1 =>
    obtain ⟨nm, l1⟩ := y1
    simp only [h1] at h
    cases h2 : rdNum l1 with
    | none => simp [h2] at h
    | some y2 =>
      obtain ⟨d, l2⟩ := y2
      simp only [h2] at h
      cases h3 : rdId l2 with
      | none => simp [h3] at h
      | some y3 =>
        obtain ⟨id, l3⟩ := y3
        simp only [h3] at h
        split at h
        · cases h
        · rename_i hd
          simp only [Option.some.injEq, Prod.mk.injEq] at h
          rw [← h.1, ← h.2, text_rd h1, num_rd h2, id_rd h3]
          unfold entL
          have e : dirN (d == 1) = d := by
            obtain rfl | rfl : d = 0 ∨ d = 1 := by omega
            · rfl
            · rfl
          simp only [e, List.append_assoc]
theorem ents_rd : ∀ (n : Nat) (l r : List UInt8) (T : List Ent), rdEnts n l = some (T, r) → l = entsL T ++ r ∧ T.length = n
  | 0, l, r, T, h => by
    rw [rdEnts] at h
    simp only [Option.some.injEq, Prod.mk.injEq] at h
    rw [← h.1, ← h.2]
    exact ⟨rfl, rfl⟩
  | n + 1, l, r, T, h => by
    rw [rdEnts] at h
    cases h1 : rdEnt l with
    | none => simp [h1] at h
    | some y =>
      obtain ⟨p, r1⟩ := y
      simp only [h1] at h
      cases h2 : rdEnts n r1 with
      | none => simp [h2] at h
      | some z =>
        obtain ⟨T2, r2⟩ := z
        simp only [h2, Option.some.injEq, Prod.mk.injEq] at h
        obtain ⟨e1, e2⟩ := ents_rd n r1 r2 T2 h2
        rw [← h.1, ← h.2, ent_rd h1, e1, entsL, List.append_assoc, List.length_cons, e2]
        exact ⟨rfl, rfl⟩
theorem stTxt_some {s : St} {r : List UInt8} (h : (stTxt s).2 = some r) : ∃ l, s = some l ∧ l = txt (stTxt s).1 ++ r := by
  cases s with
  | none => cases h
  | some l =>
    refine ⟨l, rfl, ?_⟩
    cases h1 : rdText l with
    | none => simp [stTxt, h1] at h
    | some y =>
      obtain ⟨t, r1⟩ := y
      simp [stTxt, h1] at h
      subst h
      rw [show stTxt (some l) = (t, some r1) from by simp [stTxt, h1]]
      exact text_rd h1
theorem stNum_some {s : St} {r : List UInt8} (h : (stNum s).2 = some r) : ∃ l, s = some l ∧ l = num (stNum s).1 ++ r := by
  cases s with
  | none => cases h
  | some l =>
    refine ⟨l, rfl, ?_⟩
    cases h1 : rdNum l with
    | none => simp [stNum, h1] at h
    | some y =>
      obtain ⟨t, r1⟩ := y
      simp [stNum, h1] at h
      subst h
      rw [show stNum (some l) = (t, some r1) from by simp [stNum, h1]]
      exact num_rd h1
theorem stId_some {s : St} {r : List UInt8} (h : (stId s).2 = some r) : ∃ l, s = some l ∧ l = (stId s).1.data.toList ++ r := by
  cases s with
  | none => cases h
  | some l =>
    refine ⟨l, rfl, ?_⟩
    cases h1 : rdId l with
    | none => simp [stId, h1] at h
    | some y =>
      obtain ⟨t, r1⟩ := y
      simp [stId, h1] at h
      subst h
      rw [show stId (some l) = (t, some r1) from by simp [stId, h1]]
      exact id_rd h1
theorem stPars_some {s : St} {r : List UInt8} (h : (stPars s).2 = some r) : ∃ l, s = some l ∧ l = num (stPars s).1.length ++ (parsL (stPars s).1 ++ r) := by
  unfold stPars at *
  cases h1 : (stNum s).2 with
  | none => simp [h1] at h
  | some l1 =>
    obtain ⟨l, e1, e2⟩ := stNum_some h1
    refine ⟨l, e1, ?_⟩
    simp only [h1] at h ⊢
    cases h2 : rdPars (stNum s).1 l1 with
    | none => simp [h2] at h
    | some y =>
      obtain ⟨T, r1⟩ := y
      simp only [h2, Option.some.injEq] at h ⊢
      obtain ⟨e3, e4⟩ := pars_rd _ _ _ _ h2
      rw [e4, ← h, ← e3]
      exact e2
theorem fields_rd {k : Int} {l r : List UInt8} {o : Ob} (hk : k = 1 ∨ k = 2 ∨ k = 3 ∨ k = 4) (h : rdFields k l = some (o, r)) : l = fieldsL o ++ r ∧ o.kind = k := by
  unfold rdFields at h
  rcases hk with rfl | rfl | rfl | rfl
  · rw [if_pos rfl] at h
    cases h1 : (stTxt (some l)).2 with
    | none => simp [h1] at h
    | some r1 =>
      simp only [h1, Option.some.injEq, Prod.mk.injEq] at h
      obtain ⟨l', e1, e2⟩ := stTxt_some h1
      cases e1
      rw [← h.1, ← h.2]
      exact ⟨e2, rfl⟩
  · rw [if_neg (by decide), if_pos rfl] at h
    unfold rdEntsS at h
    cases h1 : (stNum (some l)).2 with
    | none => simp [h1] at h
    | some r1 =>
      simp only [h1] at h
      obtain ⟨l', e1, e2⟩ := stNum_some h1
      cases e1
      cases h2 : rdEnts (stNum (some l)).1 r1 with
      | none => simp [h2] at h
      | some y =>
        obtain ⟨L, r2⟩ := y
        simp only [h2, Option.some.injEq, Prod.mk.injEq] at h
        obtain ⟨e3, e4⟩ := ents_rd _ _ _ _ h2
        rw [← h.1, ← h.2]
        refine ⟨?_, rfl⟩
        unfold fieldsL
        rw [if_neg (by simp), if_pos rfl]
        simp only
        rw [e4, List.append_assoc, ← e3]
        exact e2
  · rw [if_neg (by decide), if_neg (by decide), if_pos rfl] at h
    cases h5 : (stTxt (stNum (stTxt (stPars (stId (some l)).2).2).2).2).2 with
    | none => simp [h5] at h
    | some r5 =>
      simp only [h5, Option.some.injEq, Prod.mk.injEq] at h
      obtain ⟨l4, e4, f5⟩ := stTxt_some h5
      obtain ⟨l3, e3, f4⟩ := stNum_some e4
      obtain ⟨l2, e2, f3⟩ := stTxt_some e3
      obtain ⟨l1, e1, f2⟩ := stPars_some e2
      obtain ⟨l0, e0, f1⟩ := stId_some e1
      cases e0
      rw [← h.1, ← h.2]
      refine ⟨?_, rfl⟩
      unfold fieldsL
      rw [if_neg (by simp), if_neg (by simp), if_pos rfl]
      simp only [List.append_assoc, Int.toNat_natCast]
      rw [← f5, ← f4, ← f3, ← f2]
      exact f1
  · rw [if_neg (by decide), if_neg (by decide), if_neg (by decide)] at h
    cases h5 : (stTxt (stTxt (stId (some l)).2).2).2 with
    | none => simp [h5] at h
    | some r5 =>
      simp only [h5, Option.some.injEq, Prod.mk.injEq] at h
      obtain ⟨l4, e4, f5⟩ := stTxt_some h5
      obtain ⟨l3, e3, f4⟩ := stTxt_some e4
      obtain ⟨l0, e0, f1⟩ := stId_some e3
      cases e0
      rw [← h.1, ← h.2]
      refine ⟨?_, rfl⟩
      unfold fieldsL
      rw [if_neg (by simp), if_neg (by simp), if_neg (by simp)]
      simp only [List.append_assoc]
      rw [← f5, ← f4]
      exact f1

/-- what has bytes is read as it was -/
theorem dec_enc {o : Ob} (hg : good o = 0) (hl : (encL o).length ≤ 8192) : decO (encL o) = (o, 0) := by
  have hF := good_facts hg
  have hk := hF.kind
  have e := rdFields_fields hF []
  rw [List.append_nil] at e
  unfold decO
  rw [if_neg (by omega)]
  unfold encL
  rw [rdNum_num _ (by omega)]
  simp only
  rw [show ((o.kind.toNat : Nat) : Int) = o.kind from by omega, if_neg (by unfold kindB; rcases hk with h | h | h | h <;> rw [h] <;> decide), e]
  simp only
  rw [if_neg (by simp), if_neg (by simp [hg])]
/-- what is read has just these bytes -/
theorem dec_only {l : List UInt8} (h : (decO l).2 = 0) : l = encL (decO l).1 ∧ good (decO l).1 = 0 ∧ l.length ≤ 8192 := by
  obtain ⟨R, hR⟩ : ∃ R, R = decO l := ⟨_, rfl⟩
  rw [← hR] at h ⊢
  unfold decO at hR
  split at hR
  · rw [hR] at h; cases h
  · rename_i hl
    cases h1 : rdNum l with
    | none => rw [h1] at hR; rw [hR] at h; cases h
    | some y =>
      obtain ⟨n, r⟩ := y
      rw [h1] at hR
      simp only at hR
      split at hR
      · rw [hR] at h; cases h
      · rename_i hk
        have hk2 : kindB (n : Int) = true := by cases hq : kindB (n : Int) with | false => exact absurd hq hk | true => rfl
        have hkc := kindB_cases hk2
        cases h2 : rdFields (n : Int) r with
        | none => rw [h2] at hR; rw [hR] at h; cases h
        | some z =>
          obtain ⟨o, rest⟩ := z
          rw [h2] at hR
          simp only at hR
          split at hR
          · rw [hR] at h; cases h
          · rename_i h3
            split at hR
            · rename_i h4; rw [hR] at h; exact absurd h h4
            · rename_i h4
              rw [hR]
              obtain ⟨e1, e2⟩ := fields_rd hkc h2
              have hr0 : rest = [] := List.eq_nil_of_length_eq_zero (by omega)
              rw [hr0, List.append_nil] at e1
              refine ⟨?_, by simpa using h4, by omega⟩
              simp only
              unfold encL
              rw [← e1, e2, Int.toNat_natCast]
              exact num_rd h1
theorem dec_none {l : List UInt8} (h : (decO l).2 ≠ 0) : (decO l).1 = Ob.none := by
  obtain ⟨R, hR⟩ : ∃ R, R = decO l := ⟨_, rfl⟩
  rw [← hR] at h ⊢
  unfold decO at hR
  split at hR
  · rw [hR]
  · cases h1 : rdNum l with
    | none => rw [h1] at hR; rw [hR]
    | some y =>
      obtain ⟨n, r⟩ := y
      rw [h1] at hR
      simp only at hR
      split at hR
      · rw [hR]
      · cases h2 : rdFields (n : Int) r with
        | none => rw [h2] at hR; rw [hR]
        | some z =>
          obtain ⟨o, rest⟩ := z
          rw [h2] at hR
          simp only at hR
          split at hR
          · rw [hR]
          · split at hR
            · rw [hR]
            · rw [hR] at h; exact absurd rfl h
/-- nothing is read of bytes with more behind -/
theorem dec_more {o : Ob} (hg : good o = 0) (x : List UInt8) (hx : x ≠ []) : (decO (encL o ++ x)).2 ≠ 0 := by
  intro h
  obtain ⟨e, hg2, hl⟩ := dec_only h
  generalize (decO (encL o ++ x)).1 = o2 at *
  have hF := good_facts hg
  have hF2 := good_facts hg2
  have k1 := hF.kind
  have k2 := hF2.kind
  have e1 := rdFields_fields hF x
  have e2 := rdFields_fields hF2 []
  rw [List.append_nil] at e2
  have n1 : rdNum (encL o ++ x) = some (o.kind.toNat, fieldsL o ++ x) := by unfold encL; rw [List.append_assoc, rdNum_num _ (by omega)]
  have n2 : rdNum (encL o2) = some (o2.kind.toNat, fieldsL o2) := by unfold encL; rw [rdNum_num _ (by omega)]
  rw [e, n2] at n1
  simp only [Option.some.injEq, Prod.mk.injEq] at n1
  have ek : o2.kind = o.kind := by have := n1.1; omega
  rw [← n1.2, ← ek, e2] at e1
  simp only [Option.some.injEq, Prod.mk.injEq] at e1
  exact hx e1.2.symm
end Go.Proofs.YtmikfmcgddmplaaGreatDoor

/- object.Encode: its contract. -/
namespace Go.Proofs.YtmikfmcgddmplaaGreatDoor
open Go.RowKit

/-- an object's box beside a writer -/
def Bw (g b : Nat) (o : Ob) (p : At) (W : World) : Prop := Arr W b 53 (obArr o p) ∧ b ≠ g ∧ b < W.heap.size
theorem Bw.kept {g b : Nat} {o : Ob} {p : At} {W W' : World} (h : Bw g b o p W) (k : W.grownBy W' (some g)) : Bw g b o p W' :=
  ⟨h.1.kept k (fun e => h.2.1 (by cases e; rfl)), h.2.1, Nat.lt_of_lt_of_le h.2.2 k.size⟩
theorem encL_len {o : Ob} (h : GoodF o) : (encL o).length ≤ 100000 := by
  have n1 := num_len3 o.pars.length (by have := h.pars; omega)
  have n2 := parsL_len o.pars (parsE_all _ _ h.ids)
  have n3 := txt_len o.who h.who
  have n4 := txt_len o.note h.note
  have n5 := txt_len o.data h.data
  have n6 := num_len9 o.time.toNat (by have := h.late; omega)
  have n7 := num_len3 o.ents.length (by have := h.ents; omega)
  have n8 := entsL_len o.ents (entsB_all _ _ h.each)
  have n9 := num_len3 o.kind.toNat (by have := h.kind; omega)
  have := h.ents
  have := h.pars
  unfold encL fieldsL
  rcases h.kind with hk | hk | hk | hk
  · rw [if_pos hk, List.length_append]; omega
  · rw [if_neg (by omega), if_pos hk]; simp only [List.length_append]; omega
  · rw [if_neg (by omega), if_neg (by omega), if_pos hk]
    have e : o.tree.data.toList.length = 32 := h.tree hk
    simp only [List.length_append]; omega
  · rw [if_neg (by omega), if_neg (by omega), if_neg (by omega)]
    have e : o.target.data.toList.length = 32 := h.target hk
    simp only [List.length_append]; omega
end Go.Proofs.YtmikfmcgddmplaaGreatDoor
