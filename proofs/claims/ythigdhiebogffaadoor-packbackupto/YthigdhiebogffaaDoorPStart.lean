/- Texts in one: OIds, PStart. -/
import Derived.Test.YthigdhiebogffaaDoorBw
import Derived.Test.YthigdhiebogffaaDoorSum
import Derived.Test.YthigdhiebogffaaDoorIMap
import Derived.Deep.RegionWith
import Derived.Deep.RegionLaw
import Derived.StillTailTactics
/- keep.objects, keep.ObjectIds: the walks. -/
namespace Go.Proofs.YthigdhiebogffaaDoor
open Go.RowKit

theorem Id_any (b : ByteArray) (hb : b.size < 1152921504606846976) (w : World) (ht : Tab w) :
    Calls Tryd.prog 41 #[.string b] w fun e w' => e = .returned (.string (bs (sha b.data.toList))) ∧ Below w.heap.size w w' := by
  have C := Lib.hid (Sum_any b hb w ht)
  generalize bs (sha b.data.toList) = S at *
  go_enter Tryd.func41, Tryd.ntmps41
  go_wp2_with fail
  (with_reducible refine C.out.mono ?_)
  rintro _ w1 ⟨rfl, b1⟩
  go_wp2_with fail
  go_ret
  exact ⟨rfl, b1⟩
theorem enc_inj {o q : Ob} (h1 : encE o = 0) (h2 : encE q = 0) (h : encS o = encS q) : o = q := by
  have e1 := enc_back h1
  have e2 := enc_back h2
  rw [h, e2] at e1
  simp only [Prod.mk.injEq, and_true] at e1
  exact e1.symm
/-- two boxed objects, and the table -/
structure Bt (w : World) (o q : Ob) (p p' : At) (W : World) : Prop where
  bs : Bs w o q p p' W
  tab : Tab W
theorem Bt.below {w W W' : World} {o q : Ob} {p p' : At} (h : Bt w o q p p' W) (b : Below W.heap.size W W') : Bt w o q p p' W' := ⟨h.bs.below b, h.tab.below b h.tab.1⟩

end Go.Proofs.YthigdhiebogffaaDoor

/- pack.readStart: its contract. -/
namespace Go.Proofs.YthigdhiebogffaaDoor
open Go.RowKit

/-- where readStart stands: the result's block, the representation's block, the reader -/
structure Sb (w : World) (g k : Nat) (p : Rp) (st : St) (W : World) : Prop where
  res : Arr W w.heap.size 111 zeroR
  box : Arr W k 111 (rpArr p)
  rd : RL W g st
  gb : w.grownBy W (some g)
  hk : w.heap.size < k
  hg : g < w.heap.size
theorem Sb.call {w W W' : World} {g k : Nat} {p : Rp} {st st' : St} (h : Sb w g k p st W) (k1 : W.grownBy W' (some g)) (r : RL W' g st') : Sb w g k p st' W' :=
  ⟨h.res.kept k1 (fun e => by have := Option.some.inj e; have := h.hg; omega), h.box.kept k1 (fun e => by have := Option.some.inj e; have := h.hk; have := h.hg; omega), r, gb_trans h.gb k1, h.hk, h.hg⟩
theorem Sb.put {w W : World} {g k : Nat} {p p' : Rp} {st : St} (h : Sb w g k p st W) (i : Nat) (v : Value) (e : (rpArr p).setIfInBounds i v = rpArr p') : Sb w g k p' st (W.setCell ⟨k, i, none⟩ v) := by
  have k1 : W.grownBy (W.setCell ⟨k, i, none⟩ v) (some k) := gb_set k i v
  have h1 := h.hk
  have h2 := h.hg
  exact ⟨h.res.kept k1 (fun e => by have := Option.some.inj e; omega), by rw [← e]; exact h.box.put i v, h.rd.kept k1 (fun e => by have := Option.some.inj e; omega), gb_new h.gb k1 (by omega), h1, h2⟩
theorem RL.drew {w : World} {g : Nat} {st : St} (h : RL w g st) : RL w.drew g st := by
  cases st with
  | none => obtain ⟨s, h⟩ := h; exact ⟨s, Arr.drew h⟩
  | some l => exact ⟨Arr.drew h.1, h.2⟩
theorem Sb.cells {w W : World} {g k : Nat} {p : Rp} {st : St} (h : Sb w g k p st W) : W.cell? ⟨k, 0, none⟩ = some (.int .i64 p.way) ∧ W.cell? ⟨k, 1, none⟩ = some (.int .i64 p.index) ∧ W.cell? ⟨k, 2, none⟩ = some (.string p.id) ∧ W.cell? ⟨k, 3, none⟩ = some (.string p.bytes) :=
  ⟨h.box.cell 0, h.box.cell 1, h.box.cell 2, h.box.cell 3⟩
theorem Sb.cellr {w W : World} {g k : Nat} {p : Rp} {st : St} (h : Sb w g k p st W) :
    W.cell? ⟨w.heap.size, 0, none⟩ = some (.int .i64 0) ∧ W.cell? ⟨w.heap.size, 1, none⟩ = some (.int .i64 0) ∧ W.cell? ⟨w.heap.size, 2, none⟩ = some (.string ⟨#[]⟩) ∧ W.cell? ⟨w.heap.size, 3, none⟩ = some (.string ⟨#[]⟩) ∧
    W.frozen? ⟨w.heap.size, 0, none⟩ = false ∧ W.frozen? ⟨w.heap.size, 1, none⟩ = false ∧ W.frozen? ⟨w.heap.size, 2, none⟩ = false ∧ W.frozen? ⟨w.heap.size, 3, none⟩ = false :=
  ⟨h.res.cell 0, h.res.cell 1, h.res.cell 2, h.res.cell 3, h.res.free 0, h.res.free 1, h.res.free 2, h.res.free 3⟩
def SEnd (w : World) (g : Nat) (p : Rp) (st : St) (x : Ending) (w' : World) : Prop :=
  x = .returned (.tuple #[.agg (rpArr p), .int .i64 (stE st)]) ∧ (∀ l, st = some l → RL w' g (some l)) ∧ w.grownBy w' (some g)
theorem Sb.fin {w W : World} {g k : Nat} {p : Rp} {st : St} (h : Sb w g k p st W) {p' : Rp} :
    let W' := ((((W.setCell ⟨w.heap.size, 0, none⟩ (.int .i64 p'.way)).setCell ⟨w.heap.size, 1, none⟩ (.int .i64 p'.index)).setCell ⟨w.heap.size, 2, none⟩ (.string p'.id)).setCell ⟨w.heap.size, 3, none⟩ (.string p'.bytes)).drew
    Arr W' w.heap.size 111 (rpArr p') ∧ RL W' g st ∧ w.grownBy W' (some g) := by
  have h2 := h.hg
  have a1 := ((((h.res.put 0 (.int .i64 p'.way)).put 1 (.int .i64 p'.index)).put 2 (.string p'.id)).put 3 (.string p'.bytes)).drew
  have hne : some g ≠ some w.heap.size := fun e => by have := Option.some.inj e; omega
  have k1 := gb_trans (gb_trans (gb_trans (gb_set (w := W) w.heap.size 0 (.int .i64 p'.way)) (gb_set w.heap.size 1 (.int .i64 p'.index))) (gb_set w.heap.size 2 (.string p'.id))) (gb_set w.heap.size 3 (.string p'.bytes))
  have k2 := gb_new h.gb k1 (Nat.le_refl _)
  exact ⟨a1, (h.rd.kept k1 hne).drew, ⟨k2.os, k2.tape, k2.output, k2.size, k2.block⟩⟩

theorem at_world {Q : World → Prop} {W : World} (R : World → Prop) (hR : R W) (h : ∀ W', R W' → Q W') : Q W := h W hR

set_option maxRecDepth 100000 in
set_option maxHeartbeats 1000000 in
theorem readStart_any (g : Nat) (st : St) (w : World) (h : RL w g st) : Calls Tryd.prog 65 #[.pointer (some ⟨g, 0, none⟩)] w (SEnd w g (stStart st).1 (stStart st).2) := by
  have hg := h.lt
  obtain ⟨R, hR⟩ : ∃ R, R = stStart st := ⟨_, rfl⟩
  rw [← hR]
  unfold stStart at hR
  have hn := stNum_lt st
  have q0 : Hid (∀ W, RL W g st → Calls Tryd.prog 22 #[.pointer (some ⟨g, 0, none⟩)] W (Rle W g (.int .i64 ((stNum st).1 : Int)) (stNum st).2)) := fun W => rl_num g st W
  generalize (stNum st).1 = n at *
  generalize (stNum st).2 = s1 at *
  have HR := Lib.hid hR
  clear hR
  go_enter Tryd.func65, Tryd.ntmps65
  go_upto_region 1 with fail
  refine wp_forget (fun W => Arr W w.heap.size 111 zeroR ∧ RL W g st ∧ w.grownBy W (some g)) (by exact ⟨Arr.new _ _ _, h.kept (gb_alloc (r := none) _) (by simp), gb_alloc _⟩) ?_
  clear h
  rintro W ⟨hr, hR, hgb⟩
  go_wp2_with fail
  (with_reducible refine (q0.out W hR).mono ?_)
  clear q0
  rintro _ W1 ⟨rfl, h1, k1⟩
  have hr1 := hr.kept k1 (fun e => by have := Option.some.inj e; omega)
  have gb1 := gb_trans hgb k1
  clear hr hR hgb k1 W
  have S0 : Sb w g W1.heap.size ⟨n, 0, ⟨#[]⟩, ⟨#[]⟩⟩ s1 ((W1.alloc (.cells zeroR 111)).setRow W1.heap.size (rpArr ⟨n, 0, ⟨#[]⟩, ⟨#[]⟩⟩)) := by
    have a1 : W1.grownBy (W1.alloc (.cells zeroR 111)) none := gb_alloc _
    have a2 : (W1.alloc (.cells zeroR 111)).grownBy ((W1.alloc (.cells zeroR 111)).setRow W1.heap.size (rpArr ⟨n, 0, ⟨#[]⟩, ⟨#[]⟩⟩)) (some W1.heap.size) := gb_row _ _
    have hl := hr1.lt
    have hl2 := h1.lt
    exact ⟨(hr1.kept a1 (by simp)).kept a2 (fun e => by have := Option.some.inj e; omega), (Arr.new _ _ _).row _, (h1.kept a1 (by simp)).kept a2 (fun e => by have := Option.some.inj e; omega), gb_new (gb_trans gb1 (gb_alloc _)) a2 (by omega), hl, hg⟩
  go_upto_region 3 with (refine wpList_store_row rfl 111 _ _ rfl W1.heap.size (rpArr ⟨n, 0, ⟨#[]⟩, ⟨#[]⟩⟩) rfl rfl 111 zeroR (Arr.new W1 _ _) (rpInfo _) rfl (rpArr_one _) ?_)
  refine wp_forget (Sb w g W1.heap.size ⟨n, 0, ⟨#[]⟩, ⟨#[]⟩⟩ s1) S0 ?_
  clear S0 hr1 gb1 h1
  generalize W1.heap.size = k
  clear W1
  intro W S0
  have c0 : W.cell? ⟨k, 0, none⟩ = some (.int .i64 (n : Int)) := S0.box.cell 0
  by_cases n0 : n = 0
  · subst n0
    have hR := HR.out
    rw [if_pos rfl] at hR
    clear HR
    have q1 := Lib.hid (rl_num g s1 W S0.rd)
    generalize (stNum s1).1 = m at *
    generalize (stNum s1).2 = s2 at *
    have HR := Lib.hid hR
    clear hR
    go_wp2_with fail
    (with_reducible refine q1.out.mono ?_)
    clear q1
    rintro _ W2 ⟨rfl, r2, k2⟩
    have S2 := S0.call k2 r2
    clear S0 r2 k2 c0 W
    have q1 := Lib.hid (rl_take g m s2 W2 S2.rd)
    generalize (stTake m s2).1 = b at *
    generalize (stTake m s2).2 = s3 at *
    go_wp2_with fail
    (with_reducible refine q1.out.mono ?_)
    clear q1
    rintro _ W3 ⟨rfl, r3, k3⟩
    have S0 := S2.call k3 r3
    clear S2 r3 k3 W2
    have S4 := S0.put (p' := ⟨0, 0, ⟨#[]⟩, b⟩) 3 (.string b) rfl
    have f3 := S0.box.free 3
    have c3 : W3.cell? ⟨k, 3, none⟩ = some (.string ⟨#[]⟩) := S0.box.cell 3
    go_upto_region 9 with fail
    refine wp_forget (Sb w g k ⟨0, 0, ⟨#[]⟩, b⟩ s3) S4 ?_
    clear S4 f3 c3
    intro W S
    clear S0
    have qb := Lib.hid (rl_bad g s3 W.drew S.rd.drew)
    obtain ⟨c0, c1, c2, c3⟩ := S.cells
    obtain ⟨r0, r1, r2, r3, f0, f1, f2, f3⟩ := S.cellr
    go_region_with (go_at_call 23; (with_reducible refine qb.out.mono ?_); rintro _ _ ⟨rfl, rfl⟩)
    all_goals
      go_wp2_with fail
      refine at_world (fun W' => Arr W' w.heap.size 111 (rpArr ⟨0, 0, ⟨#[]⟩, b⟩) ∧ RL W' g s3 ∧ w.grownBy W' (some g)) (by exact S.fin (p' := ⟨0, 0, ⟨#[]⟩, b⟩)) ?_
      intro W' hF
      refine bodyPost_ret (v := .tuple #[.agg (rpArr ⟨0, 0, ⟨#[]⟩, b⟩), .int .i64 (stE s3)]) ?_ rfl ⟨by rw [HR.out], (fun l e => by rw [HR.out] at e; rw [← show s3 = some l from e]; exact hF.2.1), hF.2.2⟩
      rw [results_cell_tmp Tryd.results65]
      have hld := run_loadVar_row (P := Tryd.prog) _ _ _ 111 _ _ _ hF.1 Tryd.underlying111 rfl (rpInfo _)
      simp [asAddr, hld, Result.andThen, Act.put]
  have e0 : ((n : Int) == 0) = false := by rw [beq_eq_false_iff_ne]; omega
  by_cases n1 : n = 1
  · subst n1
    have hR := HR.out
    rw [if_neg n0, if_pos rfl] at hR
    clear HR n0 e0 hn
    have q1 := Lib.hid (rl_num g s1 W S0.rd)
    generalize (stNum s1).1 = m at *
    generalize (stNum s1).2 = s2 at *
    have HR := Lib.hid hR
    clear hR
    go_wp2_with fail
    (with_reducible refine q1.out.mono ?_)
    clear q1
    rintro _ W3 ⟨rfl, r2, k2⟩
    have S0 := S0.call k2 r2
    clear r2 k2
    have S4 := S0.put (p' := ⟨1, m, ⟨#[]⟩, ⟨#[]⟩⟩) 1 (.int .i64 m) rfl
    have f3 := S0.box.free 1
    have c3 : W3.cell? ⟨k, 1, none⟩ = some (.int .i64 0) := S0.box.cell 1
    go_upto_region 9 with fail
    refine wp_forget (Sb w g k ⟨1, m, ⟨#[]⟩, ⟨#[]⟩⟩ s2) S4 ?_
    clear S4 f3 c3
    intro W S
    clear S0
    have qb := Lib.hid (rl_bad g s2 W.drew S.rd.drew)
    obtain ⟨c0, c1, c2, c3⟩ := S.cells
    obtain ⟨r0, r1, r2, r3, f0, f1, f2, f3⟩ := S.cellr
    go_region_with (go_at_call 23; (with_reducible refine qb.out.mono ?_); rintro _ _ ⟨rfl, rfl⟩)
    all_goals
      go_wp2_with fail
      refine at_world (fun W' => Arr W' w.heap.size 111 (rpArr ⟨1, m, ⟨#[]⟩, ⟨#[]⟩⟩) ∧ RL W' g s2 ∧ w.grownBy W' (some g)) (by exact S.fin (p' := ⟨1, m, ⟨#[]⟩, ⟨#[]⟩⟩)) ?_
      intro W' hF
      refine bodyPost_ret (v := .tuple #[.agg (rpArr ⟨1, m, ⟨#[]⟩, ⟨#[]⟩⟩), .int .i64 (stE s2)]) ?_ rfl ⟨by rw [HR.out], (fun l e => by rw [HR.out] at e; rw [← show s2 = some l from e]; exact hF.2.1), hF.2.2⟩
      rw [results_cell_tmp Tryd.results65]
      have hld := run_loadVar_row (P := Tryd.prog) _ _ _ 111 _ _ _ hF.1 Tryd.underlying111 rfl (rpInfo _)
      simp [asAddr, hld, Result.andThen, Act.put]
  have e1 : ((n : Int) == 1) = false := by rw [beq_eq_false_iff_ne]; omega
  by_cases n2 : n = 2
  · subst n2
    have hR := HR.out
    rw [if_neg n0, if_neg n1, if_pos rfl] at hR
    clear HR n0 e0 n1 e1 hn
    have q1 : Hid (Calls Tryd.prog 81 #[.pointer (some ⟨g, 0, none⟩), .int .i64 32] W (Rle W g (.string (stTake 32 s1).1) (stTake 32 s1).2)) := rl_take g 32 s1 W S0.rd
    generalize (stTake 32 s1).1 = b at *
    generalize (stTake 32 s1).2 = s2 at *
    have HR := Lib.hid hR
    clear hR
    go_wp2_with fail
    (with_reducible refine q1.out.mono ?_)
    clear q1
    rintro _ W3 ⟨rfl, r2, k2⟩
    have S0 := S0.call k2 r2
    clear r2 k2
    have S4 := S0.put (p' := ⟨2, 0, b, ⟨#[]⟩⟩) 2 (.string b) rfl
    have f3 := S0.box.free 2
    have c3 : W3.cell? ⟨k, 2, none⟩ = some (.string ⟨#[]⟩) := S0.box.cell 2
    go_upto_region 9 with fail
    refine wp_forget (Sb w g k ⟨2, 0, b, ⟨#[]⟩⟩ s2) S4 ?_
    clear S4 f3 c3
    intro W S
    clear S0
    have qb := Lib.hid (rl_bad g s2 W.drew S.rd.drew)
    obtain ⟨c0, c1, c2, c3⟩ := S.cells
    obtain ⟨r0, r1, r2, r3, f0, f1, f2, f3⟩ := S.cellr
    go_region_with (go_at_call 23; (with_reducible refine qb.out.mono ?_); rintro _ _ ⟨rfl, rfl⟩)
    all_goals
      go_wp2_with fail
      refine at_world (fun W' => Arr W' w.heap.size 111 (rpArr ⟨2, 0, b, ⟨#[]⟩⟩) ∧ RL W' g s2 ∧ w.grownBy W' (some g)) (by exact S.fin (p' := ⟨2, 0, b, ⟨#[]⟩⟩)) ?_
      intro W' hF
      refine bodyPost_ret (v := .tuple #[.agg (rpArr ⟨2, 0, b, ⟨#[]⟩⟩), .int .i64 (stE s2)]) ?_ rfl ⟨by rw [HR.out], (fun l e => by rw [HR.out] at e; rw [← show s2 = some l from e]; exact hF.2.1), hF.2.2⟩
      rw [results_cell_tmp Tryd.results65]
      have hld := run_loadVar_row (P := Tryd.prog) _ _ _ 111 _ _ _ hF.1 Tryd.underlying111 rfl (rpInfo _)
      simp [asAddr, hld, Result.andThen, Act.put]
  have e2 : ((n : Int) == 2) = false := by rw [beq_eq_false_iff_ne]; omega
  have hR := HR.out
  rw [if_neg n0, if_neg n1, if_neg n2] at hR
  clear HR
  have HR := Lib.hid hR
  clear hR n0 n1 n2
  go_wp2_with (refine wpList_store_row rfl 111 _ _ rfl w.heap.size (rpArr Rp.none) rfl rfl 111 zeroR S0.res (rpInfo _) rfl (rpArr_one _) ?_)
  have k1 : W.grownBy (W.setRow w.heap.size (rpArr Rp.none)) (some w.heap.size) := gb_row _ _
  refine bodyPost_ret (v := .tuple #[.agg (rpArr Rp.none), .int .i64 2]) ?_ rfl ⟨by rw [HR.out]; rfl, (fun l e => by rw [HR.out] at e; cases e), gb_new S0.gb k1 (Nat.le_refl _)⟩
  rw [results_cell_tmp Tryd.results65]
  have hld := run_loadVar_row (P := Tryd.prog) _ _ _ 111 _ _ _ (S0.res.row (rpArr Rp.none)) Tryd.underlying111 rfl (rpInfo _)
  simp [asAddr, hld, Result.andThen]
end Go.Proofs.YthigdhiebogffaaDoor
