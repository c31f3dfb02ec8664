/- A state is equal to itself, as the program compares. -/
import Derived.Test.YtngfgmcnpbjefaaDoorEnd
namespace Go.Proofs.YtngfgmcnpbjefaaDoor
open Go.RowKit

set_option maxRecDepth 100000 in
set_option maxHeartbeats 1000000 in
theorem eq8_run (d : Nat) (h0 h1 h2 h3 h4 h5 h6 h7 : UInt32) (w : World) :
    (Op.equalIn (d + 2) 26 (.agg #[.int .u32 (wd h0), .int .u32 (wd h1), .int .u32 (wd h2), .int .u32 (wd h3), .int .u32 (wd h4), .int .u32 (wd h5), .int .u32 (wd h6), .int .u32 (wd h7)])
      (.agg #[.int .u32 (wd h0), .int .u32 (wd h1), .int .u32 (wd h2), .int .u32 (wd h3), .int .u32 (wd h4), .int .u32 (wd h5), .int .u32 (wd h6), .int .u32 (wd h7)])).run Tryd.prog w = .ok true w := by
  have hs : ∀ w, (sizeOf 25).run Tryd.prog w = .ok 1 w := fun w => by kernel_rfl
  have ha : ∀ w, (isAgg 25).run Tryd.prog w = .ok false w := fun w => by kernel_rfl
  have hi : ∀ (a : Int) (w : World), (Op.equalIn (d + 1) 25 (.int .u32 a) (.int .u32 a)).run Tryd.prog w = .ok true w := fun a w => by
    rw [run_equalIn_int w d _ .u32 .u32 a a Tryd.underlying25]; simp
  rw [Op.equalIn]
  simp [run_underlying Tryd.underlying26, hs, part, ha, hi, Std.Legacy.Range.forIn_eq_forIn_range', List.range', Std.Legacy.Range.size]

set_option maxRecDepth 100000 in
set_option maxHeartbeats 1000000 in
theorem eqS_run (hs : List UInt32) (h8 : hs.length = 8) (r : ByteArray) (m : Int) (w : World) :
    (binOp .eql 28 (.agg (sarr hs r m)) (.agg (sarr hs r m))).run Tryd.prog w = .ok (.bool true) w := by
  obtain ⟨h0, h1, h2, h3, h4, h5, h6, h7, rfl⟩ := eight h8
  have e : sarr [h0, h1, h2, h3, h4, h5, h6, h7] r m = #[.int .u32 (wd h0), .int .u32 (wd h1), .int .u32 (wd h2), .int .u32 (wd h3), .int .u32 (wd h4), .int .u32 (wd h5), .int .u32 (wd h6), .int .u32 (wd h7), .string r, .int .i64 m] := rfl
  rw [e]
  have q := eq8_run 9997 h0 h1 h2 h3 h4 h5 h6 h7 w
  go_simp

section
variable {P : Program} {ops : Array Oper} {rest : List Oper} {o : Oper} {a : Act} {w : World} {Q : Exit → Act → World → Prop}
/-- a whole row is loaded, where the guard says yes -/
theorem wpList_load_row_w (hw : Region.wanted o (yielded ops a.tmps) = true) (ty : TypeId) (x : Operand) (ho : o.op = .load ty x)
    (g : Nat) (hx : a.eval x = .pointer (some ⟨g, 0, none⟩)) (t : TypeId) (cs : Array Value) (fr : Nat × Nat) (d : TypeDesc) (hg : w.heap[g]? = some (.cells cs t fr))
    (hu : P.underlying ty = some d) (hd : (match d with | .struct _ | .array _ _ => true | _ => false) = true) (hi : (P.info? ty).map (·.size) = some cs.size)
    (h : wpList P ops Q rest (a.put o.dst (.agg cs)) w) : wpList P ops Q (o :: rest) a w :=
  BigFrame.wpList_want hw fun _ hK => wp_load_row ty x ho g hx t cs fr d hg hu hd hi (hK _ _ h)
/-- two values are compared, where the guard says yes: the guard's look and the comparison are run by the caller -/
theorem wpList_binop_w (hw : Region.wanted o (yielded ops a.tmps) = true) (op : BinOp) (t : TypeId) (x y : Operand) (ty : TypeId) (ho : o.op = .binOp op t x y ty) (u v r : Value)
    (hx : a.eval x = u) (hy : a.eval y = v) (hq : (eqGuard op t x y u v).run P w = .ok () w) (hr : (binOp op t u v).run P w = .ok r w)
    (h : wpList P ops Q rest (a.put o.dst r) w) : wpList P ops Q (o :: rest) a w := by
  refine BigFrame.wpList_want hw fun K hK => ?_
  unfold Oper.wp execOp
  simp only [ho, hx, hy, Sem.run_bind, hq, hr, Result.andThen_ok, Sem.run_pure, Oper.upon_value]
  exact hK _ _ h
end
theorem eqGuardS (x y : Operand) (u v : Array Value) (w : World) : (eqGuard .eql 28 x y (.agg u) (.agg v)).run Tryd.prog w = .ok () w := by
  have he : Tryd.prog.eqGuardType Tryd.prog.depth 28 = false := by kernel_rfl
  simp [eqGuard, he]
end Go.Proofs.YtngfgmcnpbjefaaDoor
