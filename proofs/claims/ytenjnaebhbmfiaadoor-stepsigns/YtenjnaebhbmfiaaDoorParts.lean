/- Texts in one: Hex, Tests, Good, End, Eq, TestsK, Parts. -/
import Derived.Test.YtenjnaebhbmfiaaDoorAbc
/- sum.Hex: its contract. -/
namespace Go.Proofs.YtenjnaebhbmfiaaDoor
open Go.RowKit

/-- append within the capacity, onto a row of the call's own, as one step of a region that draws -/
theorem step_append_fits {P : Program} {ops : Array Oper} {o : Oper} {a : Act} {w : World} {K : Act → World → Prop} {Q : Exit → Act → World → Prop} {E : Prop}
    (hg : o.guard = none) (s x : Operand) (t : TypeId) (hop : o.op = Op.call { callee := Callee.builtin Builtin.append, args := #[s, x], argTypes := #[t, t] })
    (base : Nat) (e : TypeId) (i : TypeInfo) (size : Nat) (h1 : P.underlying t = some (.slice e)) (h2 : P.info? e = some i) (h4 : i.size = size)
    (g k cap : Nat) (xs : List Value) (hs : a.eval s = .slice (some ⟨g, 0, none⟩) k cap) (hown : w.ownsRow base e size (.slice (some ⟨g, 0, none⟩) k cap) k xs) (ad : Addr) (m c : Nat) (news : List Value) (hx : a.eval x = .slice (some ad) m c) (hn : news.length = m * size)
    (hc : ∀ j u, news[j]? = some u → w.cell? (ad.add j) = some u) (h1c : ∀ u ∈ news, u.oneCell' = true) (b1 : k + m ≤ cap)
    (hK : ∀ w', w'.ownsRow base e size (.slice (some ⟨g, 0, none⟩) (k + m) cap) (k + m) (xs ++ news) → w.grownBy w' (some g) → K (a.put o.dst (.slice (some ⟨g, 0, none⟩) (k + m) cap)) w') :
    if Region.wanted o (yielded ops a.tmps) = true then Oper.wp P o a w K Q else E := by
  have hw : Region.wanted o (yielded ops a.tmps) = true := by simp [Region.wanted, hg]
  rw [if_pos hw]
  obtain ⟨w', hrun, r1, r2⟩ := run_append_fits (P := P) w base t o.type e i size h1 h2 h4 g k cap xs hown ad m c news hn hc h1c b1
  unfold Oper.wp
  simp [execOp, hop, resolve, invoke, builtin, hs, hx, hrun, Result.andThen]
  exact hK w' r1 r2

theorem list_at (s : ByteArray) (k : Nat) (h : k < s.size) : s.data.toList.getD k 0 = s[k] := by
  have h2 : k < s.data.size := h
  simp only [List.getD_eq_getElem?_getD, Array.getElem?_toList]
  rw [Array.getElem?_eq_getElem h2]
  rfl

theorem dig_run (n : Nat) (h : n < 16) (w : World) : (Instr.index 9 (.string { data := #[48, 49, 50, 51, 52, 53, 54, 55, 56, 57, 97, 98, 99, 100, 101, 102] }) (.int .u8 (n : Int))).run Tryd.prog w = .ok (.int .u8 ((hd n).toNat : Int)) w := by
  have h1 : (n : Int) < 16 := by omega
  rw [run_index_string w _ _ _ _ Tryd.underlying9]
  match n, h with
  | 0, _ => rfl
  | 1, _ => rfl
  | 2, _ => rfl
  | 3, _ => rfl
  | 4, _ => rfl
  | 5, _ => rfl
  | 6, _ => rfl
  | 7, _ => rfl
  | 8, _ => rfl
  | 9, _ => rfl
  | 10, _ => rfl
  | 11, _ => rfl
  | 12, _ => rfl
  | 13, _ => rfl
  | 14, _ => rfl
  | 15, _ => rfl

def HexRel (l : List UInt8) (base : Nat) (w : World) (t s : Value) (wr : World) : Prop :=
  ∃ k : Nat, k ≤ l.length ∧ s = .int .i64 (k : Int) ∧ t = .slice (some ⟨base, 0, none⟩) (hexOf (l.take k)).length (2 * l.length) ∧ OwnB wr base base (2 * l.length) (hexOf (l.take k)) ∧ Below base w wr

end Go.Proofs.YtenjnaebhbmfiaaDoor

/- The digest of three letters, by the program. -/
namespace Go.Proofs.YtenjnaebhbmfiaaDoor
open Go.RowKit

theorem Sum_abc (w : World) (ht : Tab w) : Calls Tryd.prog 26 #[.string ⟨#[97, 98, 99]⟩] w fun e w' => e = .returned (.string (bs abcDigest)) ∧ Below w.heap.size w w' := by
  have h := Sum_any ⟨#[97, 98, 99]⟩ (by decide) w ht
  rw [show (ByteArray.mk #[97, 98, 99]).data.toList = [97, 98, 99] from rfl, sha_abc] at h
  exact h
end Go.Proofs.YtenjnaebhbmfiaaDoor

/- sum.Good, sum.Add, sum.End: their contracts. -/
namespace Go.Proofs.YtenjnaebhbmfiaaDoor
open Go.RowKit

/-- A state of whatever content, as a value. -/
def stx (hs : List UInt32) (r : ByteArray) (m : Int) : Value := .agg (sarr hs r m)
/-- Is it one that something may have led to? -/
def okS (r : ByteArray) (m : Int) : Prop := 0 ≤ m ∧ m < 1152921504606846976 ∧ (r.size : Int) = m % 64

end Go.Proofs.YtenjnaebhbmfiaaDoor

/- sum.Add where it errs, sum.End: their contracts. -/
namespace Go.Proofs.YtenjnaebhbmfiaaDoor
open Go.RowKit

end Go.Proofs.YtenjnaebhbmfiaaDoor

/- A state is equal to itself, as the program compares. -/
namespace Go.Proofs.YtenjnaebhbmfiaaDoor
open Go.RowKit

set_option maxRecDepth 100000 in
set_option maxHeartbeats 1000000 in
theorem eq8_run (d : Nat) (h0 h1 h2 h3 h4 h5 h6 h7 : UInt32) (w : World) :
    (Op.equalIn (d + 2) 67 (.agg #[.int .u32 (wd h0), .int .u32 (wd h1), .int .u32 (wd h2), .int .u32 (wd h3), .int .u32 (wd h4), .int .u32 (wd h5), .int .u32 (wd h6), .int .u32 (wd h7)])
      (.agg #[.int .u32 (wd h0), .int .u32 (wd h1), .int .u32 (wd h2), .int .u32 (wd h3), .int .u32 (wd h4), .int .u32 (wd h5), .int .u32 (wd h6), .int .u32 (wd h7)])).run Tryd.prog w = .ok true w := by
  have hs : ∀ w, (sizeOf 66).run Tryd.prog w = .ok 1 w := fun w => by kernel_rfl
  have ha : ∀ w, (isAgg 66).run Tryd.prog w = .ok false w := fun w => by kernel_rfl
  have hi : ∀ (a : Int) (w : World), (Op.equalIn (d + 1) 66 (.int .u32 a) (.int .u32 a)).run Tryd.prog w = .ok true w := fun a w => by
    rw [run_equalIn_int w d _ .u32 .u32 a a Tryd.underlying66]; simp
  rw [Op.equalIn]
  simp [run_underlying Tryd.underlying67, hs, part, ha, hi, Std.Legacy.Range.forIn_eq_forIn_range', List.range', Std.Legacy.Range.size]

set_option maxRecDepth 100000 in
set_option maxHeartbeats 1000000 in
theorem eqS_run (hs : List UInt32) (h8 : hs.length = 8) (r : ByteArray) (m : Int) (w : World) :
    (binOp .eql 69 (.agg (sarr hs r m)) (.agg (sarr hs r m))).run Tryd.prog w = .ok (.bool true) w := by
  obtain ⟨h0, h1, h2, h3, h4, h5, h6, h7, rfl⟩ := eight h8
  have e : sarr [h0, h1, h2, h3, h4, h5, h6, h7] r m = #[.int .u32 (wd h0), .int .u32 (wd h1), .int .u32 (wd h2), .int .u32 (wd h3), .int .u32 (wd h4), .int .u32 (wd h5), .int .u32 (wd h6), .int .u32 (wd h7), .string r, .int .i64 m] := rfl
  rw [e]
  have q := eq8_run 9997 h0 h1 h2 h3 h4 h5 h6 h7 w
  go_simp

section
variable {P : Program} {ops : Array Oper} {rest : List Oper} {o : Oper} {a : Act} {w : World} {Q : Exit → Act → World → Prop}
/-- a whole row is loaded, where the guard says yes -/
theorem wpList_load_row_w (hw : Region.wanted o (yielded ops a.tmps) = true) (ty : TypeId) (x : Operand) (ho : o.op = .load ty x)
    (g : Nat) (hx : a.eval x = .pointer (some ⟨g, 0, none⟩)) (t : TypeId) (cs : Array Value) (fr : Nat × Nat) (d : TypeDesc) (hg : w.heap[g]? = some (.cells cs t fr))
    (hu : P.underlying ty = some d) (hd : (match d with | .struct _ | .array _ _ => true | _ => false) = true) (hi : (P.info? ty).map (·.size) = some cs.size)
    (h : wpList P ops Q rest (a.put o.dst (.agg cs)) w) : wpList P ops Q (o :: rest) a w :=
  BigFrame.wpList_want hw fun _ hK => wp_load_row ty x ho g hx t cs fr d hg hu hd hi (hK _ _ h)
/-- two values are compared, where the guard says yes: the guard's look and the comparison are run by the caller -/
theorem wpList_binop_w (hw : Region.wanted o (yielded ops a.tmps) = true) (op : BinOp) (t : TypeId) (x y : Operand) (ty : TypeId) (ho : o.op = .binOp op t x y ty) (u v r : Value)
    (hx : a.eval x = u) (hy : a.eval y = v) (hq : (eqGuard op t x y u v).run P w = .ok () w) (hr : (binOp op t u v).run P w = .ok r w)
    (h : wpList P ops Q rest (a.put o.dst r) w) : wpList P ops Q (o :: rest) a w := by
  refine BigFrame.wpList_want hw fun K hK => ?_
  unfold Oper.wp execOp
  simp only [ho, hx, hy, Sem.run_bind, hq, hr, Result.andThen_ok, Sem.run_pure, Oper.upon_value]
  exact hK _ _ h
end
theorem eqGuardS (x y : Operand) (u v : Array Value) (w : World) : (eqGuard .eql 69 x y (.agg u) (.agg v)).run Tryd.prog w = .ok () w := by
  have he : Tryd.prog.eqGuardType Tryd.prog.depth 69 = false := by kernel_rfl
  simp [eqGuard, he]
end Go.Proofs.YtenjnaebhbmfiaaDoor

/- keep.abc answers true. -/
namespace Go.Proofs.YtenjnaebhbmfiaaDoor
open Go.RowKit

end Go.Proofs.YtenjnaebhbmfiaaDoor

/- keep.SumParts: the walk. -/
namespace Go.Proofs.YtenjnaebhbmfiaaDoor
open Go.RowKit

/-- The state behind bytes. -/
def stA (l : List UInt8) : Array Value := sarr (blocks startH l) (bs (restOf l)) (l.length : Int)
theorem stA_ok (l : List UInt8) (h : l.length < 1152921504606846976) : okS (bs (restOf l)) (l.length : Int) :=
  ⟨by omega, by omega, by rw [bs_size, restOf_length]; omega⟩
theorem stA_info (l : List UInt8) : (Tryd.prog.info? 69).map (·.size) = some (stA l).size := infoS _ (blocks_len8 _ _ rfl) _ _
theorem stA_size (l : List UInt8) : (stA l).size = 10 := sarr_size _ (blocks_len8 _ _ rfl) _ _
theorem stA_one (l : List UInt8) : (stA l).all (·.oneCell') = true := sarr_one _ _ _
theorem stA_eq (l : List UInt8) (w : World) : (binOp .eql 69 (.agg (stA l)) (.agg (stA l))).run Tryd.prog w = .ok (.bool true) w := eqS_run _ (blocks_len8 _ _ rfl) _ _ w
theorem Begin_A (w : World) : Calls Tryd.prog 43 #[] w fun e w' => e = .returned (.agg (stA [])) ∧ Below w.heap.size w w' := by
  have h := Begin_any w
  have e : stA [] = sarr startH ⟨#[]⟩ ((0 : Nat) : Int) := by unfold stA; rw [blocks_end _ _ (by simp)]; rfl
  rw [e]
  exact h
theorem sha_length (l : List UInt8) : (sha l).length = 32 := digest_length _ (blocks_len8 _ _ (blocks_len8 _ _ rfl))

/-- one state of the law's own in memory -/
def PW1 (g : Nat) (A : Array Value) (w W : World) : Prop := Arr W g 69 A ∧ w.heap.size ≤ g ∧ Tab W ∧ Below w.heap.size w W
theorem PW1.below {g : Nat} {A : Array Value} {w W W' : World} (h : PW1 g A w W) (hb : Below W.heap.size W W') : PW1 g A w W' :=
  ⟨h.1.below hb h.1.lt, h.2.1, h.2.2.1.below hb h.2.2.1.1, h.2.2.2.trans (hb.mono h.2.2.2.size)⟩
theorem PW1.row {g : Nat} {A : Array Value} {w W : World} (h : PW1 g A w W) (hw : 0 < w.heap.size) (B : Array Value) : PW1 g B w (W.setRow g B) :=
  ⟨h.1.row B, h.2.1, h.2.2.1.below (below_setRow (Below.refl w.heap.size W) h.2.1 B) hw, below_setRow h.2.2.2 h.2.1 B⟩
theorem PW1.start {A : Array Value} {w W : World} (ht : Tab W) (hb : Below w.heap.size w W) (hw : 0 < w.heap.size) :
    PW1 W.heap.size A w ((W.alloc (.cells zeroS 69)).setRow W.heap.size A) :=
  PW1.row (A := zeroS) ⟨Arr.new _ _ _, hb.size, ht.alloc _, hb.alloc hb.size _⟩ hw A

end Go.Proofs.YtenjnaebhbmfiaaDoor
