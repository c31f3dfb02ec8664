/- Texts in one: OBase, OSame, OSameB, Bw. -/
import Derived.Test.YtmikfmcgddmplaaGreatDoorOEncB
import Derived.Test.YtmikfmcgddmplaaGreatDoorDkMath
import Derived.Test.YtmikfmcgddmplaaGreatDoorWDone
import Derived.Deep.Cut
import Derived.Test.YtmikfmcgddmplaaGreatDoorBytes
import Derived.StillTailTactics
/- What the walks of the laws on objects share. -/
namespace Go.Proofs.YtmikfmcgddmplaaGreatDoor
open Go.RowKit

section
variable {P : Program} {ops : Array Oper} {rest : List Oper} {o : Oper} {a : Act} {w : World} {Q : Exit → Act → World → Prop}
/-- a whole row is loaded, where the guard says yes -/
theorem wpList_load_row_w (hw : Region.wanted o (yielded ops a.tmps) = true) (ty : TypeId) (x : Operand) (ho : o.op = .load ty x)
    (g : Nat) (hx : a.eval x = .pointer (some ⟨g, 0, none⟩)) (t : TypeId) (cs : Array Value) (fr : Nat × Nat) (d : TypeDesc) (hg : w.heap[g]? = some (.cells cs t fr))
    (hu : P.underlying ty = some d) (hd : (match d with | .struct _ | .array _ _ => true | _ => false) = true) (hi : (P.info? ty).map (·.size) = some cs.size)
    (h : wpList P ops Q rest (a.put o.dst (.agg cs)) w) : wpList P ops Q (o :: rest) a w :=
  BigFrame.wpList_want hw fun _ hK => wp_load_row ty x ho g hx t cs fr d hg hu hd hi (hK _ _ h)
end
def blobA : Ob := ⟨1, ⟨#[97]⟩, [], ⟨#[]⟩, [], ⟨#[]⟩, ⟨#[]⟩, 0, ⟨#[]⟩⟩
theorem nil_yes : nilB ⟨#[]⟩ = true := (nilB_iff _).2 rfl
theorem blobA_good : good blobA = 0 := by
  have h1 : strayB blobA = false := by unfold strayB blobA; simp only; rw [nil_yes]; rfl
  unfold good
  rw [h1]
  rfl
theorem blobA_enc : encL blobA = [1, 1, 97] := by
  unfold encL fieldsL txt blobA
  simp only
  rw [if_pos True.intro, num_small _ (by decide), num_small _ (by decide)]
  rfl
theorem blobA_S : encS blobA = ⟨#[1, 1, 97]⟩ := by
  unfold encS
  rw [if_neg (by rw [blobA_good]; simp), blobA_enc, if_neg (by decide)]
  rfl
theorem blobA_E : encE blobA = 0 := by
  unfold encE
  rw [if_neg (by rw [blobA_good]; simp), blobA_enc, if_neg (by decide)]
theorem blobIn (W : World) (B : Nat) : ObIn W B blobA atNil := ⟨Ens.nil _ _ _, Txs.nil _ _ _, Nat.le_refl _⟩
theorem enc_bad {o : Ob} (h : encE o ≠ 0) : encS o = ⟨#[]⟩ := by
  unfold encE at h
  unfold encS
  split
  · rfl
  · rename_i h1
    rw [if_neg h1] at h
    split
    · rfl
    · rename_i h2; rw [if_neg h2] at h; exact absurd rfl h
theorem enc_ok {o : Ob} (h : encE o = 0) : good o = 0 ∧ (encL o).length ≤ 8192 ∧ encS o = bs (encL o) := by
  unfold encE at h
  unfold encS
  split at h
  · rename_i h1; exact absurd h h1
  · rename_i h1
    split at h
    · cases h
    · rename_i h2
      exact ⟨by simpa using h1, by omega, by rw [if_neg h1, if_neg h2]⟩
theorem ok_enc {o : Ob} (h : good o = 0) (hl : (encL o).length ≤ 8192) : encE o = 0 ∧ encS o = bs (encL o) := by
  refine ⟨?_, ?_⟩
  · unfold encE
    rw [if_neg (by simp [h]), if_neg (by omega)]
  · unfold encS
    rw [if_neg (by simp [h]), if_neg (by omega)]
theorem enc_back {o : Ob} (h : encE o = 0) : decO (encS o).data.toList = (o, 0) := by
  obtain ⟨h1, h2, h3⟩ := enc_ok h
  rw [h3, bs_list]
  exact dec_enc h1 h2
theorem enc_size {o : Ob} (h : encE o = 0) : (encS o).size ≤ 8192 ∧ 0 < (encS o).size := by
  obtain ⟨h1, h2, h3⟩ := enc_ok h
  rw [h3, bs_size]
  refine ⟨h2, ?_⟩
  unfold encL
  rw [List.length_append]
  have := num_pos o.kind.toNat
  omega

end Go.Proofs.YtmikfmcgddmplaaGreatDoor

/- Objects compared. -/
namespace Go.Proofs.YtmikfmcgddmplaaGreatDoor
open Go.RowKit

def neE (x y : Ent) : Bool := !(eqB x.name y.name && x.dir == y.dir && eqB x.id y.id)
theorem neE_iff (x y : Ent) : neE x y = false ↔ x = y := by
  unfold neE
  obtain ⟨a, b, c⟩ := x
  obtain ⟨a', b', c'⟩ := y
  simp [eqB_iff, and_assoc]
set_option maxRecDepth 100000 in
theorem neE_run (a a' c c' : ByteArray) (b b' : Bool) (w : World) :
    (binOp .neq 79 (.agg #[.string a, .bool b, .string c]) (.agg #[.string a', .bool b', .string c'])).run Tryz.prog w = .ok (.bool (neE ⟨a, b, c⟩ ⟨a', b', c'⟩)) w := by
  unfold neE eqB
  go_simp
  repeat' split
  all_goals simp_all
theorem take_eq_step {α : Type} {T U : List α} {k : Nat} (h : T.take k = U.take k) (h1 : k < T.length) (h2 : k < U.length) (e : T[k] = U[k]) : T.take (k + 1) = U.take (k + 1) := by
  rw [List.take_succ_eq_append_getElem h1, List.take_succ_eq_append_getElem h2, h, e]
end Go.Proofs.YtmikfmcgddmplaaGreatDoor

/- keep.sameObject: its contract. -/
namespace Go.Proofs.YtmikfmcgddmplaaGreatDoor
open Go.RowKit

/-- two boxed objects -/
structure Bs (w : World) (o q : Ob) (p p' : At) (W : World) : Prop where
  b1 : Arr W w.heap.size 53 (obArr o p)
  b2 : Arr W (w.heap.size + 1) 53 (obArr q p')
  i1 : ObIn W w.heap.size o p
  i2 : ObIn W w.heap.size q p'
  bel : Below w.heap.size w W
theorem Bs.below {w W W' : World} {o q : Ob} {p p' : At} (h : Bs w o q p p' W) (b : Below W.heap.size W W') : Bs w o q p p' W' :=
  ⟨h.b1.below b h.b1.lt, h.b2.below b h.b2.lt, h.i1.below (b.mono h.bel.size), h.i2.below (b.mono h.bel.size), h.bel.trans (b.mono h.bel.size)⟩
theorem Bs.drew {w W : World} {o q : Ob} {p p' : At} (h : Bs w o q p p' W) (n : Nat) : Bs w o q p p' (W.drewN n) := h.below (below_drewN (Below.refl _ _) n)
theorem bs_start {w : World} {o q : Ob} {p p' : At} (h : ObIn w w.heap.size o p) (h' : ObIn w w.heap.size q p') :
    Bs w o q p p' ((w.alloc (.cells (obArr o p) 53)).alloc (.cells (obArr q p') 53)) := by
  have b : Below w.heap.size w ((w.alloc (.cells (obArr o p) 53)).alloc (.cells (obArr q p') 53)) := ((Below.refl _ _).alloc (Nat.le_refl _) _).alloc (by simp) _
  exact ⟨(Arr.new _ _ _).alloc _, Arr.new_at _ _ _ (by simp), h.below b, h'.below b, b⟩
end Go.Proofs.YtmikfmcgddmplaaGreatDoor

/- sum.blockWords: its contract. -/
namespace Go.Proofs.YtmikfmcgddmplaaGreatDoor
open Go.RowKit
attribute [local go_sem] wd_xor wd_and wd_or wd_not' wd_add wd_shr3 wd_shr10

def BWorld (l : List UInt32) (w : World) (W : World) : Prop :=
  Arr W w.heap.size 159 (warr (List.replicate 64 0)) ∧ Arr W (w.heap.size + 1) 159 (warr l) ∧ W.heap.size = w.heap.size + 2 ∧ Below w.heap.size w W
def BRel1 (l : List UInt8) (w : World) (i : Value) (wr : World) : Prop :=
  ∃ k : Nat, k ≤ 16 ∧ i = .int .i64 k ∧ BWorld (firstTo l k) w wr

def BRel2 (l : List UInt8) (w : World) (i : Value) (wr : World) : Prop :=
  ∃ n : Nat, n ≤ 48 ∧ i = .int .i64 ((n : Int) + 16) ∧ BWorld (schedTo l n) w wr
theorem BWorld.drewN {l : List UInt32} {w W : World} (h : BWorld l w W) (n : Nat) : BWorld l w (W.drewN n) := ⟨h.1.drewN n, h.2.1.drewN n, h.2.2.1, below_drewN h.2.2.2 n⟩
theorem BWorld.put {l : List UInt32} {w W : World} (h : BWorld l w W) (k : Nat) (x : UInt32) : BWorld (l.set k x) w (W.setCell ⟨w.heap.size + 1, k, none⟩ (.int .u32 (wd x))).drew := by
  refine ⟨h.1.far (by simp) _, ?_, by simp [World.setCell, World.drew, h.2.2.1], (h.2.2.2.setCell (by simp) _).drew⟩
  have := h.2.1.put k (.int .u32 (wd x))
  rw [warr_set] at this
  exact this
theorem BWorld.at_ {l : List UInt32} {w W : World} (h : BWorld l w W) (k : Nat) (hk : k < l.length) : W.cell? ⟨w.heap.size + 1, k, none⟩ = some (.int .u32 (wd (l.getD k 0))) :=
  (h.2.1.cell k).trans (warr_at _ _ hk)

set_option maxRecDepth 100000 in
set_option maxHeartbeats 1000000 in
theorem blockWords_any (s : ByteArray) (hs : s.size = 64) (w : World) :
    Calls Tryz.prog 158 #[.string s] w
      fun e w' => e = .returned (.agg (warr (schedTo s.data.toList 48))) ∧ Below w.heap.size w w' := by
  have Hs := Lib.hid hs
  have hs1 : s.size ≤ 64 := by omega
  have hs2 : 64 ≤ s.size := by omega
  clear hs
  go_enter Tryz.func158, Tryz.ntmps158
  go_wp2
  refine wp_forget (BWorld (firstTo s.data.toList 0) w) ?_ ?_
  · refine ⟨?_, ?_, by simp, ?_⟩
    · exact (Arr.new_at w _ _ rfl).alloc _
    · exact Arr.new_at (w.alloc _) _ _ (by simp)
    · exact ((Below.refl _ _).alloc (Nat.le_refl _) _).alloc (by simp) _
  intro W hW0
  go_loopw [9] (fun i wr => BRel1 s.data.toList w i wr) (fun i _ => 16 - (intOf i).toNat)
  case atStart => exact ⟨0, by omega, rfl, hW0⟩
  case round =>
    obtain ⟨k, hk, rfl, hW⟩ := hrel
    clear hW0 W
    by_cases hlt : k < 16
    · have hf : wr.frozen? ⟨w.heap.size + 1, k, none⟩ = false := hW.2.1.free k
      have hi : (k : Int) < 64 := by omega
      have hc : wr.cell? ⟨w.heap.size + 1, k, none⟩ = some (.int .u32 (wd ((firstTo s.data.toList k).getD k 0))) := (hW.2.1.cell k).trans (warr_at _ _ (by rw [firstTo_length]; omega))
      have hp : (s.extract (4 * k) (4 * k + 4)).size = 4 := by simp; omega
      go_wp2
      generalize hpe : s.extract (4 * k) (4 * k + 4) = p at *
      have hp1 : 3 < p.size := by omega
      have hb := be_join p[0] p[1] p[2] p[3]
      rw [beWord_of s p k hpe.symm hp1] at hb
      clear hpe
      generalize hbw : beWord s.data.toList k = bw at *
      have Hbw := Lib.hid hbw
      clear hbw
      go_still_tail 20, (by kernel_rfl)
      change wpList _ _ _ _ _ wr.drew
      go_wp2
      refine ⟨⟨k + 1, by omega, by go_num, ?_⟩, by simp [intOf]; omega⟩
      show BWorld ((firstTo s.data.toList k).set k (beWord s.data.toList k)) w _
      rw [Hbw.out]
      exact hW.put k bw
    · obtain rfl : k = 16 := by omega
      clear hlt hk
      go_wp2
      rw [show ((16 : Nat) : Int) = 16 from rfl]
      go_loopw [6] (fun i wr => BRel2 s.data.toList w i wr) (fun i _ => 64 - (intOf i).toNat)
      case atStart => exact ⟨0, by omega, rfl, hW⟩
      case round =>
        clear hW
        obtain ⟨n, hn, rfl, hW⟩ := hrel
        have hl := schedTo_length s.data.toList n
        by_cases hlt : n < 48
        · have hc1 := hW.at_ (n + 1) (by omega)
          have hc14 := hW.at_ (n + 14) (by omega)
          have HL := Lib.hid hl
          clear hl
          have HE : Hid (schedTo s.data.toList (n + 1) = (schedTo s.data.toList n).set (n + 16) ((schedTo s.data.toList n).getD n 0 + sig0 ((schedTo s.data.toList n).getD (n + 1) 0) + (schedTo s.data.toList n).getD (n + 9) 0 + sig1 ((schedTo s.data.toList n).getD (n + 14) 0))) := rfl
          generalize schedTo s.data.toList n = L at *
          generalize L.getD (n + 1) 0 = x1 at *
          generalize hx14 : L.getD (n + 14) 0 = x14 at *
          have Hx14 := Lib.hid hx14
          clear hx14
          go_wp2
          go_quiet ((go_at_call 160; exact Calls.quiet_of_same (rotated_int _ _ (by omega) (by omega) _)))
          go_wp2
          refine wp_forget (BWorld L w) (hW.drewN _) ?_
          clear hW hc1 hc14 wr
          intro wr hW
          have hc14 := hW.at_ (n + 14) (by have := HL.out; omega)
          rw [Hx14.out] at hc14
          go_quiet ((go_at_call 160; exact Calls.quiet_of_same (rotated_int _ _ (by omega) (by omega) _)))
          go_wp2
          refine wp_forget (BWorld L w) (hW.drewN _) ?_
          clear hW hc14 wr
          intro wr hW
          have hc0 := hW.at_ n (by have := HL.out; omega)
          have hc9 := hW.at_ (n + 9) (by have := HL.out; omega)
          have hc16 := hW.at_ (n + 16) (by have := HL.out; omega)
          have hf : wr.frozen? ⟨w.heap.size + 1, n + 16, none⟩ = false := hW.2.1.free _
          generalize L.getD n 0 = x0 at *
          generalize L.getD (n + 9) 0 = x9 at *
          generalize L.getD (n + 16) 0 = x16 at *
          have e0 : IntKind.i64.wrap (n : Int) = n := IntWalk.i64_in _ (by omega)
          have e9 : IntKind.i64.wrap ((n : Int) + 16 - 7) = (n : Int) + 9 := by rw [IntWalk.i64_in _ (by omega)]; omega
          have e9n : ((n : Int) + 9).toNat = n + 9 := by omega
          have e16n : ((n : Int) + 16).toNat = n + 16 := by omega
          have g0 : (n : Int) < 64 := by omega
          have g9 : 0 ≤ (n : Int) + 9 := by omega
          have g9' : (n : Int) + 9 < 64 := by omega
          have g16 : 0 ≤ (n : Int) + 16 := by omega
          have g16' : (n : Int) + 16 < 64 := by omega
          go_still_tail 15, (by kernel_rfl)
          change wpList _ _ _ _ _ wr.drew
          go_wp2
          clear e0 e9 e9n e16n g0 g9 g9' g16 g16'
          refine ⟨⟨n + 1, by omega, by go_num, ?_⟩, by simp [intOf]; omega⟩
          rw [HE.out]
          exact hW.put (n + 16) _
        · obtain rfl : n = 48 := by omega
          clear hlt hn
          generalize hLL : schedTo s.data.toList 48 = L at *
          have HLL := Lib.hid hLL
          have HC := Lib.hid hl
          clear hl hLL
          go_wp2_with (first
            | (refine wpList_load_row rfl 159 _ rfl (w.heap.size + 1) rfl 159 (warr L) (0, 0) _ hW.2.1 Tryz.underlying159 rfl (info64 L HC.out) ?_)
            | (refine wpList_store_row rfl 159 _ _ rfl w.heap.size (warr L) rfl rfl 159 (warr (List.replicate 64 0)) hW.1 (info64 L HC.out) (by rw [warr_size, warr_size, HC.out]; rfl) (warr_one L) ?_))
          refine bodyPost_ret (v := .agg (warr L)) ?_ rfl ⟨by rw [HLL.out], below_setRow hW.2.2.2 (by omega) _⟩
          exact results_cell_row Tryz.results158 _ _ w.heap.size 159 (warr L) (0, 0) _ rfl (hW.1.row _) Tryz.underlying159 rfl (info64 L HC.out)
end Go.Proofs.YtmikfmcgddmplaaGreatDoor
