/- Texts in one: POpen, Bw. -/
import Derived.Test.YtejapjmlofekfaaDoorLists
import Derived.Test.YtejapjmlofekfaaDoorOMem
import Derived.Deep.Slices
import Derived.Test.YtejapjmlofekfaaDoorBytes
import Derived.StillTailTactics
/- An argument that is a list of texts, opened: what it holds, how large it may be. -/
namespace Go.Proofs.YtejapjmlofekfaaDoor
open Go.ChangeShapes Go.WideShapes Go.ChangeAt Go.RowKit Go.Deep

section
variable {b : Nat} {H : Type} {enc : TypeId × Value → H} {w : World} {spare : Nat → Bool} {held : Bool}
theorem cell_lt {p : Addr} {v : Value} (h : w.cell? p = some v) : p.block < w.heap.size := by
  rcases Nat.lt_or_ge p.block w.heap.size with hlt | hge
  · exact hlt
  · simp [World.cell?, Array.getElem?_eq_none hge] at h
def listDat (t : ByteArray) : DataW H := .lit (.string t.data.toList)
/-- the bytes of some texts -/
def listBytes : List ByteArray → Nat
  | [] => 0
  | x :: l => x.size + listBytes l
theorem weights_all_mem {P : Program} {e : TypeId} : ∀ {L : List (DataW H)} {d : DataW H} {n : Nat}, d ∈ L → n ∈ d.weights P e → n ∈ DataW.weightsAll P e L
  | x :: L, d, n, hd, hn => by
    simp only [DataW.weightsAll, List.mem_append]
    rcases List.mem_cons.1 hd with rfl | hd
    · exact .inl hn
    · exact .inr (weights_all_mem hd hn)
theorem bulk_list (L : List ByteArray) : listBytes L + L.length ≤ Rows.uptoBulkAll (L.map (listDat (H := H))) := by
  induction L with
  | nil => simp [listBytes]
  | cons x L ih =>
    have e : x.data.toList.length = x.size := rfl
    simp only [List.map_cons, Rows.uptoBulkAll, listDat, Rows.uptoBulk, List.length_cons, listBytes, e]
    omega
set_option maxRecDepth 100000 in
theorem open_list {r : Reach} {v : Value} {d : DataW H} {pl : List MemPlace} (hv : Value.okWide Tryd.prog w r b 22 v) (h : DataW.Trod enc Tryd.prog w 0 spare held 22 v d pl) :
    ∃ (A : Option Addr) (c : Nat) (T : List ByteArray), v = .slice A T.length c ∧ Txs w w.heap.size A T ∧ ((∀ n ∈ d.weights Tryd.prog 22, n ≤ reachBytes) → T.length ≤ 140737488355328 ∧ T.length * 16 ≤ 140737488351232 ∧ ∀ x ∈ T, x.size ≤ 140737488355328) ∧
      listBytes T + T.length ≤ Rows.uptoBulk d ∧ T.length ≤ c := by
  have bp : Tryd.prog.bytesOf 9 = 16 := by kernel_rfl
  have rb : reachBytes = 140737488351232 := by decide
  obtain ⟨a0, len0, cap0, rfl⟩ := okWide_slice Tryd.underlying22 hv
  obtain ⟨fuel, hf⟩ := h
  rcases open_slice1 Tryd.underlying22 (by kernel_rfl) hf with ⟨hcs, hx⟩ | ⟨a, len, cap, m, n, V, D, Pl, hcs, _, hl, _, hm, hx, hi⟩
  · simp only [Value.cells, List.cons.injEq, Value.slice.injEq, and_true] at hcs
    obtain ⟨rfl, rfl, rfl⟩ := hcs
    exact ⟨none, 0, [], rfl, Txs.nil _ _ _, fun _ => ⟨by simp, by simp, fun x hx => by cases hx⟩, Nat.zero_le _, Nat.le_refl _⟩
  · simp only [Value.cells, List.cons.injEq, Value.slice.injEq, and_true] at hcs
    obtain ⟨rfl, rfl, rfl⟩ := hcs
    have hml : len0 ≤ m := by rw [hm]; split <;> omega
    obtain ⟨L, rfl, hL⟩ := choose_list (P := fun i (x : ByteArray) => w.cell? (a.add i) = some (.string x) ∧ D i = listDat x) len0 (fun i hlt => by
      obtain ⟨hc, ht⟩ := hi i (by omega)
      obtain ⟨x, q, r, _⟩ := DataW.trod_string Tryd.underlying9 ht
      simp only [List.cons.injEq, and_true] at q
      simp only [Prod.mk.injEq] at r
      exact ⟨x, by rw [hc, q], r.1⟩)
    simp only [Prod.mk.injEq] at hx
    have hmap := range_map L (fun i x h => (hL i x h).2)
    refine ⟨some a, cap0, L, rfl, fun k x hk => ⟨a, rfl, cell_lt (hL k x hk).1, (hL k x hk).1⟩, fun hw => ?_, ?_, hl⟩
    · rw [hx.1, hmap] at hw
      have h1 := hw (((L.map (listDat (H := H))).length + ((List.range (m - L.length)).map fun j => D (L.length + j)).length) * Tryd.prog.bytesOf 9) (by simp [DataW.weights, Tryd.underlying22])
      rw [bp, List.length_map] at h1
      refine ⟨by omega, by omega, fun x hxm => ?_⟩
      have := hw x.size (by
        simp only [DataW.weights, Tryd.underlying22, List.mem_cons, List.mem_append]
        refine .inr (.inl (weights_all_mem (List.mem_map.2 ⟨x, hxm, rfl⟩) ?_))
        unfold listDat
        simp [DataW.weights])
      omega
    · rw [hx.1, hmap]
      simp only [Rows.uptoBulk]
      have := bulk_list (H := H) L
      omega
/-- the sizes of an argument, off the sizes of all -/
theorem sized_at {P : Program} {ts : List TypeId} {ds : List (DataW H)} (h : (DataW.weightsEach P ts ds).all (· ≤ reachBytes) = true) {j : Nat} {t : TypeId} {d : DataW H} (ht : ts[j]? = some t) (hd : ds[j]? = some d) : ∀ n ∈ d.weights P t, n ≤ reachBytes := fun n hn => by
  have := List.all_eq_true.1 h n (DataW.weights_mem_each (j := j) ht hd n hn)
  exact of_decide_eq_true this
end
end Go.Proofs.YtejapjmlofekfaaDoor

/- sum.blockWords: its contract. -/
namespace Go.Proofs.YtejapjmlofekfaaDoor
open Go.RowKit
attribute [local go_sem] wd_xor wd_and wd_or wd_not' wd_add wd_shr3 wd_shr10

def BWorld (l : List UInt32) (w : World) (W : World) : Prop :=
  Arr W w.heap.size 71 (warr (List.replicate 64 0)) ∧ Arr W (w.heap.size + 1) 71 (warr l) ∧ W.heap.size = w.heap.size + 2 ∧ Below w.heap.size w W
def BRel1 (l : List UInt8) (w : World) (i : Value) (wr : World) : Prop :=
  ∃ k : Nat, k ≤ 16 ∧ i = .int .i64 k ∧ BWorld (firstTo l k) w wr

def BRel2 (l : List UInt8) (w : World) (i : Value) (wr : World) : Prop :=
  ∃ n : Nat, n ≤ 48 ∧ i = .int .i64 ((n : Int) + 16) ∧ BWorld (schedTo l n) w wr
theorem BWorld.drewN {l : List UInt32} {w W : World} (h : BWorld l w W) (n : Nat) : BWorld l w (W.drewN n) := ⟨h.1.drewN n, h.2.1.drewN n, h.2.2.1, below_drewN h.2.2.2 n⟩
theorem BWorld.put {l : List UInt32} {w W : World} (h : BWorld l w W) (k : Nat) (x : UInt32) : BWorld (l.set k x) w (W.setCell ⟨w.heap.size + 1, k, none⟩ (.int .u32 (wd x))).drew := by
  refine ⟨h.1.far (by simp) _, ?_, by simp [World.setCell, World.drew, h.2.2.1], (h.2.2.2.setCell (by simp) _).drew⟩
  have := h.2.1.put k (.int .u32 (wd x))
  rw [warr_set] at this
  exact this
theorem BWorld.at_ {l : List UInt32} {w W : World} (h : BWorld l w W) (k : Nat) (hk : k < l.length) : W.cell? ⟨w.heap.size + 1, k, none⟩ = some (.int .u32 (wd (l.getD k 0))) :=
  (h.2.1.cell k).trans (warr_at _ _ hk)

set_option maxRecDepth 100000 in
set_option maxHeartbeats 1000000 in
theorem blockWords_any (s : ByteArray) (hs : s.size = 64) (w : World) :
    Calls Tryd.prog 65 #[.string s] w
      fun e w' => e = .returned (.agg (warr (schedTo s.data.toList 48))) ∧ Below w.heap.size w w' := by
  have Hs := Lib.hid hs
  have hs1 : s.size ≤ 64 := by omega
  have hs2 : 64 ≤ s.size := by omega
  clear hs
  go_enter Tryd.func65, Tryd.ntmps65
  go_wp2
  refine wp_forget (BWorld (firstTo s.data.toList 0) w) ?_ ?_
  · refine ⟨?_, ?_, by simp, ?_⟩
    · exact (Arr.new_at w _ _ rfl).alloc _
    · exact Arr.new_at (w.alloc _) _ _ (by simp)
    · exact ((Below.refl _ _).alloc (Nat.le_refl _) _).alloc (by simp) _
  intro W hW0
  go_loopw [9] (fun i wr => BRel1 s.data.toList w i wr) (fun i _ => 16 - (intOf i).toNat)
  case atStart => exact ⟨0, by omega, rfl, hW0⟩
  case round =>
    obtain ⟨k, hk, rfl, hW⟩ := hrel
    clear hW0 W
    by_cases hlt : k < 16
    · have hf : wr.frozen? ⟨w.heap.size + 1, k, none⟩ = false := hW.2.1.free k
      have hi : (k : Int) < 64 := by omega
      have hc : wr.cell? ⟨w.heap.size + 1, k, none⟩ = some (.int .u32 (wd ((firstTo s.data.toList k).getD k 0))) := (hW.2.1.cell k).trans (warr_at _ _ (by rw [firstTo_length]; omega))
      have hp : (s.extract (4 * k) (4 * k + 4)).size = 4 := by simp; omega
      go_wp2
      generalize hpe : s.extract (4 * k) (4 * k + 4) = p at *
      have hp1 : 3 < p.size := by omega
      have hb := be_join p[0] p[1] p[2] p[3]
      rw [beWord_of s p k hpe.symm hp1] at hb
      clear hpe
      generalize hbw : beWord s.data.toList k = bw at *
      have Hbw := Lib.hid hbw
      clear hbw
      go_still_tail 20, (by kernel_rfl)
      change wpList _ _ _ _ _ wr.drew
      go_wp2
      refine ⟨⟨k + 1, by omega, by go_num, ?_⟩, by simp [intOf]; omega⟩
      show BWorld ((firstTo s.data.toList k).set k (beWord s.data.toList k)) w _
      rw [Hbw.out]
      exact hW.put k bw
    · obtain rfl : k = 16 := by omega
      clear hlt hk
      go_wp2
      rw [show ((16 : Nat) : Int) = 16 from rfl]
      go_loopw [6] (fun i wr => BRel2 s.data.toList w i wr) (fun i _ => 64 - (intOf i).toNat)
      case atStart => exact ⟨0, by omega, rfl, hW⟩
      case round =>
        clear hW
        obtain ⟨n, hn, rfl, hW⟩ := hrel
        have hl := schedTo_length s.data.toList n
        by_cases hlt : n < 48
        · have hc1 := hW.at_ (n + 1) (by omega)
          have hc14 := hW.at_ (n + 14) (by omega)
          have HL := Lib.hid hl
          clear hl
          have HE : Hid (schedTo s.data.toList (n + 1) = (schedTo s.data.toList n).set (n + 16) ((schedTo s.data.toList n).getD n 0 + sig0 ((schedTo s.data.toList n).getD (n + 1) 0) + (schedTo s.data.toList n).getD (n + 9) 0 + sig1 ((schedTo s.data.toList n).getD (n + 14) 0))) := rfl
          generalize schedTo s.data.toList n = L at *
          generalize L.getD (n + 1) 0 = x1 at *
          generalize hx14 : L.getD (n + 14) 0 = x14 at *
          have Hx14 := Lib.hid hx14
          clear hx14
          go_wp2
          go_quiet ((go_at_call 69; exact Calls.quiet_of_same (rotated_int _ _ (by omega) (by omega) _)))
          go_wp2
          refine wp_forget (BWorld L w) (hW.drewN _) ?_
          clear hW hc1 hc14 wr
          intro wr hW
          have hc14 := hW.at_ (n + 14) (by have := HL.out; omega)
          rw [Hx14.out] at hc14
          go_quiet ((go_at_call 69; exact Calls.quiet_of_same (rotated_int _ _ (by omega) (by omega) _)))
          go_wp2
          refine wp_forget (BWorld L w) (hW.drewN _) ?_
          clear hW hc14 wr
          intro wr hW
          have hc0 := hW.at_ n (by have := HL.out; omega)
          have hc9 := hW.at_ (n + 9) (by have := HL.out; omega)
          have hc16 := hW.at_ (n + 16) (by have := HL.out; omega)
          have hf : wr.frozen? ⟨w.heap.size + 1, n + 16, none⟩ = false := hW.2.1.free _
          generalize L.getD n 0 = x0 at *
          generalize L.getD (n + 9) 0 = x9 at *
          generalize L.getD (n + 16) 0 = x16 at *
          have e0 : IntKind.i64.wrap (n : Int) = n := IntWalk.i64_in _ (by omega)
          have e9 : IntKind.i64.wrap ((n : Int) + 16 - 7) = (n : Int) + 9 := by rw [IntWalk.i64_in _ (by omega)]; omega
          have e9n : ((n : Int) + 9).toNat = n + 9 := by omega
          have e16n : ((n : Int) + 16).toNat = n + 16 := by omega
          have g0 : (n : Int) < 64 := by omega
          have g9 : 0 ≤ (n : Int) + 9 := by omega
          have g9' : (n : Int) + 9 < 64 := by omega
          have g16 : 0 ≤ (n : Int) + 16 := by omega
          have g16' : (n : Int) + 16 < 64 := by omega
          go_still_tail 15, (by kernel_rfl)
          change wpList _ _ _ _ _ wr.drew
          go_wp2
          clear e0 e9 e9n e16n g0 g9 g9' g16 g16'
          refine ⟨⟨n + 1, by omega, by go_num, ?_⟩, by simp [intOf]; omega⟩
          rw [HE.out]
          exact hW.put (n + 16) _
        · obtain rfl : n = 48 := by omega
          clear hlt hn
          generalize hLL : schedTo s.data.toList 48 = L at *
          have HLL := Lib.hid hLL
          have HC := Lib.hid hl
          clear hl hLL
          go_wp2_with (first
            | (refine wpList_load_row rfl 71 _ rfl (w.heap.size + 1) rfl 71 (warr L) (0, 0) _ hW.2.1 Tryd.underlying71 rfl (info64 L HC.out) ?_)
            | (refine wpList_store_row rfl 71 _ _ rfl w.heap.size (warr L) rfl rfl 71 (warr (List.replicate 64 0)) hW.1 (info64 L HC.out) (by rw [warr_size, warr_size, HC.out]; rfl) (warr_one L) ?_))
          refine bodyPost_ret (v := .agg (warr L)) ?_ rfl ⟨by rw [HLL.out], below_setRow hW.2.2.2 (by omega) _⟩
          exact results_cell_row Tryd.results65 _ _ w.heap.size 71 (warr L) (0, 0) _ rfl (hW.1.row _) Tryd.underlying71 rfl (info64 L HC.out)
end Go.Proofs.YtejapjmlofekfaaDoor
