/- Texts in one: POpen, WFrame. -/
import Derived.Test.YtmikfmcgddmplaaGreatDoorLists
import Derived.Test.YtmikfmcgddmplaaGreatDoorDkMath
import Derived.Deep.Slices
import Derived.Test.YtmikfmcgddmplaaGreatDoorOwn
import Derived.WalkKit
import Derived.ProofKit
import Derived.OpenShut
import Derived.ShutString
import Derived.SizedLaws
import Derived.ChangeOld
import Derived.Below
import Derived.Deep.DeepHandedRow
/- An argument that is a list of texts, opened: what it holds, how large it may be. -/
namespace Go.Proofs.YtmikfmcgddmplaaGreatDoor
open Go.ChangeShapes Go.WideShapes Go.ChangeAt Go.RowKit Go.Deep

section
variable {b : Nat} {H : Type} {enc : TypeId × Value → H} {w : World} {spare : Nat → Bool} {held : Bool}
theorem cell_lt {p : Addr} {v : Value} (h : w.cell? p = some v) : p.block < w.heap.size := by
  rcases Nat.lt_or_ge p.block w.heap.size with hlt | hge
  · exact hlt
  · simp [World.cell?, Array.getElem?_eq_none hge] at h
def listDat (t : ByteArray) : DataW H := .lit (.string t.data.toList)
/-- the bytes of some texts -/
def listBytes : List ByteArray → Nat
  | [] => 0
  | x :: l => x.size + listBytes l
theorem weights_all_mem {P : Program} {e : TypeId} : ∀ {L : List (DataW H)} {d : DataW H} {n : Nat}, d ∈ L → n ∈ d.weights P e → n ∈ DataW.weightsAll P e L
  | x :: L, d, n, hd, hn => by
    simp only [DataW.weightsAll, List.mem_append]
    rcases List.mem_cons.1 hd with rfl | hd
    · exact .inl hn
    · exact .inr (weights_all_mem hd hn)
theorem bulk_list (L : List ByteArray) : listBytes L + L.length ≤ Rows.uptoBulkAll (L.map (listDat (H := H))) := by
  induction L with
  | nil => simp [listBytes]
  | cons x L ih =>
    have e : x.data.toList.length = x.size := rfl
    simp only [List.map_cons, Rows.uptoBulkAll, listDat, Rows.uptoBulk, List.length_cons, listBytes, e]
    omega
set_option maxRecDepth 100000 in
theorem open_list {r : Reach} {v : Value} {d : DataW H} {pl : List MemPlace} (hv : Value.okWide Tryz.prog w r b 22 v) (h : DataW.Trod enc Tryz.prog w 0 spare held 22 v d pl) :
    ∃ (A : Option Addr) (c : Nat) (T : List ByteArray), v = .slice A T.length c ∧ Txs w w.heap.size A T ∧ ((∀ n ∈ d.weights Tryz.prog 22, n ≤ reachBytes) → T.length ≤ 140737488355328 ∧ T.length * 16 ≤ 140737488351232 ∧ ∀ x ∈ T, x.size ≤ 140737488355328) ∧
      listBytes T + T.length ≤ Rows.uptoBulk d ∧ T.length ≤ c := by
  have bp : Tryz.prog.bytesOf 9 = 16 := by kernel_rfl
  have rb : reachBytes = 140737488351232 := by decide
  obtain ⟨a0, len0, cap0, rfl⟩ := okWide_slice Tryz.underlying22 hv
  obtain ⟨fuel, hf⟩ := h
  rcases open_slice1 Tryz.underlying22 (by kernel_rfl) hf with ⟨hcs, hx⟩ | ⟨a, len, cap, m, n, V, D, Pl, hcs, _, hl, _, hm, hx, hi⟩
  · simp only [Value.cells, List.cons.injEq, Value.slice.injEq, and_true] at hcs
    obtain ⟨rfl, rfl, rfl⟩ := hcs
    exact ⟨none, 0, [], rfl, Txs.nil _ _ _, fun _ => ⟨by simp, by simp, fun x hx => by cases hx⟩, Nat.zero_le _, Nat.le_refl _⟩
  · simp only [Value.cells, List.cons.injEq, Value.slice.injEq, and_true] at hcs
    obtain ⟨rfl, rfl, rfl⟩ := hcs
    have hml : len0 ≤ m := by rw [hm]; split <;> omega
    obtain ⟨L, rfl, hL⟩ := choose_list (P := fun i (x : ByteArray) => w.cell? (a.add i) = some (.string x) ∧ D i = listDat x) len0 (fun i hlt => by
      obtain ⟨hc, ht⟩ := hi i (by omega)
      obtain ⟨x, q, r, _⟩ := DataW.trod_string Tryz.underlying9 ht
      simp only [List.cons.injEq, and_true] at q
      simp only [Prod.mk.injEq] at r
      exact ⟨x, by rw [hc, q], r.1⟩)
    simp only [Prod.mk.injEq] at hx
    have hmap := range_map L (fun i x h => (hL i x h).2)
    refine ⟨some a, cap0, L, rfl, fun k x hk => ⟨a, rfl, cell_lt (hL k x hk).1, (hL k x hk).1⟩, fun hw => ?_, ?_, hl⟩
    · rw [hx.1, hmap] at hw
      have h1 := hw (((L.map (listDat (H := H))).length + ((List.range (m - L.length)).map fun j => D (L.length + j)).length) * Tryz.prog.bytesOf 9) (by simp [DataW.weights, Tryz.underlying22])
      rw [bp, List.length_map] at h1
      refine ⟨by omega, by omega, fun x hxm => ?_⟩
      have := hw x.size (by
        simp only [DataW.weights, Tryz.underlying22, List.mem_cons, List.mem_append]
        refine .inr (.inl (weights_all_mem (List.mem_map.2 ⟨x, hxm, rfl⟩) ?_))
        unfold listDat
        simp [DataW.weights])
      omega
    · rw [hx.1, hmap]
      simp only [Rows.uptoBulk]
      have := bulk_list (H := H) L
      omega
/-- the sizes of an argument, off the sizes of all -/
theorem sized_at {P : Program} {ts : List TypeId} {ds : List (DataW H)} (h : (DataW.weightsEach P ts ds).all (· ≤ reachBytes) = true) {j : Nat} {t : TypeId} {d : DataW H} (ht : ts[j]? = some t) (hd : ds[j]? = some d) : ∀ n ∈ d.weights P t, n ≤ reachBytes := fun n hn => by
  have := List.all_eq_true.1 h n (DataW.weights_mem_each (j := j) ht hd n hn)
  exact of_decide_eq_true this
end
end Go.Proofs.YtmikfmcgddmplaaGreatDoor

/- What every claim of a seat without tables needs. -/
namespace Go.Proofs.YtmikfmcgddmplaaGreatDoor
open Go.ChangeShapes Go.WideShapes Go.ChangeAt Go.RowKit

noncomputable def plainWorld (os : Os) : World := World.holding Tryz.prog os ⟨#[], #[], []⟩
theorem laidMet_nil (W : World) : laidMet Tryz.prog [] W := ⟨[], by simp [DataW.LaidVars], List.nodup_nil, fun _ _ h => by cases h⟩
theorem int_range {n : Int} (h : (Lit.int .i64 n).wf = true) : -9223372036854775808 ≤ n ∧ n ≤ 9223372036854775807 := by
  simp [Lit.wf, IntKind.min, IntKind.max, IntKind.signed, IntKind.bits] at h
  omega
end Go.Proofs.YtmikfmcgddmplaaGreatDoor
