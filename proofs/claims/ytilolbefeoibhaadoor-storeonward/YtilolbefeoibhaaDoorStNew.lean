/- store.newVisits: its contract; what Descends answers. -/
import Derived.Test.YtilolbefeoibhaaDoorStVis
import Derived.Test.YtilolbefeoibhaaDoorStSpec
import Derived.Test.YtilolbefeoibhaaDoorOApp
namespace Go.Proofs.YtilolbefeoibhaaDoor
open Go.RowKit

def NvEnd (w : World) (T : List ByteArray) (x : Ending) (w' : World) : Prop :=
  ∃ g gm v, x = .returned (.pointer (some ⟨g, 0, none⟩)) ∧ Vi w.heap.size g gm T v w' ∧ Below w.heap.size w w'
set_option maxRecDepth 100000 in
set_option maxHeartbeats 1000000 in
theorem newVisits_any (U : List ByteArray) (A : Option Addr) (c : Nat) (w : World) (hU : Txs w w.heap.size A U) (hl : U.length * 16 ≤ 140737488355328) :
    Calls Tryd.prog 21 #[.slice A U.length c] w (NvEnd w (addAll [] U)) := by
  have hmm : ∀ W : World, (Instr.makeMap 55 none).run Tryd.prog W = .ok (.map (some W.heap.size)) (W.alloc (.map #[] 0)) := fun _ => rfl
  have HF : Hid (Vi w.heap.size (w.heap.size + 1) w.heap.size [] (.slice none 0 0) ((w.alloc (.map #[] 0)).alloc (.cells (viArr (.slice none 0 0) w.heap.size) 57)) ∧ Below w.heap.size w ((w.alloc (.map #[] 0)).alloc (.cells (viArr (.slice none 0 0) w.heap.size) 57))) := by
    have b1 : Below w.heap.size w (w.alloc (.map #[] 0)) := (Below.refl _ _).alloc (Nat.le_refl _) _
    have b2 : Below w.heap.size w ((w.alloc (.map #[] 0)).alloc (.cells (viArr (.slice none 0 0) w.heap.size) 57)) := b1.alloc (by simp) _
    have hM : MapX (w.alloc (.map #[] 0)) w.heap.size [] := MapX.new w
    exact ⟨⟨Arr.new_at _ _ _ (by simp), own_nil _ _ _ _, ⟨[], (Below.heap_alloc _ _ _ hM.lt).trans hM, keyX_nil, fun x hx => by cases hx⟩, by omega, Nat.le_refl _, b2.size⟩, b2⟩
  go_enter Tryd.func21, Tryd.ntmps21
  go_upto_region 2 with fail
  refine wp_forget (fun W => Vi w.heap.size (w.heap.size + 1) w.heap.size [] (.slice none 0 0) W ∧ Below w.heap.size w W) (by exact HF.out) ?_
  clear HF hmm
  rintro W ⟨hV, hB⟩
  have C := Lib.hid (vadd_any hV U A c ((hU.below hB).mono hB.size) (fun ad _ e => by cases e) (by simpa using hl))
  clear hV
  go_wp2_with fail
  (with_reducible refine C.out.mono ?_)
  rintro _ W2 ⟨rfl, ⟨v', hV2⟩, b2⟩
  go_wp2_with fail
  go_ret
  exact ⟨_, _, v', rfl, hV2, hB.trans b2⟩
/-- what Descends answers: the ids that have come up, how many of them are seen -/
def descGo (G : ByteArray → ByteArray × Int) (to : ByteArray) : Nat → List ByteArray → Nat → Bool
  | 0, _, _ => false
  | n + 1, V, i => if i < min V.length 400 then (if V.getD i ⟨#[]⟩ = to then true else descGo G to n (addAll V (loadR (G (V.getD i ⟨#[]⟩))).1.pars) (i + 1)) else false
def desc (G : ByteArray → ByteArray × Int) (id to : ByteArray) : Bool := descGo G to 401 [id] 0
theorem loadR_pars (r : ByteArray × Int) : (loadR r).1.pars.length ≤ 4 := by
  unfold loadR
  split
  · simp [Ob.none]
  · split
    · simp [Ob.none]
    · rename_i h
      have h2 : (decO r.1.data.toList).2 = 0 := by
        by_cases e : (decO r.1.data.toList).2 = 0
        · exact e
        · exact absurd e h
      exact (good_facts (dec_only h2).2.1).pars
end Go.Proofs.YtilolbefeoibhaaDoor
