/- Steps in memory. -/
import Derived.Test.YtbpmgpbmeganoaaDoorSpSpec
import Derived.Test.YtbpmgpbmeganoaaDoorStNums
import Derived.Test.YtbpmgpbmeganoaaDoorOApp
namespace Go.Proofs.YtbpmgpbmeganoaaDoor
open Go.RowKit

theorem NumsA.below {w w' : World} {B : Nat} {A : Option Addr} {N : List Int} (h : NumsA w B A N) (b : Below B w w') : NumsA w' B A N := fun k x hx => by
  obtain ⟨ad, e, hb, hc⟩ := h k x hx
  exact ⟨ad, e, hb, (b.cell hb).trans hc⟩
theorem NumsA.mono {w : World} {B B' : Nat} {A : Option Addr} {N : List Int} (h : NumsA w B A N) (hB : B ≤ B') : NumsA w B' A N := fun k x hx => by
  obtain ⟨ad, e, hb, hc⟩ := h k x hx
  exact ⟨ad, e, by omega, hc⟩
theorem NumsA.nil (w : World) (B : Nat) (A : Option Addr) : NumsA w B A [] := fun k x h => by simp at h
theorem NumsA.up {w w' : World} {A : Option Addr} {N : List Int} (h : NumsA w w.heap.size A N) (b : Below w.heap.size w w') : NumsA w' w'.heap.size A N := (h.below b).mono b.size
def iv (x : Int) : Value := .int .i64 x
theorem iv_one (N : List Int) : ∀ u ∈ N.map iv, u.oneCell' = true := fun u hu => by
  obtain ⟨x, _, rfl⟩ := List.mem_map.1 hu
  rfl
theorem NumsA.news {w : World} {B : Nat} {A : Option Addr} {N : List Int} (h : NumsA w B A N) : News w A N.length (N.map iv) := by
  refine ⟨fun e => ?_, fun ad e j u hu => ?_⟩
  · cases N with
    | nil => rfl
    | cons x T =>
      obtain ⟨ad, e1, _⟩ := h 0 x rfl
      rw [e] at e1; cases e1
  · rw [List.getElem?_map] at hu
    cases hx : N[j]? with
    | none => rw [hx] at hu; cases hu
    | some x =>
      rw [hx] at hu
      obtain ⟨ad', e1, _, h2⟩ := h j x hx
      rw [e] at e1; cases e1
      rw [h2]; exact hu
theorem own_nums {w : World} {base : Nat} {v : Value} {N : List Int} (h : w.ownsRow base 3 1 v N.length (N.map iv)) : ∃ A c, v = .slice A N.length c ∧ N.length ≤ c ∧ NumsA w w.heap.size A N := by
  rcases h.2 with ⟨rfl, hn⟩ | ⟨g, cap, cur, rfl, hb, hg, hnc, hcm, hcs, htake⟩
  · obtain rfl : N = [] := List.eq_nil_of_length_eq_zero hn
    exact ⟨none, 0, rfl, Nat.le_refl _, NumsA.nil _ _ _⟩
  · refine ⟨.some ⟨g, 0, none⟩, cap, rfl, hnc, fun k f hk => ⟨_, rfl, ?_⟩⟩
    have hlt : k < N.length := (List.getElem?_eq_some_iff.1 hk).1
    rw [zero_add]
    refine ⟨(Array.getElem?_eq_some_iff.1 hg).1, ?_⟩
    have e : (N.map iv)[k]? = some (.int .i64 f) := by rw [List.getElem?_map, hk]; rfl
    rw [cell_of_row w g _ cur _ (0, 0) hg, ← e, ← htake, List.getElem?_take_of_lt (by omega)]
    simp
/-- where a step's slices lie -/
structure SpAt where
  wa : Option Addr
  wc : Nat
  sa : Option Addr
  sc : Nat
def spArr (s : Sp) (p : SpAt) : Array Value := #[.string s.ref, .string s.old, .string s.new, .slice p.wa s.who.length p.wc, .slice p.sa s.seals.length p.sc]
def spZero : Array Value := #[.string ⟨#[]⟩, .string ⟨#[]⟩, .string ⟨#[]⟩, .slice none 0 0, .slice none 0 0]
def pZ : SpAt := ⟨none, 0, none, 0⟩
/-- a step whose slices lie in blocks below B -/
structure SpIn (w : World) (B : Nat) (s : Sp) (p : SpAt) : Prop where
  nums : NumsA w B p.wa s.who
  txs : Txs w B p.sa s.seals
  wroom : s.who.length ≤ p.wc
  sroom : s.seals.length ≤ p.sc
theorem SpIn.below {w w' : World} {B : Nat} {s : Sp} {p : SpAt} (h : SpIn w B s p) (b : Below B w w') : SpIn w' B s p := ⟨h.nums.below b, h.txs.below b, h.wroom, h.sroom⟩
theorem SpIn.mono {w : World} {B B' : Nat} {s : Sp} {p : SpAt} (h : SpIn w B s p) (hB : B ≤ B') : SpIn w B' s p := ⟨h.nums.mono hB, h.txs.mono hB, h.wroom, h.sroom⟩
theorem SpIn.up {w w' : World} {s : Sp} {p : SpAt} (h : SpIn w w.heap.size s p) (b : Below w.heap.size w w') : SpIn w' w'.heap.size s p := (h.below b).mono b.size
theorem spZ_in (w : World) (B : Nat) : SpIn w B spZ pZ := ⟨NumsA.nil _ _ _, Txs.nil _ _ _, Nat.le_refl _, Nat.le_refl _⟩
theorem spArr_one (s : Sp) (p : SpAt) : (spArr s p).all (·.oneCell') = true := by
  unfold spArr
  rw [Array.all_eq_true_iff_forall_mem]
  intro v hv
  simp at hv
  rcases hv with rfl | rfl | rfl | rfl | rfl <;> rfl
theorem spArr_size (s : Sp) (p : SpAt) : (spArr s p).size = 5 := rfl
theorem spInfo (s : Sp) (p : SpAt) : (Tryd.prog.info? 25).map (·.size) = some (spArr s p).size := by
  rw [spArr_size]
  kernel_rfl
theorem info_int : (Tryd.prog.info? 3).map (fun i => (i.zero, i.size, i.bytes)) = some (some (.int .i64 0), 1, 8) := by kernel_rfl
/-- texts and numbers that memory bears -/
structure SpSz (s : Sp) : Prop where
  who : s.who.length * 8 ≤ 140737488351232
  seals : s.seals.length * 16 ≤ 140737488351232
  ref : s.ref.size ≤ 140737488351232
  old : s.old.size ≤ 140737488351232
  new : s.new.size ≤ 140737488351232
  each : ∀ t ∈ s.seals, t.size ≤ 140737488351232
end Go.Proofs.YtbpmgpbmeganoaaDoor
