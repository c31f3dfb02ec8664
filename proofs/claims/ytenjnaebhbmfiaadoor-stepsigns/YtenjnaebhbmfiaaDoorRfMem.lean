/- Lists of refs in memory. -/
import Derived.Test.YtenjnaebhbmfiaaDoorRfSpec
import Derived.Test.YtenjnaebhbmfiaaDoorDkMem
import Derived.Test.YtenjnaebhbmfiaaDoorOApp
namespace Go.Proofs.YtenjnaebhbmfiaaDoor
open Go.RowKit

def rfArr (f : Rf) : Array Value := #[.string f.name, .string f.id]
def rfCells : List Rf → List Value
  | [] => []
  | f :: l => (rfArr f).toList ++ rfCells l
theorem rfCells_app : ∀ a b : List Rf, rfCells (a ++ b) = rfCells a ++ rfCells b
  | [], b => rfl
  | x :: a, b => by rw [List.cons_append, rfCells, rfCells_app a b, rfCells, List.append_assoc]
theorem rfCells_len : ∀ l : List Rf, (rfCells l).length = l.length * 2
  | [] => rfl
  | f :: l => by
    rw [rfCells, List.length_append, rfCells_len l, List.length_cons]
    have : (rfArr f).toList.length = 2 := rfl
    omega
theorem rfCells_at : ∀ (l : List Rf) (k j : Nat) (f : Rf), l[k]? = some f → j < 2 → (rfCells l)[k * 2 + j]? = (rfArr f).toList[j]?
  | [], k, j, f, h, _ => by simp at h
  | x :: l, 0, j, f, h, hj => by
    simp at h
    subst h
    rw [rfCells, Nat.zero_mul, Nat.zero_add, List.getElem?_append_left (show j < (rfArr x).toList.length from hj)]
  | x :: l, k + 1, j, f, h, hj => by
    rw [List.getElem?_cons_succ] at h
    have ih := rfCells_at l k j f h hj
    have e : (rfArr x).toList.length = 2 := rfl
    rw [rfCells, List.getElem?_append_right (by omega), show (k + 1) * 2 + j - (rfArr x).toList.length = k * 2 + j from by omega]
    exact ih
theorem rfCells_one (l : List Rf) : ∀ u ∈ rfCells l, u.oneCell' = true := by
  induction l with
  | nil => intro u hu; cases hu
  | cons f l ih =>
    intro u hu
    rcases List.mem_append.1 hu with h | h
    · simp [rfArr] at h
      rcases h with rfl | rfl <;> rfl
    · exact ih u h
theorem rfArr_one (f : Rf) : (rfArr f).all (·.oneCell') = true := by
  unfold rfArr
  rw [Array.all_eq_true_iff_forall_mem]
  intro v hv
  simp at hv
  rcases hv with rfl | rfl <;> rfl
/-- the refs that a slice holds, all in blocks below B -/
def Rfs (w : World) (B : Nat) (A : Option Addr) (L : List Rf) : Prop :=
  ∀ k x, L[k]? = some x → ∃ ad, A = some ad ∧ (ad.add (k * 2)).block < B ∧ w.cell? (ad.add (k * 2)) = some (.string x.name) ∧ w.cell? ⟨(ad.add (k * 2)).block, (ad.add (k * 2)).off + 1, none⟩ = some (.string x.id)
theorem Rfs.below {w w' : World} {B : Nat} {A : Option Addr} {L : List Rf} (h : Rfs w B A L) (b : Below B w w') : Rfs w' B A L := fun k x hx => by
  obtain ⟨ad, e, hb, h0, h1⟩ := h k x hx
  exact ⟨ad, e, hb, (b.cell hb).trans h0, (b.cell (p := ⟨(ad.add (k * 2)).block, (ad.add (k * 2)).off + 1, none⟩) hb).trans h1⟩
theorem Rfs.mono {w : World} {B B' : Nat} {A : Option Addr} {L : List Rf} (h : Rfs w B A L) (hB : B ≤ B') : Rfs w B' A L := fun k x hx => by
  obtain ⟨ad, e, hb, hc⟩ := h k x hx
  exact ⟨ad, e, by omega, hc⟩
theorem Rfs.nil (w : World) (B : Nat) (A : Option Addr) : Rfs w B A [] := fun k x h => by simp at h
theorem Rfs.up {w w' : World} {A : Option Addr} {L : List Rf} (h : Rfs w w.heap.size A L) (b : Below w.heap.size w w') : Rfs w' w'.heap.size A L := (h.below b).mono b.size
theorem Rfs.addr {w : World} {B : Nat} {A : Option Addr} {L : List Rf} (h : Rfs w B A L) (hL : 0 < L.length) : ∃ ad, A = some ad := by
  obtain ⟨ad, e, _⟩ := h 0 L[0] (List.getElem?_eq_getElem hL)
  exact ⟨ad, e⟩
/-- texts that memory bears -/
def SizedR (L : List Rf) : Prop := ∀ f ∈ L, f.name.size ≤ 140737488355328 ∧ f.id.size ≤ 140737488355328
theorem rfCells_get : ∀ (L : List Rf) (j : Nat) (u : Value), (rfCells L)[j]? = some u → ∃ x, L[j / 2]? = some x ∧ ((j % 2 = 0 ∧ u = .string x.name) ∨ (j % 2 = 1 ∧ u = .string x.id))
  | [], j, u, h => by simp [rfCells] at h
  | e :: L, 0, u, h => by simp [rfCells, rfArr] at h; exact ⟨e, rfl, .inl ⟨rfl, h.symm⟩⟩
  | e :: L, 1, u, h => by simp [rfCells, rfArr] at h; exact ⟨e, rfl, .inr ⟨rfl, h.symm⟩⟩
  | e :: L, j + 2, u, h => by
    have h2 : (rfCells L)[j]? = some u := h
    obtain ⟨x, h3, h4⟩ := rfCells_get L j u h2
    refine ⟨x, ?_, ?_⟩
    · rw [show (j + 2) / 2 = j / 2 + 1 from by omega, List.getElem?_cons_succ]; exact h3
    · rw [show (j + 2) % 2 = j % 2 from by omega]; exact h4
theorem Rfs.news {w : World} {B : Nat} {A : Option Addr} {L : List Rf} (h : Rfs w B A L) : News w A L.length (rfCells L) := by
  refine ⟨fun e => ?_, fun ad e j u hu => ?_⟩
  · cases L with
    | nil => rfl
    | cons x T =>
      obtain ⟨ad, e1, _⟩ := h 0 x rfl
      rw [e] at e1; cases e1
  · obtain ⟨x, h1, h2⟩ := rfCells_get L j u hu
    obtain ⟨ad', e1, _, k0, k1⟩ := h (j / 2) x h1
    rw [e] at e1; cases e1
    rcases h2 with ⟨hm, rfl⟩ | ⟨hm, rfl⟩
    · rw [show j = j / 2 * 2 from by omega]; exact k0
    · rw [show j = j / 2 * 2 + 1 from by omega, add_add _ _ _ (by decide)]; exact k1
end Go.Proofs.YtenjnaebhbmfiaaDoor
