/- Disks in memory. -/
import Derived.Test.YtmikfmcgddmplaaGreatDoorDkMath
import Derived.Test.YtmikfmcgddmplaaGreatDoorWRead
import Derived.Test.YtmikfmcgddmplaaGreatDoorODecC
namespace Go.Proofs.YtmikfmcgddmplaaGreatDoor
open Go.RowKit

def flArr (f : Fl) : Array Value := #[.string f.name, .string f.safe, .string f.tail]
def flZero : Array Value := #[.string ⟨#[]⟩, .string ⟨#[]⟩, .string ⟨#[]⟩]
def flCells : List Fl → List Value
  | [] => []
  | f :: l => (flArr f).toList ++ flCells l
theorem flCells_app : ∀ a b : List Fl, flCells (a ++ b) = flCells a ++ flCells b
  | [], b => rfl
  | x :: a, b => by rw [List.cons_append, flCells, flCells_app a b, flCells, List.append_assoc]
theorem flCells_len : ∀ l : List Fl, (flCells l).length = l.length * 3
  | [] => rfl
  | f :: l => by
    rw [flCells, List.length_append, flCells_len l, List.length_cons]
    have : (flArr f).toList.length = 3 := rfl
    omega
theorem flCells_at : ∀ (l : List Fl) (k j : Nat) (f : Fl), l[k]? = some f → j < 3 → (flCells l)[k * 3 + j]? = (flArr f).toList[j]?
  | [], k, j, f, h, _ => by simp at h
  | x :: l, 0, j, f, h, hj => by
    simp at h
    subst h
    rw [flCells, Nat.zero_mul, Nat.zero_add, List.getElem?_append_left (show j < (flArr x).toList.length from hj)]
  | x :: l, k + 1, j, f, h, hj => by
    rw [List.getElem?_cons_succ] at h
    have ih := flCells_at l k j f h hj
    have e : (flArr x).toList.length = 3 := rfl
    rw [flCells, List.getElem?_append_right (by omega), show (k + 1) * 3 + j - (flArr x).toList.length = k * 3 + j from by omega]
    exact ih
theorem flCells_take : ∀ (l : List Fl) (k : Nat), (flCells l).take (k * 3) = flCells (l.take k)
  | [], k => by simp [flCells]
  | x :: l, 0 => by simp [flCells]
  | x :: l, k + 1 => by
    have e : (flArr x).toList.length = 3 := rfl
    rw [List.take_succ_cons, flCells, flCells, ← flCells_take l k, show (k + 1) * 3 = (flArr x).toList.length + k * 3 from by omega, List.take_append, List.take_of_length_le (by omega)]
    simp
theorem flCells_drop : ∀ (l : List Fl) (k : Nat), (flCells l).drop (k * 3) = flCells (l.drop k)
  | [], k => by simp [flCells]
  | x :: l, 0 => by simp [flCells]
  | x :: l, k + 1 => by
    have e : (flArr x).toList.length = 3 := rfl
    rw [List.drop_succ_cons, flCells, ← flCells_drop l k, show (k + 1) * 3 = (flArr x).toList.length + k * 3 from by omega, List.drop_append, List.drop_of_length_le (by omega)]
    simp
theorem flCells_one (l : List Fl) : ∀ u ∈ flCells l, u.oneCell' = true := by
  induction l with
  | nil => intro u hu; cases hu
  | cons f l ih =>
    intro u hu
    rcases List.mem_append.1 hu with h | h
    · simp [flArr] at h
      rcases h with rfl | rfl | rfl <;> rfl
    · exact ih u h
theorem flArr_one (f : Fl) : (flArr f).all (·.oneCell') = true := by
  unfold flArr
  rw [Array.all_eq_true_iff_forall_mem]
  intro v hv
  simp at hv
  rcases hv with rfl | rfl | rfl <;> rfl
theorem flInfo (f : Fl) : (Tryz.prog.info? 68).map (·.size) = some (flArr f).size := by
  rw [show (flArr f).size = 3 from rfl]
  kernel_rfl
theorem info_file : (Tryz.prog.info? 68).map (fun i => (i.zero, i.size, i.bytes)) = some (some (.agg #[.string ⟨#[]⟩, .string ⟨#[]⟩, .string ⟨#[]⟩]), 3, 48) := by kernel_rfl
/-- the files that a slice holds, all in blocks below B -/
def Fls (w : World) (B : Nat) (A : Option Addr) (L : List Fl) : Prop :=
  ∀ k x, L[k]? = some x → ∃ ad, A = some ad ∧ (ad.add (k * 3)).block < B ∧ w.cell? (ad.add (k * 3)) = some (.string x.name) ∧
    w.cell? ⟨(ad.add (k * 3)).block, (ad.add (k * 3)).off + 1, none⟩ = some (.string x.safe) ∧ w.cell? ⟨(ad.add (k * 3)).block, (ad.add (k * 3)).off + 2, none⟩ = some (.string x.tail)
theorem Fls.below {w w' : World} {B : Nat} {A : Option Addr} {L : List Fl} (h : Fls w B A L) (b : Below B w w') : Fls w' B A L := fun k x hx => by
  obtain ⟨ad, e, hb, h0, h1, h2⟩ := h k x hx
  exact ⟨ad, e, hb, (b.cell hb).trans h0, (b.cell (p := ⟨(ad.add (k * 3)).block, (ad.add (k * 3)).off + 1, none⟩) hb).trans h1, (b.cell (p := ⟨(ad.add (k * 3)).block, (ad.add (k * 3)).off + 2, none⟩) hb).trans h2⟩
theorem Fls.mono {w : World} {B B' : Nat} {A : Option Addr} {L : List Fl} (h : Fls w B A L) (hB : B ≤ B') : Fls w B' A L := fun k x hx => by
  obtain ⟨ad, e, hb, hc⟩ := h k x hx
  exact ⟨ad, e, by omega, hc⟩
theorem Fls.nil (w : World) (B : Nat) (A : Option Addr) : Fls w B A [] := fun k x h => by simp at h
theorem Fls.up {w w' : World} {A : Option Addr} {L : List Fl} (h : Fls w w.heap.size A L) (b : Below w.heap.size w w') : Fls w' w'.heap.size A L := (h.below b).mono b.size
/-- a slice that owns its row holds these files -/
theorem own_files {w : World} {base : Nat} {v : Value} {L : List Fl} (h : w.ownsRow base 68 3 v L.length (flCells L)) : ∃ A c, v = .slice A L.length c ∧ L.length ≤ c ∧ Fls w w.heap.size A L := by
  rcases h.2 with ⟨rfl, hn⟩ | ⟨g, cap, cur, rfl, hb, hg, hnc, hcm, hcs, htake⟩
  · obtain rfl : L = [] := List.eq_nil_of_length_eq_zero hn
    exact ⟨none, 0, rfl, Nat.le_refl _, Fls.nil _ _ _⟩
  · refine ⟨some ⟨g, 0, none⟩, cap, rfl, hnc, fun k f hk => ⟨_, rfl, ?_⟩⟩
    have hlt : k < L.length := (List.getElem?_eq_some_iff.1 hk).1
    have hcell : ∀ j, j < 3 → w.cell? ⟨g, k * 3 + j, none⟩ = (flArr f).toList[j]? := fun j hj => by
      rw [cell_of_row w g _ cur _ (0, 0) hg, ← flCells_at L k j f hk hj, ← htake, List.getElem?_take_of_lt (by omega)]
      simp
    rw [zero_add]
    exact ⟨(Array.getElem?_eq_some_iff.1 hg).1, hcell 0 (by omega), hcell 1 (by omega), hcell 2 (by omega)⟩
/-- a disk's cells -/
def dkArr (L : List Fl) (A : Option Addr) (c : Nat) (z : Int) : Array Value := #[.slice A L.length c, .int .i64 z]
def dkZero : Array Value := #[.slice none 0 0, .int .i64 0]
theorem dkInfo (L : List Fl) (A : Option Addr) (c : Nat) (z : Int) : (Tryz.prog.info? 37).map (·.size) = some (dkArr L A c z).size := by
  rw [show (dkArr L A c z).size = 2 from rfl]
  kernel_rfl
theorem dkArr_one (L : List Fl) (A : Option Addr) (c : Nat) (z : Int) : (dkArr L A c z).all (·.oneCell') = true := by
  unfold dkArr
  rw [Array.all_eq_true_iff_forall_mem]
  intro v hv
  simp at hv
  rcases hv with rfl | rfl <;> rfl
end Go.Proofs.YtmikfmcgddmplaaGreatDoor
