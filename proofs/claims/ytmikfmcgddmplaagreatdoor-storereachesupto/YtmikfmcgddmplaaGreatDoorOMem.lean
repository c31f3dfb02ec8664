/- Objects in memory: lists of texts, of entries; an object's cells. -/
import Derived.Test.YtmikfmcgddmplaaGreatDoorWRead
import Derived.Test.YtmikfmcgddmplaaGreatDoorWWrite
namespace Go.Proofs.YtmikfmcgddmplaaGreatDoor
open Go.RowKit

/-- the texts that a slice holds, all in blocks below B -/
def Txs (w : World) (B : Nat) (A : Option Addr) (T : List ByteArray) : Prop :=
  ∀ k x, T[k]? = some x → ∃ ad, A = some ad ∧ (ad.add k).block < B ∧ w.cell? (ad.add k) = some (.string x)
/-- the entries that a slice holds -/
def Ens (w : World) (B : Nat) (A : Option Addr) (L : List Ent) : Prop :=
  ∀ k x, L[k]? = some x → ∃ ad, A = some ad ∧ (ad.add (k * 3)).block < B ∧ w.cell? (ad.add (k * 3)) = some (.string x.name) ∧
    w.cell? ⟨(ad.add (k * 3)).block, (ad.add (k * 3)).off + 1, none⟩ = some (.bool x.dir) ∧ w.cell? ⟨(ad.add (k * 3)).block, (ad.add (k * 3)).off + 2, none⟩ = some (.string x.id)
theorem Txs.below {w w' : World} {B : Nat} {A : Option Addr} {T : List ByteArray} (h : Txs w B A T) (b : Below B w w') : Txs w' B A T := fun k x hx => by
  obtain ⟨ad, e, hb, hc⟩ := h k x hx
  exact ⟨ad, e, hb, (b.cell hb).trans hc⟩
theorem Ens.below {w w' : World} {B : Nat} {A : Option Addr} {L : List Ent} (h : Ens w B A L) (b : Below B w w') : Ens w' B A L := fun k x hx => by
  obtain ⟨ad, e, hb, h0, h1, h2⟩ := h k x hx
  exact ⟨ad, e, hb, (b.cell hb).trans h0, (b.cell (p := ⟨(ad.add (k * 3)).block, (ad.add (k * 3)).off + 1, none⟩) hb).trans h1, (b.cell (p := ⟨(ad.add (k * 3)).block, (ad.add (k * 3)).off + 2, none⟩) hb).trans h2⟩
theorem Txs.mono {w : World} {B B' : Nat} {A : Option Addr} {T : List ByteArray} (h : Txs w B A T) (hB : B ≤ B') : Txs w B' A T := fun k x hx => by
  obtain ⟨ad, e, hb, hc⟩ := h k x hx
  exact ⟨ad, e, by omega, hc⟩
theorem Ens.mono {w : World} {B B' : Nat} {A : Option Addr} {L : List Ent} (h : Ens w B A L) (hB : B ≤ B') : Ens w B' A L := fun k x hx => by
  obtain ⟨ad, e, hb, hc⟩ := h k x hx
  exact ⟨ad, e, by omega, hc⟩
theorem Txs.nil (w : World) (B : Nat) (A : Option Addr) : Txs w B A [] := fun k x h => by simp at h
theorem Ens.nil (w : World) (B : Nat) (A : Option Addr) : Ens w B A [] := fun k x h => by simp at h

/-- where an object's slices lie -/
structure At where
  ea : Option Addr
  ec : Nat
  pa : Option Addr
  pc : Nat
def obArr (o : Ob) (p : At) : Array Value :=
  #[.int .i64 o.kind, .string o.data, .slice p.ea o.ents.length p.ec, .string o.tree, .slice p.pa o.pars.length p.pc, .string o.who, .string o.note, .int .i64 o.time, .string o.target]
/-- an object whose slices lie in blocks below B -/
structure ObIn (w : World) (B : Nat) (o : Ob) (p : At) : Prop where
  ents : Ens w B p.ea o.ents
  pars : Txs w B p.pa o.pars
  room : o.pars.length ≤ p.pc
theorem ObIn.below {w w' : World} {B : Nat} {o : Ob} {p : At} (h : ObIn w B o p) (b : Below B w w') : ObIn w' B o p := ⟨h.ents.below b, h.pars.below b, h.room⟩
theorem ObIn.mono {w : World} {B B' : Nat} {o : Ob} {p : At} (h : ObIn w B o p) (hB : B ≤ B') : ObIn w B' o p := ⟨h.ents.mono hB, h.pars.mono hB, h.room⟩
theorem obArr_one (o : Ob) (p : At) : (obArr o p).all (·.oneCell') = true := by
  unfold obArr
  rw [Array.all_eq_true_iff_forall_mem]
  intro v hv
  simp at hv
  rcases hv with rfl | rfl | rfl | rfl | rfl | rfl | rfl | rfl | rfl <;> rfl
theorem obArr_size (o : Ob) (p : At) : (obArr o p).size = 9 := rfl
theorem obInfo (o : Ob) (p : At) : (Tryz.prog.info? 53).map (·.size) = some (obArr o p).size := by
  rw [obArr_size]
  kernel_rfl
/-- the new block of a boxed object -/
theorem box_in {w : World} {B : Nat} {o : Ob} {p : At} (h : ObIn w B o p) (hB : B ≤ w.heap.size) (x : Obj) : ObIn (w.alloc x) B o p := h.below ((Below.refl _ _).alloc hB _)
end Go.Proofs.YtmikfmcgddmplaaGreatDoor
