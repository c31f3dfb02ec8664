/- Texts in one: DkOpen, WRef, WRefTx, WLaw. -/
import Derived.Test.YtchpgngphgjmnaaDoorLists
import Derived.Test.YtchpgngphgjmnaaDoorDkGood
import Derived.Deep.Slices
import Derived.Deep.Fields
import Derived.Test.YtchpgngphgjmnaaDoorDkMath
import Derived.Deep.RegionWith
/- An argument that is a disk, opened: what it holds, how large it may be. -/
namespace Go.Proofs.YtchpgngphgjmnaaDoor
open Go.ChangeShapes Go.WideShapes Go.ChangeAt Go.RowKit Go.Deep

section
variable {b : Nat} {H : Type} {enc : TypeId × Value → H} {w : World} {spare : Nat → Bool} {held : Bool}
theorem of_cell {p : Addr} {v : Value} (h : w.cell? p = some v) : p.block < w.heap.size := by
  rcases Nat.lt_or_ge p.block w.heap.size with hlt | hge
  · exact hlt
  · simp [World.cell?, Array.getElem?_eq_none hge] at h
def flDat (x : Fl) : DataW H := .agg [.lit (.string x.name.data.toList), .lit (.string x.safe.data.toList), .lit (.string x.tail.data.toList)]
theorem all_mem {P : Program} {e : TypeId} : ∀ {L : List (DataW H)} {d : DataW H} {n : Nat}, d ∈ L → n ∈ d.weights P e → n ∈ DataW.weightsAll P e L
  | x :: L, d, n, hd, hn => by
    simp only [DataW.weightsAll, List.mem_append]
    rcases List.mem_cons.1 hd with rfl | hd
    · exact .inl hn
    · exact .inr (all_mem hd hn)
/-- the sizes of an argument, off the sizes of all -/
theorem sizes_at {P : Program} {ts : List TypeId} {ds : List (DataW H)} (h : (DataW.weightsEach P ts ds).all (· ≤ reachBytes) = true) {j : Nat} {t : TypeId} {d : DataW H} (ht : ts[j]? = some t) (hd : ds[j]? = some d) : ∀ n ∈ d.weights P t, n ≤ reachBytes := fun n hn => by
  have := List.all_eq_true.1 h n (DataW.weights_mem_each (j := j) ht hd n hn)
  exact of_decide_eq_true this
end
end Go.Proofs.YtchpgngphgjmnaaDoor

/- ref.Number, ref.Text: their contracts. -/
namespace Go.Proofs.YtchpgngphgjmnaaDoor
open Go.RowKit

theorem conv_one (x : UInt8) (W : World) : (convert 69 9 (.slice (some ⟨W.heap.size, 0, none⟩) 1 1)).run Tryd.prog (W.alloc (.cells #[.int .u8 (x.toNat : Int)] 5)) = .ok (.string (bs [x])) (W.alloc (.cells #[.int .u8 (x.toNat : Int)] 5)) := by
  rw [run_convert_bytes_string _ 69 9 5 _ _ _ Tryd.underlying69 Tryd.underlying5 Tryd.underlying9]
  exact run_bytes (P := Tryd.prog) (Arr.new W 5 #[.int .u8 (x.toNat : Int)]) [x] rfl 1
theorem conv_one_drew (x : UInt8) (W : World) : (convert 69 9 (.slice (some ⟨W.heap.size, 0, none⟩) 1 1)).run Tryd.prog (W.alloc (.cells #[.int .u8 (x.toNat : Int)] 5)).drew = .ok (.string (bs [x])) (W.alloc (.cells #[.int .u8 (x.toNat : Int)] 5)).drew := by
  rw [run_convert_bytes_string _ 69 9 5 _ _ _ Tryd.underlying69 Tryd.underlying5 Tryd.underlying9]
  exact run_bytes (P := Tryd.prog) (Arr.new W 5 #[.int .u8 (x.toNat : Int)]).drew [x] rfl 1
theorem conv_kept {x : UInt8} {w w2 : World} {bx : ByteArray} (hb : Below (w.alloc (.cells #[.int .u8 (x.toNat : Int)] 5)).drew.heap.size (w.alloc (.cells #[.int .u8 (x.toNat : Int)] 5)).drew w2) (hx : bs [x] = bx) :
    (convert 69 9 (.slice (some ⟨w.heap.size, 0, none⟩) 1 1)).run Tryd.prog w2 = .ok (.string bx) w2 := by
  subst hx
  rw [run_convert_bytes_string _ 69 9 5 _ _ _ Tryd.underlying69 Tryd.underlying5 Tryd.underlying9]
  exact run_bytes (P := Tryd.prog) ((Arr.new w 5 #[.int .u8 (x.toNat : Int)]).drew.below hb (by simp)) [x] rfl 1

theorem num_full (n : Nat) : (bs (num n)).toList.isEmpty = false := by
  have hp := num_pos n
  rw [ByteArray.toList_eq, bs_list]
  cases hq : num n with
  | nil => rw [hq] at hp; simp at hp
  | cons => rfl
end Go.Proofs.YtchpgngphgjmnaaDoor

/- ref.Text: its contract. -/
namespace Go.Proofs.YtchpgngphgjmnaaDoor
open Go.RowKit

end Go.Proofs.YtchpgngphgjmnaaDoor

/- law.puts answers true. -/
namespace Go.Proofs.YtchpgngphgjmnaaDoor
open Go.RowKit

end Go.Proofs.YtchpgngphgjmnaaDoor
