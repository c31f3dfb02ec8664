/- Texts in one: DkOpen, WRef, WRefTx, WLaw. -/
import Derived.Test.YtenjnaebhbmfiaaDoorLists
import Derived.Test.YtenjnaebhbmfiaaDoorDkGood
import Derived.Deep.Slices
import Derived.Deep.Fields
import Derived.Test.YtenjnaebhbmfiaaDoorRfSpec
import Derived.Deep.RegionWith
/- An argument that is a disk, opened: what it holds, how large it may be. -/
namespace Go.Proofs.YtenjnaebhbmfiaaDoor
open Go.ChangeShapes Go.WideShapes Go.ChangeAt Go.RowKit Go.Deep

section
variable {b : Nat} {H : Type} {enc : TypeId × Value → H} {w : World} {spare : Nat → Bool} {held : Bool}
theorem of_cell {p : Addr} {v : Value} (h : w.cell? p = some v) : p.block < w.heap.size := by
  rcases Nat.lt_or_ge p.block w.heap.size with hlt | hge
  · exact hlt
  · simp [World.cell?, Array.getElem?_eq_none hge] at h
def flDat (x : Fl) : DataW H := .agg [.lit (.string x.name.data.toList), .lit (.string x.safe.data.toList), .lit (.string x.tail.data.toList)]
theorem all_mem {P : Program} {e : TypeId} : ∀ {L : List (DataW H)} {d : DataW H} {n : Nat}, d ∈ L → n ∈ d.weights P e → n ∈ DataW.weightsAll P e L
  | x :: L, d, n, hd, hn => by
    simp only [DataW.weightsAll, List.mem_append]
    rcases List.mem_cons.1 hd with rfl | hd
    · exact .inl hn
    · exact .inr (all_mem hd hn)
/-- the sizes of an argument, off the sizes of all -/
theorem sizes_at {P : Program} {ts : List TypeId} {ds : List (DataW H)} (h : (DataW.weightsEach P ts ds).all (· ≤ reachBytes) = true) {j : Nat} {t : TypeId} {d : DataW H} (ht : ts[j]? = some t) (hd : ds[j]? = some d) : ∀ n ∈ d.weights P t, n ≤ reachBytes := fun n hn => by
  have := List.all_eq_true.1 h n (DataW.weights_mem_each (j := j) ht hd n hn)
  exact of_decide_eq_true this
end
end Go.Proofs.YtenjnaebhbmfiaaDoor

/- ref.Number, ref.Text: their contracts. -/
namespace Go.Proofs.YtenjnaebhbmfiaaDoor
open Go.RowKit

theorem conv_one (x : UInt8) (W : World) : (convert 56 9 (.slice (some ⟨W.heap.size, 0, none⟩) 1 1)).run Tryd.prog (W.alloc (.cells #[.int .u8 (x.toNat : Int)] 5)) = .ok (.string (bs [x])) (W.alloc (.cells #[.int .u8 (x.toNat : Int)] 5)) := by
  rw [run_convert_bytes_string _ 56 9 5 _ _ _ Tryd.underlying56 Tryd.underlying5 Tryd.underlying9]
  exact run_bytes (P := Tryd.prog) (Arr.new W 5 #[.int .u8 (x.toNat : Int)]) [x] rfl 1
theorem conv_one_drew (x : UInt8) (W : World) : (convert 56 9 (.slice (some ⟨W.heap.size, 0, none⟩) 1 1)).run Tryd.prog (W.alloc (.cells #[.int .u8 (x.toNat : Int)] 5)).drew = .ok (.string (bs [x])) (W.alloc (.cells #[.int .u8 (x.toNat : Int)] 5)).drew := by
  rw [run_convert_bytes_string _ 56 9 5 _ _ _ Tryd.underlying56 Tryd.underlying5 Tryd.underlying9]
  exact run_bytes (P := Tryd.prog) (Arr.new W 5 #[.int .u8 (x.toNat : Int)]).drew [x] rfl 1
theorem conv_kept {x : UInt8} {w w2 : World} {bx : ByteArray} (hb : Below (w.alloc (.cells #[.int .u8 (x.toNat : Int)] 5)).drew.heap.size (w.alloc (.cells #[.int .u8 (x.toNat : Int)] 5)).drew w2) (hx : bs [x] = bx) :
    (convert 56 9 (.slice (some ⟨w.heap.size, 0, none⟩) 1 1)).run Tryd.prog w2 = .ok (.string bx) w2 := by
  subst hx
  rw [run_convert_bytes_string _ 56 9 5 _ _ _ Tryd.underlying56 Tryd.underlying5 Tryd.underlying9]
  exact run_bytes (P := Tryd.prog) ((Arr.new w 5 #[.int .u8 (x.toNat : Int)]).drew.below hb (by simp)) [x] rfl 1

set_option maxRecDepth 100000 in
set_option maxHeartbeats 1000000 in
theorem RefNumber_small (n : Nat) (h : n < 128) (w : World) :
    Calls Tryd.prog 31 #[.int .i64 (n : Int)] w fun e w' => e = .returned (.string (bs (num n))) ∧ Below w.heap.size w w' := by
  have HN := Lib.hid (num_small n h)
  have h1 : ¬ ((n : Int) < 0) := by omega
  have h2 : ¬ (4611686018427387904 ≤ (n : Int)) := by omega
  have h3 : (n : Int) < 128 := by omega
  have hb2 := last_byte n
  generalize UInt8.ofNat n = x at *
  have hc := conv_one x w
  go_enter Tryd.func31, Tryd.ntmps31
  go_wp2_with fail
  go_ret
  exact ⟨by rw [HN.out]; rfl, (Below.refl _ _).alloc (Nat.le_refl _) _⟩

set_option maxRecDepth 100000 in
set_option maxHeartbeats 1000000 in
theorem RefNumber_great (n : Nat) (h : 128 ≤ n) (h62 : n < 4611686018427387904)
    (ih : ∀ w, Calls Tryd.prog 31 #[.int .i64 ((n / 128 : Nat) : Int)] w fun e w' => e = .returned (.string (bs (num (n / 128)))) ∧ Below w.heap.size w w') (w : World) :
    Calls Tryd.prog 31 #[.int .i64 (n : Int)] w fun e w' => e = .returned (.string (bs (num n))) ∧ Below w.heap.size w w' := by
  have HN : Hid (bs (num n) = bs [UInt8.ofNat (n % 128 + 128)] ++ bs (num (n / 128))) := by
    show _ = _
    rw [num_great n h]
    apply ByteArray.ext
    simp [bs]
  have h1 : ¬ ((n : Int) < 0) := by omega
  have h2 : ¬ (4611686018427387904 ≤ (n : Int)) := by omega
  have h3 : ¬ (n : Int) < 128 := by omega
  have hb2 : IntKind.u8.wrap (IntKind.i64.wrap ((n : Int).tmod 128 + 128)) = ((UInt8.ofNat (n % 128 + 128)).toNat : Int) := by
    rw [Int.tmod_eq_emod_of_nonneg (by omega), IntWalk.i64_in _ (by omega), IntKind.wrap_u8', UInt8.toNat_ofNat']; omega
  have hb3 : IntKind.i64.wrap ((n : Int) / 128) = (n : Int) / 128 := IntWalk.i64_in _ (by omega)
  have hl : (bs (num (n / 128))).size ≤ 9 := by rw [bs_size]; exact num_len9 _ (by omega)
  have hl1 : (bs [UInt8.ofNat (n % 128 + 128)]).size = 1 := bs_size _
  have hdiv : ((n / 128 : Nat) : Int) = (n : Int) / 128 := by omega
  rw [hdiv] at ih
  generalize UInt8.ofNat (n % 128 + 128) = x at *
  generalize bs (num (n / 128)) = y at *
  have HI := Lib.hid ih
  have HL1 := Lib.hid hl1
  have hl2 : (bs [x]).size ≤ 1 := by omega
  clear ih hl1 hdiv
  generalize hbx : bs [x] = bx at *
  have hc : ∀ W : World, (convert 56 9 (.slice (some ⟨W.heap.size, 0, none⟩) 1 1)).run Tryd.prog (W.alloc (.cells #[.int .u8 (x.toNat : Int)] 5)) = .ok (.string bx) (W.alloc (.cells #[.int .u8 (x.toNat : Int)] 5)) := fun W => by rw [← hbx]; exact conv_one x W
  have hcd : ∀ W : World, (convert 56 9 (.slice (some ⟨W.heap.size, 0, none⟩) 1 1)).run Tryd.prog (W.alloc (.cells #[.int .u8 (x.toNat : Int)] 5)).drew = .ok (.string bx) (W.alloc (.cells #[.int .u8 (x.toNat : Int)] 5)).drew := fun W => by rw [← hbx]; exact conv_one_drew x W
  have HX := Lib.hid hbx
  clear hbx
  go_enter Tryd.func31, Tryd.ntmps31
  go_wp2_with fail
  clear h1 h2 h3 h62 h
  go_region_with (first
    | (go_at_call 31
       (with_reducible refine (HI.out _).mono ?_)
       rintro e w2 ⟨rfl, b2⟩
       have hc2 := conv_kept b2 HX.out)
    | (go_at_call 31
       (with_reducible refine (HI.out _).mono ?_)
       rintro e w2 ⟨rfl, b2⟩))
  all_goals
    go_wp2_with fail
    go_ret
    refine ⟨by rw [HN.out]; rfl, ?_⟩
    first
      | exact (((Below.refl _ _).alloc (Nat.le_refl _) _).drew).trans (b2.mono (by simp))
      | (have b3 : Below w.heap.size w w2 := (Below.refl _ w).drew.trans b2
         exact b3.alloc b3.size _)

/-- ref.Number at a number in its range -/
theorem RefNumber_yes (n : Nat) : n < 4611686018427387904 → ∀ w : World,
    Calls Tryd.prog 31 #[.int .i64 (n : Int)] w fun e w' => e = .returned (.string (bs (num n))) ∧ Below w.heap.size w w' := by
  induction n using num.induct with
  | case1 n h => exact fun _ w => RefNumber_small n h w
  | case2 n h ih => exact fun h62 w => RefNumber_great n (by omega) h62 (ih (by omega)) w
theorem RefNumber_no (n : Int) (h : n < 0 ∨ 4611686018427387904 ≤ n) (w : World) :
    Calls Tryd.prog 31 #[.int .i64 n] w fun e w' => e = .returned (.string ⟨#[]⟩) ∧ w = w' := by
  rcases h with h | h
  · go_enter Tryd.func31, Tryd.ntmps31
    go_wp2_with fail
    go_ret
    exact ⟨rfl, rfl⟩
  · have h1 : ¬ (n < 0) := by omega
    go_enter Tryd.func31, Tryd.ntmps31
    go_wp2_with fail
    go_ret
    exact ⟨rfl, rfl⟩

def NumberIs (n : Int) (r : ByteArray) : Prop := ∀ W, Calls Tryd.prog 31 #[.int .i64 n] W fun x w' => x = .returned (.string r) ∧ Below W.heap.size W w'
theorem numberIs_yes (n : Nat) (h : n < 4611686018427387904) : NumberIs (n : Int) (bs (num n)) := fun W => RefNumber_yes n h W
theorem numberIs_no (n : Int) (h : n < 0 ∨ 4611686018427387904 ≤ n) : NumberIs n ⟨#[]⟩ := fun W =>
  (RefNumber_no n h W).mono fun _ _ ⟨h1, h2⟩ => ⟨h1, by subst h2; exact Below.refl _ _⟩
theorem num_full (n : Nat) : (bs (num n)).toList.isEmpty = false := by
  have hp := num_pos n
  rw [ByteArray.toList_eq, bs_list]
  cases hq : num n with
  | nil => rw [hq] at hp; simp at hp
  | cons => rfl
end Go.Proofs.YtenjnaebhbmfiaaDoor

/- ref.Text: its contract. -/
namespace Go.Proofs.YtenjnaebhbmfiaaDoor
open Go.RowKit

set_option maxRecDepth 100000 in
theorem RefText_any (s : ByteArray) (hs : s.size ≤ 281474976710656) (w : World) :
    Calls Tryd.prog 32 #[.string s] w fun e w' => e = .returned (.string (bs (num s.size) ++ s)) ∧ Below w.heap.size w w' := by
  have hx : (bs (num s.size)).size ≤ 9 := by rw [bs_size]; exact num_len9 _ (by omega)
  have C := RefNumber_yes s.size (by omega)
  generalize bs (num s.size) = x at *
  have HC := Lib.hid C
  clear C
  go_enter Tryd.func32, Tryd.ntmps32
  go_wp2_with fail
  (with_reducible refine (HC.out _).mono ?_)
  rintro e w1 ⟨rfl, b1⟩
  go_wp2_with fail
  go_ret
  exact ⟨rfl, b1⟩
def RefTextIs (s r : ByteArray) : Prop := ∀ W, Calls Tryd.prog 32 #[.string s] W fun x w' => x = .returned (.string r) ∧ Below W.heap.size W w'
end Go.Proofs.YtenjnaebhbmfiaaDoor

/- law.puts answers true. -/
namespace Go.Proofs.YtenjnaebhbmfiaaDoor
open Go.RowKit

end Go.Proofs.YtenjnaebhbmfiaaDoor
