/- law.puts, law.WirePuts: the walks. -/
import Derived.Test.YtpfafgmafgfokaaWBack
import Derived.Test.YtpfafgmafgfokaaWRef
namespace Go.Proofs.Ytpfafgmafgfokaa
open Go.RowKit

theorem lawPuts_any (w : World) : Calls Try.prog 14 #[] w fun e w' => e = .returned (.bool true) ∧ Below w.heap.size w w' := by
  have C : PutTextIs ⟨#[120]⟩ ⟨#[121, 122]⟩ ⟨#[120, 2, 121, 122]⟩ 0 := by
    have q := putTextIs_yes ⟨#[120]⟩ ⟨#[121, 122]⟩ (by decide) (by decide)
    rw [show (⟨#[121, 122]⟩ : ByteArray).size = 2 from rfl, num_small 2 (by decide)] at q
    exact q
  go_enter Try.func14, Try.ntmps14
  go_wp2_with fail
  have c1 := C w
  (with_reducible refine c1.mono ?_)
  clear c1
  rintro e w1 ⟨rfl, b1⟩
  go_wp2_with fail
  go_ret
  exact ⟨rfl, b1⟩

def NumberIs (n : Int) (r : ByteArray) : Prop := ∀ W, Calls Try.prog 12 #[.int .i64 n] W fun x w' => x = .returned (.string r) ∧ Below W.heap.size W w'
theorem numberIs_yes (n : Nat) (h : n < 4611686018427387904) : NumberIs (n : Int) (bs (num n)) := fun W => RefNumber_yes n h W
theorem numberIs_no (n : Int) (h : n < 0 ∨ 4611686018427387904 ≤ n) : NumberIs n ⟨#[]⟩ := fun W =>
  (RefNumber_no n h W).mono fun _ _ ⟨h1, h2⟩ => ⟨h1, by subst h2; exact Below.refl _ _⟩
def RefTextIs (s r : ByteArray) : Prop := ∀ W, Calls Try.prog 15 #[.string s] W fun x w' => x = .returned (.string r) ∧ Below W.heap.size W w'
theorem num_full (n : Nat) : (bs (num n)).toList.isEmpty = false := by
  have hp := num_pos n
  rw [ByteArray.toList_eq, bs_list]
  cases hq : num n with
  | nil => rw [hq] at hp; simp at hp
  | cons => rfl

def PutWay (b S x : ByteArray) (e : Int) : Prop := (e = 3 ∧ S = ⟨#[]⟩ ∧ x = ⟨#[]⟩) ∨ (e = 0 ∧ S = b ++ x ∧ x.toList.isEmpty = false ∧ x.size ≤ 9)
def PutTextWay (b t U : ByteArray) (e : Int) : Prop := (e = 1 ∧ U = ⟨#[]⟩ ∧ 4096 < t.size) ∨ ∃ y, e = 0 ∧ U = b ++ y ∧ t.size ≤ 4096 ∧ y.size ≤ 5000 ∧ RefTextIs t y

set_option maxRecDepth 100000 in
set_option maxHeartbeats 4000000 in
theorem Puts_walk (b t S U x : ByteArray) (n e1 e2 : Int) (hb : b.size ≤ 140737488355328) (C1 : PutIs b n S e1) (D1 : NumberIs n x) (W1 : PutWay b S x e1) (C2 : PutTextIs b t U e2) (W2 : PutTextWay b t U e2) (w : World) :
    Calls Try.prog 3 #[.string b, .int .i64 n, .string t] w fun e w' => e = .returned (.bool true) ∧ Below w.heap.size w w' := by
  go_enter Try.func3, Try.ntmps3
  go_wp2_with fail
  have c1 := C1 w
  (with_reducible refine c1.mono ?_)
  clear c1
  rintro e w1 ⟨rfl, b1⟩
  go_wp2_with fail
  have c1 := D1 w1
  (with_reducible refine c1.mono ?_)
  clear c1
  rintro e w2 ⟨rfl, b2⟩
  have B2 := b1.trans (b2.mono b1.size)
  clear b1 b2
  rcases W1 with ⟨rfl, rfl, rfl⟩ | ⟨rfl, rfl, hx, hl⟩
  focus
    go_wp2_with fail
  rotate_left
  focus
    go_wp2_with fail
  all_goals
    have c1 := C2 w2
    (with_reducible refine c1.mono ?_)
    clear c1
    rintro e w3 ⟨rfl, b3⟩
    have B3 := B2.trans (b3.mono B2.size)
    rcases W2 with ⟨rfl, rfl, h2⟩ | ⟨y, rfl, rfl, h2, hy, CT⟩
    · go_wp2_with fail
      (with_reducible refine (lawPuts_any _).mono ?_)
      rintro e w4 ⟨rfl, b4⟩
      go_wp2_with fail
      go_ret
      exact ⟨rfl, B3.trans (b4.mono B3.size)⟩
    · go_wp2_with fail
      have c1 := CT w3
      (with_reducible refine c1.mono ?_)
      clear c1
      rintro e w4 ⟨rfl, b4⟩
      have B4 := B3.trans (b4.mono B3.size)
      go_wp2_with fail
      (with_reducible refine (lawPuts_any _).mono ?_)
      rintro e w5 ⟨rfl, b5⟩
      go_wp2_with fail
      go_ret
      exact ⟨rfl, B4.trans (b5.mono B4.size)⟩

theorem WirePuts_any (b t : ByteArray) (n : Int) (hb : b.size ≤ 140737488355328) (w : World) :
    Calls Try.prog 3 #[.string b, .int .i64 n, .string t] w fun e w' => e = .returned (.bool true) ∧ Below w.heap.size w w' := by
  obtain ⟨S, x, e1, C1, D1, W1⟩ : ∃ S x e1, PutIs b n S e1 ∧ NumberIs n x ∧ PutWay b S x e1 := by
    by_cases h : n < 0 ∨ 4611686018427387904 ≤ n
    · exact ⟨_, _, _, putIs_no b n h, numberIs_no n h, .inl ⟨rfl, rfl, rfl⟩⟩
    · obtain ⟨m, rfl⟩ := Int.eq_ofNat_of_zero_le (show 0 ≤ n by omega)
      have hm2 : m < 4611686018427387904 := by omega
      exact ⟨_, _, _, putIs_yes b (by omega) m hm2, numberIs_yes m hm2, .inr ⟨rfl, rfl, num_full m, by rw [bs_size]; exact num_len9 m hm2⟩⟩
  obtain ⟨U, e2, C2, W2⟩ : ∃ U e2, PutTextIs b t U e2 ∧ PutTextWay b t U e2 := by
    by_cases h : 4096 < t.size
    · exact ⟨_, _, putTextIs_no b t h, .inl ⟨rfl, rfl, h⟩⟩
    · have hl := num_len9 t.size (by omega)
      exact ⟨_, _, putTextIs_yes b t (by omega) (by omega), .inr ⟨bs (num t.size) ++ t, rfl, ByteArray.append_assoc, by omega, by rw [ByteArray.size_append, bs_size]; omega, fun W => RefText_any t (by omega) W⟩⟩
  exact Puts_walk b t S U x n e1 e2 hb C1 D1 W1 C2 W2 w
end Go.Proofs.Ytpfafgmafgfokaa
