/- keep.puts, keep.pick, keep.WireOnly, keep.WireCut: the walks. -/
import Derived.Test.YtpfafgmafgfokaaWText
namespace Go.Proofs.Ytpfafgmafgfokaa
open Go.RowKit

def PutIs (b : ByteArray) (n : Int) (r : ByteArray) (e : Int) : Prop := ∀ W, Calls Try.prog 11 #[.string b, .int .i64 n] W fun x w' => x = .returned (.tuple #[.string r, .int .i64 e]) ∧ Below W.heap.size W w'
theorem putIs_yes (b : ByteArray) (hb : b.size ≤ 281474976710656) (n : Nat) (h : n < 4611686018427387904) : PutIs b (n : Int) (b ++ bs (num n)) 0 := fun W => Put_yes b hb n h W
theorem putIs_no (b : ByteArray) (n : Int) (h : n < 0 ∨ 4611686018427387904 ≤ n) : PutIs b n ⟨#[]⟩ 3 := fun W =>
  (Put_no b n h W).mono fun _ _ ⟨h1, h2⟩ => ⟨h1, by subst h2; exact Below.refl _ _⟩
theorem num_300 : num 300 = [172, 2] := by
  rw [num_great 300 (by decide), num_small (300 / 128) (by decide)]; rfl

theorem puts_any (w : World) : Calls Try.prog 32 #[] w fun e w' => e = .returned (.bool true) ∧ Below w.heap.size w w' := by
  have C : PutIs ⟨#[120]⟩ 300 ⟨#[120, 172, 2]⟩ 0 := by
    have q := putIs_yes ⟨#[120]⟩ (by decide) 300 (by decide)
    rw [num_300] at q
    exact q
  go_enter Try.func32, Try.ntmps32
  go_wp2_with fail
  have c1 := C w
  (with_reducible refine c1.mono ?_)
  clear c1
  rintro e w1 ⟨rfl, b1⟩
  go_wp2_with fail
  go_ret
  exact ⟨rfl, b1⟩

theorem empty_append (x : ByteArray) : (⟨#[]⟩ : ByteArray) ++ x = x := by
  apply ByteArray.ext
  simp
theorem extract_list (s : ByteArray) (a b : Nat) : (s.extract a b).data.toList = (s.data.toList.drop a).take (b - a) := by
  rw [ByteArray.data_extract, Array.toList_extract]
theorem bs_extract (s : ByteArray) (k : Nat) : bs (s.data.toList.take k) = s.extract 0 k := by
  apply ByteArray.ext
  apply Array.ext'
  rw [extract_list, bs_list]
  simp

set_option maxRecDepth 100000 in
set_option maxHeartbeats 1000000 in
theorem WireOnly_any (s : ByteArray) (hs : s.size ≤ 281474976710656) (w : World) :
    Calls Try.prog 8 #[.string s] w fun e w' => e = .returned (.bool true) ∧ Below w.heap.size w w' := by
  cases hg : got s.data.toList with
  | none =>
    have C := getIs_none s hs hg
    clear hg
    go_enter Try.func8, Try.ntmps8
    go_wp2_with fail
    have c1 := C w
    (with_reducible refine c1.mono ?_)
    clear c1
    rintro e w1 ⟨rfl, rfl⟩
    go_wp2_with fail
    (with_reducible refine (puts_any _).mono ?_)
    rintro e w1 ⟨rfl, b1⟩
    go_wp2_with fail
    go_ret
    exact ⟨rfl, b1⟩
  | some nk =>
    obtain ⟨n, k⟩ := nk
    have C := getIs_some s hs n k hg
    obtain ⟨h1, h2, h3, h4, h5⟩ := got_some _ _ _ hg
    have hks : k ≤ s.size := h5
    have D := putIs_yes ⟨#[]⟩ (by decide) n h1
    rw [empty_append, h2, bs_extract] at D
    clear hg h5 h2 h1
    have i3 : (1 : Int) ≤ k := by omega
    have i4 : (k : Int) ≤ 9 := by omega
    go_enter Try.func8, Try.ntmps8
    go_wp2_with fail
    have c1 := C w
    (with_reducible refine c1.mono ?_)
    clear c1
    rintro e w1 ⟨rfl, rfl⟩
    go_wp2_with fail
    have c1 := D w
    (with_reducible refine c1.mono ?_)
    clear c1
    rintro e w1 ⟨rfl, b1⟩
    go_wp2_with fail
    (with_reducible refine (puts_any _).mono ?_)
    rintro e w2 ⟨rfl, b2⟩
    go_wp2_with fail
    go_ret
    exact ⟨rfl, b1.trans (b2.mono b1.size)⟩

/-- what pick answers -/
def pk (k n : Int) : Int := if k.tmod n < 0 then k.tmod n + n else k.tmod n
theorem pk_in (k : Int) (n : Nat) (hn : 0 < n) : 0 ≤ pk k n ∧ pk k n < n := by
  have h1 := Int.tmod_lt_of_pos k (b := (n : Int)) (by omega)
  have h2 := Int.lt_tmod_of_pos k (b := (n : Int)) (by omega)
  unfold pk
  split <;> omega
theorem pick_any (k : Int) (n : Nat) (hn : 0 < n) (hn2 : n ≤ 281474976710656) (w : World) :
    Calls Try.prog 33 #[.int .i64 k, .int .i64 (n : Int)] w fun e w' => e = .returned (.int .i64 (pk k n)) ∧ w = w' := by
  have h1 := Int.tmod_lt_of_pos k (b := (n : Int)) (by omega)
  have h2 := Int.lt_tmod_of_pos k (b := (n : Int)) (by omega)
  by_cases h : k.tmod n < 0
  · have HP : Hid (pk k n = k.tmod n + n) := by show _ = _; unfold pk; rw [if_pos h]
    have hw : wrap64 (k.tmod n + n) = k.tmod n + n := IntWalk.wrap64_in _ (by omega)
    go_enter Try.func33, Try.ntmps33
    go_wp2_with fail
    go_ret
    exact ⟨by rw [HP.out]; rfl, rfl⟩
  · have HP : Hid (pk k n = k.tmod n) := by show _ = _; unfold pk; rw [if_neg h]
    go_enter Try.func33, Try.ntmps33
    go_wp2_with fail
    go_ret
    exact ⟨by rw [HP.out]; rfl, rfl⟩

set_option maxRecDepth 100000 in
set_option maxHeartbeats 1000000 in
theorem WireCut_yes (n : Nat) (h : n < 4611686018427387904) (at_ : Int) (w : World) :
    Calls Try.prog 9 #[.int .i64 (n : Int), .int .i64 at_] w fun e w' => e = .returned (.bool true) ∧ Below w.heap.size w w' := by
  have D := putIs_yes ⟨#[]⟩ (by decide) n h
  rw [empty_append] at D
  have hp := num_pos n
  have hl := num_len9 n h
  have hz : (bs (num n)).size = (num n).length := bs_size _
  obtain ⟨q1, q2⟩ := pk_in at_ (bs (num n)).size (by omega)
  obtain ⟨j, hj⟩ := Int.eq_ofNat_of_zero_le q1
  have HC : GetIs ((bs (num n)).extract 0 j) 0 0 2 := by
    refine getIs_none _ ?_ ?_
    · rw [ByteArray.size_extract]; omega
    · rw [extract_list, bs_list, List.drop_zero, Nat.sub_zero]
      exact got_cut n j (by omega)
  have hne : (num n) ≠ [] := by
    intro e
    rw [e] at hp
    simp at hp
  have he : (bs (num n)).toList.isEmpty = false := by
    rw [ByteArray.toList_eq, bs_list]
    cases hq : num n with
    | nil => exact absurd hq hne
    | cons => rfl
  have P := fun W => pick_any at_ (bs (num n)).size (by omega) (by omega) W
  rw [hj] at P q2
  clear hj q1 hne h
  generalize bs (num n) = S at *
  have hs1 : S.size ≤ 9 := by omega
  have hjs : j ≤ S.size := by omega
  clear hz hp hl
  have HP := Lib.hid P
  clear P
  go_enter Try.func9, Try.ntmps9
  go_wp2_with fail
  have c1 := D w
  (with_reducible refine c1.mono ?_)
  clear c1
  rintro e w1 ⟨rfl, b1⟩
  go_wp2_with fail
  (with_reducible refine (puts_any _).mono ?_)
  rintro e w2 ⟨rfl, b2⟩
  have B2 := b1.trans (b2.mono b1.size)
  go_wp2_with fail
  (with_reducible refine (HP.out _).mono ?_)
  rintro e w3 ⟨rfl, rfl⟩
  go_wp2_with fail
  have c1 := HC w2
  (with_reducible refine c1.mono ?_)
  clear c1
  rintro e w3 ⟨rfl, rfl⟩
  go_wp2_with fail
  (with_reducible refine (puts_any _).mono ?_)
  rintro e w3 ⟨rfl, b3⟩
  go_wp2_with fail
  go_ret
  exact ⟨rfl, B2.trans (b3.mono B2.size)⟩

set_option maxRecDepth 100000 in
set_option maxHeartbeats 1000000 in
theorem WireCut_no (n : Int) (h : n < 0 ∨ 4611686018427387904 ≤ n) (at_ : Int) (w : World) :
    Calls Try.prog 9 #[.int .i64 n, .int .i64 at_] w fun e w' => e = .returned (.bool true) ∧ Below w.heap.size w w' := by
  have D := putIs_no ⟨#[]⟩ n h
  clear h
  go_enter Try.func9, Try.ntmps9
  go_wp2_with fail
  have c1 := D w
  (with_reducible refine c1.mono ?_)
  clear c1
  rintro e w1 ⟨rfl, b1⟩
  go_wp2_with fail
  (with_reducible refine (puts_any _).mono ?_)
  rintro e w2 ⟨rfl, b2⟩
  go_wp2_with fail
  go_ret
  exact ⟨rfl, b1.trans (b2.mono b1.size)⟩
theorem WireCut_any (n at_ : Int) (w : World) :
    Calls Try.prog 9 #[.int .i64 n, .int .i64 at_] w fun e w' => e = .returned (.bool true) ∧ Below w.heap.size w w' := by
  by_cases h : n < 0 ∨ 4611686018427387904 ≤ n
  · exact WireCut_no n h at_ w
  · obtain ⟨m, rfl⟩ := Int.eq_ofNat_of_zero_le (show 0 ≤ n by omega)
    exact WireCut_yes m (by omega) at_ w
end Go.Proofs.Ytpfafgmafgfokaa
