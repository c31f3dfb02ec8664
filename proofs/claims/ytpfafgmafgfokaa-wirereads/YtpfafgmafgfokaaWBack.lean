/- keep.WireBack: the walk. -/
import Derived.Test.YtpfafgmafgfokaaWOnly
namespace Go.Proofs.Ytpfafgmafgfokaa
open Go.RowKit

def PutTextIs (b t r : ByteArray) (e : Int) : Prop := ∀ W, Calls Try.prog 13 #[.string b, .string t] W fun x w' => x = .returned (.tuple #[.string r, .int .i64 e]) ∧ Below W.heap.size W w'
theorem putTextIs_yes (b t : ByteArray) (hb : b.size ≤ 281474976710656) (h : t.size ≤ 4096) : PutTextIs b t (b ++ bs (num t.size) ++ t) 0 := fun W => PutText_yes b t hb h W
theorem putTextIs_no (b t : ByteArray) (h : 4096 < t.size) : PutTextIs b t ⟨#[]⟩ 1 := fun W =>
  (PutText_no b t h W).mono fun _ _ ⟨h1, h2⟩ => ⟨h1, by subst h2; exact Below.refl _ _⟩

theorem append_list (a b : ByteArray) : (a ++ b).data.toList = a.data.toList ++ b.data.toList := by
  rw [ByteArray.data_append, Array.toList_append]
theorem bytes_eq {a b : ByteArray} (h : a.data.toList = b.data.toList) : a = b := by
  apply ByteArray.ext
  apply Array.ext'
  exact h
theorem list_len (a : ByteArray) : a.data.toList.length = a.size := rfl
theorem extract_tail (b x : ByteArray) : (b ++ x).extract b.size (b ++ x).size = x := by
  apply bytes_eq
  rw [extract_list, append_list, ByteArray.size_append, ← list_len b, List.drop_left', Nat.add_sub_cancel_left, ← list_len x, List.take_length]
  rfl
theorem extract_head (b x : ByteArray) : (b ++ x).extract 0 b.size = b := by
  apply bytes_eq
  rw [extract_list, append_list, List.drop_zero, Nat.sub_zero, ← list_len b, List.take_left']
  rfl

/-- what WireBack needs of a number that was put -/
def NumWay (b more S : ByteArray) (n e : Int) : Prop :=
  (e = 3 ∧ (n < 0 ∨ 4611686018427387904 ≤ n)) ∨
  ∃ (x : ByteArray) (m k : Nat), e = 0 ∧ n = (m : Int) ∧ S.extract b.size (b.size + k) = x ∧ S.extract 0 b.size = b ∧ S.size = b.size + k ∧ k ≤ 9 ∧ x.size = k ∧ GetIs (x ++ more) m k 0
def TextWay (b t more U : ByteArray) (e : Int) : Prop :=
  (e = 1 ∧ 4096 < t.size) ∨
  ∃ (x : ByteArray) (k : Nat), e = 0 ∧ U.extract b.size (b.size + k) = x ∧ U.size = b.size + k ∧ k ≤ 5000 ∧ x.size = k ∧ TextIs (x ++ more) t k 0

set_option maxRecDepth 100000 in
set_option maxHeartbeats 4000000 in
theorem Back_walk (b t more S U : ByteArray) (n e1 e2 : Int) (hm : more.size ≤ 140737488355328)
    (C1 : PutIs b n S e1) (W1 : NumWay b more S n e1) (C2 : PutTextIs b t U e2) (W2 : TextWay b t more U e2) (w : World) :
    Calls Try.prog 7 #[.string b, .int .i64 n, .string t, .string more] w fun e w' => e = .returned (.bool true) ∧ Below w.heap.size w w' := by
  go_enter Try.func7, Try.ntmps7
  go_wp2_with fail
  have c1 := C1 w
  (with_reducible refine c1.mono ?_)
  clear c1
  rintro e w1 ⟨rfl, b1⟩
  go_wp2_with fail
  (with_reducible refine (puts_any _).mono ?_)
  rintro e w2 ⟨rfl, b2⟩
  have B2 := b1.trans (b2.mono b1.size)
  clear b1 b2
  have hfin : ∀ (k : Nat), ((k : Int) != (b.size : Int) + k - b.size) = false := fun k => by rw [bne_eq_false_iff_eq]; omega
  have hfin2 : ∀ (k : Nat), ((k : Int) == (b.size : Int) + k - b.size) = true := fun k => by rw [beq_iff_eq]; omega
  rcases W1 with ⟨rfl, h⟩ | ⟨x, m, k, rfl, rfl, hx, hs, hz, hk, hxz, CG⟩
  rcases h with h | h
  focus
    go_wp2_with fail
  rotate_left
  focus
    have h' : ¬ n < 4611686018427387904 := by omega
    have h2 : 0 ≤ n := by omega
    go_wp2_with fail
  rotate_left
  focus
    have hd : ¬ ((b.size : Int) + k < b.size) := by omega
    have f1 := hfin k
    go_wp2_with fail
    have c1 := CG w2
    (with_reducible refine c1.mono ?_)
    clear c1
    rintro e w3 ⟨rfl, rfl⟩
    go_wp2_with fail
  all_goals
    have c1 := C2 w2
    (with_reducible refine c1.mono ?_)
    clear c1
    rintro e w3 ⟨rfl, b3⟩
    have B3 := B2.trans (b3.mono B2.size)
    rcases W2 with ⟨rfl, h2⟩ | ⟨y, k2, rfl, hy, hz2, hk2, hyz, CT⟩
    · go_wp2_with fail
      (with_reducible refine (puts_any _).mono ?_)
      rintro e w4 ⟨rfl, b4⟩
      go_wp2_with fail
      go_ret
      exact ⟨rfl, B3.trans (b4.mono B3.size)⟩
    · have hd2 : ¬ ((b.size : Int) + k2 < b.size) := by omega
      have f2 := hfin2 k2
      go_wp2_with fail
      have c1 := CT w3
      (with_reducible refine c1.mono ?_)
      clear c1
      rintro e w4 ⟨rfl, rfl⟩
      go_wp2_with fail
      (with_reducible refine (puts_any _).mono ?_)
      rintro e w4 ⟨rfl, b4⟩
      go_wp2_with fail
      go_ret
      exact ⟨rfl, B3.trans (b4.mono B3.size)⟩

theorem WireBack_any (b t more : ByteArray) (n : Int) (hb : b.size ≤ 140737488355328) (hm : more.size ≤ 140737488355328) (w : World) :
    Calls Try.prog 7 #[.string b, .int .i64 n, .string t, .string more] w fun e w' => e = .returned (.bool true) ∧ Below w.heap.size w w' := by
  obtain ⟨S, e1, C1, W1⟩ : ∃ S e1, PutIs b n S e1 ∧ NumWay b more S n e1 := by
    by_cases h : n < 0 ∨ 4611686018427387904 ≤ n
    · exact ⟨_, _, putIs_no b n h, .inl ⟨rfl, h⟩⟩
    · obtain ⟨m, rfl⟩ := Int.eq_ofNat_of_zero_le (show 0 ≤ n by omega)
      have hm2 : m < 4611686018427387904 := by omega
      have hl := num_len9 m hm2
      refine ⟨_, _, putIs_yes b (by omega) m hm2, .inr ⟨bs (num m), m, (num m).length, rfl, rfl, ?_, extract_head _ _, ?_, hl, bs_size _, ?_⟩⟩
      · have q := extract_tail b (bs (num m))
        rw [ByteArray.size_append, bs_size] at q
        exact q
      · rw [ByteArray.size_append, bs_size]
      · refine getIs_some _ ?_ _ _ ?_
        · rw [ByteArray.size_append, bs_size]; omega
        · rw [append_list, bs_list]
          exact got_num m hm2 _
  obtain ⟨U, e2, C2, W2⟩ : ∃ U e2, PutTextIs b t U e2 ∧ TextWay b t more U e2 := by
    by_cases h : 4096 < t.size
    · exact ⟨_, _, putTextIs_no b t h, .inl ⟨rfl, h⟩⟩
    · have hl := num_len9 t.size (by omega)
      have hg : got (bs (num t.size) ++ t ++ more).data.toList = some (t.size, (num t.size).length) := by
        rw [append_list, append_list, bs_list, List.append_assoc]
        exact got_num t.size (by omega) _
      have hz : (bs (num t.size) ++ t).size = (num t.size).length + t.size := by rw [ByteArray.size_append, bs_size]
      refine ⟨_, _, putTextIs_yes b t (by omega) (by omega), .inr ⟨bs (num t.size) ++ t, (num t.size).length + t.size, rfl, ?_, ?_, by omega, hz, ?_⟩⟩
      · have q := extract_tail b (bs (num t.size) ++ t)
        rw [ByteArray.size_append, hz, ← ByteArray.append_assoc] at q
        exact q
      · rw [ByteArray.append_assoc, ByteArray.size_append, hz]
      · have q := text_yes (bs (num t.size) ++ t ++ more) (by rw [ByteArray.size_append, hz]; omega) _ _ hg (by omega) (by rw [ByteArray.size_append, hz]; omega)
        have e : (bs (num t.size) ++ t ++ more).extract (num t.size).length ((num t.size).length + t.size) = t := by
          apply bytes_eq
          rw [extract_list, append_list, append_list, bs_list, List.append_assoc, List.drop_left', Nat.add_sub_cancel_left, ← list_len t, List.take_left']
          · rfl
          · rfl
        rw [e] at q
        exact q
  exact Back_walk b t more S U n e1 e2 hm C1 W1 C2 W2 w
end Go.Proofs.Ytpfafgmafgfokaa
