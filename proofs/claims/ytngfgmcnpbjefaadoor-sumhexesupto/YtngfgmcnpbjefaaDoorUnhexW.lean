/- sum.Unhex: its contract. -/
import Derived.Test.YtngfgmcnpbjefaaDoorUnhex
namespace Go.Proofs.YtngfgmcnpbjefaaDoor
open Go.RowKit

/-- what Unhex answers -/
def UR : Option (List UInt8) → Ending → Prop
  | some p, e => e = .returned (.tuple #[.string (bs p), .int .i64 0])
  | none, e => e = .returned (.tuple #[.string ⟨#[]⟩, .int .i64 2])

def URel (s : ByteArray) (base : Nat) (w : World) (t i : Value) (wr : World) : Prop :=
  ∃ (k : Nat) (pre : List UInt8), 2 * k ≤ s.size ∧ i = .int .i64 (2 * (k : Int)) ∧ t = .slice (some ⟨base, 0, none⟩) k (s.size / 2) ∧ pre.length = k ∧
    wr.ownsRow base 5 1 (.slice (some ⟨base, 0, none⟩) k (s.size / 2)) k (pre.map bv) ∧ unpair s.data.toList = (unpair (s.data.toList.drop (2 * k))).map (pre ++ ·) ∧ Below base w wr

theorem unpair_odd_n (n : Nat) : ∀ l : List UInt8, l.length ≤ n → l.length % 2 = 1 → unpair l = none := by
  induction n with
  | zero => intro l h1 h2; omega
  | succ n ih =>
    intro l h1 h2
    match l, h1, h2 with
    | [], _, h2 => simp at h2
    | [_], _, _ => rfl
    | a :: b :: l, h1, h2 =>
      rw [unpair]
      split
      · rfl
      · rw [ih l (by simp at h1; omega) (by simp at h2; omega)]; rfl

theorem drop_two (s : ByteArray) (k : Nat) (h : 2 * k + 1 < s.size) : s.data.toList.drop (2 * k) = s[2 * k] :: s[2 * k + 1] :: s.data.toList.drop (2 * (k + 1)) := by
  have h1 : 2 * k + 1 < s.data.toList.length := h
  rw [List.drop_eq_getElem_cons (by omega), List.drop_eq_getElem_cons h1]
  rfl

set_option maxRecDepth 100000 in
set_option maxHeartbeats 1000000 in
theorem Unhex_odd (s : ByteArray) (hs : s.size ≤ 281474976710656) (ho : s.size % 2 = 1) (w : World) :
    Calls Tryd.prog 24 #[.string s] w fun e w' => e = .returned (.tuple #[.string ⟨#[]⟩, .int .i64 2]) ∧ Below w.heap.size w w' := by
  have h1 : ((s.size : Int) % 2 != 0) = true := by rw [bne_iff_ne]; omega
  go_enter Tryd.func24, Tryd.ntmps24
  go_wp2_with fail
  go_ret2
  exact ⟨rfl, Below.refl _ _⟩

set_option maxRecDepth 100000 in
set_option maxHeartbeats 1000000 in
theorem Unhex_even (s : ByteArray) (hs : s.size ≤ 281474976710656) (ho : s.size % 2 = 0) (w : World) :
    Calls Tryd.prog 24 #[.string s] w fun e w' => UR (unpair s.data.toList) e ∧ Below w.heap.size w w' := by
  obtain ⟨i, hi, hz0, hz1, hz2⟩ := info_parts info_u8
  have Hi := Lib.hid hi
  have Hz0 := Lib.hid hz0
  have Hz1 := Lib.hid hz1
  have Hz2 := Lib.hid hz2
  clear hi hz0 hz1 hz2
  have h1 : ((s.size : Int) % 2 != 0) = false := by rw [bne_eq_false_iff_eq]; omega
  have Ho := Lib.hid ho
  clear ho
  go_enter Tryd.func24, Tryd.ntmps24
  go_wp2_with (at_make; refine wpList_make_own _ rfl _ _ 49 rfl w.heap.size 5 i _ 1 Tryd.underlying49 Hi.out Hz0.out Hz1.out _ _ _ (s.size / 2) rfl rfl (by omega) (by rw [Hz2.out]; omega) (by unfold maxLen; omega) (Nat.le_refl _) ?_)
  intro w1 hown hgrow
  have hb0 : Below w.heap.size w w1 := (Below.refl _ _).grown hgrow (Nat.le_refl _) (by intro k hk; cases hk)
  go_wp2_with fail
  go_loopw [4, 5] (fun t i wr => URel s w.heap.size w t i wr) (fun _ i _ => (s.size - intOf i).toNat)
  case atStart => exact ⟨0, [], by omega, rfl, rfl, rfl, hown, by simp, hb0⟩
  case round =>
    clear hown hgrow hb0 h1
    obtain ⟨k, pre, hk, rfl, rfl, hpl, hO, hU, hB⟩ := hrel
    have Hpl := Lib.hid hpl
    have HU := Lib.hid hU
    clear hpl hU
    by_cases hlt : 2 * k < s.size
    · have hlt2 : 2 * k + 1 < s.size := by have := Ho.out; omega
      have i1 : (2 * (k : Int)) < (s.size : Int) := by omega
      have i2 : (2 * (k : Int) + 1) < (s.size : Int) := by omega
      have HD := Lib.hid (drop_two s k hlt2)
      go_wp2_with fail
      (with_reducible refine (IndexByte_any s[2 * k] _).mono ?_)
      rintro e w2 ⟨rfl, rfl⟩
      go_wp2_with fail
      (with_reducible refine (IndexByte_any s[2 * k + 1] _).mono ?_)
      rintro e w2 ⟨rfl, rfl⟩
      have hE : unpair s.data.toList = (if dv s[2 * k] < 0 ∨ dv s[2 * k + 1] < 0 then none else (unpair (s.data.toList.drop (2 * (k + 1)))).map (byte2 s[2 * k] s[2 * k + 1] :: ·)).map (pre ++ ·) := by
        rw [HU.out, HD.out, unpair]
      have hb2 : byte2 s[2 * k] s[2 * k + 1] = UInt8.ofNat ((dv s[2 * k]).toNat * 16 + (dv s[2 * k + 1]).toNat) := rfl
      generalize byte2 s[2 * k] s[2 * k + 1] = bb at *
      rcases dv_cases s[2 * k] with ha | ⟨x, hx, ha, _⟩
      · rw [ha] at hE ⊢
        rw [if_pos (.inl (by omega))] at hE
        have HE := Lib.hid hE
        clear hE HU HD hb2 ha
        go_wp2_with fail
        go_ret2
        rw [HE.out]
        exact ⟨rfl, hB⟩
      · rcases dv_cases s[2 * k + 1] with hb | ⟨y, hy, hb, _⟩
        · rw [ha, hb] at hE ⊢
          rw [if_pos (.inr (by omega))] at hE
          have HE := Lib.hid hE
          clear hE HU HD hb2 ha hb
          go_wp2_with fail
          go_ret2
          rw [HE.out]
          exact ⟨rfl, hB⟩
        · rw [ha, hb] at hE hb2 ⊢
          rw [if_neg (by omega)] at hE
          have hj := byte_join x y hx hy
          rw [Int.toNat_natCast, Int.toNat_natCast] at hb2
          rw [← hb2] at hj
          have HE := Lib.hid hE
          clear hE HU HD hb2 ha hb
          go_wp2_with (at_builtin; refine wpList_append_fits _ rfl _ _ 49 rfl w.heap.size 5 i 1 Tryd.underlying49 Hi.out Hz1.out w.heap.size _ _ (pre.map bv) rfl (World.ownsRow.alloc hO _) ⟨wr.heap.size, 0, none⟩ 1 1 [.int .u8 (bb.toNat : Int)] rfl rfl (new_cells wr [.int .u8 (bb.toNat : Int)] 5) (bytes_one [bb]) (by omega) ?_)
          intro w2 hown hgrow
          go_wp2_with fail
          refine ⟨⟨k + 1, pre ++ [bb], by omega, by go_num, rfl, by simp [Hpl.out], ?_, ?_, ?_⟩, by simp [intOf]; omega⟩
          · rw [List.map_append]; exact hown
          · rw [HE.out, Option.map_map]
            congr 1
            funext q
            simp
          · exact (hB.alloc hB.size _).grown hgrow (by simp; have := hB.size; omega) (by intro k hk; cases hk; exact Nat.le_refl _)
    · obtain hke : 2 * k = s.size := by omega
      have hd : s.data.toList.drop (2 * k) = [] := List.drop_eq_nil_of_le (by rw [hke]; exact Nat.le_of_eq rfl)
      have hE := HU.out
      rw [hd] at hE
      have hE2 : unpair s.data.toList = some pre := by rw [hE]; simp [unpair]
      have HE := Lib.hid hE2
      have hO2 : wr.ownsRow w.heap.size 5 1 (.slice (some ⟨w.heap.size, 0, none⟩) pre.length (s.size / 2)) pre.length (pre.map bv) := by rw [Hpl.out]; exact hO
      have hb := run_bytes_own (P := Tryd.prog) hO2
      rw [← run_convert_bytes_string wr 49 9 5 _ _ _ Tryd.underlying49 Tryd.underlying5 Tryd.underlying9, Hpl.out] at hb
      clear hd hE hE2 HU hO hO2
      have i1 : ¬ (2 * (k : Int)) < (s.size : Int) := by omega
      go_wp2_with fail
      go_ret2
      rw [HE.out]
      exact ⟨rfl, hB⟩

/-- Unhex at every text -/
theorem Unhex_any (s : ByteArray) (hs : s.size ≤ 281474976710656) (w : World) :
    Calls Tryd.prog 24 #[.string s] w fun e w' => UR (unpair s.data.toList) e ∧ Below w.heap.size w w' := by
  by_cases ho : s.size % 2 = 0
  · exact Unhex_even s hs ho w
  · have h1 : unpair s.data.toList = none := unpair_odd_n s.size _ (Nat.le_of_eq rfl) (by show s.size % 2 = 1; omega)
    rw [h1]
    exact Unhex_odd s hs (by omega) w
end Go.Proofs.YtngfgmcnpbjefaaDoor
