/- ref.Unhex: its contract. -/
import Derived.Test.YtngfgmcnpbjefaaDoorRefHex
import Derived.Test.YtngfgmcnpbjefaaDoorUnhexW
namespace Go.Proofs.YtngfgmcnpbjefaaDoor
open Go.RowKit

theorem dig_run64 (n : Nat) (h : n < 16) (w : World) : (Instr.index 9 (.string { data := #[48, 49, 50, 51, 52, 53, 54, 55, 56, 57, 97, 98, 99, 100, 101, 102] }) (.int .i64 (n : Int))).run Tryd.prog w = .ok (.int .u8 ((hd n).toNat : Int)) w := by
  have h1 : (n : Int) < 16 := by omega
  rw [run_index_string w _ _ _ _ Tryd.underlying9]
  match n, h with
  | 0, _ => rfl
  | 1, _ => rfl
  | 2, _ => rfl
  | 3, _ => rfl
  | 4, _ => rfl
  | 5, _ => rfl
  | 6, _ => rfl
  | 7, _ => rfl
  | 8, _ => rfl
  | 9, _ => rfl
  | 10, _ => rfl
  | 11, _ => rfl
  | 12, _ => rfl
  | 13, _ => rfl
  | 14, _ => rfl
  | 15, _ => rfl

/-- the number and the count, behind the first k digits have been held against c -/
def inn (c : UInt8) (p : Nat × Nat) (k : Nat) : Nat × Nat := if 0 ≤ dv c ∧ dv c < (k : Int) then (16 * p.1 + (dv c).toNat, p.2 + 1) else p
theorem inn_zero (c : UInt8) (p : Nat × Nat) : inn c p 0 = p := by unfold inn; rw [if_neg (by omega)]
theorem inn_yes (c : UInt8) (p : Nat × Nat) (k : Nat) (h : k < 16) (e : hd k = c) : inn c p k = p ∧ inn c p (k + 1) = (16 * p.1 + k, p.2 + 1) := by
  have hd := dv_hd k h
  rw [e] at hd
  unfold inn
  rw [hd, if_neg (by omega), if_pos (by omega), Int.toNat_natCast]
  exact ⟨rfl, rfl⟩
theorem inn_no (c : UInt8) (p : Nat × Nat) (k : Nat) (e : hd k ≠ c) : inn c p (k + 1) = inn c p k := by
  rcases dv_cases c with h | ⟨n, hn, h, h2⟩
  · unfold inn; rw [h, if_neg (by omega), if_neg (by omega)]
  · have hne : n ≠ k := by intro q; subst q; exact e h2
    unfold inn
    rw [h]
    by_cases hl : n < k
    · rw [if_pos (by omega), if_pos (by omega)]
    · rw [if_neg (by omega), if_neg (by omega)]
theorem inn_all (c : UInt8) (p : Nat × Nat) : inn c p 16 = if dv c < 0 then p else (16 * p.1 + (dv c).toNat, p.2 + 1) := by
  rcases dv_cases c with h | ⟨n, hn, h, h2⟩
  · unfold inn; rw [h, if_neg (by omega), if_pos (by omega)]
  · unfold inn; rw [h, if_pos (by omega), if_neg (by omega)]
theorem inn_le (c : UInt8) (p : Nat × Nat) (k : Nat) : (inn c p k).1 ≤ 16 * p.1 + 15 ∧ (inn c p k).2 ≤ p.2 + 1 := by
  rcases dv_cases c with h | ⟨n, hn, h, h2⟩
  · unfold inn; rw [h, if_neg (by omega)]; exact ⟨by omega, by omega⟩
  · unfold inn; rw [h]; split
    · simp; omega
    · exact ⟨by omega, by omega⟩
/-- behind j bytes -/
def mid (c0 c1 : UInt8) : Nat → Nat × Nat
  | 0 => (0, 0)
  | 1 => inn c0 (0, 0) 16
  | _ => inn c1 (inn c0 (0, 0) 16) 16

def InRel (c : UInt8) (p : Nat × Nat) (W : World) (n m k : Value) (wr : World) : Prop :=
  ∃ q : Nat, q ≤ 16 ∧ k = .int .i64 (q : Int) ∧ n = .int .i64 ((inn c p q).1 : Int) ∧ m = .int .i64 ((inn c p q).2 : Int) ∧ W = wr
def MidRel (c0 c1 : UInt8) (W : World) (n m j : Value) (wr : World) : Prop :=
  ∃ q : Nat, q ≤ 2 ∧ j = .int .i64 (q : Int) ∧ n = .int .i64 ((mid c0 c1 q).1 : Int) ∧ m = .int .i64 ((mid c0 c1 q).2 : Int) ∧ W = wr
def UOut (s : ByteArray) (w : World) (v i : Value) (wr : World) : Prop :=
  ∃ (k : Nat) (pre : List UInt8), 2 * k ≤ s.size ∧ i = .int .i64 (2 * (k : Int)) ∧ pre.length = k ∧ wr.ownsRow w.heap.size 5 1 v pre.length (pre.map bv) ∧
    unpair s.data.toList = (unpair (s.data.toList.drop (2 * k))).map (pre ++ ·) ∧ Below w.heap.size w wr
theorem own_below {w w' : World} {base : Nat} {e : TypeId} {size n : Nat} {v : Value} {xs : List Value} (h : w.ownsRow base e size v n xs) (hb : Below w.heap.size w w') : w'.ownsRow base e size v n xs := by
  refine ⟨h.1, ?_⟩
  rcases h.2 with hn | ⟨g, cap, cur, hv, hbs, hg, rest⟩
  · exact .inl hn
  · exact .inr ⟨g, cap, cur, hv, hbs, (hb.block g (Array.getElem?_eq_some_iff.1 hg).1).trans hg, rest⟩

set_option maxRecDepth 100000 in
set_option maxHeartbeats 1000000 in
theorem RefUnhex_any (s : ByteArray) (hs : s.size ≤ 1048576) (w : World) :
    Calls Tryd.prog 25 #[.string s] w fun e w' => UR (unpair s.data.toList) e ∧ Below w.heap.size w w' := by
  obtain ⟨i, hi, hz0, hz1, hz2⟩ := info_parts info_u8
  have Hi := Lib.hid hi
  have Hz0 := Lib.hid hz0
  have Hz1 := Lib.hid hz1
  have Hz2 := Lib.hid hz2
  clear hi hz0 hz1 hz2
  go_enter Tryd.func25, Tryd.ntmps25
  go_wp2_with fail
  go_loopw [4, 5] (fun v i wr => UOut s w v i wr) (fun _ i _ => (s.size - intOf i).toNat)
  case atStart => exact ⟨0, [], by omega, rfl, rfl, ⟨rfl, .inl ⟨rfl, rfl⟩⟩, by simp, Below.refl _ _⟩
  case round =>
    obtain ⟨k, pre, hk, rfl, hpl, hO, hU, hB⟩ := hrel
    have Hpl := Lib.hid hpl
    have HU := Lib.hid hU
    clear hpl hU
    by_cases hlt : 2 * k + 1 < s.size
    · have i2 : (2 * (k : Int) + 1) < (s.size : Int) := by omega
      have HD := Lib.hid (drop_two s k hlt)
      have hxs : (s.extract (2 * k) (2 * k + 2)).size = 2 := by simp; omega
      have hxl : (s.extract (2 * k) (2 * k + 2)).data.toList = [s[2 * k], s[2 * k + 1]] := by
        rw [extract_list, List.drop_take, HD.out]
        simp
      obtain ⟨W1, cap, hcv, hF, hB1⟩ := conv_own (s.extract (2 * k) (2 * k + 2)) wr
      rw [hxs] at hcv
      rw [hxl] at hF
      clear hxs hxl
      go_wp2_with fail
      clear hcv
      have hO1 := own_below hO hB1
      have hB2 := hB.trans (hB1.mono hB.size)
      have k0 := hF.cell 0 (by simp)
      have k1 := hF.cell 1 (by simp)
      have hgb : w.heap.size ≤ wr.heap.size := hB.size
      generalize hg : wr.heap.size = gb at *
      clear hg hO hB hB1 hF wr
      have HE : Hid (unpair s.data.toList = (if dv s[2 * k] < 0 ∨ dv s[2 * k + 1] < 0 then none else (unpair (s.data.toList.drop (2 * (k + 1)))).map (byte2 s[2 * k] s[2 * k + 1] :: ·)).map (pre ++ ·)) := by
        show _ = _
        rw [HU.out, HD.out, unpair]
      clear HU HD
      rw [show [s[2 * k], s[2 * k + 1]].getD 0 0 = s[2 * k] from rfl] at k0
      rw [show [s[2 * k], s[2 * k + 1]].getD 1 0 = s[2 * k + 1] from rfl] at k1
      generalize s[2 * k] = a0 at *
      generalize s[2 * k + 1] = a1 at *
      go_loopw [6, 7, 25] (fun n m j wr => MidRel a0 a1 W1 n m j wr) (fun _ _ j _ => 2 - (intOf j).toNat)
      case atStart => exact ⟨0, by omega, rfl, rfl, rfl, rfl⟩
      case round =>
        obtain ⟨q, hq, rfl, rfl, rfl, rfl⟩ := hrel
        by_cases hq2 : q < 2
        · obtain ⟨c, hc, hm, hp⟩ : ∃ c : UInt8, W1.cell? ⟨gb, q, none⟩ = some (.int .u8 (c.toNat : Int)) ∧ mid a0 a1 (q + 1) = inn c (mid a0 a1 q) 16 ∧ (mid a0 a1 q).1 ≤ 15 ∧ (mid a0 a1 q).2 ≤ 1 := by
            have hcase : q = 0 ∨ q = 1 := by omega
            rcases hcase with rfl | rfl
            · exact ⟨a0, k0, rfl, (by show 0 ≤ 15; omega), (by show 0 ≤ 1; omega)⟩
            · exact ⟨a1, k1, rfl, inn_le a0 (0, 0) 16⟩
          have HM := Lib.hid hm
          clear hm
          have hqi : (q : Int) < 2 := by omega
          generalize mid a0 a1 q = p at *
          go_wp2_with fail
          go_loopw [6, 7, 29] (fun n m j wr => InRel c p W1 n m j wr) (fun _ _ j _ => 16 - (intOf j).toNat)
          case atStart => exact ⟨0, by omega, rfl, by rw [inn_zero], by rw [inn_zero], rfl⟩
          case round =>
            obtain ⟨z, hz, rfl, rfl, rfl, rfl⟩ := hrel
            by_cases hz2 : z < 16
            · have hzi : (z : Int) < 16 := by omega
              have dg := dig_run64 z hz2
              by_cases he : hd z = c
              · obtain ⟨e1, e2⟩ := inn_yes c p z hz2 he
                have E2 := Lib.hid e2
                have hb : (((hd z).toNat : Int) == (c.toNat : Int)) = true := by rw [he]; simp
                rw [e1] at *
                clear e1 e2 he
                go_wp2_with fail
                exact ⟨⟨z + 1, hz2, by go_num, by rw [E2.out]; go_num, by rw [E2.out]; go_num, rfl⟩, by simp [intOf]; omega⟩
              · have e2 := Lib.hid (inn_no c p z he)
                have hb : (((hd z).toNat : Int) == (c.toNat : Int)) = false := by
                  rw [beq_eq_false_iff_ne]
                  intro q
                  exact he (UInt8.toNat_inj.1 (by omega))
                clear he
                go_wp2_with fail
                exact ⟨⟨z + 1, hz2, by go_num, by rw [e2.out], by rw [e2.out], rfl⟩, by simp [intOf]; omega⟩
            · obtain rfl : z = 16 := by omega
              rw [← HM.out]
              go_wp2_with fail
              exact ⟨⟨q + 1, hq2, by go_num, rfl, rfl, rfl⟩, by simp [intOf]; omega⟩
        · obtain rfl : q = 2 := by omega
          have hmid : mid a0 a1 2 = inn a1 (inn a0 (0, 0) 16) 16 := rfl
          rw [inn_all, inn_all] at hmid
          clear k0 k1 hq hq2
          rcases dv_cases a0 with ha | ⟨x, hx, ha, -⟩
          · have hm2 : ((mid a0 a1 2).2 : Int) ≤ 1 := by
              rw [hmid, if_pos (show dv a0 < 0 by omega)]
              split
              · show ((0 : Nat) : Int) ≤ 1; omega
              · show ((0 + 1 : Nat) : Int) ≤ 1; omega
            have hbn : ((((mid a0 a1 2).2 : Nat) : Int) != 2) = true := by rw [bne_iff_ne]; omega
            have HE2 : Hid (unpair s.data.toList = none) := by show _ = _; rw [HE.out, if_pos (by omega)]; rfl
            clear HE hm2 hmid ha
            generalize mid a0 a1 2 = P at *
            go_wp2_with fail
            go_ret2
            rw [HE2.out]
            exact ⟨rfl, hB2⟩
          · rcases dv_cases a1 with hb | ⟨y, hy, hb, -⟩
            · have hm2 : ((mid a0 a1 2).2 : Int) ≤ 1 := by
                rw [hmid, if_pos (show dv a1 < 0 by omega), if_neg (show ¬ dv a0 < 0 by omega)]
                show ((0 + 1 : Nat) : Int) ≤ 1; omega
              have hbn : ((((mid a0 a1 2).2 : Nat) : Int) != 2) = true := by rw [bne_iff_ne]; omega
              have HE2 : Hid (unpair s.data.toList = none) := by show _ = _; rw [HE.out, if_pos (by omega)]; rfl
              clear HE hm2 hmid ha hb
              generalize mid a0 a1 2 = P at *
              go_wp2_with fail
              go_ret2
              rw [HE2.out]
              exact ⟨rfl, hB2⟩
            · have e : mid a0 a1 2 = (x * 16 + y, 2) := by
                rw [hmid, if_neg (show ¬ dv a1 < 0 by omega), if_neg (show ¬ dv a0 < 0 by omega), ha, hb, Int.toNat_natCast, Int.toNat_natCast]
                show (16 * (16 * 0 + x) + y, 0 + 1 + 1) = _
                rw [show 16 * (16 * 0 + x) + y = x * 16 + y from by omega]
              have hb2 : byte2 a0 a1 = UInt8.ofNat (x * 16 + y) := by unfold byte2; rw [ha, hb, Int.toNat_natCast, Int.toNat_natCast]
              have HE2 : Hid (unpair s.data.toList = (unpair (s.data.toList.drop (2 * (k + 1)))).map ((pre ++ [byte2 a0 a1]) ++ ·)) := by
                show _ = _
                rw [HE.out, if_neg (by omega), Option.map_map]
                congr 1
                funext q
                simp
              rw [hb2] at HE2
              have e1 : (((mid a0 a1 2).1 : Nat) : Int) = ((x * 16 + y : Nat) : Int) := by rw [e]
              have e2 : (((mid a0 a1 2).2 : Nat) : Int) = 2 := by rw [e]; rfl
              rw [e1, e2]
              have hN : x * 16 + y ≤ 255 := by omega
              have hcv2 : IntKind.u8.wrap ((x * 16 + y : Nat) : Int) = ((UInt8.ofNat (x * 16 + y)).toNat : Int) := by rw [IntKind.wrap_u8', UInt8.toNat_ofNat']; omega
              clear HE hmid ha hb e e1 e2 hb2
              generalize x * 16 + y = M at *
              generalize UInt8.ofNat M = bb at *
              go_wp2_with (at_builtin; refine wpList_append_lies _ rfl _ _ 49 rfl w.heap.size 5 i _ 1 1 Tryd.underlying49 Hi.out Hz0.out Hz1.out Hz2.out rfl (by decide) _ _ _ rfl (World.ownsRow.alloc hO1 _) ⟨W1.heap.size, 0, none⟩ 1 1 [.int .u8 (bb.toNat : Int)] rfl rfl (new_cells W1 [.int .u8 (bb.toNat : Int)] 5) (bytes_one [bb]) (by decide) (by have := Hpl.out; unfold maxLen; omega) (by have := Hpl.out; omega) (by have := hB2.size; simp; omega) _ rfl ?_)
              intro g1 cap1 w2 hown hgrow hat hg1
              go_wp2_with fail
              refine ⟨⟨k + 1, pre ++ [bb], by omega, by go_num, by simp [Hpl.out], ?_, HE2.out, ?_⟩, by simp [intOf]; omega⟩
              · simpa [bv] using hown
              · exact (hB2.alloc hB2.size _).grown hgrow (by have := hB2.size; simp; omega) (fun q e => own_ge hO1 _ e)
    · by_cases hodd : s.size = 2 * k
      · have hd : s.data.toList.drop (2 * k) = [] := List.drop_eq_nil_of_le (by rw [← hodd]; exact Nat.le_of_eq rfl)
        have hE2 : unpair s.data.toList = some pre := by rw [HU.out, hd]; simp [unpair]
        have HE := Lib.hid hE2
        have h1 : ((s.size : Int) % 2 == 1) = false := by rw [beq_eq_false_iff_ne]; omega
        have i2 : ¬ (2 * (k : Int) + 1) < (s.size : Int) := by omega
        clear hd hE2 HU hodd hlt
        rcases hO.2 with ⟨rfl, hp0⟩ | ⟨g, cp, cur, rfl, hrest⟩
        · obtain rfl : pre = [] := List.eq_nil_of_length_eq_zero hp0
          have hb := conv_nil wr
          go_wp2_with fail
          go_ret2
          rw [HE.out]
          exact ⟨rfl, hB⟩
        · have hb := run_bytes_own (P := Tryd.prog) hO
          rw [← run_convert_bytes_string wr 49 9 5 _ _ _ Tryd.underlying49 Tryd.underlying5 Tryd.underlying9] at hb
          clear hrest
          go_wp2_with fail
          go_ret2
          rw [HE.out]
          exact ⟨rfl, hB⟩
      · have HE := Lib.hid (unpair_odd_n s.size s.data.toList (Nat.le_of_eq rfl) (by show s.size % 2 = 1; omega))
        have h1 : ((s.size : Int) % 2 == 1) = true := by rw [beq_iff_eq]; omega
        have i2 : ¬ (2 * (k : Int) + 1) < (s.size : Int) := by omega
        clear HU hodd hlt
        go_wp2_with fail
        go_ret2
        rw [HE.out]
        exact ⟨rfl, hB⟩
end Go.Proofs.YtngfgmcnpbjefaaDoor
