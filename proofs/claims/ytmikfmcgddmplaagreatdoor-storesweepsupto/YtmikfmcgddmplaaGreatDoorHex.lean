/- sum.Hex: its contract. -/
import Derived.Test.YtmikfmcgddmplaaGreatDoorSum
import Derived.Test.YtmikfmcgddmplaaGreatDoorAbc
namespace Go.Proofs.YtmikfmcgddmplaaGreatDoor
open Go.RowKit

/-- append within the capacity, onto a row of the call's own, as one step of a region that draws -/
theorem step_append_fits {P : Program} {ops : Array Oper} {o : Oper} {a : Act} {w : World} {K : Act → World → Prop} {Q : Exit → Act → World → Prop} {E : Prop}
    (hg : o.guard = none) (s x : Operand) (t : TypeId) (hop : o.op = Op.call { callee := Callee.builtin Builtin.append, args := #[s, x], argTypes := #[t, t] })
    (base : Nat) (e : TypeId) (i : TypeInfo) (size : Nat) (h1 : P.underlying t = some (.slice e)) (h2 : P.info? e = some i) (h4 : i.size = size)
    (g k cap : Nat) (xs : List Value) (hs : a.eval s = .slice (some ⟨g, 0, none⟩) k cap) (hown : w.ownsRow base e size (.slice (some ⟨g, 0, none⟩) k cap) k xs) (ad : Addr) (m c : Nat) (news : List Value) (hx : a.eval x = .slice (some ad) m c) (hn : news.length = m * size)
    (hc : ∀ j u, news[j]? = some u → w.cell? (ad.add j) = some u) (h1c : ∀ u ∈ news, u.oneCell' = true) (b1 : k + m ≤ cap)
    (hK : ∀ w', w'.ownsRow base e size (.slice (some ⟨g, 0, none⟩) (k + m) cap) (k + m) (xs ++ news) → w.grownBy w' (some g) → K (a.put o.dst (.slice (some ⟨g, 0, none⟩) (k + m) cap)) w') :
    if Region.wanted o (yielded ops a.tmps) = true then Oper.wp P o a w K Q else E := by
  have hw : Region.wanted o (yielded ops a.tmps) = true := by simp [Region.wanted, hg]
  rw [if_pos hw]
  obtain ⟨w', hrun, r1, r2⟩ := run_append_fits (P := P) w base t o.type e i size h1 h2 h4 g k cap xs hown ad m c news hn hc h1c b1
  unfold Oper.wp
  simp [execOp, hop, resolve, invoke, builtin, hs, hx, hrun, Result.andThen]
  exact hK w' r1 r2

theorem list_at (s : ByteArray) (k : Nat) (h : k < s.size) : s.data.toList.getD k 0 = s[k] := by
  have h2 : k < s.data.size := h
  simp only [List.getD_eq_getElem?_getD, Array.getElem?_toList]
  rw [Array.getElem?_eq_getElem h2]
  rfl

theorem dig_run (n : Nat) (h : n < 16) (w : World) : (Instr.index 9 (.string { data := #[48, 49, 50, 51, 52, 53, 54, 55, 56, 57, 97, 98, 99, 100, 101, 102] }) (.int .u8 (n : Int))).run Tryz.prog w = .ok (.int .u8 ((hd n).toNat : Int)) w := by
  have h1 : (n : Int) < 16 := by omega
  rw [run_index_string w _ _ _ _ Tryz.underlying9]
  match n, h with
  | 0, _ => rfl
  | 1, _ => rfl
  | 2, _ => rfl
  | 3, _ => rfl
  | 4, _ => rfl
  | 5, _ => rfl
  | 6, _ => rfl
  | 7, _ => rfl
  | 8, _ => rfl
  | 9, _ => rfl
  | 10, _ => rfl
  | 11, _ => rfl
  | 12, _ => rfl
  | 13, _ => rfl
  | 14, _ => rfl
  | 15, _ => rfl

def HexRel (l : List UInt8) (base : Nat) (w : World) (t s : Value) (wr : World) : Prop :=
  ∃ k : Nat, k ≤ l.length ∧ s = .int .i64 (k : Int) ∧ t = .slice (some ⟨base, 0, none⟩) (hexOf (l.take k)).length (2 * l.length) ∧ OwnB wr base base (2 * l.length) (hexOf (l.take k)) ∧ Below base w wr

set_option maxRecDepth 100000 in
set_option maxHeartbeats 1000000 in
theorem Hex_any (s : ByteArray) (hs : s.size ≤ 140737488355328) (w : World) :
    Calls Tryz.prog 98 #[.string s] w
      fun e w' => e = .returned (.string (bs (hexOf s.data.toList))) ∧ Below w.heap.size w w' := by
  obtain ⟨i, hi, hz0, hz1, hz2⟩ := info_parts info_u8
  have Hi := Lib.hid hi
  have Hz0 := Lib.hid hz0
  have Hz1 := Lib.hid hz1
  have Hz2 := Lib.hid hz2
  clear hi hz0 hz1 hz2
  go_enter Tryz.func98, Tryz.ntmps98
  go_wp2_with (at_make; refine wpList_make_own _ rfl _ _ 105 rfl w.heap.size 5 i _ 1 Tryz.underlying105 Hi.out Hz0.out Hz1.out _ _ _ (2 * s.size) rfl rfl (by omega) (by rw [Hz2.out]; omega) (by unfold maxLen; omega) (Nat.le_refl _) ?_)
  intro w1 hown hgrow
  go_wp2_with fail
  have hb0 : Below w.heap.size w w1 := (Below.refl _ _).grown hgrow (Nat.le_refl _) (by intro k hk; cases hk)
  go_loopw [3, 11] (fun t i wr => HexRel s.data.toList w.heap.size w t i wr) (fun _ i _ => s.size - (intOf i).toNat)
  case atStart => exact ⟨0, by omega, rfl, rfl, hown, hb0⟩
  case round =>
    clear hown hgrow hb0
    obtain ⟨k, hk, rfl, rfl, hO, hB⟩ := hrel
    have hl := hexOf_length (s.data.toList.take k)
    have hk' : k ≤ s.size := hk
    have hsl : s.data.toList.length = s.size := rfl
    rw [hsl] at hO ⊢
    clear hk hsl
    have hl2 : (hexOf (s.data.toList.take k)).length = 2 * k := by rw [hl, List.length_take, Nat.min_eq_left (show k ≤ s.data.toList.length from hk')]
    have hO2 : wr.ownsRow w.heap.size 5 1 (.slice (some ⟨w.heap.size, 0, none⟩) (2 * k) (2 * s.size)) (2 * k) ((hexOf (s.data.toList.take k)).map bv) := by
      have h := hO
      unfold OwnB at h
      rw [hl2] at h
      exact h
    rw [hl2]
    clear hl hO
    have Hl2 := Lib.hid hl2
    clear hl2
    by_cases hlt : k < s.size
    · have hcl := s[k].toNat_lt
      have d1 : ∀ w, (Instr.index 9 (.string { data := #[48, 49, 50, 51, 52, 53, 54, 55, 56, 57, 97, 98, 99, 100, 101, 102] }) (.int .u8 ((s[k].toNat : Int) / 16))).run Tryz.prog w = .ok (.int .u8 ((hd (s[k].toNat / 16)).toNat : Int)) w :=
        fun w => dig_run (s[k].toNat / 16) (by omega) w
      have d2 : ∀ w, (Instr.index 9 (.string { data := #[48, 49, 50, 51, 52, 53, 54, 55, 56, 57, 97, 98, 99, 100, 101, 102] }) (.int .u8 ((s[k].toNat : Int) % 16))).run Tryz.prog w = .ok (.int .u8 ((hd (s[k].toNat % 16)).toNat : Int)) w :=
        fun w => dig_run (s[k].toNat % 16) (by omega) w
      have d3 : bits .and .u8 (s[k].toNat : Int) 15 = (s[k].toNat : Int) % 16 := by
        rw [u8_and _ _ (by omega) (by omega) (by omega) (by omega), show (15 : Int).toNat = 15 from rfl, Int.toNat_natCast, nat_mask4]
        omega
      have HS := Lib.hid (hexOf_take s.data.toList k hlt)
      rw [list_at s k hlt] at HS
      generalize hd (s[k].toNat / 16) = x at *
      generalize hd (s[k].toNat % 16) = y at *
      go_wp2
      go_region_law (first
        | (refine step_append_fits rfl _ _ 105 rfl w.heap.size 5 i 1 Tryz.underlying105 Hi.out Hz1.out w.heap.size _ _ _ rfl (World.ownsRow.drew (World.ownsRow.alloc hO2 _)) ⟨wr.heap.size, 0, none⟩ 2 2 [.int .u8 (x.toNat : Int), .int .u8 (y.toNat : Int)] rfl rfl (new_cells wr [.int .u8 (x.toNat : Int), .int .u8 (y.toNat : Int)] 5) (bytes_one [x, y]) (by omega) ?_
           intro w2 hown2 hgrow2))
      all_goals
        go_wp2_with fail
        refine ⟨⟨k + 1, hlt, by go_num, ?_, ?_, ?_⟩, by simp [intOf]; omega⟩
        · rw [HS.out, List.length_append, Hl2.out]; rfl
        · unfold OwnB
          rw [HS.out, List.length_append, Hl2.out, List.map_append]
          exact hown2
        · exact ((hB.alloc hB.size _).drew).grown hgrow2 (by simp; have := hB.size; omega) (by intro k hk; cases hk; exact Nat.le_refl _)
    · obtain rfl : k = s.size := by omega
      have ht : s.data.toList.take s.size = s.data.toList := List.take_of_length_le (Nat.le_of_eq rfl)
      rw [ht] at hO2 Hl2
      rw [← Hl2.out] at hO2 ⊢
      have hb := run_bytes_own (P := Tryz.prog) hO2
      rw [← run_convert_bytes_string wr 105 9 5 _ _ _ Tryz.underlying105 Tryz.underlying5 Tryz.underlying9] at hb
      clear ht hlt hk' hO2
      generalize hP : hexOf s.data.toList = p at *
      have HP := Lib.hid hP
      clear hP Hl2
      go_wp2
      go_ret
      exact ⟨by rw [HP.out]; rfl, hB⟩
end Go.Proofs.YtmikfmcgddmplaaGreatDoor
