/- The document's own rotation, constants, words and start: their contracts. -/
import Derived.Test.YtmikfmcgddmplaaGreatDoorSum
import Derived.Test.YtmikfmcgddmplaaGreatDoorRefMath
import Derived.Lib.ConvBytes
namespace Go.Proofs.YtmikfmcgddmplaaGreatDoor
open Go.RowKit

set_option maxHeartbeats 400000 in
theorem right_any (x : UInt32) (n : Nat) (h1 : 1 ≤ n) (h2 : n ≤ 31) (w : World) :
    Calls Tryz.prog 125 #[.int .u32 (wd x), .int .u64 (n : Int)] w fun e w' => e = .returned (.int .u32 (wd (rotr x n))) ∧ w' = w := by
  have hr := wd_rot_sum x n h1 h2
  generalize hc : 32 - n = c at *
  have hd : IntKind.u64.wrap (32 - (n : Int)) = c := by rw [IntKind.wrap_u64]; omega
  have hm : min c 32 = c := by omega
  have hn : min n 32 = n := by omega
  rw [IntKind.wrap_u32', IntKind.wrap_u32'] at hr
  have Hr := Lib.hid hr
  clear hc hr
  go_enter Tryz.func125, Tryz.ntmps125
  go_wp2
  go_ret
  rw [← Hr.out]
  exact ⟨rfl, rfl⟩
theorem right_int (x : UInt32) (m : Int) (h1 : 1 ≤ m) (h2 : m ≤ 31) (w : World) :
    Calls Tryz.prog 125 #[.int .u32 (wd x), .int .u64 m] w fun e w' => e = .returned (.int .u32 (wd (rotr x m.toNat))) ∧ w' = w := by
  obtain ⟨n, rfl⟩ := Int.eq_ofNat_of_zero_le (show 0 ≤ m by omega)
  exact right_any x n (by omega) (by omega) w

set_option maxRecDepth 100000 in
set_option maxHeartbeats 1000000 in
theorem Start_any (w : World) : Calls Tryz.prog 46 #[] w fun e w' => e = .returned (.agg (warr startH)) ∧ Below w.heap.size w w' := by
  go_enter Tryz.func46, Tryz.ntmps46
  go_wp2
  have e : (#[Value.int .u32 1779033703, Value.int .u32 3144134277, Value.int .u32 1013904242, Value.int .u32 2773480762, Value.int .u32 1359893119, Value.int .u32 2600822924, Value.int .u32 528734635, Value.int .u32 1541459225] : Array Value) = warr startH := rfl
  rw [e]
  refine bodyPost_ret (v := .agg (warr startH)) ?_ rfl ⟨rfl, (Below.refl _ _).alloc (Nat.le_refl _) _⟩
  exact results_cell_row Tryz.results46 _ _ w.heap.size 85 _ (0, 0) _ rfl (Arr.new w _ _) Tryz.underlying85 rfl (info8 _ rfl)

/-- the bytes of a string, as the program makes a slice of them -/
theorem conv_leaf (s : ByteArray) (w : World) : ∃ W1 cap, (convert 9 105 (.string s)).run Tryz.prog w = .ok (.slice (some ⟨w.heap.size, 0, none⟩) s.size cap) W1 ∧ s.size ≤ cap ∧
    (∀ j, j < s.size → W1.cell? ⟨w.heap.size, j, none⟩ = some (.int .u8 (((s.data.toList.getD j 0).toNat : Nat) : Int))) ∧ Below w.heap.size w W1 ∧ W1.heap.size = w.heap.size + 1 :=
  ⟨_, _, Lib.run_convert_string_bytes w 9 105 5 s Tryz.underlying9 Tryz.underlying105 Tryz.underlying5, grownCap_ge w s.size 0 _,
    fun j hj => Lib.bytesWorld_cell w 5 s j hj, ⟨rfl, rfl, rfl, by rw [Lib.bytesWorld_size]; omega, fun k hk => Lib.bytesWorld_at_old w 5 s k hk⟩, Lib.bytesWorld_size w 5 s⟩

def wordTo (p : List UInt8) : Nat → UInt32
  | 0 => 0
  | n + 1 => wordTo p n * 256 + UInt32.ofNat (p.getD n 0).toNat
theorem wd_step (n : UInt32) (c : UInt8) : IntKind.u32.wrap (IntKind.u32.wrap (wd n * 256) + IntKind.u32.wrap (c.toNat : Int)) = wd (n * 256 + UInt32.ofNat c.toNat) := by
  have h := c.toNat_lt
  simp only [IntKind.wrap_u32']
  unfold wd
  rw [UInt32.toNat_add, UInt32.toNat_mul, UInt32.toNat_ofNat']
  rw [show (256 : UInt32).toNat = 256 from rfl]
  omega
theorem wordTo_four (s : List UInt8) (k : Nat) : wordTo ((s.take (4 * k + 4)).drop (4 * k)) 4 = beWord s k := by
  have g : ∀ j, j < 4 → ((s.take (4 * k + 4)).drop (4 * k)).getD j 0 = s.getD (4 * k + j) 0 := by
    intro j hj
    rw [List.getD_eq_getElem?_getD, List.getElem?_drop, List.getElem?_take_of_lt (by omega), ← List.getD_eq_getElem?_getD]
  have h0 := (s.getD (4 * k) 0).toNat_lt
  have h1 := (s.getD (4 * k + 1) 0).toNat_lt
  have h2 := (s.getD (4 * k + 2) 0).toNat_lt
  have h3 := (s.getD (4 * k + 3) 0).toNat_lt
  simp only [wordTo]
  rw [g 0 (by omega), g 1 (by omega), g 2 (by omega), g 3 (by omega)]
  unfold beWord
  apply UInt32.toNat_inj.1
  simp only [UInt32.toNat_add, UInt32.toNat_mul, UInt32.toNat_ofNat', Nat.add_zero, show (256 : UInt32).toNat = 256 from rfl, show (0 : UInt32).toNat = 0 from rfl]
  omega

def WRel (p : List UInt8) (W1 : World) (n i : Value) (wr : World) : Prop :=
  ∃ j : Nat, j ≤ 4 ∧ i = .int .i64 j ∧ n = .int .u32 (wd (wordTo p j)) ∧ wr = W1

set_option maxRecDepth 100000 in
set_option maxHeartbeats 1000000 in
theorem word_any (s : ByteArray) (k : Nat) (hk : k < 16) (hs1 : s.size ≤ 64) (hs2 : 64 ≤ s.size) (w : World) :
    Calls Tryz.prog 127 #[.string s, .int .i64 (4 * (k : Int))] w fun e w' => e = .returned (.int .u32 (wd (beWord s.data.toList k))) ∧ Below w.heap.size w w' := by
  obtain ⟨W1, cap, hcv, hcap, hcell, hB, hz⟩ := conv_leaf (s.extract (4 * k) (4 * k + 4)) w
  have hp4 : (s.extract (4 * k) (4 * k + 4)).size = 4 := by simp; omega
  rw [hp4] at hcv hcap hcell
  have HE := Lib.hid (wordTo_four s.data.toList k)
  rw [← extract_list] at HE
  generalize hP : (s.extract (4 * k) (4 * k + 4)).data.toList = P at *
  clear hP
  have Hcell := Lib.hid hcell
  clear hcell hp4 hz
  go_enter Tryz.func127, Tryz.ntmps127
  go_wp2_with fail
  go_loopw [5, 15] (fun n i wr => WRel P W1 n i wr) (fun _ i _ => 4 - (intOf i).toNat)
  case atStart => exact ⟨0, by omega, rfl, rfl, rfl⟩
  case round =>
    clear hcv
    obtain ⟨j, hj, rfl, rfl, rfl⟩ := hrel
    by_cases hlt : j < 4
    · have hc := Hcell.out j hlt
      have hi : (j : Int) < 4 := by omega
      have hst := wd_step (wordTo P j) (P.getD j 0)
      have HN : Hid (wordTo P (j + 1) = wordTo P j * 256 + UInt32.ofNat (P.getD j 0).toNat) := rfl
      generalize wordTo P j * 256 + UInt32.ofNat (P.getD j 0).toNat = nx at *
      generalize wordTo P j = n0 at *
      generalize P.getD j 0 = c0 at *
      go_wp2
      refine ⟨⟨j + 1, by omega, by go_num, ?_, rfl⟩, by simp [intOf]; omega⟩
      rw [HN.out, ← hst]
      simp only [IntKind.wrap_u32']
    · obtain rfl : j = 4 := by omega
      have HE2 : Hid (wd (beWord s.data.toList k) = wd (wordTo P 4)) := by show _ = _; rw [HE.out]
      generalize wordTo P 4 = n4 at *
      clear HE hlt hj
      go_wp2
      go_ret
      exact ⟨by rw [HE2.out]; rfl, hB⟩

theorem info59 : (Tryz.prog.info? 159).map (·.size) = some (warr kTab).size := info64 kTab rfl

set_option maxRecDepth 100000 in
set_option maxHeartbeats 1000000 in
theorem rounds_any (w : World) : Calls Tryz.prog 126 #[] w fun e w' => e = .returned (.agg (warr kTab)) ∧ Below w.heap.size w w' := by
  go_enter Tryz.func126, Tryz.ntmps126
  go_wp2_with (first
    | (refine wpList_build rfl 159 _ rfl (by kernel_rfl) ?_)
    | (refine wpList_store_row rfl 159 _ _ rfl w.heap.size (warr kTab) rfl (by kernel_rfl) 159 (warr (List.replicate 64 0)) (Arr.new w _ _) info59 rfl (warr_one _) ?_))
  refine bodyPost_ret (v := .agg (warr kTab)) ?_ rfl ⟨rfl, below_setRow ((Below.refl _ _).alloc (Nat.le_refl _) _) (Nat.le_refl _) _⟩
  exact results_cell_row Tryz.results126 _ _ w.heap.size 159 _ (0, 0) _ rfl ((Arr.new w _ _).row _) Tryz.underlying159 rfl info59
end Go.Proofs.YtmikfmcgddmplaaGreatDoor
