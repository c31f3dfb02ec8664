/- Texts in one: PTurned, Take. -/
import Derived.Test.YthigdhiebogffaaDoorPReads
import Derived.Test.YthigdhiebogffaaDoorOPick
import Derived.Laws.BitsAllLaws
import Derived.Test.YthigdhiebogffaaDoorMem
import Derived.Deep.RegionHeld3
import Derived.Deep.RegionWith
/- keep.turned, keep.PackTurned: the walks. -/
namespace Go.Proofs.YthigdhiebogffaaDoor
open Go.RowKit

theorem xor_is (a : UInt8) (n : Int) (h0 : 0 ≤ n) (h1 : n ≤ 255) : ∃ z : UInt8, bits .xor .u8 (a.toNat : Int) n = (z.toNat : Int) := by
  obtain ⟨m, rfl⟩ := Int.eq_ofNat_of_zero_le h0
  have ha := a.toNat_lt
  have hm : m < 256 := by omega
  refine ⟨UInt8.ofNat (a.toNat ^^^ m), ?_⟩
  rw [u8_xor_nat _ _ ha hm]
  have hx : a.toNat ^^^ m < 256 := Nat.xor_lt_two_pow (n := 8) ha hm
  rw [UInt8.toNat_ofNat', Nat.mod_eq_of_lt hx]
set_option maxRecDepth 100000 in
set_option maxHeartbeats 1000000 in
theorem turned_any (s : ByteArray) (k : Nat) (hk : k < s.size) (hs : s.size ≤ 100000000) (n : Int) (h0 : 0 ≤ n) (h1 : n ≤ 255) (w : World) :
    Calls Tryd.prog 18 #[.string s, .int .i64 (k : Int), .int .u8 n] w fun e w' => (∃ t : ByteArray, e = .returned (.string t) ∧ t.size = s.size) ∧ Below w.heap.size w w' := by
  obtain ⟨c, hc0, hc1, hcn⟩ : ∃ c : Int, 0 ≤ c ∧ c ≤ 255 ∧ c = if n = 0 then 1 else n := ⟨_, by split <;> omega, by split <;> omega, rfl⟩
  obtain ⟨z, hz⟩ := xor_is s[k] c hc0 hc1
  have hconv : (convert 78 9 (.slice (some ⟨w.heap.size, 0, none⟩) 1 1)).run Tryd.prog (w.alloc (.cells #[.int .u8 (z.toNat : Int)] 5)).drew = .ok (.string (bs [z])) (w.alloc (.cells #[.int .u8 (z.toNat : Int)] 5)).drew := by
    have hA : Arr (w.alloc (.cells #[.int .u8 (z.toNat : Int)] 5)).drew w.heap.size 5 #[.int .u8 (z.toNat : Int)] := (Arr.new _ _ _).drew
    have hb := run_bytes (P := Tryd.prog) hA [z] rfl 1
    rw [← run_convert_bytes_string _ 78 9 5 _ _ _ Tryd.underlying78 Tryd.underlying5 Tryd.underlying9] at hb
    exact hb
  have hA : (s.extract 0 k).size = k := by rw [ByteArray.size_extract]; omega
  have hZ : (bs [z]).size = 1 := bs_size _
  have hC : (s.extract (k + 1) s.size).size = s.size - (k + 1) := by rw [ByteArray.size_extract]; omega
  have bel : Below w.heap.size w (w.alloc (.cells #[.int .u8 (z.toNat : Int)] 5)).drew := ((Below.refl _ _).alloc (Nat.le_refl _) _).drew
  have hk1 : (0 : Int) ≤ k := by omega
  have hk2 : (k : Int) ≤ s.size := by omega
  have hk3 : (k : Int) < s.size := by omega
  have hT : Hid ((s.extract 0 k ++ bs [z] ++ s.extract (k + 1) s.size).size = s.size) := by
    show _ = _
    rw [ByteArray.size_append, ByteArray.size_append, hA, hZ, hC]
    omega
  by_cases hn : n = 0
  · subst hn
    rw [if_pos rfl] at hcn
    subst hcn
    go_enter Tryd.func18, Tryd.ntmps18
    go_upto_region 3 with fail
    have s1 : (k : Int) + 1 ≤ s.size := by omega
    have s2 : ((k : Int) + 1).toNat = k + 1 := by omega
    have s3 : IntKind.i64.wrap ((k : Int) + 1) = (k : Int) + 1 := IntWalk.i64_in _ (by omega)
    go_region_with (fail)
    all_goals
      go_wp2_with fail
      go_ret
      exact ⟨⟨_, rfl, hT.out⟩, bel⟩
  · have hn' : (n == 0) = false := by rw [beq_eq_false_iff_ne]; exact hn
    rw [if_neg hn] at hcn
    subst hcn
    go_enter Tryd.func18, Tryd.ntmps18
    go_upto_region 3 with fail
    have s1 : (k : Int) + 1 ≤ s.size := by omega
    have s2 : ((k : Int) + 1).toNat = k + 1 := by omega
    have s3 : IntKind.i64.wrap ((k : Int) + 1) = (k : Int) + 1 := IntWalk.i64_in _ (by omega)
    go_region_with (fail)
    all_goals
      go_wp2_with fail
      go_ret
      exact ⟨⟨_, rfl, hT.out⟩, bel⟩
/-- what Read says of bytes whose sum does not fit, or that do not begin as a pack -/
theorem read_turned (t : List UInt8) (O : List ByteArray) (h : 33 ≤ t.length) : (readP t O).2 = 5 ∨ ((readP t O).2 = 2 ∧ t.take 1 ≠ [80]) ∨ (t.take 1 = [80] ∧ sha (t.take (t.length - 32)) = t.drop (t.length - 32)) := by
  by_cases h1 : t.take 1 = [80]
  · by_cases h2 : sha (t.take (t.length - 32)) = t.drop (t.length - 32)
    · exact .inr (.inr ⟨h1, h2⟩)
    · left
      unfold readP
      rw [if_neg (by rintro (h3 | h3); omega; exact h3 h1), if_pos h2]
  · right
    left
    unfold readP
    rw [if_pos (.inr h1)]
    exact ⟨rfl, h1⟩

end Go.Proofs.YthigdhiebogffaaDoor

/- Taking an operation of a region by hand. -/
namespace Go.Proofs.YthigdhiebogffaaDoor
open Go.RowKit

section
variable {P : Program} {ops : Array Oper} {Q : Exit → Act → World → Prop} {md : Region.Mode} {S : World → Prop}
/-- an operation that yields is taken first -/
theorem takeY (i d : Nat) (v : Value) {oi : Oper} {fuel : Nat} {listed : Array Bool} {ts : Array Value} {df : List Deferred} {w : World} (hi : ops[i]? = some oi) (hd : oi.dst = some d)
    (hs : Region.noSelect ops = true) (hf : Region.free md ops listed i = true) (hr : (Region.ready md ops listed).contains i = true)
    (hQ : ∀ c a w, Q (.panic c) (a.put oi.dst v) w → Q (.panic c) a w) (hw : Region.wanted oi (yielded ops ts) = true)
    (hv : ∀ w, S w → (execOp (Act.eval ⟨ts, df⟩) oi).run P w = .ok (.value v) w) (hS : S w)
    (h : wpAnyH P md ops Q S fuel (listed.setIfInBounds i true) ⟨ts.setIfInBounds d v, df⟩ w) : wpAnyH P md ops Q S (fuel + 1) listed ⟨ts, df⟩ w :=
  wpAnyH_take hi hs hf hr hQ (Or.inl ⟨hw, hv⟩) hS (by rw [hd]; exact h)
/-- an operation that is not wanted is taken first -/
theorem takeN (i d : Nat) {oi : Oper} {fuel : Nat} {listed : Array Bool} {ts : Array Value} {df : List Deferred} {w : World} (hi : ops[i]? = some oi) (hd : oi.dst = some d)
    (hs : Region.noSelect ops = true) (hf : Region.free md ops listed i = true) (hr : (Region.ready md ops listed).contains i = true)
    (hQ : ∀ c a w, Q (.panic c) (a.put oi.dst undef) w → Q (.panic c) a w) (hw : Region.wanted oi (yielded ops ts) = false) (hS : S w)
    (h : wpAnyH P md ops Q S fuel (listed.setIfInBounds i true) ⟨ts.setIfInBounds d undef, df⟩ w) : wpAnyH P md ops Q S (fuel + 1) listed ⟨ts, df⟩ w :=
  wpAnyH_take hi hs hf hr hQ (Or.inr ⟨hw, rfl⟩) hS (by rw [hd]; exact h)
end
end Go.Proofs.YthigdhiebogffaaDoor
