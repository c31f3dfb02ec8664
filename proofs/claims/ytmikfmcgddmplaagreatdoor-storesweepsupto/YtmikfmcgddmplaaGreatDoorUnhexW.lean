/- Texts in one: StTells, Unhex, UnhexW. -/
import Derived.Test.YtmikfmcgddmplaaGreatDoorRefMath
import Derived.Test.YtmikfmcgddmplaaGreatDoorOApp
import Derived.Test.YtmikfmcgddmplaaGreatDoorRefSum
import Derived.Deep.RegionLaw
import Derived.Test.YtmikfmcgddmplaaGreatDoorHex
import Derived.Lib.Bytealg
/- law.tells: its contract. -/
namespace Go.Proofs.YtmikfmcgddmplaaGreatDoor
open Go.RowKit

/-- the objects by their digests, one after another -/
def fillT (T : List ByteArray) : List KT := T.foldl (fun M x => upT (sumB x) x M) []
theorem fillT_next {T : List ByteArray} {k : Nat} (h : k < T.length) : fillT (T.take (k + 1)) = upT (sumB T[k]) T[k] (fillT (T.take k)) := by
  unfold fillT
  rw [List.take_succ_eq_append_getElem h, List.foldl_append]
  rfl
/-- what tells leaves -/
def TeEnd (w : World) (T : List ByteArray) (e : Ending) (w' : World) : Prop :=
  ∃ gm q, e = .returned (.func (.func 26) #[] #[.pointer (some ⟨q, 0, none⟩)]) ∧ Arr w' q 58 #[.map (some gm)] ∧ MapX w' gm (tx (fillT T)) ∧ Below w.heap.size w w'
def TeRel (T : List ByteArray) (gm q : Nat) (w : World) (i : Value) (wr : World) : Prop :=
  ∃ k : Nat, i = .int .i64 (k : Int) ∧ k ≤ T.length ∧ Arr wr q 58 #[.map (some gm)] ∧ MapX wr gm (tx (fillT (T.take k))) ∧ Below w.heap.size w wr
set_option maxRecDepth 100000 in
set_option maxHeartbeats 2000000 in
theorem tells_any (T : List ByteArray) (A : Option Addr) (c : Nat) (w : World) (hT : Txs w w.heap.size A T) (hz : ∀ x ∈ T, x.size ≤ 140737488355328) (hl : T.length ≤ 140737488355328) :
    Calls Tryz.prog 6 #[.slice A T.length c] w (TeEnd w T) := by
  have hmm : ∀ W : World, (Instr.makeMap 58 none).run Tryz.prog W = .ok (.map (some W.heap.size)) (W.alloc (.map #[] 0)) := fun _ => rfl
  have h1 : Hid (TeRel T w.heap.size (w.heap.size + 1) w (.int .i64 0) ((w.alloc (.map #[] 0)).alloc (.cells #[.map (some w.heap.size)] 58))) := by
    have b1 : Below w.heap.size w (w.alloc (.map #[] 0)) := (Below.refl _ _).alloc (Nat.le_refl _) _
    have hM : MapX (w.alloc (.map #[] 0)) w.heap.size [] := MapX.new w
    exact ⟨0, rfl, Nat.zero_le _, Arr.new_at _ _ _ (by simp), (Below.heap_alloc _ _ _ hM.lt).trans hM, b1.alloc (by simp) _⟩
  go_enter Tryz.func6, Tryz.ntmps6
  go_wp2_with fail
  go_loopw [4] (fun i wr => TeRel T w.heap.size (w.heap.size + 1) w i wr) (fun i _ => T.length - (intOf i).toNat)
  case atStart => exact h1.out
  case round =>
    clear h1 hmm
    obtain ⟨k, rfl, hk, hq, hM, hB⟩ := hrel
    by_cases hlt : k < T.length
    case neg =>
      obtain rfl : k = T.length := by omega
      have hi : ¬ (T.length : Int) < T.length := by omega
      rw [List.take_length] at hM
      go_wp2_with fail
      go_ret
      exact ⟨_, _, rfl, hq, hM, hB⟩
    have hi : (k : Int) < T.length := by omega
    have hx : T[k]? = some T[k] := List.getElem?_eq_getElem hlt
    obtain ⟨ad, rfl, hbl, h0⟩ := hT _ _ hx
    have hxz := hz _ (List.getElem_mem hlt)
    have HF := Lib.hid (fillT_next hlt)
    clear hx
    generalize T[k] = x at *
    have hW : Below w.heap.size w wr.drew := below_drewN hB 1
    have q0 : wr.drew.cell? ⟨w.heap.size + 1, 0, none⟩ = some (.map (some w.heap.size)) := hq.cell 0
    have q1 : wr.drew.cell? (ad.add k) = some (.string x) := (hW.cell hbl).trans h0
    have C := Lib.hid (RefSum_any x (by omega) wr.drew)
    change Hid (Calls _ _ _ _ fun e w' => e = .returned (.string (sumB x)) ∧ _) at C
    generalize sumB x = D at *
    have hMd : MapX wr.drew w.heap.size (tx (fillT (T.take k))) := hM
    have hqd : Arr wr.drew (w.heap.size + 1) 58 #[.map (some w.heap.size)] := hq
    generalize fillT (T.take k) = M at *
    go_upto_region 5 with fail
    go_region_law (first
      | fail
      | (go_simp; go_at_call 25; (with_reducible refine C.out.mono ?_); rintro _ w2 ⟨rfl, b2⟩
         have hM2 := hMd.below b2 hMd.lt
         have hq2 := hqd.below b2 hqd.lt
         have hB2 := hW.trans (b2.mono hW.size)
         have r0 : w2.cell? ⟨w.heap.size + 1, 0, none⟩ = some (.map (some w.heap.size)) := hq2.cell 0
         have r1 : w2.cell? (ad.add k) = some (.string x) := (hB2.cell hbl).trans h0
         obtain ⟨w3, hrun, hM3, g3⟩ := run_upX Tryz.underlying58 hM2 D (.string x)))
    all_goals
      rw [tx_up] at hM3
      have hne : w.heap.size + 1 ≠ w.heap.size := by omega
      have hq3 := hq2.kept g3 (fun e => hne (Option.some.inj e))
      have hB3 := below_gb hB2 g3 (Nat.le_refl _) hB2.size
      go_wp2_with fail
      go_roundw
      case rel => exact ⟨k + 1, by rw [Int.natCast_add]; rfl, by omega, hq3, by rw [HF.out]; exact hM3, hB3⟩
      case measure => simp [intOf]; omega
end Go.Proofs.YtmikfmcgddmplaaGreatDoor

/- strings.IndexByte over the digits, and sum.Unhex: their contracts. -/
namespace Go.Proofs.YtmikfmcgddmplaaGreatDoor
open Go.RowKit

/-- the value of a digit; -1: it is none -/
def dv (c : UInt8) : Int := Lib.indexByte digs c

set_option maxRecDepth 100000 in
set_option maxHeartbeats 1000000 in
theorem IndexByte_any (c : UInt8) (w : World) :
    Calls Tryz.prog 101 #[.string { data := #[48, 49, 50, 51, 52, 53, 54, 55, 56, 57, 97, 98, 99, 100, 101, 102] }, .int .u8 (c.toNat : Int)] w
      fun e w' => e = .returned (.int .i64 (dv c)) ∧ w = w' := by
  have hc : ∀ w, (callFunc 152 #[.string { data := #[48, 49, 50, 51, 52, 53, 54, 55, 56, 57, 97, 98, 99, 100, 101, 102] }, .int .u8 (c.toNat : Int)]).run Tryz.prog w = .ok (.value (.int .i64 (dv c))) w := fun w => by
    rw [run_callFunc_extern Tryz.func152 (by kernel_rfl) (by kernel_rfl) (by kernel_rfl) (by kernel_rfl : Extern.find Tryz.f152 = some Extern.BytealgIndexByte.indexByte), Lib.run_indexByteString]
    have e : ((c.toNat : Int)).toNat.toUInt8 = c := by rw [Int.toNat_natCast]; simp
    rw [e]
    rfl
  go_enter Tryz.func101, Tryz.ntmps101
  go_wp2
  go_ret
  exact ⟨rfl, rfl⟩

theorem dv_hd (n : Nat) (h : n < 16) : dv (hd n) = (n : Int) := by
  have key : ∀ k : Fin 16, dv (hd k.val) = (k.val : Int) := by decide +kernel
  exact key ⟨n, h⟩
theorem dv_cases (c : UInt8) : dv c = -1 ∨ ∃ n : Nat, n < 16 ∧ dv c = (n : Int) ∧ hd n = c := by
  have key : ∀ k : Fin 256, dv (UInt8.ofNat k.val) = -1 ∨ ∃ n : Fin 16, dv (UInt8.ofNat k.val) = (n.val : Int) ∧ hd n.val = UInt8.ofNat k.val := by decide +kernel
  have h := key ⟨c.toNat, c.toNat_lt⟩
  simp only [UInt8.ofNat_toNat] at h
  rcases h with h | ⟨n, h1, h2⟩
  · exact .inl h
  · exact .inr ⟨n.val, n.isLt, h1, h2⟩

/-- a byte out of two digits -/
def byte2 (a b : UInt8) : UInt8 := UInt8.ofNat ((dv a).toNat * 16 + (dv b).toNat)
/-- the bytes of digits; none: they are no digits -/
def unpair : List UInt8 → Option (List UInt8)
  | [] => some []
  | [_] => none
  | a :: b :: l => if dv a < 0 ∨ dv b < 0 then none else (unpair l).map (byte2 a b :: ·)
theorem byte_join (x y : Nat) (hx : x < 16) (hy : y < 16) : IntKind.u8.wrap (bits .or .i64 ((x : Int) * 16) (y : Int)) = ((UInt8.ofNat (x * 16 + y)).toNat : Int) := by
  have key : ∀ x y : Fin 16, IntKind.u8.wrap (bits .or .i64 ((x.val : Int) * 16) (y.val : Int)) = ((UInt8.ofNat (x.val * 16 + y.val)).toNat : Int) := by decide +kernel
  exact key ⟨x, hx⟩ ⟨y, hy⟩
theorem unpair_hex (l : List UInt8) : unpair (hexOf l) = some l := by
  induction l with
  | nil => rfl
  | cons b l ih =>
    have hb := b.toNat_lt
    have e : hexOf (b :: l) = hd (b.toNat / 16) :: hd (b.toNat % 16) :: hexOf l := by simp [hexOf]
    rw [e, unpair, dv_hd _ (by omega), dv_hd _ (by omega), if_neg (by omega), ih]
    simp only [Option.map_some, Option.some.injEq, List.cons.injEq, and_true]
    unfold byte2
    rw [dv_hd _ (by omega), dv_hd _ (by omega)]
    apply UInt8.toNat_inj.1
    rw [UInt8.toNat_ofNat']
    omega
theorem hex_unpair_n (n : Nat) : ∀ (l p : List UInt8), l.length ≤ n → unpair l = some p → hexOf p = l := by
  induction n with
  | zero =>
    intro l p hl h
    have : l = [] := List.eq_nil_of_length_eq_zero (by omega)
    subst this
    simp [unpair] at h
    subst h
    rfl
  | succ n ih =>
    intro l p hl h
    match l, hl, h with
    | [], _, h => simp [unpair] at h; subst h; rfl
    | [_], _, h => simp [unpair] at h
    | a :: b :: l, hl, h =>
      rw [unpair] at h
      by_cases hn : dv a < 0 ∨ dv b < 0
      · rw [if_pos hn] at h; cases h
      · rw [if_neg hn] at h
        obtain ⟨q, hq, rfl⟩ := Option.map_eq_some_iff.1 h
        have ih' := ih l q (by simp at hl; omega) hq
        have ha := dv_cases a
        have hb := dv_cases b
        rcases ha with ha | ⟨x, hx, ha, hxa⟩
        · omega
        · rcases hb with hb | ⟨y, hy, hb, hyb⟩
          · omega
          · have e : hexOf (byte2 a b :: q) = hd ((byte2 a b).toNat / 16) :: hd ((byte2 a b).toNat % 16) :: hexOf q := by simp [hexOf]
            have e2 : (byte2 a b).toNat = x * 16 + y := by
              unfold byte2
              rw [ha, hb, UInt8.toNat_ofNat', Int.toNat_natCast, Int.toNat_natCast]
              omega
            rw [e, e2, ih', show (x * 16 + y) / 16 = x from by omega, show (x * 16 + y) % 16 = y from by omega, hxa, hyb]
theorem hex_unpair (l p : List UInt8) (h : unpair l = some p) : hexOf p = l := hex_unpair_n l.length l p (Nat.le_refl _) h
theorem unpair_even_n (n : Nat) : ∀ (l p : List UInt8), l.length ≤ n → unpair l = some p → l.length = 2 * p.length := by
  intro l p _ h
  rw [← hex_unpair l p h, hexOf_length]
end Go.Proofs.YtmikfmcgddmplaaGreatDoor

/- sum.Unhex: its contract. -/
namespace Go.Proofs.YtmikfmcgddmplaaGreatDoor
open Go.RowKit

/-- what Unhex answers -/
def UR : Option (List UInt8) → Ending → Prop
  | some p, e => e = .returned (.tuple #[.string (bs p), .int .i64 0])
  | none, e => e = .returned (.tuple #[.string ⟨#[]⟩, .int .i64 2])

def URel (s : ByteArray) (base : Nat) (w : World) (t i : Value) (wr : World) : Prop :=
  ∃ (k : Nat) (pre : List UInt8), 2 * k ≤ s.size ∧ i = .int .i64 (2 * (k : Int)) ∧ t = .slice (some ⟨base, 0, none⟩) k (s.size / 2) ∧ pre.length = k ∧
    wr.ownsRow base 5 1 (.slice (some ⟨base, 0, none⟩) k (s.size / 2)) k (pre.map bv) ∧ unpair s.data.toList = (unpair (s.data.toList.drop (2 * k))).map (pre ++ ·) ∧ Below base w wr

theorem unpair_odd_n (n : Nat) : ∀ l : List UInt8, l.length ≤ n → l.length % 2 = 1 → unpair l = none := by
  induction n with
  | zero => intro l h1 h2; omega
  | succ n ih =>
    intro l h1 h2
    match l, h1, h2 with
    | [], _, h2 => simp at h2
    | [_], _, _ => rfl
    | a :: b :: l, h1, h2 =>
      rw [unpair]
      split
      · rfl
      · rw [ih l (by simp at h1; omega) (by simp at h2; omega)]; rfl

theorem drop_two (s : ByteArray) (k : Nat) (h : 2 * k + 1 < s.size) : s.data.toList.drop (2 * k) = s[2 * k] :: s[2 * k + 1] :: s.data.toList.drop (2 * (k + 1)) := by
  have h1 : 2 * k + 1 < s.data.toList.length := h
  rw [List.drop_eq_getElem_cons (by omega), List.drop_eq_getElem_cons h1]
  rfl

set_option maxRecDepth 100000 in
set_option maxHeartbeats 1000000 in
theorem Unhex_odd (s : ByteArray) (hs : s.size ≤ 281474976710656) (ho : s.size % 2 = 1) (w : World) :
    Calls Tryz.prog 58 #[.string s] w fun e w' => e = .returned (.tuple #[.string ⟨#[]⟩, .int .i64 2]) ∧ Below w.heap.size w w' := by
  have h1 : ((s.size : Int) % 2 != 0) = true := by rw [bne_iff_ne]; omega
  go_enter Tryz.func58, Tryz.ntmps58
  go_wp2_with fail
  go_ret2
  exact ⟨rfl, Below.refl _ _⟩

set_option maxRecDepth 100000 in
set_option maxHeartbeats 1000000 in
theorem Unhex_even (s : ByteArray) (hs : s.size ≤ 281474976710656) (ho : s.size % 2 = 0) (w : World) :
    Calls Tryz.prog 58 #[.string s] w fun e w' => UR (unpair s.data.toList) e ∧ Below w.heap.size w w' := by
  obtain ⟨i, hi, hz0, hz1, hz2⟩ := info_parts info_u8
  have Hi := Lib.hid hi
  have Hz0 := Lib.hid hz0
  have Hz1 := Lib.hid hz1
  have Hz2 := Lib.hid hz2
  clear hi hz0 hz1 hz2
  have h1 : ((s.size : Int) % 2 != 0) = false := by rw [bne_eq_false_iff_eq]; omega
  have Ho := Lib.hid ho
  clear ho
  go_enter Tryz.func58, Tryz.ntmps58
  go_wp2_with (at_make; refine wpList_make_own _ rfl _ _ 105 rfl w.heap.size 5 i _ 1 Tryz.underlying105 Hi.out Hz0.out Hz1.out _ _ _ (s.size / 2) rfl rfl (by omega) (by rw [Hz2.out]; omega) (by unfold maxLen; omega) (Nat.le_refl _) ?_)
  intro w1 hown hgrow
  have hb0 : Below w.heap.size w w1 := (Below.refl _ _).grown hgrow (Nat.le_refl _) (by intro k hk; cases hk)
  go_wp2_with fail
  go_loopw [4, 5] (fun t i wr => URel s w.heap.size w t i wr) (fun _ i _ => (s.size - intOf i).toNat)
  case atStart => exact ⟨0, [], by omega, rfl, rfl, rfl, hown, by simp, hb0⟩
  case round =>
    clear hown hgrow hb0 h1
    obtain ⟨k, pre, hk, rfl, rfl, hpl, hO, hU, hB⟩ := hrel
    have Hpl := Lib.hid hpl
    have HU := Lib.hid hU
    clear hpl hU
    by_cases hlt : 2 * k < s.size
    · have hlt2 : 2 * k + 1 < s.size := by have := Ho.out; omega
      have i1 : (2 * (k : Int)) < (s.size : Int) := by omega
      have i2 : (2 * (k : Int) + 1) < (s.size : Int) := by omega
      have HD := Lib.hid (drop_two s k hlt2)
      go_wp2_with fail
      (with_reducible refine (IndexByte_any s[2 * k] _).mono ?_)
      rintro e w2 ⟨rfl, rfl⟩
      go_wp2_with fail
      (with_reducible refine (IndexByte_any s[2 * k + 1] _).mono ?_)
      rintro e w2 ⟨rfl, rfl⟩
      have hE : unpair s.data.toList = (if dv s[2 * k] < 0 ∨ dv s[2 * k + 1] < 0 then none else (unpair (s.data.toList.drop (2 * (k + 1)))).map (byte2 s[2 * k] s[2 * k + 1] :: ·)).map (pre ++ ·) := by
        rw [HU.out, HD.out, unpair]
      have hb2 : byte2 s[2 * k] s[2 * k + 1] = UInt8.ofNat ((dv s[2 * k]).toNat * 16 + (dv s[2 * k + 1]).toNat) := rfl
      generalize byte2 s[2 * k] s[2 * k + 1] = bb at *
      rcases dv_cases s[2 * k] with ha | ⟨x, hx, ha, _⟩
      · rw [ha] at hE ⊢
        rw [if_pos (.inl (by omega))] at hE
        have HE := Lib.hid hE
        clear hE HU HD hb2 ha
        go_wp2_with fail
        go_ret2
        rw [HE.out]
        exact ⟨rfl, hB⟩
      · rcases dv_cases s[2 * k + 1] with hb | ⟨y, hy, hb, _⟩
        · rw [ha, hb] at hE ⊢
          rw [if_pos (.inr (by omega))] at hE
          have HE := Lib.hid hE
          clear hE HU HD hb2 ha hb
          go_wp2_with fail
          go_ret2
          rw [HE.out]
          exact ⟨rfl, hB⟩
        · rw [ha, hb] at hE hb2 ⊢
          rw [if_neg (by omega)] at hE
          have hj := byte_join x y hx hy
          rw [Int.toNat_natCast, Int.toNat_natCast] at hb2
          rw [← hb2] at hj
          have HE := Lib.hid hE
          clear hE HU HD hb2 ha hb
          go_wp2_with (at_builtin; refine wpList_append_fits _ rfl _ _ 105 rfl w.heap.size 5 i 1 Tryz.underlying105 Hi.out Hz1.out w.heap.size _ _ (pre.map bv) rfl (World.ownsRow.alloc hO _) ⟨wr.heap.size, 0, none⟩ 1 1 [.int .u8 (bb.toNat : Int)] rfl rfl (new_cells wr [.int .u8 (bb.toNat : Int)] 5) (bytes_one [bb]) (by omega) ?_)
          intro w2 hown hgrow
          go_wp2_with fail
          refine ⟨⟨k + 1, pre ++ [bb], by omega, by go_num, rfl, by simp [Hpl.out], ?_, ?_, ?_⟩, by simp [intOf]; omega⟩
          · rw [List.map_append]; exact hown
          · rw [HE.out, Option.map_map]
            congr 1
            funext q
            simp
          · exact (hB.alloc hB.size _).grown hgrow (by simp; have := hB.size; omega) (by intro k hk; cases hk; exact Nat.le_refl _)
    · obtain hke : 2 * k = s.size := by omega
      have hd : s.data.toList.drop (2 * k) = [] := List.drop_eq_nil_of_le (by rw [hke]; exact Nat.le_of_eq rfl)
      have hE := HU.out
      rw [hd] at hE
      have hE2 : unpair s.data.toList = some pre := by rw [hE]; simp [unpair]
      have HE := Lib.hid hE2
      have hO2 : wr.ownsRow w.heap.size 5 1 (.slice (some ⟨w.heap.size, 0, none⟩) pre.length (s.size / 2)) pre.length (pre.map bv) := by rw [Hpl.out]; exact hO
      have hb := run_bytes_own (P := Tryz.prog) hO2
      rw [← run_convert_bytes_string wr 105 9 5 _ _ _ Tryz.underlying105 Tryz.underlying5 Tryz.underlying9, Hpl.out] at hb
      clear hd hE hE2 HU hO hO2
      have i1 : ¬ (2 * (k : Int)) < (s.size : Int) := by omega
      go_wp2_with fail
      go_ret2
      rw [HE.out]
      exact ⟨rfl, hB⟩

/-- Unhex at every text -/
theorem Unhex_any (s : ByteArray) (hs : s.size ≤ 281474976710656) (w : World) :
    Calls Tryz.prog 58 #[.string s] w fun e w' => UR (unpair s.data.toList) e ∧ Below w.heap.size w w' := by
  by_cases ho : s.size % 2 = 0
  · exact Unhex_even s hs ho w
  · have h1 : unpair s.data.toList = none := unpair_odd_n s.size _ (Nat.le_of_eq rfl) (by show s.size % 2 = 1; omega)
    rw [h1]
    exact Unhex_odd s hs (by omega) w
end Go.Proofs.YtmikfmcgddmplaaGreatDoor
