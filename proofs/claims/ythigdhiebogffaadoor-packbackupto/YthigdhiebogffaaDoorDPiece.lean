/- Texts in one: PUn, WRef, WRefGet, WRefText, WStep, DRd, DPiece. -/
import Derived.Test.YthigdhiebogffaaDoorPAdd
import Derived.Test.YthigdhiebogffaaDoorRdn
import Derived.Deep.RegionWith
import Derived.Test.YthigdhiebogffaaDoorWRead
import Derived.Test.YthigdhiebogffaaDoorDSpec
/- An unpacking in memory; (*unpacking).baseOf: its contract. -/
namespace Go.Proofs.YthigdhiebogffaaDoor
open Go.RowKit

def iv (n : Nat) : Value := .int .i64 (n : Int)
theorem own_ints {w : World} {base : Nat} {v : Value} {D : List Nat} (h : w.ownsRow base 3 1 v D.length (D.map iv)) : ∃ A c, v = .slice A D.length c ∧ ∀ (k n : Nat), D[k]? = some n → ∃ ad, A = some ad ∧ w.cell? (ad.add k) = some (.int .i64 (n : Int)) := by
  rcases h.2 with ⟨rfl, h0⟩ | ⟨g, cap, cur, rfl, hb, hg, h1, h2, h3, h4⟩
  · obtain rfl : D = [] := List.eq_nil_of_length_eq_zero h0
    exact ⟨none, 0, rfl, fun k n hk => by simp at hk⟩
  · refine ⟨_, cap, rfl, fun k n hk => ⟨_, rfl, ?_⟩⟩
    obtain ⟨hlt, rfl⟩ := List.getElem?_eq_some_iff.1 hk
    rw [zero_add, cell_of_row w g k cur _ _ hg, ← Array.getElem?_toList]
    have : (cur.toList.take (D.length * 1))[k]? = some (iv D[k]) := by rw [h4, List.getElem?_map, hk]; rfl
    rw [List.getElem?_take] at this
    split at this
    · exact this
    · cases this

structure Un (b0 base g gu gm gi : Nat) (oA : Option Addr) (oc : Nat) (O T : List ByteArray) (D : List Nat) (v d : Value) (W : World) : Prop where
  box : Arr W gu 51 (upArr v gm d oA O.length oc gi)
  objs : W.ownsRow base 9 1 v T.length (T.map sv)
  deps : W.ownsRow base 3 1 d D.length (D.map iv)
  mt : ∃ M, MapI W gm M ∧ KeyIs M T
  mi : ∃ I, MapI W gi I ∧ Idx I O
  outs : Txs W b0 oA O
  gmi : gm ≠ gi
  hu : gu < base
  hm : gm < base
  hi : gi < base
  hg : g < base
  g0 : b0 ≤ g
  u0 : b0 ≤ gu
  m0 : b0 ≤ gm
  ug : gu ≠ g
  mg : gm ≠ g
  ig : gi ≠ g
  hb : base ≤ W.heap.size
  len : T.length = D.length
section
variable {b0 base g gu gm gi : Nat} {oA : Option Addr} {oc : Nat} {O T : List ByteArray} {D : List Nat} {v d : Value} {W W' : World}
theorem Un.keep (h : Un b0 base g gu gm gi oA oc O T D v d W) {X : Nat → Prop} (k : Kp X W W') (hx : ∀ i, X i → i = g) : Un b0 base g gu gm gi oA oc O T D v d W' := by
  obtain ⟨M, hM, kM⟩ := h.mt
  obtain ⟨I, hI, kI⟩ := h.mi
  have := h.g0
  exact ⟨h.box.kp k (fun x => h.ug (hx _ x)), own_kp h.objs k (fun q hq x => by have := own_row_ge h.objs q hq; have := hx _ x; have := h.hg; omega), own_kp h.deps k (fun q hq x => by have := own_row_ge h.deps q hq; have := hx _ x; have := h.hg; omega),
    ⟨M, hM.kp k (fun x => h.mg (hx _ x)), kM⟩, ⟨I, hI.kp k (fun x => h.ig (hx _ x)), kI⟩, h.outs.kp k (by have := h.hg; have := h.hb; omega) (fun i hi x => by have := hx _ x; omega), h.gmi, h.hu, h.hm, h.hi, h.hg, h.g0, h.u0, h.m0, h.ug, h.mg, h.ig, Nat.le_trans h.hb k.size, h.len⟩
theorem Un.gb (h : Un b0 base g gu gm gi oA oc O T D v d W) (k : W.grownBy W' (some g)) : Un b0 base g gu gm gi oA oc O T D v d W' := h.keep (Kp.gb k) (fun _ e => (Option.some.inj e).symm)
theorem Un.bel (h : Un b0 base g gu gm gi oA oc O T D v d W) (k : Below W.heap.size W W') : Un b0 base g gu gm gi oA oc O T D v d W' := h.keep (X := fun _ => False) (Kp.bel k) (fun _ e => e.elim)
theorem Un.drew (h : Un b0 base g gu gm gi oA oc O T D v d W) : Un b0 base g gu gm gi oA oc O T D v d W.drew := h.keep (X := fun _ => False) (Kp.refl _ _).drew (fun _ e => e.elim)
end
/-- an answer of three, and the world as it was but for what is new -/
def BEnd (W : World) (r : Except Int (ByteArray × Nat)) (x : Ending) (w' : World) : Prop :=
  (match r with
  | .error e => x = .returned (.tuple #[.string ⟨#[]⟩, .int .i64 0, .int .i64 e])
  | .ok (b, n) => x = .returned (.tuple #[.string b, .int .i64 (n : Int), .int .i64 0])) ∧ Below W.heap.size W w'

set_option maxRecDepth 100000 in
set_option maxHeartbeats 1000000 in
theorem baseOf_any {b0 base g gu gm gi : Nat} {oA : Option Addr} {oc : Nat} {O T : List ByteArray} {D : List Nat} {v d : Value} {W : World} (h : Un b0 base g gu gm gi oA oc O T D v d W) (p : Rp) (hp : p.way = 1 ∨ p.way = 2) (_ : T.length ≤ 1000000) (_ : O.length ≤ 140737488355328) :
    Calls Tryd.prog 66 #[.pointer (some ⟨gu, 0, none⟩), .agg (rpArr p)] W (BEnd W (baseP O.reverse T D p)) := by
  obtain ⟨R, hR⟩ : ∃ R, R = baseP O.reverse T D p := ⟨_, rfl⟩
  rw [← hR]
  unfold baseP at hR
  have A0 : Arr (W.alloc (.cells (rpArr p) 111)) W.heap.size 111 (rpArr p) := Arr.new _ _ _
  have bel : Below W.heap.size W (W.alloc (.cells (rpArr p) 111)) := (Below.refl _ _).alloc (Nat.le_refl _) _
  have U0 := h.bel bel
  go_enter Tryd.func66, Tryd.ntmps66
  go_upto_region 1 with fail
  refine wp_forget (fun V => Arr V W.heap.size 111 (rpArr p) ∧ Below W.heap.size W V ∧ Un b0 base g gu gm gi oA oc O T D v d V) (by exact ⟨A0, bel, U0⟩) ?_
  clear A0 bel U0 h
  rintro V ⟨A0, bel, U⟩
  have c0 : V.cell? ⟨W.heap.size, 0, none⟩ = some (.int .i64 p.way) := A0.cell 0
  have c1 : V.cell? ⟨W.heap.size, 1, none⟩ = some (.int .i64 p.index) := A0.cell 1
  have c2 : V.cell? ⟨W.heap.size, 2, none⟩ = some (.string p.id) := A0.cell 2
  have u0 : V.cell? ⟨gu, 0, none⟩ = some v := U.box.cell 0
  have u2 : V.cell? ⟨gu, 2, none⟩ = some d := U.box.cell 2
  have u3 : V.cell? ⟨gu, 3, none⟩ = some (.slice oA O.length oc) := U.box.cell 3
  have u4 : V.cell? ⟨gu, 4, none⟩ = some (.map (some gi)) := U.box.cell 4
  by_cases hw : p.way = 1
  · rw [hw] at c0
    rw [if_pos hw] at hR
    obtain ⟨A, cc, rfl, _, hT, _⟩ := own_texts U.objs
    obtain ⟨A2, cc2, rfl, hD⟩ := own_ints U.deps
    have hlen := U.len
    cases hx : T[p.index]? with
    | none =>
      rw [hx] at hR
      have HR := Lib.hid hR
      have hge : T.length ≤ p.index := List.getElem?_eq_none_iff.1 hx
      have hi : (T.length : Int) ≤ p.index := by omega
      clear hR hx
      go_wp2_with fail
      go_quiet (fail)
      go_wp2_with fail
      go_ret3
      exact ⟨by rw [HR.out]; rfl, below_drewN bel _⟩
    | some b =>
      rw [hx] at hR
      obtain ⟨hlt, hxe⟩ := List.getElem?_eq_some_iff.1 hx
      have hi : ¬ (T.length : Int) ≤ p.index := by omega
      have hi2 : (p.index : Int) < T.length := by omega
      have hi3 : (p.index : Int) < D.length := by omega
      obtain ⟨ad, rfl, _, q0⟩ := hT _ _ hx
      have hdx : D[p.index]? = some (D.getD p.index 0) := by
        rw [List.getD_eq_getElem?_getD]
        rw [List.getElem?_eq_getElem (by omega)]
        rfl
      obtain ⟨ad2, rfl, q1⟩ := hD _ _ hdx
      generalize D.getD p.index 0 = n at *
      have HR := Lib.hid hR
      clear hR hx hxe hdx hT hD
      go_wp2_with fail
      go_quiet (fail)
      go_wp2_with fail
      go_quiet (fail)
      go_wp2_with fail
      go_ret3
      exact ⟨by rw [HR.out]; rfl, below_drewN (below_drewN bel _) _⟩
  · have hw2 : p.way = 2 := by omega
    rw [hw2] at c0
    rw [if_neg hw] at hR
    obtain ⟨I, hI, kI⟩ := U.mi
    have lk := run_lookI (show MapI V.drew gi I from hI) p.id
    rw [lookI_getR] at lk
    have hk := kI p.id
    cases hg : getR p.id I with
    | none =>
      rw [hg] at lk hk
      simp only at lk hk
      rw [hk] at hR
      have HR := Lib.hid hR
      clear hR hk kI hw
      go_wp2_with fail
      go_region_with (fail)
      all_goals
        go_wp2_with fail
        go_ret3
        exact ⟨by rw [HR.out]; rfl, bel.drew⟩
    | some k =>
      rw [hg] at lk hk
      simp only at lk hk
      obtain ⟨x, hx, hy⟩ := hk
      rw [hy] at hR
      have HR := Lib.hid hR
      obtain ⟨hlt, _⟩ := List.getElem?_eq_some_iff.1 hx
      obtain ⟨ad, rfl, _, q0⟩ := U.outs _ _ hx
      have hi2 : (k : Int) < O.length := by omega
      clear hR kI hw hx hy
      go_wp2_with fail
      go_region_with (fail)
      all_goals
        go_wp2_with fail
        go_ret3
        exact ⟨by rw [HR.out]; rfl, bel.drew⟩
end Go.Proofs.YthigdhiebogffaaDoor

/- ref.Number, ref.Text: their contracts. -/
namespace Go.Proofs.YthigdhiebogffaaDoor
open Go.RowKit

theorem conv_one (x : UInt8) (W : World) : (convert 78 9 (.slice (some ⟨W.heap.size, 0, none⟩) 1 1)).run Tryd.prog (W.alloc (.cells #[.int .u8 (x.toNat : Int)] 5)) = .ok (.string (bs [x])) (W.alloc (.cells #[.int .u8 (x.toNat : Int)] 5)) := by
  rw [run_convert_bytes_string _ 78 9 5 _ _ _ Tryd.underlying78 Tryd.underlying5 Tryd.underlying9]
  exact run_bytes (P := Tryd.prog) (Arr.new W 5 #[.int .u8 (x.toNat : Int)]) [x] rfl 1
theorem conv_one_drew (x : UInt8) (W : World) : (convert 78 9 (.slice (some ⟨W.heap.size, 0, none⟩) 1 1)).run Tryd.prog (W.alloc (.cells #[.int .u8 (x.toNat : Int)] 5)).drew = .ok (.string (bs [x])) (W.alloc (.cells #[.int .u8 (x.toNat : Int)] 5)).drew := by
  rw [run_convert_bytes_string _ 78 9 5 _ _ _ Tryd.underlying78 Tryd.underlying5 Tryd.underlying9]
  exact run_bytes (P := Tryd.prog) (Arr.new W 5 #[.int .u8 (x.toNat : Int)]).drew [x] rfl 1
theorem conv_kept {x : UInt8} {w w2 : World} {bx : ByteArray} (hb : Below (w.alloc (.cells #[.int .u8 (x.toNat : Int)] 5)).drew.heap.size (w.alloc (.cells #[.int .u8 (x.toNat : Int)] 5)).drew w2) (hx : bs [x] = bx) :
    (convert 78 9 (.slice (some ⟨w.heap.size, 0, none⟩) 1 1)).run Tryd.prog w2 = .ok (.string bx) w2 := by
  subst hx
  rw [run_convert_bytes_string _ 78 9 5 _ _ _ Tryd.underlying78 Tryd.underlying5 Tryd.underlying9]
  exact run_bytes (P := Tryd.prog) ((Arr.new w 5 #[.int .u8 (x.toNat : Int)]).drew.below hb (by simp)) [x] rfl 1

set_option maxRecDepth 100000 in
set_option maxHeartbeats 1000000 in
theorem RefNumber_small (n : Nat) (h : n < 128) (w : World) :
    Calls Tryd.prog 70 #[.int .i64 (n : Int)] w fun e w' => e = .returned (.string (bs (num n))) ∧ Below w.heap.size w w' := by
  have HN := Lib.hid (num_small n h)
  have h1 : ¬ ((n : Int) < 0) := by omega
  have h2 : ¬ (4611686018427387904 ≤ (n : Int)) := by omega
  have h3 : (n : Int) < 128 := by omega
  have hb2 := last_byte n
  generalize UInt8.ofNat n = x at *
  have hc := conv_one x w
  go_enter Tryd.func70, Tryd.ntmps70
  go_wp2_with fail
  go_ret
  exact ⟨by rw [HN.out]; rfl, (Below.refl _ _).alloc (Nat.le_refl _) _⟩

set_option maxRecDepth 100000 in
set_option maxHeartbeats 1000000 in
theorem RefNumber_great (n : Nat) (h : 128 ≤ n) (h62 : n < 4611686018427387904)
    (ih : ∀ w, Calls Tryd.prog 70 #[.int .i64 ((n / 128 : Nat) : Int)] w fun e w' => e = .returned (.string (bs (num (n / 128)))) ∧ Below w.heap.size w w') (w : World) :
    Calls Tryd.prog 70 #[.int .i64 (n : Int)] w fun e w' => e = .returned (.string (bs (num n))) ∧ Below w.heap.size w w' := by
  have HN : Hid (bs (num n) = bs [UInt8.ofNat (n % 128 + 128)] ++ bs (num (n / 128))) := by
    show _ = _
    rw [num_great n h]
    apply ByteArray.ext
    simp [bs]
  have h1 : ¬ ((n : Int) < 0) := by omega
  have h2 : ¬ (4611686018427387904 ≤ (n : Int)) := by omega
  have h3 : ¬ (n : Int) < 128 := by omega
  have hb2 : IntKind.u8.wrap (IntKind.i64.wrap ((n : Int).tmod 128 + 128)) = ((UInt8.ofNat (n % 128 + 128)).toNat : Int) := by
    rw [Int.tmod_eq_emod_of_nonneg (by omega), IntWalk.i64_in _ (by omega), IntKind.wrap_u8', UInt8.toNat_ofNat']; omega
  have hb3 : IntKind.i64.wrap ((n : Int) / 128) = (n : Int) / 128 := IntWalk.i64_in _ (by omega)
  have hl : (bs (num (n / 128))).size ≤ 9 := by rw [bs_size]; exact num_len9 _ (by omega)
  have hl1 : (bs [UInt8.ofNat (n % 128 + 128)]).size = 1 := bs_size _
  have hdiv : ((n / 128 : Nat) : Int) = (n : Int) / 128 := by omega
  rw [hdiv] at ih
  generalize UInt8.ofNat (n % 128 + 128) = x at *
  generalize bs (num (n / 128)) = y at *
  have HI := Lib.hid ih
  have HL1 := Lib.hid hl1
  have hl2 : (bs [x]).size ≤ 1 := by omega
  clear ih hl1 hdiv
  generalize hbx : bs [x] = bx at *
  have hc : ∀ W : World, (convert 78 9 (.slice (some ⟨W.heap.size, 0, none⟩) 1 1)).run Tryd.prog (W.alloc (.cells #[.int .u8 (x.toNat : Int)] 5)) = .ok (.string bx) (W.alloc (.cells #[.int .u8 (x.toNat : Int)] 5)) := fun W => by rw [← hbx]; exact conv_one x W
  have hcd : ∀ W : World, (convert 78 9 (.slice (some ⟨W.heap.size, 0, none⟩) 1 1)).run Tryd.prog (W.alloc (.cells #[.int .u8 (x.toNat : Int)] 5)).drew = .ok (.string bx) (W.alloc (.cells #[.int .u8 (x.toNat : Int)] 5)).drew := fun W => by rw [← hbx]; exact conv_one_drew x W
  have HX := Lib.hid hbx
  clear hbx
  go_enter Tryd.func70, Tryd.ntmps70
  go_wp2_with fail
  clear h1 h2 h3 h62 h
  go_region_with (first
    | (go_at_call 70
       (with_reducible refine (HI.out _).mono ?_)
       rintro e w2 ⟨rfl, b2⟩
       have hc2 := conv_kept b2 HX.out)
    | (go_at_call 70
       (with_reducible refine (HI.out _).mono ?_)
       rintro e w2 ⟨rfl, b2⟩))
  all_goals
    go_wp2_with fail
    go_ret
    refine ⟨by rw [HN.out]; rfl, ?_⟩
    first
      | exact (((Below.refl _ _).alloc (Nat.le_refl _) _).drew).trans (b2.mono (by simp))
      | (have b3 : Below w.heap.size w w2 := (Below.refl _ w).drew.trans b2
         exact b3.alloc b3.size _)

/-- ref.Number at a number in its range -/
theorem RefNumber_yes (n : Nat) : n < 4611686018427387904 → ∀ w : World,
    Calls Tryd.prog 70 #[.int .i64 (n : Int)] w fun e w' => e = .returned (.string (bs (num n))) ∧ Below w.heap.size w w' := by
  induction n using num.induct with
  | case1 n h => exact fun _ w => RefNumber_small n h w
  | case2 n h ih => exact fun h62 w => RefNumber_great n (by omega) h62 (ih (by omega)) w
theorem RefNumber_no (n : Int) (h : n < 0 ∨ 4611686018427387904 ≤ n) (w : World) :
    Calls Tryd.prog 70 #[.int .i64 n] w fun e w' => e = .returned (.string ⟨#[]⟩) ∧ w = w' := by
  rcases h with h | h
  · go_enter Tryd.func70, Tryd.ntmps70
    go_wp2_with fail
    go_ret
    exact ⟨rfl, rfl⟩
  · have h1 : ¬ (n < 0) := by omega
    go_enter Tryd.func70, Tryd.ntmps70
    go_wp2_with fail
    go_ret
    exact ⟨rfl, rfl⟩

def NumberIs (n : Int) (r : ByteArray) : Prop := ∀ W, Calls Tryd.prog 70 #[.int .i64 n] W fun x w' => x = .returned (.string r) ∧ Below W.heap.size W w'
theorem numberIs_yes (n : Nat) (h : n < 4611686018427387904) : NumberIs (n : Int) (bs (num n)) := fun W => RefNumber_yes n h W
theorem numberIs_no (n : Int) (h : n < 0 ∨ 4611686018427387904 ≤ n) : NumberIs n ⟨#[]⟩ := fun W =>
  (RefNumber_no n h W).mono fun _ _ ⟨h1, h2⟩ => ⟨h1, by subst h2; exact Below.refl _ _⟩
theorem num_full (n : Nat) : (bs (num n)).toList.isEmpty = false := by
  have hp := num_pos n
  rw [ByteArray.toList_eq, bs_list]
  cases hq : num n with
  | nil => rw [hq] at hp; simp at hp
  | cons => rfl
end Go.Proofs.YthigdhiebogffaaDoor

/- ref.Get, ref.GetText: their contracts. -/
namespace Go.Proofs.YthigdhiebogffaaDoor
open Go.RowKit

theorem last_num (n : Nat) (h : 1 < (num n).length) : lastOf (num n) ≠ 0 := by
  rcases (num_ended n).2.1 with h1 | h1
  · omega
  · exact h1
def RGRel (s : ByteArray) (w : World) (n p i : Value) (wr : World) : Prop :=
  ∃ k : Nat, k ≤ s.size ∧ k ≤ 8 ∧ i = .int .i64 (k : Int) ∧ p = .int .i64 ((128 ^ k : Nat) : Int) ∧ n = .int .i64 (val (s.data.toList.take k) : Int) ∧ (∀ x ∈ s.data.toList.take k, 128 ≤ x.toNat) ∧ Below w.heap.size w wr

theorem sum_groups (v b p v2 : Nat) (hp : p ≤ 72057594037927936) (hv : v < p) (h : v2 = v + b % 128 * p) :
    wrap64 ((v : Int) + wrap64 ((b : Int) % 128 * (p : Int))) = (v2 : Int) := by
  have hx : b % 128 * p ≤ 127 * 72057594037927936 := Nat.mul_le_mul (by omega) hp
  have e : (b : Int) % 128 * (p : Int) = ((b % 128 * p : Nat) : Int) := by simp
  rw [e, IntWalk.wrap64_in ((b % 128 * p : Nat) : Int) (by omega), IntWalk.wrap64_in _ (by omega), h]
  omega
/-- what Number makes of what was read is what stands there, just where the last byte is not idle -/
theorem same_bytes (s : ByteArray) (k : Nat) (h : k < s.size) (ho : ∀ x ∈ s.data.toList.take k, 128 ≤ x.toNat) (hb : s[k].toNat < 128) :
    if 0 < k ∧ s[k].toNat = 0 then ((bs (num (val (s.data.toList.take (k + 1))))).toList == (s.extract 0 (k + 1)).toList) = false else bs (num (val (s.data.toList.take (k + 1)))) = s.extract 0 (k + 1) := by
  have he := ended_snoc _ _ ho hb
  rw [← take_snoc s k h] at he
  have hl : (s.data.toList.take (k + 1)).length = k + 1 := by rw [List.length_take]; have : s.data.toList.length = s.size := rfl; omega
  have hlast : lastOf (s.data.toList.take (k + 1)) = s[k].toNat := by rw [take_snoc s k h, lastOf_snoc]
  split
  · rename_i hc
    rw [beq_eq_false_iff_ne]
    intro e
    rw [ByteArray.toList_eq, ByteArray.toList_eq, bs_list, extract_drop, List.drop_zero, Nat.sub_zero] at e
    have h1 := last_num (val (s.data.toList.take (k + 1))) (by rw [e, hl]; omega)
    rw [e, hlast] at h1
    exact h1 hc.2
  · rename_i hc
    rw [(val_ended _ he (by rw [hl, hlast]; omega)).1, bs_extract]

set_option maxRecDepth 100000 in
set_option maxHeartbeats 1000000 in
theorem RefGet_any (s : ByteArray) (hs : s.size ≤ 281474976710656) (w : World) :
    Calls Tryd.prog 53 #[.string s] w fun e w' => GR (got s.data.toList) e ∧ Below w.heap.size w w' := by
  go_enter Tryd.func53, Tryd.ntmps53
  go_wp2_with fail
  go_loopw [5, 6, 7] (fun n p i wr => RGRel s w n p i wr) (fun _ _ i _ => 9 - (intOf i).toNat)
  case atStart => exact ⟨0, by omega, by omega, rfl, rfl, rfl, (fun x hx => by simp at hx), Below.refl _ _⟩
  case round =>
    obtain ⟨k, hk, hk8, rfl, rfl, rfl, ho, hB⟩ := hrel
    have HO := Lib.hid ho
    clear ho
    by_cases hlt : k < s.size
    · have h1 : (k : Int) < 9 := by omega
      have h2 : (k : Int) < s.size := by omega
      have hb := s[k].toNat_lt
      have hv := val_lt (s.data.toList.take k)
      rw [List.length_take, Nat.min_eq_left (show k ≤ s.data.toList.length from hk)] at hv
      have hp : (128 : Nat) ^ k ≤ 72057594037927936 := by
        have : (128 : Nat) ^ k ≤ 128 ^ 8 := Nat.pow_le_pow_right (by decide) (by omega)
        omega
      have hp7 : k < 8 → (128 : Nat) ^ k ≤ 562949953421312 := fun h => by
        have : (128 : Nat) ^ k ≤ 128 ^ 7 := Nat.pow_le_pow_right (by decide) (by omega)
        omega
      have hp8 : k = 8 → (128 : Nat) ^ k = 72057594037927936 := fun h => by subst h; rfl
      have HPS : Hid ((128 : Nat) ^ (k + 1) = 128 ^ k * 128) := by show _ = _; rw [Nat.pow_succ]
      have hv2 : val (s.data.toList.take (k + 1)) = val (s.data.toList.take k) + s[k].toNat % 128 * 128 ^ k := by
        rw [take_snoc s k hlt, val_snoc, List.length_take, Nat.min_eq_left (show k ≤ s.data.toList.length from hk)]
      have hj := sum_groups _ _ _ _ hp hv hv2
      by_cases hg : 128 ≤ s[k].toNat
      · have HG : Hid (k = 8 → got s.data.toList = none) := fun h8 => got_open s 9 (.inr rfl) (by omega) (by
          rw [show 9 = k + 1 from by omega, take_snoc s k hlt]
          intro x hx
          rw [List.mem_append, List.mem_singleton] at hx
          rcases hx with hx | rfl
          · exact HO.out x hx
          · exact hg) (by omega)
        have hg' : 128 ≤ (s[k].toNat : Int) := by omega
        clear hv2 hv
        generalize val (s.data.toList.take k) = v at *
        generalize hV2 : val (s.data.toList.take (k + 1)) = v2 at *
        have HV2 := Lib.hid hV2
        clear hV2
        by_cases h8 : k = 8
        · have HG2 := Lib.hid (HG.out h8)
          have h8' : ((k : Int) == 8) = true := by rw [beq_iff_eq]; omega
          have hg2 : 64 ≤ (s[k].toNat : Int) := by omega
          clear hp8 hp7 HG h8 HPS
          generalize (128 : Nat) ^ k = p at *
          go_wp2_with fail
          go_ret3
          exact ⟨GR_none rfl HG2.out, hB⟩
        · have hp' := hp7 (by omega)
          have h8' : ((k : Int) == 8) = false := by rw [beq_eq_false_iff_ne]; omega
          have h8'' : (k : Int) < 8 := by omega
          have hk7 : k < 8 := by omega
          clear hp8 hp7 HG h8 hp
          generalize hP : (128 : Nat) ^ k = p at *
          have HP := Lib.hid hP
          clear hP
          go_wp2_with fail
          refine ⟨⟨k + 1, hlt, hk7, by go_num, by rw [HPS.out]; go_num, by rw [HV2.out, hj], ?_, hB⟩, by simp [intOf]; omega⟩
          intro x hx
          rw [take_snoc s k hlt, List.mem_append, List.mem_singleton] at hx
          rcases hx with hx | rfl
          · exact HO.out x hx
          · exact hg
      · have hg' : (s[k].toNat : Int) < 128 := by omega
        have HG := Lib.hid (got_at s k hlt (by omega) HO.out (by omega))
        have HS := Lib.hid (same_bytes s k hlt HO.out (by omega))
        have hmod : s[k].toNat % 128 = s[k].toNat := by omega
        rw [hmod] at hv2
        clear hmod
        by_cases h8 : k = 8 ∧ 64 ≤ s[k].toNat
        · obtain ⟨e8, h64⟩ := h8
          have hpe := hp8 e8
          have hbig : 4611686018427387904 ≤ val (s.data.toList.take (k + 1)) := by
            rw [hv2, hpe]; omega
          have HG2 : Hid (got s.data.toList = none) := by show _ = _; rw [HG.out, if_pos (.inr hbig)]
          have h8' : ((k : Int) == 8) = true := by rw [beq_iff_eq]; omega
          have hg2 : 64 ≤ (s[k].toNat : Int) := by omega
          clear HG HS hp8 hp7 hbig hpe hv2 HPS hv e8 h64
          generalize val (s.data.toList.take k) = v at *
          generalize val (s.data.toList.take (k + 1)) = v2 at *
          generalize (128 : Nat) ^ k = p at *
          go_wp2_with fail
          go_ret3
          exact ⟨GR_none rfl HG2.out, hB⟩
        · have hsmall : val (s.data.toList.take (k + 1)) < 4611686018427387904 := by
            rw [hv2]
            by_cases e8 : k = 8
            · rw [hp8 e8] at hv ⊢
              omega
            · have h7 := hp7 (by omega)
              have hx : s[k].toNat * 128 ^ k ≤ 127 * 562949953421312 := Nat.mul_le_mul (by omega) h7
              omega
          have h8' : ((k : Int) == 8) = false ∨ (((k : Int) == 8) = true ∧ ¬ (64 ≤ (s[k].toNat : Int))) := by
            by_cases e : k = 8
            · exact .inr ⟨by rw [beq_iff_eq]; omega, by omega⟩
            · exact .inl (by rw [beq_eq_false_iff_ne]; omega)
          have HN := Lib.hid (RefNumber_yes _ hsmall)
          have w1 : IntKind.i64.wrap ((k : Int) + 1) = (k : Int) + 1 := IntWalk.i64_in _ (by omega)
          have w2 : ((k : Int) + 1).toNat = k + 1 := by omega
          have w3 : (k : Int) + 1 ≤ s.size := by omega
          have w4 : 0 ≤ (k : Int) + 1 := by omega
          have W1 := Lib.hid w1
          have W2 := Lib.hid w2
          clear w1 w2 hp8 hp7 HPS hv hv2 h8
          by_cases hz : 0 < k ∧ s[k].toNat = 0
          · have hne := HS.out
            rw [if_pos hz] at hne
            have HG2 : Hid (got s.data.toList = none) := by show _ = _; rw [HG.out, if_pos (.inl hz)]
            have HNE := Lib.hid hne
            clear HG HS hz hsmall hne HO
            generalize val (s.data.toList.take k) = v at *
            generalize val (s.data.toList.take (k + 1)) = v2 at *
            generalize (128 : Nat) ^ k = p at *
            generalize bs (num v2) = x at *
            rcases h8' with h8' | ⟨h8', h8''⟩
            all_goals
              go_wp2_with fail
              try rw [hj]
              clear hp hj
              have w1 := W1.out
              have w2 := W2.out
              have hne := HNE.out
              go_region_with (first
                | (go_at_call 70
                   (with_reducible refine (HN.out _).mono ?_)
                   rintro e w5 ⟨rfl, b5⟩))
              all_goals
                clear w1 w2 hne
                go_wp2_with fail
                go_ret3
                exact ⟨GR_none rfl HG2.out, (hB.drew).trans (b5.mono (by have := hB.size; simpa using this))⟩
          · have heq := HS.out
            rw [if_neg hz] at heq
            have HG2 : Hid (got s.data.toList = some (val (s.data.toList.take (k + 1)), k + 1)) := by show _ = _; rw [HG.out, if_neg (by omega)]
            rw [heq] at HN
            clear HG HS hz hsmall heq HO
            generalize val (s.data.toList.take k) = v at *
            generalize val (s.data.toList.take (k + 1)) = v2 at *
            generalize (128 : Nat) ^ k = p at *
            rcases h8' with h8' | ⟨h8', h8''⟩
            all_goals
              go_wp2_with fail
              try rw [hj]
              clear hp hj
              have w1 := W1.out
              have w2 := W2.out
              go_region_with (first
                | (go_at_call 70
                   (with_reducible refine (HN.out _).mono ?_)
                   rintro e w5 ⟨rfl, b5⟩))
              all_goals
                clear w1 w2
                go_wp2_with fail
                go_ret3
                exact ⟨GR_some (by go_num) HG2.out, (hB.drew).trans (b5.mono (by have := hB.size; simpa using this))⟩
    · have HG := Lib.hid (got_open s k (by omega) hk HO.out (by omega))
      have h2 : ¬ (k : Int) < s.size := by omega
      clear HO
      generalize (128 : Nat) ^ k = p at *
      go_wp2_with fail
      go_ret3
      exact ⟨GR_none rfl HG.out, hB⟩
end Go.Proofs.YthigdhiebogffaaDoor

/- ref.GetText: its contract; both read alike. -/
namespace Go.Proofs.YthigdhiebogffaaDoor
open Go.RowKit

def RefGetIs (s : ByteArray) (n k : Nat) (e : Int) : Prop := ∀ W, Calls Tryd.prog 53 #[.string s] W fun x w' => x = .returned (.tuple #[.int .i64 (n : Int), .int .i64 (k : Int), .int .i64 e]) ∧ Below W.heap.size W w'
theorem refGetIs_some (s : ByteArray) (hs : s.size ≤ 281474976710656) (n k : Nat) (h : got s.data.toList = some (n, k)) : RefGetIs s n k 0 := fun W => by
  have q := RefGet_any s hs W
  rw [h] at q
  exact q
theorem refGetIs_none (s : ByteArray) (hs : s.size ≤ 281474976710656) (h : got s.data.toList = none) : RefGetIs s 0 0 2 := fun W => by
  have q := RefGet_any s hs W
  rw [h] at q
  exact q
def RefGetTextIs (s r : ByteArray) (k : Nat) (e : Int) : Prop := ∀ W, Calls Tryd.prog 54 #[.string s] W fun x w' => x = .returned (.tuple #[.string r, .int .i64 (k : Int), .int .i64 e]) ∧ Below W.heap.size W w'

set_option maxRecDepth 100000 in
theorem refText_none (s : ByteArray) (hs : s.size ≤ 281474976710656) (h : got s.data.toList = none) : RefGetTextIs s ⟨#[]⟩ 0 2 := fun w => by
  have C := refGetIs_none s hs h
  clear h
  go_enter Tryd.func54, Tryd.ntmps54
  go_wp2_with fail
  have c1 := C w
  (with_reducible refine c1.mono ?_)
  clear c1
  rintro e w1 ⟨rfl, b1⟩
  go_wp2_with fail
  go_ret3
  exact ⟨rfl, b1⟩
set_option maxRecDepth 100000 in
theorem refText_long (s : ByteArray) (hs : s.size ≤ 281474976710656) (n k : Nat) (h : got s.data.toList = some (n, k)) (hn : 4096 < n) : RefGetTextIs s ⟨#[]⟩ 0 1 := fun w => by
  have C := refGetIs_some s hs n k h
  have hn1 : (4096 : Int) < n := by omega
  clear h
  go_enter Tryd.func54, Tryd.ntmps54
  go_wp2_with fail
  have c1 := C w
  (with_reducible refine c1.mono ?_)
  clear c1
  rintro e w1 ⟨rfl, b1⟩
  go_wp2_with fail
  go_ret3
  exact ⟨rfl, b1⟩
set_option maxRecDepth 100000 in
theorem refText_short (s : ByteArray) (hs : s.size ≤ 281474976710656) (n k : Nat) (h : got s.data.toList = some (n, k)) (hn : n ≤ 4096) (hl : s.size < k + n) : RefGetTextIs s ⟨#[]⟩ 0 2 := fun w => by
  have C := refGetIs_some s hs n k h
  have hk : k ≤ 9 := (got_some _ _ _ h).2.2.2.1
  have hn1 : ¬ ((4096 : Int) < n) := by omega
  have hn2 : ((s.size : Int) - k) < n := by omega
  clear h
  go_enter Tryd.func54, Tryd.ntmps54
  go_wp2_with fail
  have c1 := C w
  (with_reducible refine c1.mono ?_)
  clear c1
  rintro e w1 ⟨rfl, b1⟩
  go_wp2_with fail
  go_ret3
  exact ⟨rfl, b1⟩
set_option maxRecDepth 100000 in
theorem refText_yes (s : ByteArray) (hs : s.size ≤ 281474976710656) (n k : Nat) (h : got s.data.toList = some (n, k)) (hn : n ≤ 4096) (hl : k + n ≤ s.size) : RefGetTextIs s (s.extract k (k + n)) (k + n) 0 := fun w => by
  have C := refGetIs_some s hs n k h
  have hk : k ≤ 9 := (got_some _ _ _ h).2.2.2.1
  have hn1 : ¬ ((4096 : Int) < n) := by omega
  have hn2 : ¬ ((s.size : Int) - k) < n := by omega
  clear h
  go_enter Tryd.func54, Tryd.ntmps54
  go_wp2_with fail
  have c1 := C w
  (with_reducible refine c1.mono ?_)
  clear c1
  rintro e w1 ⟨rfl, b1⟩
  go_wp2_with fail
  go_ret3
  exact ⟨rfl, b1⟩

/-- both read a number alike -/
theorem gets_alike (s : ByteArray) (hs : s.size ≤ 281474976710656) : ∃ (n k : Nat) (e : Int), GetIs s n k e ∧ RefGetIs s n k e ∧ k ≤ s.size := by
  cases hg : got s.data.toList with
  | none => exact ⟨0, 0, 2, getIs_none s hs hg, refGetIs_none s hs hg, Nat.zero_le _⟩
  | some nk =>
    obtain ⟨n, k⟩ := nk
    exact ⟨n, k, 0, getIs_some s hs n k hg, refGetIs_some s hs n k hg, (got_some _ _ _ hg).2.2.2.2⟩
/-- both read a text alike -/
theorem texts_alike (s : ByteArray) (hs : s.size ≤ 281474976710656) : ∃ (r : ByteArray) (k : Nat) (e : Int), TextIs s r k e ∧ RefGetTextIs s r k e ∧ k ≤ s.size := by
  cases hg : got s.data.toList with
  | none => exact ⟨_, 0, 2, text_none s hs hg, refText_none s hs hg, Nat.zero_le _⟩
  | some nk =>
    obtain ⟨n, k⟩ := nk
    by_cases h1 : 4096 < n
    · exact ⟨_, 0, 1, text_long s hs n k hg h1, refText_long s hs n k hg h1, Nat.zero_le _⟩
    · by_cases h2 : s.size < k + n
      · exact ⟨_, 0, 2, text_short s hs n k hg (by omega) h2, refText_short s hs n k hg (by omega) h2, Nat.zero_le _⟩
      · exact ⟨_, k + n, 0, text_yes s hs n k hg (by omega) (by omega), refText_yes s hs n k hg (by omega) (by omega), by omega⟩
end Go.Proofs.YthigdhiebogffaaDoor

/- A reader and the document's own cursor, step by step: both answer alike. -/
namespace Go.Proofs.YthigdhiebogffaaDoor
open Go.RowKit

/-- the document's own cursor: what is left, what went wrong -/
def Cu (w : World) (g : Nat) (s : ByteArray) (e : Int) : Prop := Arr w g 54 #[.string s, .int .i64 e]
theorem Cu.c0 {w : World} {g : Nat} {s : ByteArray} {e : Int} (h : Cu w g s e) : w.cell? ⟨g, 0, none⟩ = some (.string s) := h.cell 0
theorem Cu.c1 {w : World} {g : Nat} {s : ByteArray} {e : Int} (h : Cu w g s e) : w.cell? ⟨g, 1, none⟩ = some (.int .i64 e) := h.cell 1
theorem Cu.set {w : World} {g : Nat} {s : ByteArray} {e : Int} (h : Cu w g s e) (s2 : ByteArray) : Cu (w.setCell ⟨g, 0, none⟩ (.string s2)) g s2 e := h.put 0 _
theorem Cu.err {w : World} {g : Nat} {s : ByteArray} {e : Int} (h : Cu w g s e) (e2 : Int) : Cu (w.setCell ⟨g, 1, none⟩ (.int .i64 e2)) g s e2 := h.put 1 _
def AfterC (w : World) (g : Nat) (v : Value) (s : ByteArray) (e : Int) (x : Ending) (w' : World) : Prop := x = .returned v ∧ Cu w' g s e ∧ w.grownBy w' (some g)

theorem cnumber_go (g : Nat) (s : ByteArray) (n k : Nat) (e : Int) (C : RefGetIs s n k e) (hk : k ≤ s.size) (w : World) (h : Cu w g s 0) :
    Calls Tryd.prog 28 #[.pointer (some ⟨g, 0, none⟩)] w (AfterC w g (.int .i64 (n : Int)) (s.extract k s.size) e) := by
  have c0 := h.c0
  have c1 := h.c1
  go_enter Tryd.func28, Tryd.ntmps28
  go_wp2_with fail
  have q := C w
  (with_reducible refine q.mono ?_)
  clear q
  rintro x w1 ⟨rfl, b1⟩
  have h1 : Cu w1 g s 0 := Arr.below h b1 h.lt
  have d0 := h1.c0
  have f0 := h1.free 0
  have h2 := h1.set (s.extract k s.size)
  have d1 := h1.c1
  have f1 := h1.free 1
  have h3 := h2.err e
  clear c0 c1
  go_wp2_with fail
  go_ret
  exact ⟨rfl, h3, gb_trans (gb_below b1) (gb_trans (gb_set _ _ _) (gb_set _ _ _))⟩
theorem cnumber_bad (g : Nat) (s : ByteArray) (e : Int) (he : (e != 0) = true) (w : World) (h : Cu w g s e) :
    Calls Tryd.prog 28 #[.pointer (some ⟨g, 0, none⟩)] w (AfterC w g (.int .i64 0) s e) := by
  have c1 := h.c1
  go_enter Tryd.func28, Tryd.ntmps28
  go_wp2_with fail
  go_ret
  exact ⟨rfl, h, World.grownBy.refl _ _⟩
theorem ctext_go (g : Nat) (s r : ByteArray) (k : Nat) (e : Int) (C : RefGetTextIs s r k e) (hk : k ≤ s.size) (w : World) (h : Cu w g s 0) :
    Calls Tryd.prog 30 #[.pointer (some ⟨g, 0, none⟩)] w (AfterC w g (.string r) (s.extract k s.size) e) := by
  have c0 := h.c0
  have c1 := h.c1
  go_enter Tryd.func30, Tryd.ntmps30
  go_wp2_with fail
  have q := C w
  (with_reducible refine q.mono ?_)
  clear q
  rintro x w1 ⟨rfl, b1⟩
  have h1 : Cu w1 g s 0 := Arr.below h b1 h.lt
  have d0 := h1.c0
  have f0 := h1.free 0
  have h2 := h1.set (s.extract k s.size)
  have d1 := h1.c1
  have f1 := h1.free 1
  have h3 := h2.err e
  clear c0 c1
  go_wp2_with fail
  go_ret
  exact ⟨rfl, h3, gb_trans (gb_below b1) (gb_trans (gb_set _ _ _) (gb_set _ _ _))⟩
theorem ctext_bad (g : Nat) (s : ByteArray) (e : Int) (he : (e != 0) = true) (w : World) (h : Cu w g s e) :
    Calls Tryd.prog 30 #[.pointer (some ⟨g, 0, none⟩)] w (AfterC w g (.string ⟨#[]⟩) s e) := by
  have c1 := h.c1
  go_enter Tryd.func30, Tryd.ntmps30
  go_wp2_with fail
  go_ret
  exact ⟨rfl, h, World.grownBy.refl _ _⟩
theorem ctake_bad (g : Nat) (s : ByteArray) (n e : Int) (he : (e != 0) = true) (he2 : (e == 0) = false) (w : World) (h : Cu w g s e) :
    Calls Tryd.prog 29 #[.pointer (some ⟨g, 0, none⟩), .int .i64 n] w (AfterC w g (.string ⟨#[]⟩) s e) := by
  have c1 := h.c1
  go_enter Tryd.func29, Tryd.ntmps29
  go_wp2_with fail
  go_ret
  exact ⟨rfl, h, World.grownBy.refl _ _⟩
theorem ctake_no (g : Nat) (s : ByteArray) (n : Int) (hn : n < 0 ∨ (s.size : Int) < n) (w : World) (h : Cu w g s 0) :
    Calls Tryd.prog 29 #[.pointer (some ⟨g, 0, none⟩), .int .i64 n] w (AfterC w g (.string ⟨#[]⟩) s 2) := by
  have c0 := h.c0
  have c1 := h.c1
  have f1 := h.free 1
  have h2 := h.err 2
  rcases hn with hn | hn
  · go_enter Tryd.func29, Tryd.ntmps29
    go_wp2_with fail
    go_ret
    exact ⟨rfl, h2, gb_set _ _ _⟩
  · have hn2 : ¬ n < 0 := by omega
    go_enter Tryd.func29, Tryd.ntmps29
    go_wp2_with fail
    go_ret
    exact ⟨rfl, h2, gb_set _ _ _⟩
theorem ctake_go (g : Nat) (s : ByteArray) (n : Nat) (hn : n ≤ s.size) (w : World) (h : Cu w g s 0) :
    Calls Tryd.prog 29 #[.pointer (some ⟨g, 0, none⟩), .int .i64 (n : Int)] w (AfterC w g (.string (s.extract 0 n)) (s.extract n s.size) 0) := by
  have c0 := h.c0
  have c1 := h.c1
  have f0 := h.free 0
  have h2 := h.set (s.extract n s.size)
  have hn2 : ¬ (n : Int) < 0 := by omega
  have hn3 : ¬ (s.size : Int) < n := by omega
  go_enter Tryd.func29, Tryd.ntmps29
  go_wp2_with fail
  go_ret
  exact ⟨rfl, h2, gb_set _ _ _⟩

/-- what a step answers, what is left, what went wrong -/
def stN (s : ByteArray) (e : Int) : Int × ByteArray × Int :=
  if e = 0 then (match got s.data.toList with | some (n, k) => ((n : Int), s.extract k s.size, 0) | none => (0, s.extract 0 s.size, 2)) else (0, s, e)
def stT (s : ByteArray) (e : Int) : ByteArray × ByteArray × Int :=
  if e = 0 then (match got s.data.toList with
    | some (n, k) => if 4096 < n then (⟨#[]⟩, s.extract 0 s.size, 1) else if s.size < k + n then (⟨#[]⟩, s.extract 0 s.size, 2) else (s.extract k (k + n), s.extract (k + n) s.size, 0)
    | none => (⟨#[]⟩, s.extract 0 s.size, 2)) else (⟨#[]⟩, s, e)
def stB (s : ByteArray) (e n : Int) : ByteArray × ByteArray × Int :=
  if e = 0 then (if n < 0 ∨ (s.size : Int) < n then (⟨#[]⟩, s, 2) else (s.extract 0 n.toNat, s.extract n.toNat s.size, 0)) else (⟨#[]⟩, s, e)

theorem both_num (s : ByteArray) (e : Int) (hs : s.size ≤ 281474976710656) : (stN s e).2.1.size ≤ s.size ∧
    (∀ W g, Rd W g s e → Calls Tryd.prog 22 #[.pointer (some ⟨g, 0, none⟩)] W (After W g (.int .i64 (stN s e).1) (stN s e).2.1 (stN s e).2.2)) ∧
    (∀ W g, Cu W g s e → Calls Tryd.prog 28 #[.pointer (some ⟨g, 0, none⟩)] W (AfterC W g (.int .i64 (stN s e).1) (stN s e).2.1 (stN s e).2.2)) := by
  by_cases he : e = 0
  · subst he
    cases hg : got s.data.toList with
    | none =>
      have hst : stN s 0 = (0, s.extract 0 s.size, 2) := by unfold stN; rw [if_pos rfl, hg]
      rw [hst]
      exact ⟨by simp, fun W g h => Number_go g s 0 0 2 (getIs_none s hs hg) (Nat.zero_le _) W h, fun W g h => cnumber_go g s 0 0 2 (refGetIs_none s hs hg) (Nat.zero_le _) W h⟩
    | some nk =>
      obtain ⟨n, k⟩ := nk
      have hk : k ≤ s.size := (got_some _ _ _ hg).2.2.2.2
      have hst : stN s 0 = ((n : Int), s.extract k s.size, 0) := by unfold stN; rw [if_pos rfl, hg]
      rw [hst]
      exact ⟨by simp, fun W g h => Number_go g s n k 0 (getIs_some s hs n k hg) hk W h, fun W g h => cnumber_go g s n k 0 (refGetIs_some s hs n k hg) hk W h⟩
  · have hst : stN s e = (0, s, e) := by unfold stN; rw [if_neg he]
    have he1 : (e != 0) = true := by rw [bne_iff_ne]; exact he
    rw [hst]
    exact ⟨Nat.le_refl _, fun W g h => Number_bad g s e he1 W h, fun W g h => cnumber_bad g s e he1 W h⟩
theorem both_text (s : ByteArray) (e : Int) (hs : s.size ≤ 281474976710656) : (stT s e).2.1.size ≤ s.size ∧
    (∀ W g, Rd W g s e → Calls Tryd.prog 67 #[.pointer (some ⟨g, 0, none⟩)] W (After W g (.string (stT s e).1) (stT s e).2.1 (stT s e).2.2)) ∧
    (∀ W g, Cu W g s e → Calls Tryd.prog 30 #[.pointer (some ⟨g, 0, none⟩)] W (AfterC W g (.string (stT s e).1) (stT s e).2.1 (stT s e).2.2)) := by
  by_cases he : e = 0
  · subst he
    cases hg : got s.data.toList with
    | none =>
      have hst : stT s 0 = (⟨#[]⟩, s.extract 0 s.size, 2) := by unfold stT; rw [if_pos rfl, hg]
      rw [hst]
      exact ⟨by simp, fun W g h => Text_go g s _ 0 2 (text_none s hs hg) (Nat.zero_le _) W h, fun W g h => ctext_go g s _ 0 2 (refText_none s hs hg) (Nat.zero_le _) W h⟩
    | some nk =>
      obtain ⟨n, k⟩ := nk
      by_cases h1 : 4096 < n
      · have hst : stT s 0 = (⟨#[]⟩, s.extract 0 s.size, 1) := by unfold stT; rw [if_pos rfl, hg]; simp only; rw [if_pos h1]
        rw [hst]
        exact ⟨by simp, fun W g h => Text_go g s _ 0 1 (text_long s hs n k hg h1) (Nat.zero_le _) W h, fun W g h => ctext_go g s _ 0 1 (refText_long s hs n k hg h1) (Nat.zero_le _) W h⟩
      · by_cases h2 : s.size < k + n
        · have hst : stT s 0 = (⟨#[]⟩, s.extract 0 s.size, 2) := by unfold stT; rw [if_pos rfl, hg]; simp only; rw [if_neg h1, if_pos h2]
          rw [hst]
          exact ⟨by simp, fun W g h => Text_go g s _ 0 2 (text_short s hs n k hg (by omega) h2) (Nat.zero_le _) W h, fun W g h => ctext_go g s _ 0 2 (refText_short s hs n k hg (by omega) h2) (Nat.zero_le _) W h⟩
        · have hst : stT s 0 = (s.extract k (k + n), s.extract (k + n) s.size, 0) := by unfold stT; rw [if_pos rfl, hg]; simp only; rw [if_neg h1, if_neg h2]
          rw [hst]
          exact ⟨by simp, fun W g h => Text_go g s _ (k + n) 0 (text_yes s hs n k hg (by omega) (by omega)) (by omega) W h, fun W g h => ctext_go g s _ (k + n) 0 (refText_yes s hs n k hg (by omega) (by omega)) (by omega) W h⟩
  · have hst : stT s e = (⟨#[]⟩, s, e) := by unfold stT; rw [if_neg he]
    have he1 : (e != 0) = true := by rw [bne_iff_ne]; exact he
    rw [hst]
    exact ⟨Nat.le_refl _, fun W g h => Text_bad g s e he1 W h, fun W g h => ctext_bad g s e he1 W h⟩
theorem both_bytes (s : ByteArray) (e n : Int) : (stB s e n).2.1.size ≤ s.size ∧
    (∀ W g, Rd W g s e → Calls Tryd.prog 81 #[.pointer (some ⟨g, 0, none⟩), .int .i64 n] W (After W g (.string (stB s e n).1) (stB s e n).2.1 (stB s e n).2.2)) ∧
    (∀ W g, Cu W g s e → Calls Tryd.prog 29 #[.pointer (some ⟨g, 0, none⟩), .int .i64 n] W (AfterC W g (.string (stB s e n).1) (stB s e n).2.1 (stB s e n).2.2)) := by
  by_cases he : e = 0
  · subst he
    by_cases hn : n < 0 ∨ (s.size : Int) < n
    · have hst : stB s 0 n = (⟨#[]⟩, s, 2) := by unfold stB; rw [if_pos rfl, if_pos hn]
      rw [hst]
      exact ⟨Nat.le_refl _, fun W g h => Bytes_no g s n hn W h, fun W g h => ctake_no g s n hn W h⟩
    · obtain ⟨m, rfl⟩ := Int.eq_ofNat_of_zero_le (show 0 ≤ n by omega)
      have hst : stB s 0 (m : Int) = (s.extract 0 m, s.extract m s.size, 0) := by unfold stB; rw [if_pos rfl, if_neg hn, Int.toNat_natCast]
      rw [hst]
      exact ⟨by simp, fun W g h => Bytes_go g s m (by omega) W h, fun W g h => ctake_go g s m (by omega) W h⟩
  · have hst : stB s e n = (⟨#[]⟩, s, e) := by unfold stB; rw [if_neg he]
    have he1 : (e != 0) = true := by rw [bne_iff_ne]; exact he
    have he2 : (e == 0) = false := by rw [beq_eq_false_iff_ne]; exact he
    rw [hst]
    exact ⟨Nat.le_refl _, fun W g h => Bytes_bad g s n e he1 W h, fun W g h => ctake_bad g s n e he1 he2 W h⟩
end Go.Proofs.YthigdhiebogffaaDoor

/- Readers and the document's own cursor, by lists of bytes. -/
namespace Go.Proofs.YthigdhiebogffaaDoor
open Go.RowKit

theorem bs_all (l : List UInt8) : (bs l).extract 0 (bs l).size = bs l := by
  rw [bs_drop, List.drop_zero]
theorem stN_some {l r : List UInt8} {n : Nat} (h : rdNum l = some (n, r)) : stN (bs l) 0 = ((n : Int), bs r, 0) := by
  unfold rdNum at h
  cases hg : got l with
  | none => simp [hg] at h
  | some y =>
    obtain ⟨m, k⟩ := y
    simp only [hg, Option.some.injEq, Prod.mk.injEq] at h
    unfold stN
    rw [if_pos rfl, bs_list, hg]
    simp only
    rw [bs_drop, h.1, h.2]
theorem stN_none {l : List UInt8} (h : rdNum l = none) : stN (bs l) 0 = (0, bs l, 2) := by
  unfold rdNum at h
  cases hg : got l with
  | none =>
    unfold stN
    rw [if_pos rfl, bs_list, hg]
    simp only
    rw [bs_all]
  | some y => simp [hg] at h
section
variable {l r : List UInt8} {n : Nat}
theorem rd_some (hl : l.length ≤ 281474976710656) (h : rdNum l = some (n, r)) (g : Nat) (W : World) (hR : Rd W g (bs l) 0) :
    Calls Tryd.prog 22 #[.pointer (some ⟨g, 0, none⟩)] W (After W g (.int .i64 (n : Int)) (bs r) 0) := by
  have q := (both_num (bs l) 0 (by rw [bs_size]; exact hl)).2.1 W g hR
  rw [stN_some h] at q
  exact q
theorem rd_none (hl : l.length ≤ 281474976710656) (h : rdNum l = none) (g : Nat) (W : World) (hR : Rd W g (bs l) 0) :
    Calls Tryd.prog 22 #[.pointer (some ⟨g, 0, none⟩)] W (After W g (.int .i64 0) (bs l) 2) := by
  have q := (both_num (bs l) 0 (by rw [bs_size]; exact hl)).2.1 W g hR
  rw [stN_none h] at q
  exact q
theorem cu_some (hl : l.length ≤ 281474976710656) (h : rdNum l = some (n, r)) (g : Nat) (W : World) (hR : Cu W g (bs l) 0) :
    Calls Tryd.prog 28 #[.pointer (some ⟨g, 0, none⟩)] W (AfterC W g (.int .i64 (n : Int)) (bs r) 0) := by
  have q := (both_num (bs l) 0 (by rw [bs_size]; exact hl)).2.2 W g hR
  rw [stN_some h] at q
  exact q
theorem cu_none (hl : l.length ≤ 281474976710656) (h : rdNum l = none) (g : Nat) (W : World) (hR : Cu W g (bs l) 0) :
    Calls Tryd.prog 28 #[.pointer (some ⟨g, 0, none⟩)] W (AfterC W g (.int .i64 0) (bs l) 2) := by
  have q := (both_num (bs l) 0 (by rw [bs_size]; exact hl)).2.2 W g hR
  rw [stN_none h] at q
  exact q
theorem rd_take (hn : n ≤ l.length) (g : Nat) (W : World) (hR : Rd W g (bs l) 0) :
    Calls Tryd.prog 81 #[.pointer (some ⟨g, 0, none⟩), .int .i64 (n : Int)] W (After W g (.string (bs (l.take n))) (bs (l.drop n)) 0) := by
  have q := Bytes_go g (bs l) n (by rw [bs_size]; exact hn) W hR
  rw [bs_head, bs_drop] at q
  exact q
theorem cu_take (hn : n ≤ l.length) (g : Nat) (W : World) (hR : Cu W g (bs l) 0) :
    Calls Tryd.prog 29 #[.pointer (some ⟨g, 0, none⟩), .int .i64 (n : Int)] W (AfterC W g (.string (bs (l.take n))) (bs (l.drop n)) 0) := by
  have q := ctake_go g (bs l) n (by rw [bs_size]; exact hn) W hR
  rw [bs_head, bs_drop] at q
  exact q
end
end Go.Proofs.YthigdhiebogffaaDoor

/- delta.readPiece: its contract. -/
namespace Go.Proofs.YthigdhiebogffaaDoor
open Go.RowKit

/-- behind a read of an operation: the error, the bytes; what is left where nothing went wrong -/
def Pc (w : World) (g : Nat) (o : Int × List UInt8 × List UInt8) (x : Ending) (w' : World) : Prop :=
  x = .returned (.tuple #[.string (bs o.2.1), .int .i64 o.1]) ∧ (o.1 = 0 → Rd w' g (bs o.2.2) 0) ∧ w.grownBy w' (some g)

set_option maxRecDepth 100000 in
theorem readPiece_any (b : ByteArray) (l : List UInt8) (g : Nat) (hb : b.size ≤ 281474976710656) (hl : l.length ≤ 281474976710656) (w : World) (h : Rd w g (bs l) 0) :
    Calls Tryd.prog 83 #[.pointer (some ⟨g, 0, none⟩), .string b] w (Pc w g (opD b.data.toList l)) := by
  cases h1 : rdNum l with
  | none =>
    have e1 : opD b.data.toList l = (2, [], []) := by unfold opD; rw [h1]
    rw [e1]
    have q := rd_none hl h1 g w h
    clear e1
    go_enter Tryd.func83, Tryd.ntmps83
    go_wp2_with fail
    (with_reducible refine q.mono ?_)
    clear q
    rintro _ w1 ⟨rfl, r1, g1⟩
    have q := Bytes_bad g (bs l) 0 2 (by decide) w1 r1
    go_wp2_with fail
    (with_reducible refine q.mono ?_)
    clear q
    rintro _ w2 ⟨rfl, r2, g2⟩
    have q := Bad_any g (bs l) 2 w2 r2
    go_wp2_with fail
    (with_reducible refine q.mono ?_)
    clear q
    rintro _ w3 ⟨rfl, rfl⟩
    go_wp2_with fail
    go_ret2
    exact ⟨rfl, (fun e => absurd e (by decide)), gb_trans g1 g2⟩
  | some y =>
    obtain ⟨op, l1⟩ := y
    have hop := rdNum_lt h1
    have hlt := rdNum_less h1
    have q := rd_some hl h1 g w h
    obtain ⟨n, hn⟩ : ∃ n, n = op / 2 := ⟨_, rfl⟩
    by_cases ho : op % 2 = 1
    · obtain rfl : op = 2 * n + 1 := by omega
      clear hn
      cases h2 : rdNum l1 with
      | none =>
        have e1 : opD b.data.toList l = (2, [], []) := by
          unfold opD
          rw [h1]
          simp only
          rw [if_pos ho, h2]
        rw [e1]
        clear e1
        go_enter Tryd.func83, Tryd.ntmps83
        go_wp2_with fail
        (with_reducible refine q.mono ?_)
        clear q
        rintro _ w1 ⟨rfl, r1, g1⟩
        have q := rd_none (by omega) h2 g w1 r1
        go_wp2_with fail
        (with_reducible refine q.mono ?_)
        clear q
        rintro _ w2 ⟨rfl, r2, g2⟩
        have q := Bad_any g (bs l1) 2 w2 r2
        go_wp2_with fail
        (with_reducible refine q.mono ?_)
        clear q
        rintro _ w3 ⟨rfl, rfl⟩
        go_wp2_with fail
        go_ret2
        exact ⟨rfl, (fun e => absurd e (by decide)), gb_trans g1 g2⟩
      | some z =>
        obtain ⟨k, l2⟩ := z
        have hk := rdNum_lt h2
        have hlt2 := rdNum_less h2
        by_cases hr : b.data.toList.length < k ∨ b.data.toList.length - k < n
        · have e1 : opD b.data.toList l = (3, [], []) := by
            unfold opD
            rw [h1]
            simp only
            rw [if_pos ho, h2]
            simp only
            rw [if_pos (by rw [show (2 * n + 1) / 2 = n from by omega]; exact hr)]
          rw [e1]
          clear e1
          rw [list_len] at hr
          go_enter Tryd.func83, Tryd.ntmps83
          go_wp2_with fail
          (with_reducible refine q.mono ?_)
          clear q
          rintro _ w1 ⟨rfl, r1, g1⟩
          have q := rd_some (by omega) h2 g w1 r1
          go_wp2_with fail
          (with_reducible refine q.mono ?_)
          clear q
          rintro _ w2 ⟨rfl, r2, g2⟩
          have q := Bad_any g (bs l2) 0 w2 r2
          go_wp2_with fail
          (with_reducible refine q.mono ?_)
          clear q
          rintro _ w3 ⟨rfl, rfl⟩
          by_cases hkb : (b.size : Int) < k
          · clear hr
            go_wp2_with fail
            go_ret2
            exact ⟨rfl, (fun e => absurd e (by decide)), gb_trans g1 g2⟩
          · have hkn : (b.size : Int) - k < n := by omega
            clear hr
            go_wp2_with fail
            go_ret2
            exact ⟨rfl, (fun e => absurd e (by decide)), gb_trans g1 g2⟩
        · have e1 : opD b.data.toList l = (0, (b.data.toList.drop k).take n, l2) := by
            unfold opD
            rw [h1]
            simp only
            rw [if_pos ho, h2]
            simp only
            rw [show (2 * n + 1) / 2 = n from by omega, if_neg hr]
          have e2 : Hid (bs ((b.data.toList.drop k).take n) = b.extract k (k + n)) := by
            show _ = _
            rw [← bs_mid, bs_of]
          rw [e1]
          clear e1
          rw [list_len] at hr
          have hkb : ¬ (b.size : Int) < k := by omega
          have hkn : ¬ (b.size : Int) - k < n := by omega
          have hk2 : (k : Int) ≤ k + n := by omega
          have hk3 : (k : Int) + n ≤ b.size := by omega
          have hk4 : ((k : Int) + n).toNat = k + n := by omega
          clear hr
          go_enter Tryd.func83, Tryd.ntmps83
          go_wp2_with fail
          (with_reducible refine q.mono ?_)
          clear q
          rintro _ w1 ⟨rfl, r1, g1⟩
          have q := rd_some (by omega) h2 g w1 r1
          go_wp2_with fail
          (with_reducible refine q.mono ?_)
          clear q
          rintro _ w2 ⟨rfl, r2, g2⟩
          have q := Bad_any g (bs l2) 0 w2 r2
          go_wp2_with fail
          (with_reducible refine q.mono ?_)
          clear q
          rintro _ w3 ⟨rfl, rfl⟩
          go_wp2_with fail
          go_ret2
          exact ⟨by simp only [show (2 * n + 1) / 2 = n from by omega, e2.out]; rfl, (fun _ => r2), gb_trans g1 g2⟩
    · obtain rfl : op = 2 * n := by omega
      clear hn
      by_cases hr : l1.length < n
      · have e1 : opD b.data.toList l = (2, [], []) := by
          unfold opD
          rw [h1]
          simp only
          rw [if_neg ho, if_pos (by omega)]
        rw [e1]
        clear e1
        go_enter Tryd.func83, Tryd.ntmps83
        go_wp2_with fail
        (with_reducible refine q.mono ?_)
        clear q
        rintro _ w1 ⟨rfl, r1, g1⟩
        have q := Bytes_no g (bs l1) (n : Int) (Or.inr (by rw [bs_size]; omega)) w1 r1
        go_wp2_with fail
        (with_reducible refine q.mono ?_)
        clear q
        rintro _ w2 ⟨rfl, r2, g2⟩
        have q := Bad_any g (bs l1) 2 w2 r2
        go_wp2_with fail
        (with_reducible refine q.mono ?_)
        clear q
        rintro _ w3 ⟨rfl, rfl⟩
        go_wp2_with fail
        go_ret2
        exact ⟨rfl, (fun e => absurd e (by decide)), gb_trans g1 g2⟩
      · have e1 : opD b.data.toList l = (0, l1.take n, l1.drop n) := by
          unfold opD
          rw [h1]
          simp only
          rw [if_neg ho, show 2 * n / 2 = n from by omega, if_neg hr]
        rw [e1]
        clear e1
        go_enter Tryd.func83, Tryd.ntmps83
        go_wp2_with fail
        (with_reducible refine q.mono ?_)
        clear q
        rintro _ w1 ⟨rfl, r1, g1⟩
        have q := rd_take (l := l1) (n := n) (by omega) g w1 r1
        go_wp2_with fail
        (with_reducible refine q.mono ?_)
        clear q
        rintro _ w2 ⟨rfl, r2, g2⟩
        have q := Bad_any g (bs (l1.drop n)) 0 w2 r2
        go_wp2_with fail
        (with_reducible refine q.mono ?_)
        clear q
        rintro _ w3 ⟨rfl, rfl⟩
        go_wp2_with fail
        go_ret2
        exact ⟨rfl, (fun _ => r2), gb_trans g1 g2⟩
end Go.Proofs.YthigdhiebogffaaDoor
