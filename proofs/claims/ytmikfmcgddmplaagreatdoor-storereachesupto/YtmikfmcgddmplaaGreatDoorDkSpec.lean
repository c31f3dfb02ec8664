/- Texts in one: StVis, DkSpec. -/
import Derived.Test.YtmikfmcgddmplaaGreatDoorIMap
import Derived.Test.YtmikfmcgddmplaaGreatDoorODecC
import Derived.Deep.AppendLies
import Derived.StillTailTactics
import Derived.Deep.RegionLaw
import Derived.Deep.Cut
import Derived.Test.YtmikfmcgddmplaaGreatDoorRdn
/- store.visits: (*visits).add, newVisits: contracts. -/
namespace Go.Proofs.YtmikfmcgddmplaaGreatDoor
open Go.RowKit

def memB (x : ByteArray) (T : List ByteArray) : Bool := T.any fun y => decide (y = x)
theorem memB_iff {x : ByteArray} {T : List ByteArray} : memB x T = true ↔ x ∈ T := by
  unfold memB
  rw [List.any_eq_true]
  exact ⟨fun ⟨y, h1, h2⟩ => by rw [← of_decide_eq_true h2]; exact h1, fun h => ⟨x, h, decide_eq_true rfl⟩⟩
/-- texts with more texts behind them, each once -/
def addAll (T : List ByteArray) : List ByteArray → List ByteArray
  | [] => T
  | x :: l => addAll (if memB x T = true then T else T ++ [x]) l
theorem addAll_app : ∀ (U : List ByteArray) (T : List ByteArray) (x : ByteArray), addAll T (U ++ [x]) = if memB x (addAll T U) = true then addAll T U else addAll T U ++ [x]
  | [], T, x => rfl
  | y :: l, T, x => by
    rw [List.cons_append]
    exact addAll_app l _ x
theorem addAll_len : ∀ (U T : List ByteArray), (addAll T U).length ≤ T.length + U.length
  | [], T => Nat.le_refl _
  | y :: l, T => by
    have := addAll_len l (if memB y T = true then T else T ++ [y])
    have h2 : (if memB y T = true then T else T ++ [y]).length ≤ T.length + 1 := by split <;> simp
    rw [List.length_cons]
    show (addAll (if memB y T = true then T else T ++ [y]) l).length ≤ _
    omega
def viArr (v : Value) (gm : Nat) : Array Value := #[v, .map (some gm)]
theorem viInfo (v : Value) (gm : Nat) : (Tryz.prog.info? 50).map (·.size) = some (viArr v gm).size := by
  rw [show (viArr v gm).size = 2 from rfl]
  kernel_rfl
/-- visits: the list's row, the set of what is in it -/
structure Vi (base g gm : Nat) (T : List ByteArray) (v : Value) (W : World) : Prop where
  box : Arr W g 50 (viArr v gm)
  row : W.ownsRow base 9 1 v T.length (T.map sv)
  mp : ∃ M, MapX W gm M ∧ KeyX M T ∧ ∀ x ∈ M, x.2 = .agg #[]
  hg : base ≤ g
  hm : base ≤ gm
  hs : base ≤ W.heap.size
theorem MapX.kp {X : Nat → Prop} {w w1 : World} {g : Nat} {l : List KX} (h : MapX w g l) (k : Kp X w w1) (hx : ¬ X g) : MapX w1 g l := (k.block g h.lt hx).trans h
section
variable {base g gm : Nat} {T : List ByteArray} {v : Value} {W W' : World}
theorem Vi.bel (h : Vi base g gm T v W) (k : Below W.heap.size W W') : Vi base g gm T v W' := by
  obtain ⟨M, hM, hv⟩ := h.mp
  exact ⟨h.box.below k h.box.lt, own_kp h.row (Kp.bel k (X := fun _ => False)) (fun _ _ e => e), ⟨M, hM.below k hM.lt, hv⟩, h.hg, h.hm, Nat.le_trans h.hs k.size⟩
theorem Vi.shape (h : Vi base g gm T v W) : ∃ A c, v = .slice A T.length c := by
  rcases h.row.2 with ⟨e, h0⟩ | ⟨q, cap, cur, e, _⟩
  · exact ⟨none, 0, by rw [e, h0]⟩
  · exact ⟨_, cap, e⟩
end
theorem none_zero (w : World) : (zeroValue 76).run Tryz.prog w = .ok (.agg #[]) w := by kernel_rfl
theorem lookX_no {k : ByteArray} {M : List KX} {T : List ByteArray} (h : KeyX M T) (hk : ¬ k ∈ T) : lookX (.agg #[]) k M = .tuple #[.agg #[], .bool false] ∧ posX k M = none := by
  have e : posX k M = none := by
    cases hp : posX k M with
    | none => rfl
    | some p => exact absurd ((h k).1 (by rw [hp]; rfl)) hk
  exact ⟨by unfold lookX; rw [e], e⟩
theorem lookX_yes {k : ByteArray} {M : List KX} {T : List ByteArray} (h : KeyX M T) (hv : ∀ x ∈ M, x.2 = .agg #[]) (hk : k ∈ T) : lookX (.agg #[]) k M = .tuple #[.agg #[], .bool true] := by
  obtain ⟨p, hp⟩ := Option.isSome_iff_exists.1 ((h k).2 hk)
  obtain ⟨u, hu⟩ := posX_at k M p hp
  have := hv _ (List.mem_of_getElem? hu)
  unfold lookX
  rw [hp]
  simp only [List.getD_eq_getElem?_getD, hu, Option.getD_some]
  rw [show u = .agg #[] from this]
theorem viArr_no (A : Option Addr) (n c : Nat) (gm : Nat) : ∀ (i : Nat) (t : ByteArray), (viArr (.slice A n c) gm)[i]? ≠ some (.string t)
  | 0, t => by simp [viArr]
  | 1, t => by simp [viArr]
  | n + 2, t => by simp [viArr]
def VaEnd (base g gm : Nat) (T : List ByteArray) (w : World) (x : Ending) (w' : World) : Prop :=
  x = .returned (.tuple #[]) ∧ (∃ v', Vi base g gm T v' w') ∧ Below base w w'
/-- where add stands -/
def VaRel (base g gm : Nat) (T U : List ByteArray) (A : Option Addr) (w : World) (i : Value) (wr : World) : Prop :=
  ∃ (k : Nat) (v : Value), k ≤ U.length ∧ i = .int .i64 (k : Int) ∧ Vi base g gm (addAll T (U.take k)) v wr ∧ Txs wr wr.heap.size A U ∧ (∀ ad, A = some ad → v.ownBlock ≠ some ad.block) ∧ Below base w wr
theorem take_next2 {α : Type} {l : List α} {k : Nat} {x : α} (h : l[k]? = some x) : l.take (k + 1) = l.take k ++ [x] := by
  obtain ⟨hk, rfl⟩ := List.getElem?_eq_some_iff.1 h
  exact List.take_succ_eq_append_getElem hk
theorem Txs.off {w w1 : World} {A : Option Addr} {U : List ByteArray} {X : Nat → Prop} (h : Txs w w.heap.size A U) (k : Kp X w w1) (hx : ∀ ad, A = some ad → ¬ X ad.block) : Txs w1 w1.heap.size A U := fun j x hj => by
  obtain ⟨ad, rfl, hb, hc⟩ := h j x hj
  have e : (ad.add j).block = ad.block := by unfold Addr.add; split <;> rfl
  exact ⟨ad, rfl, Nat.lt_of_lt_of_le hb k.size, (World.cell?_of_block (k.block _ hb (by rw [e]; exact hx ad rfl))).trans hc⟩

set_option maxRecDepth 100000 in
set_option maxHeartbeats 2000000 in
theorem vadd_any {base g gm : Nat} {T : List ByteArray} {v0 : Value} {w : World} (h : Vi base g gm T v0 w) (U : List ByteArray) (A : Option Addr) (c : Nat) (hU : Txs w w.heap.size A U) (hA : ∀ ad, A = some ad → v0.ownBlock ≠ some ad.block) (hl : (T.length + U.length) * 16 ≤ 140737488355328) :
    Calls Tryz.prog 22 #[.pointer (some ⟨g, 0, none⟩), .slice A U.length c] w (VaEnd base g gm (addAll T U) w) := by
  obtain ⟨si, hsi, sz0, sz1, sz2⟩ := info_parts info_str
  have Hsi := Lib.hid hsi
  have Sz0 := Lib.hid sz0
  have Sz1 := Lib.hid sz1
  have Sz2 := Lib.hid sz2
  clear hsi sz0 sz1 sz2
  have h1 : Hid (VaRel base g gm T U A w (.int .i64 0) w) := ⟨0, v0, Nat.zero_le _, rfl, h, hU, hA, Below.refl _ _⟩
  clear hA hU h
  go_enter Tryz.func22, Tryz.ntmps22
  go_wp2_with fail
  go_loopw [10] (fun i wr => VaRel base g gm T U A w i wr) (fun i _ => U.length - (intOf i).toNat)
  case atStart => exact h1.out
  case round =>
    clear h1
    obtain ⟨k, v, hk, rfl, hV, hT, hA, hB⟩ := hrel
    have hul : U.length ≤ 140737488355328 := by omega
    by_cases hlt : k < U.length
    · have hi : (k : Int) < U.length := by omega
      have hx : U[k]? = some U[k] := List.getElem?_eq_getElem hlt
      obtain ⟨ad, rfl, hbl, c0⟩ := hT k U[k] hx
      have hadb : (ad.add k).block = ad.block := by unfold Addr.add; split <;> rfl
      have hadl : ad.block < wr.heap.size := by rw [← hadb]; exact hbl
      have HT : Hid (addAll T (U.take (k + 1)) = if memB U[k] (addAll T (U.take k)) = true then addAll T (U.take k) else addAll T (U.take k) ++ [U[k]]) := by show _ = _; rw [take_next2 hx, addAll_app]
      have hlen : (addAll T (U.take k)).length ≤ T.length + k := by
        have := addAll_len (U.take k) T
        rw [List.length_take] at this
        omega
      have HG : Hid (∀ V v', Vi base g gm (if memB U[k] (addAll T (U.take k)) = true then addAll T (U.take k) else addAll T (U.take k) ++ [U[k]]) v' V → Vi base g gm (addAll T (U.take (k + 1))) v' V) := fun V v' h => by rw [HT.out]; exact h
      generalize addAll T (U.take k) = T1 at *
      generalize U[k] = x at *
      have hadb' : (ad.add k).block = ad.block := hadb
      clear hx hbl hadb
      obtain ⟨M, hM, hK, hvs⟩ := hV.mp
      have g0 : wr.cell? ⟨g, 0, none⟩ = some v := hV.box.cell 0
      have g1 : wr.cell? ⟨g, 1, none⟩ = some (.map (some gm)) := hV.box.cell 1
      have lk := run_lookX Tryz.underlying48 none_zero hM x
      have HK := Lib.hid hK
      have HV := Lib.hid hV
      by_cases hin : memB x T1 = true
      · rw [lookX_yes hK hvs (memB_iff.1 hin)] at lk
        have HG3 : Hid (∀ V v', Vi base g gm T1 v' V → Vi base g gm (addAll T (U.take (k + 1))) v' V) := fun V v' h => HG.out V v' (by rw [if_pos hin]; exact h)
        clear HT hin hK hV HG
        have bb : Below wr.heap.size wr (wr.alloc (.cells #[] 76)) := (Below.refl _ _).alloc (Nat.le_refl _) _
        have HT4 := Lib.hid (hT.off (Kp.bel bb (X := fun _ => False)) (fun _ _ e => e))
        have HV4 := Lib.hid (HV.out.bel bb)
        have HB4 := Lib.hid (hB.trans (bb.mono (Nat.le_trans HV.out.hs (Nat.le_refl _))))
        go_wp2_with (refine wpList_store_row rfl 76 _ _ rfl wr.heap.size #[] rfl rfl 76 #[] (Arr.new wr _ _) (by kernel_rfl) rfl rfl ?_)
        go_roundw
        case rel => exact ⟨k + 1, v, hlt, by rw [Int.natCast_add]; rfl, HG3.out _ _ HV4.out, HT4.out, hA, HB4.out⟩
        case measure => simp [intOf]; omega
      · have HG3 : Hid (∀ V v', Vi base g gm (T1 ++ [x]) v' V → Vi base g gm (addAll T (U.take (k + 1))) v' V) := fun V v' h => HG.out V v' (by rw [if_neg hin]; exact h)
        obtain ⟨lkn, hp⟩ := lookX_no hK (fun e => hin (memB_iff.2 e))
        rw [lkn] at lk
        obtain ⟨Av, cv, rfl⟩ := hV.shape
        have bb : Below wr.heap.size wr (wr.alloc (.cells #[] 76)) := (Below.refl _ _).alloc (Nat.le_refl _) _
        have HF : Hid (MapX (wr.alloc (.cells #[] 76)) gm M ∧ Arr (wr.alloc (.cells #[] 76)) g 50 (viArr (.slice Av T1.length cv) gm) ∧ (wr.alloc (.cells #[] 76)).ownsRow base 9 1 (.slice Av T1.length cv) T1.length (T1.map sv) ∧
            Txs (wr.alloc (.cells #[] 76)) (wr.alloc (.cells #[] 76)).heap.size (some ad) U ∧ (wr.alloc (.cells #[] 76)).cell? (ad.add k) = some (.string x) ∧ Below base w (wr.alloc (.cells #[] 76)) ∧ wr.heap.size ≤ (wr.alloc (.cells #[] 76)).heap.size) := by
          have q := hV.bel bb
          exact ⟨hM.below bb hM.lt, q.box, q.row, hT.off (Kp.bel bb (X := fun _ => False)) (fun _ _ e => e), (bb.cell (by rw [hadb']; exact hadl)).trans c0, hB.trans (bb.mono hV.hs), bb.size⟩
        have hbs := hV.hs
        have hgb := hV.hg
        have hgmb := hV.hm
        clear HT hin hV HG HV hT hB bb lkn
        go_upto_region 5 with (refine wpList_store_row rfl 76 _ _ rfl wr.heap.size #[] rfl rfl 76 #[] (Arr.new wr _ _) (by kernel_rfl) rfl rfl ?_)
        refine wp_forget (fun W => MapX W gm M ∧ Arr W g 50 (viArr (.slice Av T1.length cv) gm) ∧ W.ownsRow base 9 1 (.slice Av T1.length cv) T1.length (T1.map sv) ∧ Txs W W.heap.size (some ad) U ∧ W.cell? (ad.add k) = some (.string x) ∧ Below base w W ∧ wr.heap.size ≤ W.heap.size) (by exact HF.out) ?_
        clear HF lk c0 g0 g1 hM
        rintro W ⟨hM, A1, O1, hT, c0, hB, hsz⟩
        have g1 : W.cell? ⟨g, 1, none⟩ = some (.map (some gm)) := A1.cell 1
        have hngm : ad.block ≠ gm := fun e => by
          unfold World.cell? at c0
          unfold MapX at hM
          rw [hadb', e, hM] at c0
          cases c0
        have hng : ad.block ≠ g := fun e => by
          unfold World.cell? at c0
          unfold Arr at A1
          rw [hadb', e, A1] at c0
          simp only at c0
          split at c0
          · cases c0
          · exact viArr_no _ _ _ _ _ _ c0
        have hgg : gm ≠ g := mapX_arr hM A1
        clear c0
        go_wp2_with (refine wpList_upX Tryz.underlying48 rfl _ _ _ (.inl rfl) gm M hM rfl x (.agg #[]) rfl rfl ?_)
        intro w2 hM2 g2
        rw [show upX x (.agg #[]) M = M ++ [(x, .agg #[])] from by unfold upX; rw [hp]] at hM2
        have A2 := A1.kept g2 (fun e => hgg (Option.some.inj e).symm)
        have c0' : w2.cell? ⟨g, 0, none⟩ = some (.slice Av T1.length cv) := A2.cell 0
        have O2 := own_kp O1 (Kp.gb g2) (fun q hq e => own_mapX O1 hM (by rw [hq, Option.some.inj e]))
        have hT2 := hT.off (Kp.gb g2) (fun a ea e => by cases ea; exact hngm (Option.some.inj e).symm)
        have hsz2 : wr.heap.size ≤ w2.heap.size := Nat.le_trans hsz g2.size
        have hB2 := below_gb hB g2 hgmb (Nat.le_trans hbs hsz)
        have HKm := Lib.hid hK
        have HVs := Lib.hid hvs
        clear g1 A1 O1 hM hT hB hsz g2 hK hvs
        go_wp2_with (at_builtin; refine wpList_append_lies _ rfl _ _ 22 rfl base 9 si _ 1 16 Tryz.underlying22 Hsi.out Sz0.out Sz1.out Sz2.out rfl (by decide) _ _ _ rfl (O2.alloc _) ⟨w2.heap.size, 0, none⟩ 1 1 [.string x] rfl rfl (new_cells w2 [.string x] 9) (by intro u hu; simp at hu; subst hu; rfl) (by decide) (by unfold maxLen; omega) (by omega) (by simp; omega) _ rfl ?_)
        intro g3 cap3 w3 hown hgrow hat hg3
        have hne1 := own_ne O2 A2 (by decide)
        have hne2 := own_mapX O2 hM2
        have A3 := (A2.alloc (.cells #[.string x] 9)).kept hgrow (fun e => hne1 e.symm)
        have M3 : MapX w3 gm (M ++ [(x, .agg #[])]) := (show MapX (w2.alloc (.cells #[.string x] 9)) gm (M ++ [(x, .agg #[])]) from (Below.heap_alloc w2 _ gm hM2.lt).trans hM2).kept hgrow (fun e => hne2 e.symm)
        have c3 : w3.cell? ⟨g, 0, none⟩ = some (.slice Av T1.length cv) := A3.cell 0
        have f3 := A3.free 0
        have hT3 := (hT2.off (Kp.gb (gb_alloc (w := w2) (r := none) (.cells #[.string x] 9))) (fun a _ e => by cases e)).off (Kp.gb hgrow) (fun a ea e => hA a ea e)
        have hB3 : Below base w w3 := (hB2.alloc (Nat.le_trans hbs hsz2) (.cells #[.string x] 9)).grown hgrow (by have := hsz2; simp; omega) (fun q hq => own_row_ge O2 q hq)
        have hsz3 : wr.heap.size ≤ w3.heap.size := by have := hgrow.size; simp at this; omega
        have hat' : ∀ a : Addr, some ad = some a → (Value.slice (some ⟨g3, 0, none⟩) (T1.length + 1) cap3).ownBlock ≠ some a.block := fun a ea e => by
          cases ea
          have e3 : g3 = ad.block := Option.some.inj e
          rcases hat with h | h
          · exact hA ad rfl (by rw [h, e3])
          · omega
        clear c0' A2 O2 hT2 hB2 hM2 hgrow hat hne1 hne2
        go_wp2_with fail
        go_roundw
        case rel =>
          have k4 : w3.grownBy (w3.setCell ⟨g, 0, none⟩ (.slice (some ⟨g3, 0, none⟩) (T1.length + 1) cap3)) (some g) := gb_set _ _ _
          refine ⟨k + 1, .slice (some ⟨g3, 0, none⟩) (T1.length + 1) cap3, hlt, by rw [Int.natCast_add]; rfl, HG3.out _ _ ⟨A3.put 0 _, ?_, ⟨_, M3.kept k4 (fun e => hgg (Option.some.inj e)), keyX_push HKm.out x _, fun y hy => ?_⟩, hgb, hgmb, Nat.le_trans hbs (Nat.le_trans hsz3 k4.size)⟩, hT3.off (Kp.gb k4) (fun a ea e => by cases ea; exact hng (Option.some.inj e).symm), hat', below_gb hB3 k4 hgb (Nat.le_trans hbs hsz3)⟩
          · rw [List.length_append, List.map_append]
            exact own_kp hown (Kp.gb k4) (fun q hq e => own_ne hown A3 (by decide) (by rw [hq, ← e]))
          · rcases List.mem_append.1 hy with h | h
            · exact HVs.out y h
            · rw [List.mem_singleton.1 h]
        case measure => simp [intOf]; omega
    · obtain rfl : k = U.length := by omega
      have hi : ¬ (U.length : Int) < U.length := by omega
      rw [List.take_length] at hV
      have HV := Lib.hid hV
      clear hV
      go_wp2_with fail
      go_end0
      exact ⟨rfl, ⟨v, HV.out⟩, hB⟩
end Go.Proofs.YtmikfmcgddmplaaGreatDoor

/- Disks: plain definitions: what the steps of package disk do. -/
namespace Go.Proofs.YtmikfmcgddmplaaGreatDoor
open Go.RowKit

def ltB (a b : ByteArray) : Bool := Op.bytesLess a.toList b.toList
def sameB (a b : ByteArray) : Bool := a.toList == b.toList
theorem sameB_iff (a b : ByteArray) : sameB a b = true ↔ a = b := by
  unfold sameB
  rw [beq_iff_eq, toList_data, toList_data]
  exact ⟨bytes_eq, fun h => by rw [h]⟩
theorem less_irr : ∀ l : List UInt8, Op.bytesLess l l = false
  | [] => rfl
  | a :: l => by
    rw [Op.bytesLess, less_irr l]
    simp
theorem less_trans : ∀ a b c : List UInt8, Op.bytesLess a b = true → Op.bytesLess b c = true → Op.bytesLess a c = true
  | [], [], _, h, _ => by simp [Op.bytesLess] at h
  | [], _ :: _, [], _, h => by simp [Op.bytesLess] at h
  | [], _ :: _, _ :: _, _, _ => by simp [Op.bytesLess]
  | _ :: _, [], _, h, _ => by simp [Op.bytesLess] at h
  | _ :: _, _ :: _, [], _, h => by simp [Op.bytesLess] at h
  | a :: x, b :: y, c :: z, h1, h2 => by
    have ih := less_trans x y z
    simp only [Op.bytesLess, Bool.or_eq_true, Bool.and_eq_true, decide_eq_true_eq, beq_iff_eq] at h1 h2 ⊢
    rcases h1 with h1 | ⟨rfl, h1⟩
    · rcases h2 with h2 | ⟨rfl, h2⟩
      · exact .inl (UInt8.lt_trans h1 h2)
      · exact .inl h1
    · rcases h2 with h2 | ⟨rfl, h2⟩
      · exact .inl h2
      · exact .inr ⟨rfl, ih h1 h2⟩
theorem less_tri : ∀ a b : List UInt8, Op.bytesLess a b = true ∨ a = b ∨ Op.bytesLess b a = true
  | [], [] => .inr (.inl rfl)
  | [], _ :: _ => .inl (by simp [Op.bytesLess])
  | _ :: _, [] => .inr (.inr (by simp [Op.bytesLess]))
  | a :: x, b :: y => by
    have ih := less_tri x y
    simp only [Op.bytesLess, Bool.or_eq_true, Bool.and_eq_true, decide_eq_true_eq, beq_iff_eq]
    by_cases e : a = b
    · subst e
      rcases ih with h | rfl | h
      · exact .inl (.inr ⟨rfl, h⟩)
      · exact .inr (.inl rfl)
      · exact .inr (.inr (.inr ⟨rfl, h⟩))
    · by_cases h : a < b
      · exact .inl (.inl h)
      · exact .inr (.inr (.inl (by
          rw [UInt8.lt_iff_toNat_lt] at h ⊢
          have : a.toNat ≠ b.toNat := fun q => e (UInt8.toNat_inj.1 q)
          omega)))
theorem ltB_irr (a : ByteArray) : ltB a a = false := less_irr _
theorem ltB_trans {a b c : ByteArray} (h1 : ltB a b = true) (h2 : ltB b c = true) : ltB a c = true := less_trans _ _ _ h1 h2
theorem ltB_tri (a b : ByteArray) : ltB a b = true ∨ a = b ∨ ltB b a = true := by
  rcases less_tri a.toList b.toList with h | h | h
  · exact .inl h
  · exact .inr (.inl (by rw [toList_data, toList_data] at h; exact bytes_eq h))
  · exact .inr (.inr h)
theorem ltB_ne {a b : ByteArray} (h : ltB a b = true) : a ≠ b := fun e => by rw [e, ltB_irr] at h; cases h
theorem ltB_asym {a b : ByteArray} (h : ltB a b = true) : ltB b a = false := by
  cases hb : ltB b a with
  | false => rfl
  | true => have := ltB_trans h hb; rw [ltB_irr] at this; cases this

/-- a file -/
structure Fl where
  name : ByteArray
  safe : ByteArray
  tail : ByteArray
  deriving DecidableEq
/-- a disk -/
structure Dk where
  files : List Fl
  fuse : Int
  deriving DecidableEq
def inName (c : UInt8) : Bool := (decide (97 ≤ c.toNat) && decide (c.toNat ≤ 122)) || (decide (48 ≤ c.toNat) && decide (c.toNat ≤ 57)) || decide (c.toNat = 46) || decide (c.toNat = 45)
def named (s : ByteArray) : Bool := decide (1 ≤ s.size) && decide (s.size ≤ 80) && s.data.toList.all inName
def fits (f : Fl) : Bool := decide (f.safe.size + f.tail.size ≤ 1048576)
def goodL : ByteArray → List Fl → Bool
  | _, [] => true
  | b, f :: l => named f.name && fits f && ltB b f.name && goodL f.name l
def goodD (L : List Fl) : Bool := decide (L.length ≤ 400) && goodL ⟨#[]⟩ L
/-- where the first file stands whose name is this or comes behind it -/
def low (n : ByteArray) : List Fl → Nat
  | [] => 0
  | f :: l => if ltB f.name n then low n l + 1 else 0
def getF (n : ByteArray) (L : List Fl) : Option Fl := L.find? fun f => decide (f.name = n)
def del (n : ByteArray) (L : List Fl) : List Fl := L.filter fun f => !decide (f.name = n)
/-- the files with one more, or another in its place -/
def putL (f : Fl) : List Fl → List Fl
  | [] => [f]
  | x :: l => if ltB x.name f.name then x :: putL f l else if x.name = f.name then f :: l else f :: x :: l
def wrP (L : List Fl) (n s : ByteArray) : Except Int (List Fl) :=
  if !named n then .error 2 else match getF n L with
  | none => if 400 ≤ L.length then .error 6 else if 1048576 < s.size then .error 1 else .ok (putL ⟨n, ⟨#[]⟩, s⟩ L)
  | some f => if 1048576 < f.safe.size + f.tail.size + s.size then .error 1 else .ok (putL ⟨n, f.safe, f.tail ++ s⟩ L)
def syP (L : List Fl) (n : ByteArray) : Except Int (List Fl) := match getF n L with
  | none => .error 7
  | some f => .ok (putL ⟨n, f.safe ++ f.tail, ⟨#[]⟩⟩ L)
def rnP (L : List Fl) (n m : ByteArray) : Except Int (List Fl) := if !named m then .error 2 else match getF n L with
  | none => .error 7
  | some f => .ok (putL ⟨m, f.safe, f.tail⟩ (del n L))
def rmP (L : List Fl) (n : ByteArray) : Except Int (List Fl) := match getF n L with
  | none => .error 7
  | some _ => .ok (del n L)
def burnt (z : Int) : Int := if 0 < z then z - 1 else z
/-- a step, whose change is r -/
def stepP (d : Dk) (r : Except Int (List Fl)) : Dk × Int :=
  if !goodD d.files then (d, 3) else if d.fuse = 0 then (d, 12) else match r with
  | .error e => (d, e)
  | .ok L => (⟨L, burnt d.fuse⟩, 0)
def readD (d : Dk) (n : ByteArray) : ByteArray × Int := if !goodD d.files then (⟨#[]⟩, 3) else match getF n d.files with
  | none => (⟨#[]⟩, 7)
  | some f => (f.safe ++ f.tail, 0)
def crashF (k : Nat) (f : Fl) : Fl := ⟨f.name, f.safe ++ f.tail.extract 0 (min k f.tail.size), ⟨#[]⟩⟩
def crashD (d : Dk) (k : Int) : Dk × Int := if !goodD d.files || decide (k < 0) then (d, 3) else (⟨d.files.map (crashF k.toNat), -1⟩, 0)
/-- a disk and an error; the next step, if there is none -/
def thenD (r : Dk × Int) (f : Dk → Dk × Int) : Dk × Int := if r.2 ≠ 0 then r else f r.1
def newN (n : ByteArray) : ByteArray := n ++ ⟨#[46, 110, 101, 119]⟩
def saveD (d : Dk) (n s : ByteArray) : Dk × Int :=
  if !goodD d.files then (d, 3) else if !named n || !named (newN n) then (d, 2) else
  thenD (thenD (thenD (if (getF (newN n) d.files).isSome then stepP d (rmP d.files (newN n)) else (d, 0)) fun d => stepP d (wrP d.files (newN n) s)) fun d => stepP d (syP d.files (newN n))) fun d => stepP d (rnP d.files (newN n) n)
end Go.Proofs.YtmikfmcgddmplaaGreatDoor
