/- Texts in one: StVis, ODecC. -/
import Derived.Test.YtmikfmcgddmplaaGreatDoorSMap
import Derived.Test.YtmikfmcgddmplaaGreatDoorDkMem
import Derived.Deep.AppendLies
import Derived.StillTailTactics
import Derived.Deep.RegionLaw
import Derived.Deep.Cut
/- store.visits: (*visits).add, newVisits: contracts. -/
namespace Go.Proofs.YtmikfmcgddmplaaGreatDoor
open Go.RowKit

def memB (x : ByteArray) (T : List ByteArray) : Bool := T.any fun y => decide (y = x)
theorem memB_iff {x : ByteArray} {T : List ByteArray} : memB x T = true ↔ x ∈ T := by
  unfold memB
  rw [List.any_eq_true]
  exact ⟨fun ⟨y, h1, h2⟩ => by rw [← of_decide_eq_true h2]; exact h1, fun h => ⟨x, h, decide_eq_true rfl⟩⟩
/-- texts with more texts behind them, each once -/
def addAll (T : List ByteArray) : List ByteArray → List ByteArray
  | [] => T
  | x :: l => addAll (if memB x T = true then T else T ++ [x]) l
theorem addAll_app : ∀ (U : List ByteArray) (T : List ByteArray) (x : ByteArray), addAll T (U ++ [x]) = if memB x (addAll T U) = true then addAll T U else addAll T U ++ [x]
  | [], T, x => rfl
  | y :: l, T, x => by
    rw [List.cons_append]
    exact addAll_app l _ x
theorem addAll_len : ∀ (U T : List ByteArray), (addAll T U).length ≤ T.length + U.length
  | [], T => Nat.le_refl _
  | y :: l, T => by
    have := addAll_len l (if memB y T = true then T else T ++ [y])
    have h2 : (if memB y T = true then T else T ++ [y]).length ≤ T.length + 1 := by split <;> simp
    rw [List.length_cons]
    show (addAll (if memB y T = true then T else T ++ [y]) l).length ≤ _
    omega
def viArr (v : Value) (gm : Nat) : Array Value := #[v, .map (some gm)]
theorem viInfo (v : Value) (gm : Nat) : (Tryz.prog.info? 50).map (·.size) = some (viArr v gm).size := by
  rw [show (viArr v gm).size = 2 from rfl]
  kernel_rfl
/-- visits: the list's row, the set of what is in it -/
structure Vi (base g gm : Nat) (T : List ByteArray) (v : Value) (W : World) : Prop where
  box : Arr W g 50 (viArr v gm)
  row : W.ownsRow base 9 1 v T.length (T.map sv)
  mp : ∃ M, MapX W gm M ∧ KeyX M T ∧ ∀ x ∈ M, x.2 = .agg #[]
  hg : base ≤ g
  hm : base ≤ gm
  hs : base ≤ W.heap.size
theorem MapX.kp {X : Nat → Prop} {w w1 : World} {g : Nat} {l : List KX} (h : MapX w g l) (k : Kp X w w1) (hx : ¬ X g) : MapX w1 g l := (k.block g h.lt hx).trans h
section
variable {base g gm : Nat} {T : List ByteArray} {v : Value} {W W' : World}
theorem Vi.bel (h : Vi base g gm T v W) (k : Below W.heap.size W W') : Vi base g gm T v W' := by
  obtain ⟨M, hM, hv⟩ := h.mp
  exact ⟨h.box.below k h.box.lt, own_kp h.row (Kp.bel k (X := fun _ => False)) (fun _ _ e => e), ⟨M, hM.below k hM.lt, hv⟩, h.hg, h.hm, Nat.le_trans h.hs k.size⟩
theorem Vi.shape (h : Vi base g gm T v W) : ∃ A c, v = .slice A T.length c := by
  rcases h.row.2 with ⟨e, h0⟩ | ⟨q, cap, cur, e, _⟩
  · exact ⟨none, 0, by rw [e, h0]⟩
  · exact ⟨_, cap, e⟩
end
theorem none_zero (w : World) : (zeroValue 76).run Tryz.prog w = .ok (.agg #[]) w := by kernel_rfl
theorem lookX_no {k : ByteArray} {M : List KX} {T : List ByteArray} (h : KeyX M T) (hk : ¬ k ∈ T) : lookX (.agg #[]) k M = .tuple #[.agg #[], .bool false] ∧ posX k M = none := by
  have e : posX k M = none := by
    cases hp : posX k M with
    | none => rfl
    | some p => exact absurd ((h k).1 (by rw [hp]; rfl)) hk
  exact ⟨by unfold lookX; rw [e], e⟩
theorem lookX_yes {k : ByteArray} {M : List KX} {T : List ByteArray} (h : KeyX M T) (hv : ∀ x ∈ M, x.2 = .agg #[]) (hk : k ∈ T) : lookX (.agg #[]) k M = .tuple #[.agg #[], .bool true] := by
  obtain ⟨p, hp⟩ := Option.isSome_iff_exists.1 ((h k).2 hk)
  obtain ⟨u, hu⟩ := posX_at k M p hp
  have := hv _ (List.mem_of_getElem? hu)
  unfold lookX
  rw [hp]
  simp only [List.getD_eq_getElem?_getD, hu, Option.getD_some]
  rw [show u = .agg #[] from this]
theorem viArr_no (A : Option Addr) (n c : Nat) (gm : Nat) : ∀ (i : Nat) (t : ByteArray), (viArr (.slice A n c) gm)[i]? ≠ some (.string t)
  | 0, t => by simp [viArr]
  | 1, t => by simp [viArr]
  | n + 2, t => by simp [viArr]
def VaEnd (base g gm : Nat) (T : List ByteArray) (w : World) (x : Ending) (w' : World) : Prop :=
  x = .returned (.tuple #[]) ∧ (∃ v', Vi base g gm T v' w') ∧ Below base w w'
/-- where add stands -/
def VaRel (base g gm : Nat) (T U : List ByteArray) (A : Option Addr) (w : World) (i : Value) (wr : World) : Prop :=
  ∃ (k : Nat) (v : Value), k ≤ U.length ∧ i = .int .i64 (k : Int) ∧ Vi base g gm (addAll T (U.take k)) v wr ∧ Txs wr wr.heap.size A U ∧ (∀ ad, A = some ad → v.ownBlock ≠ some ad.block) ∧ Below base w wr
theorem take_next2 {α : Type} {l : List α} {k : Nat} {x : α} (h : l[k]? = some x) : l.take (k + 1) = l.take k ++ [x] := by
  obtain ⟨hk, rfl⟩ := List.getElem?_eq_some_iff.1 h
  exact List.take_succ_eq_append_getElem hk
theorem Txs.off {w w1 : World} {A : Option Addr} {U : List ByteArray} {X : Nat → Prop} (h : Txs w w.heap.size A U) (k : Kp X w w1) (hx : ∀ ad, A = some ad → ¬ X ad.block) : Txs w1 w1.heap.size A U := fun j x hj => by
  obtain ⟨ad, rfl, hb, hc⟩ := h j x hj
  have e : (ad.add j).block = ad.block := by unfold Addr.add; split <;> rfl
  exact ⟨ad, rfl, Nat.lt_of_lt_of_le hb k.size, (World.cell?_of_block (k.block _ hb (by rw [e]; exact hx ad rfl))).trans hc⟩

set_option maxRecDepth 100000 in
set_option maxHeartbeats 2000000 in
theorem vadd_any {base g gm : Nat} {T : List ByteArray} {v0 : Value} {w : World} (h : Vi base g gm T v0 w) (U : List ByteArray) (A : Option Addr) (c : Nat) (hU : Txs w w.heap.size A U) (hA : ∀ ad, A = some ad → v0.ownBlock ≠ some ad.block) (hl : (T.length + U.length) * 16 ≤ 140737488355328) :
    Calls Tryz.prog 22 #[.pointer (some ⟨g, 0, none⟩), .slice A U.length c] w (VaEnd base g gm (addAll T U) w) := by
  obtain ⟨si, hsi, sz0, sz1, sz2⟩ := info_parts info_str
  have Hsi := Lib.hid hsi
  have Sz0 := Lib.hid sz0
  have Sz1 := Lib.hid sz1
  have Sz2 := Lib.hid sz2
  clear hsi sz0 sz1 sz2
  have h1 : Hid (VaRel base g gm T U A w (.int .i64 0) w) := ⟨0, v0, Nat.zero_le _, rfl, h, hU, hA, Below.refl _ _⟩
  clear hA hU h
  go_enter Tryz.func22, Tryz.ntmps22
  go_wp2_with fail
  go_loopw [10] (fun i wr => VaRel base g gm T U A w i wr) (fun i _ => U.length - (intOf i).toNat)
  case atStart => exact h1.out
  case round =>
    clear h1
    obtain ⟨k, v, hk, rfl, hV, hT, hA, hB⟩ := hrel
    have hul : U.length ≤ 140737488355328 := by omega
    by_cases hlt : k < U.length
    · have hi : (k : Int) < U.length := by omega
      have hx : U[k]? = some U[k] := List.getElem?_eq_getElem hlt
      obtain ⟨ad, rfl, hbl, c0⟩ := hT k U[k] hx
      have hadb : (ad.add k).block = ad.block := by unfold Addr.add; split <;> rfl
      have hadl : ad.block < wr.heap.size := by rw [← hadb]; exact hbl
      have HT : Hid (addAll T (U.take (k + 1)) = if memB U[k] (addAll T (U.take k)) = true then addAll T (U.take k) else addAll T (U.take k) ++ [U[k]]) := by show _ = _; rw [take_next2 hx, addAll_app]
      have hlen : (addAll T (U.take k)).length ≤ T.length + k := by
        have := addAll_len (U.take k) T
        rw [List.length_take] at this
        omega
      have HG : Hid (∀ V v', Vi base g gm (if memB U[k] (addAll T (U.take k)) = true then addAll T (U.take k) else addAll T (U.take k) ++ [U[k]]) v' V → Vi base g gm (addAll T (U.take (k + 1))) v' V) := fun V v' h => by rw [HT.out]; exact h
      generalize addAll T (U.take k) = T1 at *
      generalize U[k] = x at *
      have hadb' : (ad.add k).block = ad.block := hadb
      clear hx hbl hadb
      obtain ⟨M, hM, hK, hvs⟩ := hV.mp
      have g0 : wr.cell? ⟨g, 0, none⟩ = some v := hV.box.cell 0
      have g1 : wr.cell? ⟨g, 1, none⟩ = some (.map (some gm)) := hV.box.cell 1
      have lk := run_lookX Tryz.underlying48 none_zero hM x
      have HK := Lib.hid hK
      have HV := Lib.hid hV
      by_cases hin : memB x T1 = true
      · rw [lookX_yes hK hvs (memB_iff.1 hin)] at lk
        have HG3 : Hid (∀ V v', Vi base g gm T1 v' V → Vi base g gm (addAll T (U.take (k + 1))) v' V) := fun V v' h => HG.out V v' (by rw [if_pos hin]; exact h)
        clear HT hin hK hV HG
        have bb : Below wr.heap.size wr (wr.alloc (.cells #[] 76)) := (Below.refl _ _).alloc (Nat.le_refl _) _
        have HT4 := Lib.hid (hT.off (Kp.bel bb (X := fun _ => False)) (fun _ _ e => e))
        have HV4 := Lib.hid (HV.out.bel bb)
        have HB4 := Lib.hid (hB.trans (bb.mono (Nat.le_trans HV.out.hs (Nat.le_refl _))))
        go_wp2_with (refine wpList_store_row rfl 76 _ _ rfl wr.heap.size #[] rfl rfl 76 #[] (Arr.new wr _ _) (by kernel_rfl) rfl rfl ?_)
        go_roundw
        case rel => exact ⟨k + 1, v, hlt, by rw [Int.natCast_add]; rfl, HG3.out _ _ HV4.out, HT4.out, hA, HB4.out⟩
        case measure => simp [intOf]; omega
      · have HG3 : Hid (∀ V v', Vi base g gm (T1 ++ [x]) v' V → Vi base g gm (addAll T (U.take (k + 1))) v' V) := fun V v' h => HG.out V v' (by rw [if_neg hin]; exact h)
        obtain ⟨lkn, hp⟩ := lookX_no hK (fun e => hin (memB_iff.2 e))
        rw [lkn] at lk
        obtain ⟨Av, cv, rfl⟩ := hV.shape
        have bb : Below wr.heap.size wr (wr.alloc (.cells #[] 76)) := (Below.refl _ _).alloc (Nat.le_refl _) _
        have HF : Hid (MapX (wr.alloc (.cells #[] 76)) gm M ∧ Arr (wr.alloc (.cells #[] 76)) g 50 (viArr (.slice Av T1.length cv) gm) ∧ (wr.alloc (.cells #[] 76)).ownsRow base 9 1 (.slice Av T1.length cv) T1.length (T1.map sv) ∧
            Txs (wr.alloc (.cells #[] 76)) (wr.alloc (.cells #[] 76)).heap.size (some ad) U ∧ (wr.alloc (.cells #[] 76)).cell? (ad.add k) = some (.string x) ∧ Below base w (wr.alloc (.cells #[] 76)) ∧ wr.heap.size ≤ (wr.alloc (.cells #[] 76)).heap.size) := by
          have q := hV.bel bb
          exact ⟨hM.below bb hM.lt, q.box, q.row, hT.off (Kp.bel bb (X := fun _ => False)) (fun _ _ e => e), (bb.cell (by rw [hadb']; exact hadl)).trans c0, hB.trans (bb.mono hV.hs), bb.size⟩
        have hbs := hV.hs
        have hgb := hV.hg
        have hgmb := hV.hm
        clear HT hin hV HG HV hT hB bb lkn
        go_upto_region 5 with (refine wpList_store_row rfl 76 _ _ rfl wr.heap.size #[] rfl rfl 76 #[] (Arr.new wr _ _) (by kernel_rfl) rfl rfl ?_)
        refine wp_forget (fun W => MapX W gm M ∧ Arr W g 50 (viArr (.slice Av T1.length cv) gm) ∧ W.ownsRow base 9 1 (.slice Av T1.length cv) T1.length (T1.map sv) ∧ Txs W W.heap.size (some ad) U ∧ W.cell? (ad.add k) = some (.string x) ∧ Below base w W ∧ wr.heap.size ≤ W.heap.size) (by exact HF.out) ?_
        clear HF lk c0 g0 g1 hM
        rintro W ⟨hM, A1, O1, hT, c0, hB, hsz⟩
        have g1 : W.cell? ⟨g, 1, none⟩ = some (.map (some gm)) := A1.cell 1
        have hngm : ad.block ≠ gm := fun e => by
          unfold World.cell? at c0
          unfold MapX at hM
          rw [hadb', e, hM] at c0
          cases c0
        have hng : ad.block ≠ g := fun e => by
          unfold World.cell? at c0
          unfold Arr at A1
          rw [hadb', e, A1] at c0
          simp only at c0
          split at c0
          · cases c0
          · exact viArr_no _ _ _ _ _ _ c0
        have hgg : gm ≠ g := mapX_arr hM A1
        clear c0
        go_wp2_with (refine wpList_upX Tryz.underlying48 rfl _ _ _ (.inl rfl) gm M hM rfl x (.agg #[]) rfl rfl ?_)
        intro w2 hM2 g2
        rw [show upX x (.agg #[]) M = M ++ [(x, .agg #[])] from by unfold upX; rw [hp]] at hM2
        have A2 := A1.kept g2 (fun e => hgg (Option.some.inj e).symm)
        have c0' : w2.cell? ⟨g, 0, none⟩ = some (.slice Av T1.length cv) := A2.cell 0
        have O2 := own_kp O1 (Kp.gb g2) (fun q hq e => own_mapX O1 hM (by rw [hq, Option.some.inj e]))
        have hT2 := hT.off (Kp.gb g2) (fun a ea e => by cases ea; exact hngm (Option.some.inj e).symm)
        have hsz2 : wr.heap.size ≤ w2.heap.size := Nat.le_trans hsz g2.size
        have hB2 := below_gb hB g2 hgmb (Nat.le_trans hbs hsz)
        have HKm := Lib.hid hK
        have HVs := Lib.hid hvs
        clear g1 A1 O1 hM hT hB hsz g2 hK hvs
        go_wp2_with (at_builtin; refine wpList_append_lies _ rfl _ _ 22 rfl base 9 si _ 1 16 Tryz.underlying22 Hsi.out Sz0.out Sz1.out Sz2.out rfl (by decide) _ _ _ rfl (O2.alloc _) ⟨w2.heap.size, 0, none⟩ 1 1 [.string x] rfl rfl (new_cells w2 [.string x] 9) (by intro u hu; simp at hu; subst hu; rfl) (by decide) (by unfold maxLen; omega) (by omega) (by simp; omega) _ rfl ?_)
        intro g3 cap3 w3 hown hgrow hat hg3
        have hne1 := own_ne O2 A2 (by decide)
        have hne2 := own_mapX O2 hM2
        have A3 := (A2.alloc (.cells #[.string x] 9)).kept hgrow (fun e => hne1 e.symm)
        have M3 : MapX w3 gm (M ++ [(x, .agg #[])]) := (show MapX (w2.alloc (.cells #[.string x] 9)) gm (M ++ [(x, .agg #[])]) from (Below.heap_alloc w2 _ gm hM2.lt).trans hM2).kept hgrow (fun e => hne2 e.symm)
        have c3 : w3.cell? ⟨g, 0, none⟩ = some (.slice Av T1.length cv) := A3.cell 0
        have f3 := A3.free 0
        have hT3 := (hT2.off (Kp.gb (gb_alloc (w := w2) (r := none) (.cells #[.string x] 9))) (fun a _ e => by cases e)).off (Kp.gb hgrow) (fun a ea e => hA a ea e)
        have hB3 : Below base w w3 := (hB2.alloc (Nat.le_trans hbs hsz2) (.cells #[.string x] 9)).grown hgrow (by have := hsz2; simp; omega) (fun q hq => own_row_ge O2 q hq)
        have hsz3 : wr.heap.size ≤ w3.heap.size := by have := hgrow.size; simp at this; omega
        have hat' : ∀ a : Addr, some ad = some a → (Value.slice (some ⟨g3, 0, none⟩) (T1.length + 1) cap3).ownBlock ≠ some a.block := fun a ea e => by
          cases ea
          have e3 : g3 = ad.block := Option.some.inj e
          rcases hat with h | h
          · exact hA ad rfl (by rw [h, e3])
          · omega
        clear c0' A2 O2 hT2 hB2 hM2 hgrow hat hne1 hne2
        go_wp2_with fail
        go_roundw
        case rel =>
          have k4 : w3.grownBy (w3.setCell ⟨g, 0, none⟩ (.slice (some ⟨g3, 0, none⟩) (T1.length + 1) cap3)) (some g) := gb_set _ _ _
          refine ⟨k + 1, .slice (some ⟨g3, 0, none⟩) (T1.length + 1) cap3, hlt, by rw [Int.natCast_add]; rfl, HG3.out _ _ ⟨A3.put 0 _, ?_, ⟨_, M3.kept k4 (fun e => hgg (Option.some.inj e)), keyX_push HKm.out x _, fun y hy => ?_⟩, hgb, hgmb, Nat.le_trans hbs (Nat.le_trans hsz3 k4.size)⟩, hT3.off (Kp.gb k4) (fun a ea e => by cases ea; exact hng (Option.some.inj e).symm), hat', below_gb hB3 k4 hgb (Nat.le_trans hbs hsz3)⟩
          · rw [List.length_append, List.map_append]
            exact own_kp hown (Kp.gb k4) (fun q hq e => own_ne hown A3 (by decide) (by rw [hq, ← e]))
          · rcases List.mem_append.1 hy with h | h
            · exact HVs.out y h
            · rw [List.mem_singleton.1 h]
        case measure => simp [intOf]; omega
    · obtain rfl : k = U.length := by omega
      have hi : ¬ (U.length : Int) < U.length := by omega
      rw [List.take_length] at hV
      have HV := Lib.hid hV
      clear hV
      go_wp2_with fail
      go_end0
      exact ⟨rfl, ⟨v, HV.out⟩, hB⟩
end Go.Proofs.YtmikfmcgddmplaaGreatDoor

/- Reading entries. -/
namespace Go.Proofs.YtmikfmcgddmplaaGreatDoor
open Go.RowKit

theorem rdNum_len {l r : List UInt8} {n : Nat} (h : rdNum l = some (n, r)) : r.length ≤ l.length := by
  unfold rdNum at h
  cases hg : got l with
  | none => simp [hg] at h
  | some y =>
    simp [hg] at h
    rw [← h.2, List.length_drop]; omega
theorem rdText_len {l r : List UInt8} {t : ByteArray} (h : rdText l = some (t, r)) : r.length ≤ l.length := by
  unfold rdText at h
  cases hg : rdNum l with
  | none => simp [hg] at h
  | some y =>
    obtain ⟨n, r1⟩ := y
    simp only [hg] at h
    have := rdNum_len hg
    split at h
    · simp only [Option.some.injEq, Prod.mk.injEq] at h
      rw [← h.2, List.length_drop]; omega
    · cases h
theorem rdEnt_len {l r : List UInt8} {e : Ent} (h : rdEnt l = some (e, r)) : r.length + 32 ≤ l.length := by
  unfold rdEnt at h
  cases h1 : rdText l with
  | none => simp [h1] at h
  | some y1 =>
    obtain ⟨nm, l1⟩ := y1
    simp only [h1] at h
    cases h2 : rdNum l1 with
    | none => simp [h2] at h
    | some y2 =>
      obtain ⟨d, l2⟩ := y2
      simp only [h2] at h
      cases h3 : rdId l2 with
      | none => simp [h3] at h
      | some y3 =>
        obtain ⟨id, l3⟩ := y3
        simp only [h3] at h
        have a1 := rdText_len h1
        have a2 := rdNum_len h2
        have a3 := rdId_len h3
        split at h
        · cases h
        · simp only [Option.some.injEq, Prod.mk.injEq] at h
          rw [← h.2]; omega
/-- an entry by the reader's states -/
theorem ent_chain (lc : List UInt8) : rdEnt lc = match (stId (stNum (stTxt (some lc)).2).2).2 with
    | none => none
    | some r => if 1 < (stNum (stTxt (some lc)).2).1 then none else some (⟨(stTxt (some lc)).1, (stNum (stTxt (some lc)).2).1 == 1, (stId (stNum (stTxt (some lc)).2).2).1⟩, r) := by
  unfold rdEnt
  cases h1 : rdText lc with
  | none => simp [h1, stTxt, stNum, stId]
  | some y1 =>
    obtain ⟨nm, l1⟩ := y1
    cases h2 : rdNum l1 with
    | none => simp [h1, h2, stTxt, stNum, stId]
    | some y2 =>
      obtain ⟨d, l2⟩ := y2
      cases h3 : rdId l2 with
      | none => simp [h1, h2, h3, stTxt, stNum, stId]
      | some y3 =>
        obtain ⟨id, l3⟩ := y3
        simp [h1, h2, h3, stTxt, stNum, stId]
def rdEntsS (st : St) : Option (List Ent × List UInt8) :=
  match (stNum st).2 with
  | none => none
  | some l => rdEnts (stNum st).1 l
theorem ents_done {n : Nat} {l0 lc : List UInt8} {T : List Ent} (h : rdEnts n l0 = match rdEnts (n - T.length) lc with | none => none | some (T2, r) => some (T ++ T2, r)) (hn : ¬ T.length < n) : rdEnts n l0 = some (T, lc) := by
  rw [h, show n - T.length = 0 from by omega, rdEnts]
  simp
theorem ents_bad {n : Nat} {l0 lc : List UInt8} {T : List Ent} (h : rdEnts n l0 = match rdEnts (n - T.length) lc with | none => none | some (T2, r) => some (T ++ T2, r)) (hn : T.length < n) (hr : rdEnt lc = none) : rdEnts n l0 = none := by
  rw [h, show n - T.length = (n - T.length - 1) + 1 from by omega, rdEnts]
  simp [hr]
theorem ents_more {n : Nat} {l0 lc r : List UInt8} {p : Ent} {T : List Ent} (h : rdEnts n l0 = match rdEnts (n - T.length) lc with | none => none | some (T2, r) => some (T ++ T2, r)) (hn : T.length < n) (hr : rdEnt lc = some (p, r)) :
    rdEnts n l0 = match rdEnts (n - (T ++ [p]).length) r with | none => none | some (T2, r) => some ((T ++ [p]) ++ T2, r) := by
  rw [h, show n - T.length = (n - (T ++ [p]).length) + 1 from by rw [List.length_append]; simp; omega, rdEnts]
  simp only [hr]
  cases rdEnts (n - (T ++ [p]).length) r <;> simp
def RERel (n : Nat) (l0 : List UInt8) (g : Nat) (w : World) (v i : Value) (wr : World) : Prop :=
  ∃ (T : List Ent) (lc : List UInt8), T.length ≤ n ∧ i = .int .i64 (T.length : Int) ∧ RS wr g (some lc) ∧ wr.ownsRow w.heap.size 79 3 v T.length (entCells T) ∧ w.grownBy wr (some g) ∧
    T.length + lc.length ≤ 8192 ∧ rdEnts n l0 = match rdEnts (n - T.length) lc with
      | none => none
      | some (T2, r) => some (T ++ T2, r)
/-- behind readEntries: the entries, or an error -/
def EEnd (g : Nat) (w : World) (res : Option (List Ent × List UInt8)) (x : Ending) (w' : World) : Prop :=
  ∃ A c L ok, x = .returned (.tuple #[.slice A (List.length L) c, .bool ok]) ∧ (Ens w' w'.heap.size A L ∧ ∀ ad, A = some ad → w.heap.size ≤ ad.block) ∧ w.grownBy w' (some g) ∧
    ((∃ r, res = some (L, r) ∧ ok = true ∧ RS w' g (some r)) ∨ (res = none ∧ ∃ st', RS w' g st' ∧ (ok = false ∨ st' = none)))

set_option maxRecDepth 100000 in
set_option maxHeartbeats 2000000 in
theorem readEntries_any (g : Nat) (st : St) (w : World) (h : RS w g st) : Calls Tryz.prog 111 #[.pointer (some ⟨g, 0, none⟩)] w (EEnd g w (rdEntsS st)) := by
  obtain ⟨si, hsi, sz0, sz1, sz2⟩ := info_parts info_ent
  have Hsi := Lib.hid hsi
  have Sz0 := Lib.hid sz0
  have Sz1 := Lib.hid sz1
  have Sz2 := Lib.hid sz2
  clear hsi sz0 sz1 sz2
  have hlt := h.lt
  have q0 := rs_num g st w h
  have hn := stNum_lt st
  have hnn := fun e => stNum_none (st := st) e
  obtain ⟨res, hres⟩ : ∃ res, res = rdEntsS st := ⟨_, rfl⟩
  rw [← hres]
  unfold rdEntsS at hres
  generalize (stNum st).1 = n at *
  generalize hl : (stNum st).2 = s1 at *
  have HR := Lib.hid hres
  have HNN := Lib.hid hnn
  clear hres hl h hnn
  go_enter Tryz.func111, Tryz.ntmps111
  go_wp2_with fail
  (with_reducible refine q0.mono ?_)
  clear q0
  rintro _ w1 ⟨rfl, h1, k1⟩
  go_wp2_with fail
  cases s1 with
  | none =>
    obtain rfl := HNN.out rfl
    go_loopw [4, 10] (fun v i wr => v = .slice none 0 0 ∧ i = .int .i64 0 ∧ wr = w1) (fun _ _ _ => 0)
    case atStart => exact ⟨rfl, rfl, rfl⟩
    case round =>
      obtain ⟨rfl, rfl, rfl⟩ := hrel
      go_wp2_with fail
      go_ret2
      exact ⟨none, 0, [], true, rfl, ⟨Ens.nil _ _ _, fun ad e => by cases e⟩, k1, .inr ⟨HR.out, none, h1, .inr rfl⟩⟩
  | some l0 =>
    have hl0 : l0.length ≤ 8192 := h1.2
    go_loopw [4, 10] (fun v i wr => RERel n l0 g w v i wr) (fun _ i _ => n - (intOf i).toNat)
    case atStart => exact ⟨[], l0, Nat.zero_le _, rfl, h1, ⟨rfl, .inl ⟨rfl, rfl⟩⟩, k1, by simpa using hl0, by rw [List.length_nil, Nat.sub_zero]; cases rdEnts n l0 <;> rfl⟩
    case round =>
      clear h1 k1 w1
      obtain ⟨T, lc, hk, rfl, hR, hO, hK, hm, he⟩ := hrel
      have HE := Lib.hid he
      clear he
      by_cases hlt2 : T.length < n
      · have hi : (T.length : Int) < n := by omega
        have q1 := rs_txt g _ wr hR
        have HC := Lib.hid (ent_chain lc)
        have hd := stNum_lt (stTxt (some lc)).2
        have q2 := rs_num g (stTxt (some lc)).2
        have q3 := rs_id g (stNum (stTxt (some lc)).2).2
        generalize (stId (stNum (stTxt (some lc)).2).2).1 = id at *
        generalize (stId (stNum (stTxt (some lc)).2).2).2 = s3 at *
        generalize (stNum (stTxt (some lc)).2).1 = d at *
        generalize (stNum (stTxt (some lc)).2).2 = s2 at *
        generalize (stTxt (some lc)).1 = nm at *
        generalize (stTxt (some lc)).2 = s1 at *
        have Q2 := Lib.hid q2
        have Q3 := Lib.hid q3
        clear q2 q3 hR
        go_wp2_with fail
        (with_reducible refine q1.mono ?_)
        clear q1
        rintro _ w2 ⟨rfl, h2, k2⟩
        have hK2 := gb_trans hK k2
        have hO2 := hO.kept k2 (own_far hO hlt)
        clear hO hK k2
        go_wp2_with fail
        (with_reducible refine (Q2.out w2 h2).mono ?_)
        clear h2 Q2
        rintro _ w3 ⟨rfl, h3, k3⟩
        have hK3 := gb_trans hK2 k3
        have hO3 := hO2.kept k3 (own_far hO2 hlt)
        clear hO2 hK2 k3
        go_wp2_with fail
        (with_reducible refine (Q3.out w3 h3).mono ?_)
        clear h3 Q3
        rintro _ w4 ⟨rfl, h4, k4⟩
        have hK4 := gb_trans hK3 k4
        have hO4 := hO3.kept k4 (own_far hO3 hlt)
        clear hO3 hK3 k4
        go_wp2_with fail
        (with_reducible refine (rs_bad g s3 w4 h4).mono ?_)
        rintro _ _ ⟨⟨e, rfl, he⟩, rfl⟩
        cases s3 with
        | none =>
          rw [Option.isNone_none] at he
          have HB := Lib.hid (ents_bad HE.out hlt2 HC.out)
          clear HE HC hO4
          go_wp2_with fail
          go_ret2
          exact ⟨none, 0, [], false, rfl, ⟨Ens.nil _ _ _, fun ad e => by cases e⟩, hK4, .inr ⟨by rw [HR.out, ← HB.out], none, h4, .inl rfl⟩⟩
        | some r =>
          rw [Option.isNone_some] at he
          have hc := HC.out
          simp only at hc
          clear HC
          by_cases h1d : 1 < d
          · rw [if_pos h1d] at hc
            have HB := Lib.hid (ents_bad HE.out hlt2 hc)
            have hdi : (1 : Int) < d := by omega
            clear HE hc hO4
            go_wp2_with fail
            go_ret2
            exact ⟨none, 0, [], false, rfl, ⟨Ens.nil _ _ _, fun ad e => by cases e⟩, hK4, .inr ⟨by rw [HR.out, ← HB.out], some r, h4, .inl rfl⟩⟩
          · rw [if_neg h1d] at hc
            have HB := Lib.hid (ents_more HE.out hlt2 hc)
            have hrl := rdEnt_len hc
            have hdi : ¬ (1 : Int) < d := by omega
            have hD : Hid ((d == 1) = ((d : Int) == 1)) := (cast_eq d 1).symm
            clear HE hc
            have hsz := hK4.size
            rw [hD.out] at HB
            clear hD
            go_wp2_with (at_builtin; refine wpList_append_lies _ rfl _ _ 51 rfl w.heap.size 79 si _ 3 40 Tryz.underlying51 Hsi.out Sz0.out Sz1.out Sz2.out rfl (by decide) _ _ _ rfl (hO4.alloc _) ⟨w4.heap.size, 0, none⟩ 1 1 [.string nm, .bool ((d : Int) == 1), .string id] rfl rfl (new_cells w4 [.string nm, .bool ((d : Int) == 1), .string id] 79) (by intro u hu; simp at hu; rcases hu with rfl | rfl | rfl <;> rfl) (by decide) (by unfold maxLen; omega) (by omega) (by simp; omega) _ rfl ?_)
            intro g3 cap3 w5 hown hgrow hat hg3
            go_wp2_with fail
            have hge : ∀ q, u4.ownBlock = some q → w.heap.size ≤ q := fun q e1 => own_row_ge hO4 q e1
            refine ⟨⟨T ++ [⟨nm, (d : Int) == 1, id⟩], r, by rw [List.length_append]; simp; omega, by rw [List.length_append]; simp, ?_, ?_, ?_, ?_, HB.out⟩, by simp [intOf]; omega⟩
            · exact RS.kept (RS.below h4 ((Below.refl _ _).alloc (Nat.le_refl _) _)) hgrow (fun e1 => by have := hge g e1.symm; omega)
            · rw [List.length_append, entCells_app]; exact hown
            · exact gb_own (gb_trans hK4 (gb_alloc _)) hgrow hge
            · rw [List.length_append]; simp; omega
      · have hi : ¬ (T.length : Int) < n := by omega
        have HB := Lib.hid (ents_done HE.out hlt2)
        obtain ⟨A, c, rfl, hx⟩ := own_ents hO
        clear HE hO
        go_wp2_with fail
        go_ret2
        exact ⟨A, c, T, true, rfl, hx, hK, .inl ⟨lc, by rw [HR.out, ← HB.out], rfl, hR⟩⟩
end Go.Proofs.YtmikfmcgddmplaaGreatDoor
