/- Texts in one: PBases, OPure, OEncB. -/
import Derived.Test.YthigdhiebogffaaDoorPEnc
import Derived.Deep.AppendLies
import Derived.Deep.RegionLaw
import Derived.StillTailTactics
import Derived.Test.YthigdhiebogffaaDoorIMap
import Derived.Test.YthigdhiebogffaaDoorODec
import Derived.Test.YthigdhiebogffaaDoorOGoodC
/- Bases in memory; (*bases).add: its contract. -/
namespace Go.Proofs.YthigdhiebogffaaDoor
open Go.RowKit

/-- an object that a delta may stand upon -/
structure Pb where
  obj : ByteArray
  index : Nat
  deep : Nat
def bsArr (b : Pb) : Array Value := #[.string b.obj, .int .i64 b.index, .int .i64 b.deep]
def bsCells : List Pb → List Value
  | [] => []
  | b :: l => (bsArr b).toList ++ bsCells l
theorem bsCells_app : ∀ (l : List Pb) (b : Pb), bsCells (l ++ [b]) = bsCells l ++ (bsArr b).toList
  | [], b => by simp [bsCells]
  | x :: l, b => by rw [List.cons_append, bsCells, bsCells_app l b, bsCells, List.append_assoc]
theorem bsCells_len : ∀ l : List Pb, (bsCells l).length = l.length * 3
  | [] => rfl
  | b :: l => by
    rw [bsCells, List.length_append, bsCells_len l, List.length_cons]
    have : (bsArr b).toList.length = 3 := rfl
    omega
theorem bsCells_at : ∀ (l : List Pb) (k j : Nat) (b : Pb), l[k]? = some b → j < 3 → (bsCells l)[k * 3 + j]? = (bsArr b).toList[j]?
  | [], k, j, b, h, _ => by simp at h
  | x :: l, 0, j, b, h, hj => by
    simp at h
    subst h
    rw [bsCells, Nat.zero_mul, Nat.zero_add, List.getElem?_append_left (show j < (bsArr x).toList.length from hj)]
  | x :: l, k + 1, j, b, h, hj => by
    rw [List.getElem?_cons_succ] at h
    have ih := bsCells_at l k j b h hj
    have e : (bsArr x).toList.length = 3 := rfl
    rw [bsCells, List.getElem?_append_right (by omega), show (k + 1) * 3 + j - (bsArr x).toList.length = k * 3 + j from by omega]
    exact ih
theorem info_base : (Tryd.prog.info? 76).map (fun i => (i.zero, i.size, i.bytes)) = some (some (.agg #[.string ⟨#[]⟩, .int .i64 0, .int .i64 0]), 3, 32) := by kernel_rfl
theorem bsInfo (b : Pb) : (Tryd.prog.info? 76).map (·.size) = some (bsArr b).size := by
  rw [show (bsArr b).size = 3 from rfl]
  kernel_rfl
theorem bsArr_one (b : Pb) : (bsArr b).all (·.oneCell') = true := by
  unfold bsArr
  rw [Array.all_eq_true_iff_forall_mem]
  intro v hv
  simp at hv
  rcases hv with rfl | rfl | rfl <;> rfl

def dsArr2 (v : Value) (gm : Nat) : Array Value := #[v, .map (some gm)]
theorem own_not {base : Nat} {e t : TypeId} {size g : Nat} {v : Value} {n : Nat} {xs : List Value} {cs : Array Value} {w : World} (h : w.ownsRow base e size v n xs) (h' : Arr w g t cs) (ht : e ≠ t) : ∀ q, v.ownBlock = some q → ¬ some g = some q := fun q hq e2 => own_ne h h' ht (by rw [hq, ← e2])
/-- bases: the list's row, the map from blocks to places in it -/
structure Bz (base gb gm : Nat) (L : List Pb) (v : Value) (W : World) : Prop where
  box : Arr W gb 107 (dsArr2 v gm)
  row : W.ownsRow base 76 3 v L.length (bsCells L)
  mp : ∃ M, MapI W gm M ∧ ∀ x ∈ M, x.2 < L.length
  hb : gb < base
  hm : gm < base
  hs : base ≤ W.heap.size
section
variable {base gb gm : Nat} {L : List Pb} {v : Value} {W W' : World}
theorem Bz.bel (h : Bz base gb gm L v W) (k : Below W.heap.size W W') : Bz base gb gm L v W' := by
  obtain ⟨M, hM, hv⟩ := h.mp
  exact ⟨h.box.below k h.box.lt, own_kp h.row (Kp.bel k (X := fun _ => False)) (fun _ _ e => e), ⟨M, hM.below k hM.lt, hv⟩, h.hb, h.hm, Nat.le_trans h.hs k.size⟩
theorem Bz.kp (h : Bz base gb gm L v W) {X : Nat → Prop} (k : Kp X W W') (h1 : ¬ X gb) (h2 : ¬ X gm) (h3 : ∀ q, v.ownBlock = some q → ¬ X q) : Bz base gb gm L v W' := by
  obtain ⟨M, hM, hv⟩ := h.mp
  exact ⟨h.box.kp k h1, own_kp h.row k h3, ⟨M, hM.kp k h2, hv⟩, h.hb, h.hm, Nat.le_trans h.hs k.size⟩
end
theorem upI_mem {k : ByteArray} {v : Nat} {l : List KI} {x : KI} (h : x ∈ upI k v l) : x ∈ l ∨ x = (k, v) := by
  unfold upI at h
  split at h
  · rcases List.mem_append.1 h with h | h
    · exact .inl h
    · exact .inr (List.mem_singleton.1 h)
  · rcases List.mem_or_eq_of_mem_set h with h | h
    · exact .inl h
    · exact .inr h
/-- where add stands in its loop -/
def AdRel (base gb gm : Nat) (L : List Pb) (b : Pb) (v : Value) (W : World) (i : Value) (wr : World) : Prop :=
  ∃ (k : Nat) (M : List KI), i = .int .i64 (k : Int) ∧ k ≤ b.obj.size + 16 ∧ Arr wr W.heap.size 76 (bsArr b) ∧ Arr wr gb 107 (dsArr2 v gm) ∧ wr.ownsRow base 76 3 v L.length (bsCells L) ∧
    MapI wr gm M ∧ (∀ x ∈ M, x.2 < L.length + 1) ∧ Kp (fun i => i = gm) W wr
def AdEnd (base gb gm : Nat) (L : List Pb) (b : Pb) (v : Value) (W : World) (x : Ending) (w' : World) : Prop :=
  x = .returned (.tuple #[]) ∧ Kp (fun i => i = gb ∨ i = gm ∨ v.ownBlock = some i) W w' ∧ ∃ v', Bz base gb gm (if 8 ≤ b.deep then L else L ++ [b]) v' w'

set_option maxRecDepth 100000 in
set_option maxHeartbeats 1000000 in
theorem addBase_any {base gb gm : Nat} {L : List Pb} {v : Value} {W : World} (h : Bz base gb gm L v W) (b : Pb) (hb : b.obj.size ≤ 100000) (hl : L.length ≤ 100000) :
    Calls Tryd.prog 39 #[.pointer (some ⟨gb, 0, none⟩), .agg (bsArr b)] W (AdEnd base gb gm L b v W) := by
  obtain ⟨si, hsi, sz0, sz1, sz2⟩ := info_parts info_base
  have Hsi := Lib.hid hsi
  have Sz0 := Lib.hid sz0
  have Sz1 := Lib.hid sz1
  have Sz2 := Lib.hid sz2
  clear hsi sz0 sz1 sz2
  have A0 : Arr (W.alloc (.cells (bsArr b) 76)) W.heap.size 76 (bsArr b) := Arr.new _ _ _
  have b0 : Below W.heap.size W (W.alloc (.cells (bsArr b) 76)) := (Below.refl _ _).alloc (Nat.le_refl _) _
  have h0 := Lib.hid (h.bel b0)
  have hbs := h.hs
  have hbb := h.hb
  have hbm := h.hm
  clear h
  go_enter Tryd.func39, Tryd.ntmps39
  go_upto_region 1 with fail
  refine wp_forget (fun V => Arr V W.heap.size 76 (bsArr b) ∧ Below W.heap.size W V ∧ Bz base gb gm L v V) (by exact ⟨A0, b0, h0.out⟩) ?_
  clear A0 b0 h0
  rintro V ⟨A0, b0, B0⟩
  have c2 : V.cell? ⟨W.heap.size, 2, none⟩ = some (.int .i64 b.deep) := A0.cell 2
  by_cases h8 : 8 ≤ b.deep
  · have hi : (8 : Int) ≤ b.deep := by omega
    go_wp2_with fail
    go_end0
    exact ⟨rfl, Kp.bel b0, v, by rw [if_pos h8]; exact B0⟩
  have hi : ¬ (8 : Int) ≤ b.deep := by omega
  obtain ⟨M0, hM0, hv0⟩ := B0.mp
  have hR0 : Hid (AdRel base gb gm L b v W (.int .i64 0) V) := ⟨0, M0, rfl, by omega, A0, B0.box, B0.row, hM0, (fun x hx => by have := hv0 x hx; omega), Kp.bel b0⟩
  clear A0 B0 hM0 hv0
  go_wp2_with fail
  go_loopw [4] (fun i wr => AdRel base gb gm L b v W i wr) (fun i _ => b.obj.size + 16 - (intOf i).toNat)
  case atStart => exact hR0.out
  case round =>
    clear hR0 c2
    obtain ⟨k, M, rfl, hk, A1, G1, O1, M1, hv, kp⟩ := hrel
    have c0 : wr.cell? ⟨W.heap.size, 0, none⟩ = some (.string b.obj) := A1.cell 0
    have g0 : wr.cell? ⟨gb, 0, none⟩ = some v := G1.cell 0
    have g1 : wr.cell? ⟨gb, 1, none⟩ = some (.map (some gm)) := G1.cell 1
    by_cases hlt : k + 16 ≤ b.obj.size
    · have hj : (k : Int) + 16 ≤ b.obj.size := by omega
      obtain ⟨A, cc, rfl⟩ : ∃ A c, v = .slice A L.length c := by
        rcases O1.2 with ⟨e, h0⟩ | ⟨q, cap, cur, e, _⟩
        · exact ⟨none, 0, by rw [e, h0]⟩
        · exact ⟨_, cap, e⟩
      have hk' : (k : Int) ≤ 100016 := by omega
      go_wp2_with fail
      have s1 : (k : Int) ≤ (k : Int) + 16 := by omega
      have s2 : (k : Int) + 16 ≤ b.obj.size := by omega
      have s3 : ((k : Int) + 16).toNat = k + 16 := by omega
      have s4 : IntKind.i64.wrap ((k : Int) + 16) = (k : Int) + 16 := IntWalk.i64_in _ (by omega)
      go_still_tail 15, (by kernel_rfl)
      refine wpList_upI rfl _ _ _ (.inl rfl) gm M (show MapI wr.drew gm M from M1) rfl (b.obj.extract k (k + 16)) L.length rfl rfl ?_
      intro w2 hM2 g2
      have hgm : gb ≠ gm := fun e => map_arr M1 G1 e.symm
      have hgw : W.heap.size ≠ gm := by omega
      have A2 := A1.drew.kept g2 (fun e => hgw (Option.some.inj e))
      have G2 := G1.drew.kept g2 (fun e => hgm (Option.some.inj e))
      have O2 := own_kp (own_drew O1) (Kp.gb g2) (fun q hq e => by have := own_row_ge O1 q hq; have := Option.some.inj e; omega)
      have kp2 := kp.drew.trans (Kp.gb g2) (fun i _ e => (Option.some.inj e).symm)
      have hv2 : ∀ x ∈ upI (b.obj.extract k (k + 16)) L.length M, x.2 < L.length + 1 := fun x hx => by
        rcases upI_mem hx with h | h
        · exact hv x h
        · rw [h]; exact Nat.lt_succ_self _
      clear A1 G1 O1 M1 hv kp c0 g0 g1
      go_wp2_with fail
      go_roundw
      case rel => exact ⟨k + 16, _, by rw [Int.natCast_add]; rfl, by omega, A2, G2, O2, hM2, hv2, kp2⟩
      case measure => simp [intOf]; omega
    · have hj : ¬ (k : Int) + 16 ≤ b.obj.size := by omega
      have hb16 : (k : Int) ≤ 200000 := by omega
      have cc1 : wr.cell? ⟨W.heap.size, 1, none⟩ = some (.int .i64 b.index) := A1.cell 1
      have cc2 : wr.cell? ⟨W.heap.size, 2, none⟩ = some (.int .i64 b.deep) := A1.cell 2
      have hsz : base ≤ wr.heap.size := Nat.le_trans hbs kp.size
      have hltg := G1.lt
      have hlta := A1.lt
      go_upto_region 6 with fail
      go_region_law (first
        | (refine step_append_lies _ rfl _ _ 105 rfl base 76 si _ 3 32 Tryd.underlying105 Hsi.out Sz0.out Sz1.out Sz2.out rfl (by decide) _ _ _ rfl (World.ownsRow.drew (World.ownsRow.alloc O1 _)) ⟨wr.heap.size, 0, none⟩ 1 1 (bsArr b).toList rfl rfl (new_cells wr (bsArr b).toList 76) (by intro u hu; simp [bsArr] at hu; rcases hu with rfl | rfl | rfl <;> rfl) (by decide) (by unfold maxLen; omega) (by omega) (by simp; omega) _ rfl ?_
           intro g3 cap3 w3 hown hgrow hat hg3
           have G3 := (G1.alloc (.cells (bsArr b) 76)).drew.kept hgrow (fun e => by have := own_row_ge O1 _ e.symm; omega)
           have g3c : w3.cell? ⟨gb, 0, none⟩ = some v := G3.cell 0
           have g3f := G3.free 0))
      all_goals
        go_end0
        have k4 : w3.grownBy (w3.setCell ⟨gb, 0, none⟩ (.slice (some ⟨g3, 0, none⟩) (L.length + 1) cap3)) (some gb) := gb_set _ _ _
        have kp3 : Kp (fun i => i = gb ∨ i = gm ∨ v.ownBlock = some i) W w3 := (((kp.mono (fun i _ e => .inr (.inl e))).trans (Kp.gb (gb_alloc (r := none) _)) (fun i _ e => by cases e)).drew).trans (Kp.gb hgrow) (fun i _ e => .inr (.inr e))
        have hgm : gm ≠ gb := fun e => map_arr M1 G1 e
        have M3 : MapI w3 gm M := ((show MapI (wr.alloc (.cells (bsArr b) 76)).drew gm M from (Below.heap_alloc wr _ gm M1.lt).trans M1)).kept hgrow (fun e => by have := own_row_ge O1 _ e.symm; omega)
        have hg3b : base ≤ g3 := own_row_ge hown g3 rfl
        refine ⟨rfl, kp3.trans (Kp.gb k4) (fun i _ e => .inl (Option.some.inj e).symm), .slice (some ⟨g3, 0, none⟩) (L.length + 1) cap3, ?_⟩
        rw [if_neg h8]
        refine ⟨G3.put 0 _, ?_, ⟨M, M3.kept k4 (fun e => hgm (Option.some.inj e)), by rw [List.length_append]; exact hv⟩, hbb, hbm, Nat.le_trans hbs (Nat.le_trans kp3.size k4.size)⟩
        rw [List.length_append, bsCells_app]
        exact own_kp hown (Kp.gb k4) (fun q hq e => by have h1 : g3 = q := Option.some.inj hq; have := Option.some.inj e; omega)
end Go.Proofs.YthigdhiebogffaaDoor

/- Writing and reading an object's bytes undo one another: plain facts. -/
namespace Go.Proofs.YthigdhiebogffaaDoor
open Go.RowKit

theorem rdText_txt (s : ByteArray) (h : s.size ≤ 4096) (r : List UInt8) : rdText (txt s ++ r) = some (s, r) := by
  unfold rdText txt
  rw [List.append_assoc, rdNum_num _ (by omega)]
  have e : s.data.toList.length = s.size := rfl
  simp only
  rw [if_pos ⟨h, by rw [List.length_append]; omega⟩, ← e, List.take_left', List.drop_left', bs_of] <;> rfl
theorem rdId_id (s : ByteArray) (h : s.size = 32) (r : List UInt8) : rdId (s.data.toList ++ r) = some (s, r) := by
  unfold rdId
  have e : s.data.toList.length = 32 := h
  rw [if_pos (by rw [List.length_append]; omega), List.take_left' e, List.drop_left' e, bs_of]
theorem rdPars_pars : ∀ (T : List ByteArray), (∀ e ∈ T, e.size = 32) → ∀ r, rdPars T.length (parsL T ++ r) = some (T, r)
  | [], _, r => rfl
  | p :: T, h, r => by
    rw [List.length_cons, rdPars, parsL, List.append_assoc, rdId_id p (h p (by simp))]
    simp only
    rw [rdPars_pars T (fun e he => h e (by simp [he])) r]
theorem dir_back (d : Bool) : (dirN d == 1) = d := by cases d <;> rfl
theorem rdEnt_ent (e : Ent) (h : e.name.size ≤ 60 ∧ e.id.size = 32) (r : List UInt8) : rdEnt (entL e ++ r) = some (e, r) := by
  unfold rdEnt entL
  have hd : dirN e.dir ≤ 1 := by unfold dirN; split <;> omega
  rw [List.append_assoc, List.append_assoc, rdText_txt _ (by omega)]
  simp only
  rw [rdNum_num _ (by omega)]
  simp only
  rw [rdId_id _ h.2]
  simp only
  rw [if_neg (by omega), dir_back]
theorem rdEnts_ents : ∀ (T : List Ent), (∀ e ∈ T, e.name.size ≤ 60 ∧ e.id.size = 32) → ∀ r, rdEnts T.length (entsL T ++ r) = some (T, r)
  | [], _, r => rfl
  | p :: T, h, r => by
    rw [List.length_cons, rdEnts, entsL, List.append_assoc, rdEnt_ent p (h p (by simp))]
    simp only
    rw [rdEnts_ents T (fun e he => h e (by simp [he])) r]
theorem stTxt_txt (s : ByteArray) (h : s.size ≤ 4096) (r : List UInt8) : stTxt (some (txt s ++ r)) = (s, some r) := by simp [stTxt, rdText_txt s h r]
theorem stNum_num (n : Nat) (h : n < 4611686018427387904) (r : List UInt8) : stNum (some (num n ++ r)) = (n, some r) := by simp [stNum, rdNum_num n h r]
theorem stId_id (s : ByteArray) (h : s.size = 32) (r : List UInt8) : stId (some (s.data.toList ++ r)) = (s, some r) := by simp [stId, rdId_id s h r]
theorem stPars_pars (T : List ByteArray) (hl : T.length ≤ 4) (h : ∀ e ∈ T, e.size = 32) (r : List UInt8) : stPars (some (num T.length ++ (parsL T ++ r))) = (T, some r) := by
  unfold stPars
  rw [stNum_num _ (by omega)]
  simp only
  rw [rdPars_pars T h r]
theorem nilB_eq {s : ByteArray} (h : nilB s = true) : s = ⟨#[]⟩ := (nilB_iff s).1 h
theorem rdFields_fields {o : Ob} (h : GoodF o) (r : List UInt8) : rdFields o.kind (fieldsL o ++ r) = some (o, r) := by
  have hs := h.stray
  have h1 := h.data
  have h2 := h.who
  have h3 := h.note
  have h4 := h.pars
  have h5 := parsE_all _ _ h.ids
  have h6 := entsB_all _ _ h.each
  have h7 := h.ents
  have h8 := h.tree
  have h9 := h.target
  have h10 := h.early
  have h11 := h.late
  have hk := h.kind
  clear h
  obtain ⟨k, data, ents, tree, pars, who, note, time, target⟩ := o
  simp only at *
  unfold strayB at hs
  unfold fieldsL rdFields
  simp only at *
  rcases hk with rfl | rfl | rfl | rfl
  · simp at hs
    obtain ⟨⟨⟨rfl, ⟨⟨b1, rfl⟩, rfl⟩⟩, b2⟩, b3, b4⟩ := hs
    rw [if_pos rfl, if_pos rfl, stTxt_txt _ h1]
    simp only
    rw [nilB_eq b1, nilB_eq b2, nilB_eq b3, nilB_eq b4]
  · simp at hs
    obtain ⟨⟨⟨b0, ⟨⟨b1, rfl⟩, rfl⟩⟩, b2⟩, b3, b4⟩ := hs
    rw [if_neg (by decide), if_pos rfl, if_neg (by decide), if_pos rfl]
    unfold rdEntsS
    rw [List.append_assoc, stNum_num _ (by omega)]
    simp only
    rw [rdEnts_ents ents h6 r]
    simp only
    rw [nilB_eq b0, nilB_eq b1, nilB_eq b2, nilB_eq b3, nilB_eq b4]
  · simp at hs
    obtain ⟨⟨b0, rfl⟩, b1⟩ := hs
    rw [if_neg (by decide), if_neg (by decide), if_pos rfl, if_neg (by decide), if_neg (by decide), if_pos rfl]
    simp only [List.append_assoc]
    rw [stId_id _ (h8 rfl)]
    simp only
    rw [stPars_pars _ h4 h5]
    simp only
    rw [stTxt_txt _ h2]
    simp only
    rw [stNum_num _ (by omega)]
    simp only
    rw [stTxt_txt _ h3]
    simp only
    rw [nilB_eq b0, nilB_eq b1, show ((time.toNat : Nat) : Int) = time from by omega]
  · simp at hs
    obtain ⟨⟨b0, rfl⟩, ⟨b1, rfl⟩, rfl⟩ := hs
    rw [if_neg (by decide), if_neg (by decide), if_neg (by decide), if_neg (by decide), if_neg (by decide), if_neg (by decide)]
    simp only [List.append_assoc]
    rw [stId_id _ (h9 rfl)]
    simp only
    rw [stTxt_txt _ h2]
    simp only
    rw [stTxt_txt _ h3]
    simp only
    rw [nilB_eq b0, nilB_eq b1]

theorem num_rd {l r : List UInt8} {n : Nat} (h : rdNum l = some (n, r)) : l = num n ++ r := by
  unfold rdNum at h
  cases hg : got l with
  | none => simp [hg] at h
  | some y =>
    obtain ⟨m, k⟩ := y
    simp only [hg, Option.some.injEq, Prod.mk.injEq] at h
    have hk := (got_some l m k hg).2.1
    rw [← h.1, hk, ← h.2, List.take_append_drop]
theorem text_rd {l r : List UInt8} {t : ByteArray} (h : rdText l = some (t, r)) : l = txt t ++ r := by
  unfold rdText at h
  cases hg : rdNum l with
  | none => simp [hg] at h
  | some y =>
    obtain ⟨n, r1⟩ := y
    simp only [hg] at h
    split at h
    · rename_i hc
      simp only [Option.some.injEq, Prod.mk.injEq] at h
      rw [num_rd hg, ← h.1, ← h.2]
      unfold txt
      rw [bs_size, bs_list, List.length_take, Nat.min_eq_left hc.2, List.append_assoc, List.take_append_drop]
    · cases h
theorem id_rd {l r : List UInt8} {t : ByteArray} (h : rdId l = some (t, r)) : l = t.data.toList ++ r := by
  unfold rdId at h
  split at h
  · simp only [Option.some.injEq, Prod.mk.injEq] at h
    rw [← h.1, ← h.2, bs_list, List.take_append_drop]
  · cases h
theorem pars_rd : ∀ (n : Nat) (l r : List UInt8) (T : List ByteArray), rdPars n l = some (T, r) → l = parsL T ++ r ∧ T.length = n
  | 0, l, r, T, h => by
    rw [rdPars] at h
    simp only [Option.some.injEq, Prod.mk.injEq] at h
    rw [← h.1, ← h.2]
    exact ⟨rfl, rfl⟩
  | n + 1, l, r, T, h => by
    rw [rdPars] at h
    cases h1 : rdId l with
    | none => simp [h1] at h
    | some y =>
      obtain ⟨p, r1⟩ := y
      simp only [h1] at h
      cases h2 : rdPars n r1 with
      | none => simp [h2] at h
      | some z =>
        obtain ⟨T2, r2⟩ := z
        simp only [h2, Option.some.injEq, Prod.mk.injEq] at h
        obtain ⟨e1, e2⟩ := pars_rd n r1 r2 T2 h2
        rw [← h.1, ← h.2, id_rd h1, e1, parsL, List.append_assoc, List.length_cons, e2]
        exact ⟨rfl, rfl⟩
theorem ent_rd {l r : List UInt8} {e : Ent} (h : rdEnt l = some (e, r)) : l = entL e ++ r := by
  unfold rdEnt at h
  cases h1 : rdText l with
  | none => simp [h1] at h
  | some y1 =>
    obtain ⟨nm, l1⟩ := y1
    simp only [h1] at h
    cases h2 : rdNum l1 with
    | none => simp [h2] at h
    | some y2 =>
      obtain ⟨d, l2⟩ := y2
      simp only [h2] at h
      cases h3 : rdId l2 with
      | none => simp [h3] at h
      | some y3 =>
        obtain ⟨id, l3⟩ := y3
        simp only [h3] at h
        split at h
        · cases h
        · rename_i hd
          simp only [Option.some.injEq, Prod.mk.injEq] at h
          rw [← h.1, ← h.2, text_rd h1, num_rd h2, id_rd h3]
          unfold entL
          have e : dirN (d == 1) = d := by
            obtain rfl | rfl : d = 0 ∨ d = 1 := by omega
            · rfl
            · rfl
          simp only [e, List.append_assoc]
theorem ents_rd : ∀ (n : Nat) (l r : List UInt8) (T : List Ent), rdEnts n l = some (T, r) → l = entsL T ++ r ∧ T.length = n
  | 0, l, r, T, h => by
    rw [rdEnts] at h
    simp only [Option.some.injEq, Prod.mk.injEq] at h
    rw [← h.1, ← h.2]
    exact ⟨rfl, rfl⟩
  | n + 1, l, r, T, h => by
    rw [rdEnts] at h
    cases h1 : rdEnt l with
    | none => simp [h1] at h
    | some y =>
      obtain ⟨p, r1⟩ := y
      simp only [h1] at h
      cases h2 : rdEnts n r1 with
      | none => simp [h2] at h
      | some z =>
        obtain ⟨T2, r2⟩ := z
        simp only [h2, Option.some.injEq, Prod.mk.injEq] at h
        obtain ⟨e1, e2⟩ := ents_rd n r1 r2 T2 h2
        rw [← h.1, ← h.2, ent_rd h1, e1, entsL, List.append_assoc, List.length_cons, e2]
        exact ⟨rfl, rfl⟩
theorem stTxt_some {s : St} {r : List UInt8} (h : (stTxt s).2 = some r) : ∃ l, s = some l ∧ l = txt (stTxt s).1 ++ r := by
  cases s with
  | none => cases h
  | some l =>
    refine ⟨l, rfl, ?_⟩
    cases h1 : rdText l with
    | none => simp [stTxt, h1] at h
    | some y =>
      obtain ⟨t, r1⟩ := y
      simp [stTxt, h1] at h
      subst h
      rw [show stTxt (some l) = (t, some r1) from by simp [stTxt, h1]]
      exact text_rd h1
theorem stNum_some {s : St} {r : List UInt8} (h : (stNum s).2 = some r) : ∃ l, s = some l ∧ l = num (stNum s).1 ++ r := by
  cases s with
  | none => cases h
  | some l =>
    refine ⟨l, rfl, ?_⟩
    cases h1 : rdNum l with
    | none => simp [stNum, h1] at h
    | some y =>
      obtain ⟨t, r1⟩ := y
      simp [stNum, h1] at h
      subst h
      rw [show stNum (some l) = (t, some r1) from by simp [stNum, h1]]
      exact num_rd h1
theorem stId_some {s : St} {r : List UInt8} (h : (stId s).2 = some r) : ∃ l, s = some l ∧ l = (stId s).1.data.toList ++ r := by
  cases s with
  | none => cases h
  | some l =>
    refine ⟨l, rfl, ?_⟩
    cases h1 : rdId l with
    | none => simp [stId, h1] at h
    | some y =>
      obtain ⟨t, r1⟩ := y
      simp [stId, h1] at h
      subst h
      rw [show stId (some l) = (t, some r1) from by simp [stId, h1]]
      exact id_rd h1
theorem stPars_some {s : St} {r : List UInt8} (h : (stPars s).2 = some r) : ∃ l, s = some l ∧ l = num (stPars s).1.length ++ (parsL (stPars s).1 ++ r) := by
  unfold stPars at *
  cases h1 : (stNum s).2 with
  | none => simp [h1] at h
  | some l1 =>
    obtain ⟨l, e1, e2⟩ := stNum_some h1
    refine ⟨l, e1, ?_⟩
    simp only [h1] at h ⊢
    cases h2 : rdPars (stNum s).1 l1 with
    | none => simp [h2] at h
    | some y =>
      obtain ⟨T, r1⟩ := y
      simp only [h2, Option.some.injEq] at h ⊢
      obtain ⟨e3, e4⟩ := pars_rd _ _ _ _ h2
      rw [e4, ← h, ← e3]
      exact e2
theorem fields_rd {k : Int} {l r : List UInt8} {o : Ob} (hk : k = 1 ∨ k = 2 ∨ k = 3 ∨ k = 4) (h : rdFields k l = some (o, r)) : l = fieldsL o ++ r ∧ o.kind = k := by
  unfold rdFields at h
  rcases hk with rfl | rfl | rfl | rfl
  · rw [if_pos rfl] at h
    cases h1 : (stTxt (some l)).2 with
    | none => simp [h1] at h
    | some r1 =>
      simp only [h1, Option.some.injEq, Prod.mk.injEq] at h
      obtain ⟨l', e1, e2⟩ := stTxt_some h1
      cases e1
      rw [← h.1, ← h.2]
      exact ⟨e2, rfl⟩
  · rw [if_neg (by decide), if_pos rfl] at h
    unfold rdEntsS at h
    cases h1 : (stNum (some l)).2 with
    | none => simp [h1] at h
    | some r1 =>
      simp only [h1] at h
      obtain ⟨l', e1, e2⟩ := stNum_some h1
      cases e1
      cases h2 : rdEnts (stNum (some l)).1 r1 with
      | none => simp [h2] at h
      | some y =>
        obtain ⟨L, r2⟩ := y
        simp only [h2, Option.some.injEq, Prod.mk.injEq] at h
        obtain ⟨e3, e4⟩ := ents_rd _ _ _ _ h2
        rw [← h.1, ← h.2]
        refine ⟨?_, rfl⟩
        unfold fieldsL
        rw [if_neg (by simp), if_pos rfl]
        simp only
        rw [e4, List.append_assoc, ← e3]
        exact e2
  · rw [if_neg (by decide), if_neg (by decide), if_pos rfl] at h
    cases h5 : (stTxt (stNum (stTxt (stPars (stId (some l)).2).2).2).2).2 with
    | none => simp [h5] at h
    | some r5 =>
      simp only [h5, Option.some.injEq, Prod.mk.injEq] at h
      obtain ⟨l4, e4, f5⟩ := stTxt_some h5
      obtain ⟨l3, e3, f4⟩ := stNum_some e4
      obtain ⟨l2, e2, f3⟩ := stTxt_some e3
      obtain ⟨l1, e1, f2⟩ := stPars_some e2
      obtain ⟨l0, e0, f1⟩ := stId_some e1
      cases e0
      rw [← h.1, ← h.2]
      refine ⟨?_, rfl⟩
      unfold fieldsL
      rw [if_neg (by simp), if_neg (by simp), if_pos rfl]
      simp only [List.append_assoc, Int.toNat_natCast]
      rw [← f5, ← f4, ← f3, ← f2]
      exact f1
  · rw [if_neg (by decide), if_neg (by decide), if_neg (by decide)] at h
    cases h5 : (stTxt (stTxt (stId (some l)).2).2).2 with
    | none => simp [h5] at h
    | some r5 =>
      simp only [h5, Option.some.injEq, Prod.mk.injEq] at h
      obtain ⟨l4, e4, f5⟩ := stTxt_some h5
      obtain ⟨l3, e3, f4⟩ := stTxt_some e4
      obtain ⟨l0, e0, f1⟩ := stId_some e3
      cases e0
      rw [← h.1, ← h.2]
      refine ⟨?_, rfl⟩
      unfold fieldsL
      rw [if_neg (by simp), if_neg (by simp), if_neg (by simp)]
      simp only [List.append_assoc]
      rw [← f5, ← f4]
      exact f1

/-- what has bytes is read as it was -/
theorem dec_enc {o : Ob} (hg : good o = 0) (hl : (encL o).length ≤ 8192) : decO (encL o) = (o, 0) := by
  have hF := good_facts hg
  have hk := hF.kind
  have e := rdFields_fields hF []
  rw [List.append_nil] at e
  unfold decO
  rw [if_neg (by omega)]
  unfold encL
  rw [rdNum_num _ (by omega)]
  simp only
  rw [show ((o.kind.toNat : Nat) : Int) = o.kind from by omega, if_neg (by unfold kindB; rcases hk with h | h | h | h <;> rw [h] <;> decide), e]
  simp only
  rw [if_neg (by simp), if_neg (by simp [hg])]
/-- what is read has just these bytes -/
theorem dec_only {l : List UInt8} (h : (decO l).2 = 0) : l = encL (decO l).1 ∧ good (decO l).1 = 0 ∧ l.length ≤ 8192 := by
  obtain ⟨R, hR⟩ : ∃ R, R = decO l := ⟨_, rfl⟩
  rw [← hR] at h ⊢
  unfold decO at hR
  split at hR
  · rw [hR] at h; cases h
  · rename_i hl
    cases h1 : rdNum l with
    | none => rw [h1] at hR; rw [hR] at h; cases h
    | some y =>
      obtain ⟨n, r⟩ := y
      rw [h1] at hR
      simp only at hR
      split at hR
      · rw [hR] at h; cases h
      · rename_i hk
        have hk2 : kindB (n : Int) = true := by cases hq : kindB (n : Int) with | false => exact absurd hq hk | true => rfl
        have hkc := kindB_cases hk2
        cases h2 : rdFields (n : Int) r with
        | none => rw [h2] at hR; rw [hR] at h; cases h
        | some z =>
          obtain ⟨o, rest⟩ := z
          rw [h2] at hR
          simp only at hR
          split at hR
          · rw [hR] at h; cases h
          · rename_i h3
            split at hR
            · rename_i h4; rw [hR] at h; exact absurd h h4
            · rename_i h4
              rw [hR]
              obtain ⟨e1, e2⟩ := fields_rd hkc h2
              have hr0 : rest = [] := List.eq_nil_of_length_eq_zero (by omega)
              rw [hr0, List.append_nil] at e1
              refine ⟨?_, by simpa using h4, by omega⟩
              simp only
              unfold encL
              rw [← e1, e2, Int.toNat_natCast]
              exact num_rd h1
theorem dec_none {l : List UInt8} (h : (decO l).2 ≠ 0) : (decO l).1 = Ob.none := by
  obtain ⟨R, hR⟩ : ∃ R, R = decO l := ⟨_, rfl⟩
  rw [← hR] at h ⊢
  unfold decO at hR
  split at hR
  · rw [hR]
  · cases h1 : rdNum l with
    | none => rw [h1] at hR; rw [hR]
    | some y =>
      obtain ⟨n, r⟩ := y
      rw [h1] at hR
      simp only at hR
      split at hR
      · rw [hR]
      · cases h2 : rdFields (n : Int) r with
        | none => rw [h2] at hR; rw [hR]
        | some z =>
          obtain ⟨o, rest⟩ := z
          rw [h2] at hR
          simp only at hR
          split at hR
          · rw [hR]
          · split at hR
            · rw [hR]
            · rw [hR] at h; exact absurd rfl h
/-- nothing is read of bytes with more behind -/
theorem dec_more {o : Ob} (hg : good o = 0) (x : List UInt8) (hx : x ≠ []) : (decO (encL o ++ x)).2 ≠ 0 := by
  intro h
  obtain ⟨e, hg2, hl⟩ := dec_only h
  generalize (decO (encL o ++ x)).1 = o2 at *
  have hF := good_facts hg
  have hF2 := good_facts hg2
  have k1 := hF.kind
  have k2 := hF2.kind
  have e1 := rdFields_fields hF x
  have e2 := rdFields_fields hF2 []
  rw [List.append_nil] at e2
  have n1 : rdNum (encL o ++ x) = some (o.kind.toNat, fieldsL o ++ x) := by unfold encL; rw [List.append_assoc, rdNum_num _ (by omega)]
  have n2 : rdNum (encL o2) = some (o2.kind.toNat, fieldsL o2) := by unfold encL; rw [rdNum_num _ (by omega)]
  rw [e, n2] at n1
  simp only [Option.some.injEq, Prod.mk.injEq] at n1
  have ek : o2.kind = o.kind := by have := n1.1; omega
  rw [← n1.2, ← ek, e2] at e1
  simp only [Option.some.injEq, Prod.mk.injEq] at e1
  exact hx e1.2.symm
end Go.Proofs.YthigdhiebogffaaDoor

/- object.Encode: its contract. -/
namespace Go.Proofs.YthigdhiebogffaaDoor
open Go.RowKit

/-- an object's box beside a writer -/
def Bw (g b : Nat) (o : Ob) (p : At) (W : World) : Prop := Arr W b 60 (obArr o p) ∧ b ≠ g ∧ b < W.heap.size
theorem Bw.kept {g b : Nat} {o : Ob} {p : At} {W W' : World} (h : Bw g b o p W) (k : W.grownBy W' (some g)) : Bw g b o p W' :=
  ⟨h.1.kept k (fun e => h.2.1 (by cases e; rfl)), h.2.1, Nat.lt_of_lt_of_le h.2.2 k.size⟩
theorem encL_len {o : Ob} (h : GoodF o) : (encL o).length ≤ 100000 := by
  have n1 := num_len3 o.pars.length (by have := h.pars; omega)
  have n2 := parsL_len o.pars (parsE_all _ _ h.ids)
  have n3 := txt_len o.who h.who
  have n4 := txt_len o.note h.note
  have n5 := txt_len o.data h.data
  have n6 := num_len9 o.time.toNat (by have := h.late; omega)
  have n7 := num_len3 o.ents.length (by have := h.ents; omega)
  have n8 := entsL_len o.ents (entsB_all _ _ h.each)
  have n9 := num_len3 o.kind.toNat (by have := h.kind; omega)
  have := h.ents
  have := h.pars
  unfold encL fieldsL
  rcases h.kind with hk | hk | hk | hk
  · rw [if_pos hk, List.length_append]; omega
  · rw [if_neg (by omega), if_pos hk]; simp only [List.length_append]; omega
  · rw [if_neg (by omega), if_neg (by omega), if_pos hk]
    have e : o.tree.data.toList.length = 32 := h.tree hk
    simp only [List.length_append]; omega
  · rw [if_neg (by omega), if_neg (by omega), if_neg (by omega)]
    have e : o.target.data.toList.length = 32 := h.target hk
    simp only [List.length_append]; omega
theorem wl_new (w : World) : WL (w.alloc (.cells #[.pointer none, .int .i64 0, .int .i64 0] 65)) w.heap.size [] := ⟨[], ⟨.pointer none, Arr.new _ _ _, rfl⟩, rfl⟩
/-- where Encode stands, its writer made -/
def EW (w : World) (g : Nat) (o : Ob) (p : At) (l : List UInt8) (W : World) : Prop :=
  Bx w o p W ∧ WL W g l ∧ w.heap.size < g
theorem EW.wrote {w W W' : World} {g : Nat} {o : Ob} {p : At} {l l' : List UInt8} (h : EW w g o p l W) (h' : WL W' g l') (k : W.grownBy W' (some g)) : EW w g o p l' W' :=
  ⟨⟨h.1.1.kept k (fun e => by cases e; exact Nat.lt_irrefl _ h.2.2), h.1.2.1.below (below_gb (Below.refl _ _) k (Nat.le_of_lt h.2.2) h.1.2.2.size), below_gb h.1.2.2 k (Nat.le_of_lt h.2.2) h.1.2.2.size⟩, h', h.2.2⟩

end Go.Proofs.YthigdhiebogffaaDoor
