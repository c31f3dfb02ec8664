/- keep.StepSealed: its walk. -/
import Derived.Test.YtchpgngphgjmnaaDoorSpSearch
import Derived.Test.YtchpgngphgjmnaaDoorTake
namespace Go.Proofs.YtchpgngphgjmnaaDoor
open Go.RowKit

/-- where the signing stands: the step's box, the keys' block -/
structure Zs (w : World) (q2 : Nat) (i : Int) (s : Sp) (K : List ByteArray) (need : Int) (ka : Option Addr) (kc : Nat) (S : Sp) (p : SpAt) (W : World) : Prop where
  box : Arr W w.heap.size 25 (spArr S p)
  inn : SpIn W W.heap.size S p
  far : FarP p w.heap.size
  key : Arr W q2 39 (kyArr ⟨K, [], need⟩ ⟨ka, kc, none, 0⟩)
  bel : Below w.heap.size w W
  l0 : w.heap.size < q2
  ok : Sealed1 K i s S
theorem spZ_bare (s : Sp) (w : World) (B : Nat) : SpIn w B (bare s) pZ := ⟨NumsA.nil _ _ _, Txs.nil _ _ _, Nat.le_refl _, Nat.le_refl _⟩
theorem Zs.below {w W W' : World} {q2 : Nat} {i : Int} {s : Sp} {K : List ByteArray} {need : Int} {ka : Option Addr} {kc : Nat} {S : Sp} {p : SpAt} (h : Zs w q2 i s K need ka kc S p W) (b : Below W.heap.size W W') : Zs w q2 i s K need ka kc S p W' :=
  ⟨h.box.below b h.box.lt, (h.inn.below b).mono b.size, h.far, h.key.below b h.key.lt, h.bel.trans (b.mono h.bel.size), h.l0, h.ok⟩
theorem Zs.need {w W : World} {q2 : Nat} {i : Int} {s : Sp} {K : List ByteArray} {n m : Int} {ka : Option Addr} {kc : Nat} {S : Sp} {p : SpAt} (h : Zs w q2 i s K n ka kc S p W) (hx : ∀ ad, p.wa = some ad → ad.block ≠ q2) (hy : ∀ ad, p.sa = some ad → ad.block ≠ q2) :
    Zs w q2 i s K m ka kc S p (W.setCell ⟨q2, 2, none⟩ (.int .i64 m)) := by
  have l0 := h.l0
  have k := gb_set (w := W) q2 2 (.int .i64 m)
  refine ⟨h.box.kept k (fun e => by have := Option.some.inj e; omega), ?_, h.far, h.key.put 2 _, below_gb h.bel k (by omega) h.bel.size, l0, h.ok⟩
  refine ⟨fun j x hx' => ?_, fun j x hx' => ?_, h.inn.wroom, h.inn.sroom⟩
  · obtain ⟨ad, e, hb, hc⟩ := h.inn.nums j x hx'
    have e3 : (ad.add j).block = ad.block := by unfold Addr.add; split <;> rfl
    exact ⟨ad, e, Nat.lt_of_lt_of_le hb k.size, (World.cell?_of_block (k.block _ hb (fun e2 => hx ad e (by have := Option.some.inj e2; omega)))).trans hc⟩
  · obtain ⟨ad, e, hb, hc⟩ := h.inn.txs j x hx'
    have e3 : (ad.add j).block = ad.block := by unfold Addr.add; split <;> rfl
    exact ⟨ad, e, Nat.lt_of_lt_of_le hb k.size, (World.cell?_of_block (k.block _ hb (fun e2 => hy ad e (by have := Option.some.inj e2; omega)))).trans hc⟩
def ZsRel (w : World) (q2 : Nat) (i : Int) (s : Sp) (K : List ByteArray) (ka : Option Addr) (kc : Nat) (v : Value) (wr : World) : Prop :=
  ∃ (k : Nat) (S : Sp) (p : SpAt), k ≤ 8 ∧ v = .int .i64 (k : Int) ∧ Zs w q2 i s K 0 ka kc S p wr ∧ (∀ ad, p.wa = some ad → ad.block ≠ q2) ∧ ∀ ad, p.sa = some ad → ad.block ≠ q2
theorem wp_six {P : Program} {c : Code} {K : Act → World → Prop} {Q : Exit → Act → World → Prop} {a : Act} {w : World} {act : Option Addr → Nat → Option Addr → Nat → Nat → Act} (R : Option Addr → Nat → Option Addr → Nat → Nat → World → Prop)
    (h : ∀ K' : Act → World → Prop, (∀ A c A2 c2 q V, R A c A2 c2 q V → K' (act A c A2 c2 q) V) → c.wp P (Exit.then K' Q) a w) (k : ∀ A c A2 c2 q V, R A c A2 c2 q V → Exit.then K Q .normal (act A c A2 c2 q) V) : c.wp P (Exit.then K Q) a w := h K k
/-- behind a signature: the next step in a block of its own -/
structure Zn (w : World) (q2 : Nat) (i : Int) (s : Sp) (K : List ByteArray) (ka : Option Addr) (kc : Nat) (S : Sp) (p : SpAt) (R : Sp) (q : Nat) (p2 : SpAt) (W : World) : Prop where
  old : Zs w q2 i s K 0 ka kc S p W
  arr : Arr W q 25 (spArr R p2)
  inn : SpIn W W.heap.size R p2
  far : FarP p2 q2
theorem Zn.made {w W U : World} {q2 : Nat} {i : Int} {s : Sp} {K : List ByteArray} {ka : Option Addr} {kc : Nat} {S : Sp} {p : SpAt} {R : Sp} {xa ya : Option Addr} {xc yc : Nat} (h : Zs w q2 i s K 0 ka kc S p W) (b : Below W.heap.size W U) (hI : SpIn U U.heap.size R ⟨xa, xc, ya, yc⟩)
    (f1 : ∀ ad, xa = some ad → W.heap.size ≤ ad.block) (f2 : ∀ ad, ya = some ad → W.heap.size ≤ ad.block) :
    Zn w q2 i s K ka kc S p R U.heap.size ⟨xa, xc, ya, yc⟩ (U.alloc (.cells #[.string R.ref, .string R.old, .string R.new, .slice xa R.who.length xc, .slice ya R.seals.length yc] 25)) := by
  have l2 := h.key.lt
  have bz : Below U.heap.size U (U.alloc (.cells #[.string R.ref, .string R.old, .string R.new, .slice xa R.who.length xc, .slice ya R.seals.length yc] 25)) := (Below.refl _ _).alloc (Nat.le_refl _) _
  exact ⟨h.below (b.trans (bz.mono b.size)), Arr.new _ _ _, hI.up bz, ⟨fun ad e => by have := f1 ad e; omega, fun ad e => by have := f2 ad e; omega⟩⟩
theorem Zn.made2 {w W U : World} {q2 : Nat} {i : Int} {s : Sp} {K : List ByteArray} {ka : Option Addr} {kc : Nat} {S : Sp} {p : SpAt} {R : Sp} {xa ya : Option Addr} {xc yc : Nat} (h : Zs w q2 i s K 0 ka kc S p W) (b : Below (W.alloc (.cells #[.string ⟨#[]⟩, .string ⟨#[]⟩, .string ⟨#[]⟩, .slice none 0 0, .slice none 0 0] 25)).heap.size (W.alloc (.cells #[.string ⟨#[]⟩, .string ⟨#[]⟩, .string ⟨#[]⟩, .slice none 0 0, .slice none 0 0] 25)) U) (hI : SpIn U U.heap.size R ⟨xa, xc, ya, yc⟩)
    (f1 : ∀ ad, xa = some ad → (W.alloc (.cells #[.string ⟨#[]⟩, .string ⟨#[]⟩, .string ⟨#[]⟩, .slice none 0 0, .slice none 0 0] 25)).heap.size ≤ ad.block) (f2 : ∀ ad, ya = some ad → (W.alloc (.cells #[.string ⟨#[]⟩, .string ⟨#[]⟩, .string ⟨#[]⟩, .slice none 0 0, .slice none 0 0] 25)).heap.size ≤ ad.block) :
    Arr U W.heap.size 25 #[.string ⟨#[]⟩, .string ⟨#[]⟩, .string ⟨#[]⟩, .slice none 0 0, .slice none 0 0] ∧ Zn w q2 i s K ka kc S p R W.heap.size ⟨xa, xc, ya, yc⟩ (((((U.setCell ⟨W.heap.size, 0, none⟩ (.string R.ref)).setCell ⟨W.heap.size, 1, none⟩ (.string R.old)).setCell ⟨W.heap.size, 2, none⟩ (.string R.new)).setCell ⟨W.heap.size, 3, none⟩ (.slice xa R.who.length xc)).setCell ⟨W.heap.size, 4, none⟩ (.slice ya R.seals.length yc)) := by
  have l2 := h.key.lt
  have A0 : Arr (W.alloc (.cells #[.string ⟨#[]⟩, .string ⟨#[]⟩, .string ⟨#[]⟩, .slice none 0 0, .slice none 0 0] 25)) W.heap.size 25 #[.string ⟨#[]⟩, .string ⟨#[]⟩, .string ⟨#[]⟩, .slice none 0 0, .slice none 0 0] := Arr.new _ _ _
  have bw : Below W.heap.size W (W.alloc (.cells #[.string ⟨#[]⟩, .string ⟨#[]⟩, .string ⟨#[]⟩, .slice none 0 0, .slice none 0 0] 25)) := (Below.refl _ _).alloc (Nat.le_refl _) _
  have ls : W.heap.size < (W.alloc (.cells #[.string ⟨#[]⟩, .string ⟨#[]⟩, .string ⟨#[]⟩, .slice none 0 0, .slice none 0 0] 25)).heap.size := A0.lt
  have A1 := A0.below b A0.lt
  have A5 := ((((A1.put 0 (.string R.ref)).put 1 (.string R.old)).put 2 (.string R.new)).put 3 (.slice xa R.who.length xc)).put 4 (.slice ya R.seals.length yc)
  have g := gb_trans (gb_trans (gb_trans (gb_trans (gb_set (w := U) W.heap.size 0 (.string R.ref)) (gb_set _ 1 (.string R.old))) (gb_set _ 2 (.string R.new))) (gb_set _ 3 (.slice xa R.who.length xc))) (gb_set _ 4 (.slice ya R.seals.length yc))
  have b2 : Below W.heap.size W U := bw.trans (b.mono bw.size)
  have bz : Below W.heap.size W _ := below_gb b2 g (Nat.le_refl _) b2.size
  refine ⟨A1, h.below bz, A5, ?_, ⟨fun ad e => by have := f1 ad e; omega, fun ad e => by have := f2 ad e; omega⟩⟩
  exact (hI.apart g (Nat.le_refl _) (fun ad e => by have := f1 ad e; omega) (fun ad e => by have := f2 ad e; omega)).mono g.size
theorem Zn.store {w W : World} {q2 : Nat} {i : Int} {s : Sp} {K : List ByteArray} {ka : Option Addr} {kc : Nat} {S : Sp} {p : SpAt} {R : Sp} {q : Nat} {p2 : SpAt} (h : Zn w q2 i s K ka kc S p R q p2 W) (ho : Sealed1 K i s R) :
    Zs w q2 i s K 0 ka kc R p2 (W.setRow w.heap.size (spArr R p2)) := by
  have l0 := h.old.l0
  have k := gb_row (w := W) w.heap.size (spArr R p2)
  have f : FarP p2 w.heap.size := ⟨fun ad e => by have := h.far.1 ad e; omega, fun ad e => by have := h.far.2 ad e; omega⟩
  exact ⟨h.old.box.row _, (h.inn.apart k (Nat.le_refl _) f.1 f.2).mono k.size, f, row_kept h.old.key (by omega), below_gb h.old.bel k (Nat.le_refl _) h.old.bel.size, l0, ho⟩
set_option maxRecDepth 100000 in
set_option maxHeartbeats 8000000 in
theorem StepSealed_any (s : Sp) (p : SpAt) (i j : Int) (N : List Int) (na : Option Addr) (nc : Nat) (K : List ByteArray) (ka : Option Addr) (kc : Nat) (w : World) (hN : NumsA w w.heap.size na N) (hK : Txs w w.heap.size ka K)
    (hz : ∀ t ∈ K, t.size ≤ 140737488355328) (hkl : K.length * 16 ≤ 140737488351232) (hkc : K.length ≤ kc) (ht : Tab w) :
    Calls Tryd.prog 6 #[.agg (spArr s p), .int .i64 i, .int .i64 j, .slice na N.length nc, .slice ka K.length kc] w fun e w' => e = .returned (.bool true) ∧ Below w.heap.size w w' := by
  have HN := Lib.hid hN
  have HK := Lib.hid hK
  have HZ := Lib.hid hz
  have HT : Hid (∀ V, Below w.heap.size w V → Tab V) := fun V b => ht.below b ht.1
  have CG := Lib.hid (fun V => SpGood_any (bare s) pZ V ⟨NumsA.nil _ _ _, Txs.nil _ _ _, Nat.le_refl _, Nat.le_refl _⟩ (Nat.zero_le _) (Nat.zero_le _))
  have h1 : Hid (Arr (w.alloc (.cells (spArr s p) 25)) w.heap.size 25 (spArr s p) ∧ Below w.heap.size w (w.alloc (.cells (spArr s p) 25))) := ⟨Arr.new _ _ _, (Below.refl _ _).alloc (Nat.le_refl _) _⟩
  have HGd : Hid (spGood (bare s) = 0 → ∀ K i, Sealed1 K i s (bare s)) := fun _ K i => sealed_start K i s
  clear hN hK hz ht
  generalize hA : spArr s p = arr at *
  have HA := Lib.hid hA
  clear hA
  go_enter Tryd.func6, Tryd.ntmps6
  go_upto_region 1 with fail
  refine wp_forget (fun W => Arr W w.heap.size 25 arr ∧ Below w.heap.size w W) h1.out ?_
  clear h1
  rintro W ⟨AX, b0⟩
  have hA := HA.out
  clear HA
  subst hA
  have c3 : W.cell? ⟨w.heap.size, 3, none⟩ = some (.slice p.wa s.who.length p.wc) := AX.cell 3
  have f3 := AX.free 3
  have A1 := AX.put 3 (.slice none 0 0)
  have c4 : (W.setCell ⟨w.heap.size, 3, none⟩ (.slice none 0 0)).cell? ⟨w.heap.size, 4, none⟩ = some (.slice p.sa s.seals.length p.sc) := A1.cell 4
  have f4 := A1.free 4
  have A2 := A1.put 4 (.slice none 0 0)
  have b2 := below_gb b0 (gb_trans (gb_set (w := W) w.heap.size 3 (.slice none 0 0)) (gb_set _ 4 (.slice none 0 0))) (Nat.le_refl _) b0.size
  go_upto_region 2 with fail
  refine wp_forget (fun W => Arr W w.heap.size 25 (spArr (bare s) pZ) ∧ Below w.heap.size w W) ⟨A2, b2⟩ ?_
  clear c3 f3 A1 c4 f4 A2 b2 AX b0 W
  rintro W ⟨AX, b0⟩
  go_wp2_with (refine wpList_load_row rfl 25 _ rfl w.heap.size rfl 25 _ (0, 0) _ AX Tryd.underlying25 rfl (spInfo _ _) ?_)
  (with_reducible refine (CG.out W).mono ?_)
  clear CG
  rintro _ V ⟨rfl, b1⟩
  have AV := AX.below b1 AX.lt
  have bV := b0.trans (b1.mono b0.size)
  clear AX b0 b1
  have hst : Hid (Zs w V.heap.size i s K 0 ka kc (bare s) pZ ((V.alloc (.cells #[.slice none 0 0, .slice none 0 0, .int .i64 0] 39)).setRow V.heap.size (kyArr ⟨K, [], 0⟩ ⟨ka, kc, none, 0⟩))) := by
    have A0 : Arr (V.alloc (.cells #[.slice none 0 0, .slice none 0 0, .int .i64 0] 39)) V.heap.size 39 #[.slice none 0 0, .slice none 0 0, .int .i64 0] := Arr.new _ _ _
    have bz : Below V.heap.size V ((V.alloc (.cells #[.slice none 0 0, .slice none 0 0, .int .i64 0] 39)).setRow V.heap.size (kyArr ⟨K, [], 0⟩ ⟨ka, kc, none, 0⟩)) := below_setRow ((Below.refl _ _).alloc (Nat.le_refl _) _) (Nat.le_refl _) _
    exact ⟨AV.below bz AV.lt, spZ_bare s _ _, ⟨(fun _ e => by cases e), (fun _ e => by cases e)⟩, A0.row _, bV.trans (bz.mono bV.size), AV.lt, sealed_start K i s⟩
  have A0 : Arr (V.alloc (.cells #[.slice none 0 0, .slice none 0 0, .int .i64 0] 39)) V.heap.size 39 #[.slice none 0 0, .slice none 0 0, .int .i64 0] := Arr.new _ _ _
  go_upto_region 4 with (refine wpList_store_row rfl 39 _ _ rfl V.heap.size (kyArr ⟨K, [], 0⟩ ⟨ka, kc, none, 0⟩) rfl rfl 39 #[.slice none 0 0, .slice none 0 0, .int .i64 0] A0 (kyInfo _ _) rfl (kyArr_one _ _) ?_)
  refine wp_forget (Zs w V.heap.size i s K 0 ka kc (bare s) pZ) (by exact hst.out) ?_
  clear hst A0 AV bV
  generalize V.heap.size = q2
  intro W1 hW1
  cases hG : spGood (bare s) != 0
  case true =>
    generalize spGood (bare s) = G at *
    have hge : (G == 0) = false := by
      have : G ≠ 0 := by simpa using hG
      rw [beq_eq_false_iff_ne]; exact this
    have CS := Lib.hid (keepSteps_any W1 (HT.out W1 hW1.bel))
    go_wp2_with fail
    go_loopw [13] (fun v wr => v = .int .i64 0 ∧ wr = W1) (fun _ _ => 0)
    case atStart => exact ⟨rfl, rfl⟩
    case round =>
      obtain ⟨rfl, rfl⟩ := hrel
      by_cases hn : 0 < N.length
      · have hj : (0 : Int) < N.length := by omega
        go_wp2_with fail
        (with_reducible refine CS.out.mono ?_)
        rintro _ W3 ⟨rfl, b3⟩
        go_wp2_with fail
        go_ret
        exact ⟨rfl, hW1.bel.trans (b3.mono hW1.bel.size)⟩
      · have hj : ¬ (0 : Int) < N.length := by omega
        go_wp2_with fail
        (with_reducible refine CS.out.mono ?_)
        rintro _ W3 ⟨rfl, b3⟩
        go_wp2_with fail
        go_ret
        exact ⟨rfl, hW1.bel.trans (b3.mono hW1.bel.size)⟩
  have hg0 : spGood (bare s) = 0 := by simpa using hG
  have HG0 := Lib.hid hg0
  rw [hg0]
  clear hG hg0
  have hst : Hid (ZsRel w q2 i s K ka kc (.int .i64 0) W1) := ⟨0, bare s, pZ, by omega, rfl, hW1, (fun _ e => by cases e), (fun _ e => by cases e)⟩
  clear hW1
  go_wp2_with fail
  go_loopw [13] (fun v wr => ZsRel w q2 i s K ka kc v wr) (fun v _ => 8 - (intOf v).toNat)
  case atStart => exact hst.out
  case round =>
    clear hst
    obtain ⟨k, S, p1, hk8, rfl, hX, hx1, hx2⟩ := hrel
    by_cases hlt : k < N.length ∧ k < 8
    · obtain ⟨hkn, hk88⟩ := hlt
      have hj : (k : Int) < N.length := by omega
      have hj8 : (k : Int) < 8 := by omega
      obtain ⟨nad, rfl, hnb, g0⟩ := HN.out k N[k] (List.getElem?_eq_getElem hkn)
      have d0 := (hX.bel.cell hnb).trans g0
      generalize N[k] = x at *
      by_cases hx0 : 0 ≤ x
      · by_cases hxk : x < K.length
        · obtain ⟨m, rfl⟩ := Int.eq_ofNat_of_zero_le hx0
          have hmk : m < K.length := by omega
          have hKm : K[m]? = some K[m] := List.getElem?_eq_getElem hmk
          obtain ⟨kad, rfl, hkb, g1⟩ := HK.out m K[m] hKm
          have d1 := (hX.bel.cell hkb).trans g1
          have bAl : Below w.heap.size w (wr.alloc (.cells #[.string ⟨#[]⟩, .string ⟨#[]⟩, .string ⟨#[]⟩, .slice none 0 0, .slice none 0 0] 25)) := hX.bel.alloc hX.bel.size _
          have ee1 := (bAl.cell hkb).trans g1
          have ee0 := (bAl.cell hnb).trans g0
          have hBx := hX.box.alloc (.cells #[.string ⟨#[]⟩, .string ⟨#[]⟩, .string ⟨#[]⟩, .slice none 0 0, .slice none 0 0] 25)
          have hky := HZ.out K[m] (List.getElem_mem hmk)
          have hlens := sealed_lens hX.ok
          have hmore : Hid ((spSign S i (m : Int) K[m]).2 = 0 → Sealed1 K i s (spSign S i (m : Int) K[m]).1) := fun h => sealed_more hX.ok hKm h
          obtain ⟨wa, wc, sa, sc⟩ := p1
          have CSg : Hid (∀ V, Below wr.heap.size wr V → Calls Tryd.prog 12 #[.agg #[.string S.ref, .string S.old, .string S.new, .slice wa S.who.length wc, .slice sa S.seals.length sc], .int .i64 i, .int .i64 (m : Int), .string K[m]] V (SpFar V (spSign S i (m : Int) K[m]))) := fun V hV => SpSign_far S ⟨wa, wc, sa, sc⟩ i m K[m] V (hX.inn.up hV) (by omega) (by omega) hky (HT.out V (hX.bel.trans (hV.mono hX.bel.size)))
          have HLens := Lib.hid hlens
          clear hlens
          generalize spSign S i (m : Int) K[m] = R at *
          obtain ⟨R, e⟩ := R
          simp only at hmore
          clear g0 g1 hky hKm bAl
          generalize K[m] = key at *
          have HX := Lib.hid hX
          have c0 : wr.drew.cell? ⟨w.heap.size, 0, none⟩ = some (.string S.ref) := hX.box.cell 0
          have c1 : wr.drew.cell? ⟨w.heap.size, 1, none⟩ = some (.string S.old) := hX.box.cell 1
          have c2 : wr.drew.cell? ⟨w.heap.size, 2, none⟩ = some (.string S.new) := hX.box.cell 2
          have c3 : wr.drew.cell? ⟨w.heap.size, 3, none⟩ = some (.slice wa S.who.length wc) := hX.box.cell 3
          have c4 : wr.drew.cell? ⟨w.heap.size, 4, none⟩ = some (.slice sa S.seals.length sc) := hX.box.cell 4
          have x0 : (wr.alloc (.cells #[.string ⟨#[]⟩, .string ⟨#[]⟩, .string ⟨#[]⟩, .slice none 0 0, .slice none 0 0] 25)).cell? ⟨w.heap.size, 0, none⟩ = some (.string S.ref) := hBx.cell 0
          have x1 : (wr.alloc (.cells #[.string ⟨#[]⟩, .string ⟨#[]⟩, .string ⟨#[]⟩, .slice none 0 0, .slice none 0 0] 25)).cell? ⟨w.heap.size, 1, none⟩ = some (.string S.old) := hBx.cell 1
          have x2 : (wr.alloc (.cells #[.string ⟨#[]⟩, .string ⟨#[]⟩, .string ⟨#[]⟩, .slice none 0 0, .slice none 0 0] 25)).cell? ⟨w.heap.size, 2, none⟩ = some (.string S.new) := hBx.cell 2
          have x3 : (wr.alloc (.cells #[.string ⟨#[]⟩, .string ⟨#[]⟩, .string ⟨#[]⟩, .slice none 0 0, .slice none 0 0] 25)).cell? ⟨w.heap.size, 3, none⟩ = some (.slice wa S.who.length wc) := hBx.cell 3
          have x4 : (wr.alloc (.cells #[.string ⟨#[]⟩, .string ⟨#[]⟩, .string ⟨#[]⟩, .slice none 0 0, .slice none 0 0] 25)).cell? ⟨w.heap.size, 4, none⟩ = some (.slice sa S.seals.length sc) := hBx.cell 4
          clear hBx
          have dd0 : wr.drew.cell? (nad.add k) = some (.int .i64 (m : Int)) := d0
          have dd1 : wr.drew.cell? (kad.add m) = some (.string key) := d1
          clear hX
          generalize spArr s p = arr0 at *
          generalize spArr (bare s) pZ = arr1 at *
          go_upto_region 8 with fail
          apply wp_six (R := fun A c A2 c2 q V => Zn w q2 i s K (some kad) kc S ⟨wa, wc, sa, sc⟩ R q ⟨A, c, A2, c2⟩ V)
          case h =>
            intro K' hK'
            go_region_law (first
                       | (go_simp; go_at_call 12; (with_reducible refine (CSg.out wr.drew (Below.refl _ wr).drew).mono ?_); rintro _ U ⟨⟨xa, xc, ya, yc⟩, rfl, hI, b10, f1, f2⟩
                          simp only [spArr]
                          have hfin := Lib.hid (Zn.made (R := R) HX.out ((Below.refl _ wr).drew.trans b10) hI f1 f2))
                       | (go_simp; go_at_call 12; (with_reducible refine (CSg.out ((wr.alloc (.cells #[.string ⟨#[]⟩, .string ⟨#[]⟩, .string ⟨#[]⟩, .slice none 0 0, .slice none 0 0] 25)).drew) (((Below.refl _ wr).alloc (Nat.le_refl _) _).drew)).mono ?_); rintro _ U ⟨⟨xa, xc, ya, yc⟩, rfl, hI, b10, f1, f2⟩
                          simp only [spArr]
                          have hfin0 := Zn.made2 (R := R) (W := wr) HX.out (((Below.refl _ _).drew).trans b10) hI f1 f2
                          have A0 := hfin0.1
                          have hfin := Lib.hid hfin0.2
                          clear hfin0
                          have y0 := A0.cell 0
                          have g0 := A0.free 0
                          have A1 := A0.put 0 (.string R.ref)
                          have y1 := A1.cell 1
                          have g1 := A1.free 1
                          have A2 := A1.put 1 (.string R.old)
                          have y2 := A2.cell 2
                          have g2 := A2.free 2
                          have A3 := A2.put 2 (.string R.new)
                          have y3 := A3.cell 3
                          have g3 := A3.free 3
                          have A4 := A3.put 3 (.slice xa R.who.length xc)
                          have y4 := A4.cell 4
                          have g4 := A4.free 4)
                       )
            all_goals go_simp
            all_goals first
              | (generalize U.heap.size = q at hfin ⊢; exact hK' xa xc ya yc q _ hfin.out)
              | (generalize wr.heap.size = q at hfin ⊢; exact hK' xa xc ya yc q _ hfin.out)
          case k =>
            clear c0 c1 c2 c3 c4 x0 x1 x2 x3 x4 dd0 dd1 ee0 ee1 CSg HX HLens
            intro A c A2 d2 q V hV
            by_cases he : e = 0
            · subst he
              go_wp2_with (first
                | refine wpList_load_row rfl 25 _ rfl q rfl 25 _ (0, 0) _ hV.arr Tryd.underlying25 rfl (spInfo R _) ?_
                | refine wpList_store_row rfl 25 _ _ rfl w.heap.size (spArr R ⟨A, c, A2, d2⟩) rfl rfl 25 _ hV.old.box (spInfo R _) rfl (spArr_one R _) ?_)
              go_roundw
              case rel => exact ⟨k + 1, R, ⟨A, c, A2, d2⟩, by omega, by rw [Int.natCast_add]; rfl, hV.store (hmore.out rfl), fun ad e2 => by have := hV.far.1 ad e2; omega, fun ad e2 => by have := hV.far.2 ad e2; omega⟩
              case measure => simp [intOf]; omega
            · have he2 : (e == 0) = false := by rw [beq_eq_false_iff_ne]; exact he
              go_wp2_with fail
              go_roundw
              case rel => exact ⟨k + 1, S, ⟨wa, wc, sa, sc⟩, by omega, by rw [Int.natCast_add]; rfl, hV.old, hx1, hx2⟩
              case measure => simp [intOf]; omega
        · have hxk2 : ¬ x < (K.length : Int) := hxk
          go_wp2_with fail
          go_roundw
          case rel => exact ⟨k + 1, S, p1, by omega, by rw [Int.natCast_add]; rfl, hX, hx1, hx2⟩
          case measure => simp [intOf]; omega
      · have hx02 : ¬ (0 : Int) ≤ x := hx0
        go_wp2_with fail
        go_roundw
        case rel => exact ⟨k + 1, S, p1, by omega, by rw [Int.natCast_add]; rfl, hX, hx1, hx2⟩
        case measure => simp [intOf]; omega
    · as_aux_lemma =>
      have hlens := sealed_lens hX.ok
      have hgs := sealed_good hX.ok HG0.out
      have hq : ¬ (k : Int) < N.length ∨ ((k : Int) < N.length ∧ ¬ (k : Int) < 8) := by omega
      have CS : Hid (∀ V, Tab V → Calls Tryd.prog 9 #[] V fun e w' => e = .returned (.bool true) ∧ Below V.heap.size V w') := fun V h => keepSteps_any V h
      have HS := Lib.hid hgs
      have HL := Lib.hid hlens
      have HX := Lib.hid hX
      have hn8 := hlens.1
      clear hgs hlt hX hlens
      generalize spArr s p = arr0 at *
      generalize spArr (bare s) pZ = arr1 at *
      rcases hq with hq | ⟨hq, hq8⟩
      all_goals
        by_cases hi0 : i < 0
        · go_wp2_with fail
          (with_reducible refine (CS.out wr (HT.out wr HX.out.bel)).mono ?_)
          rintro _ W3 ⟨rfl, b3⟩
          go_wp2_with fail
          go_ret
          exact ⟨rfl, HX.out.bel.trans (b3.mono HX.out.bel.size)⟩
        · by_cases hi1 : (200 : Int) ≤ i
          · go_wp2_with fail
            (with_reducible refine (CS.out wr (HT.out wr HX.out.bel)).mono ?_)
            rintro _ W3 ⟨rfl, b3⟩
            go_wp2_with fail
            go_ret
            exact ⟨rfl, HX.out.bel.trans (b3.mono HX.out.bel.size)⟩
          · have i0 : 0 ≤ i := by omega
            have i1 : i ≤ 199 := by omega
            have CC : ∀ (need x : Int), Hid ((if need ≤ S.seals.length then 0 else 13) = x → ∀ V, Below w.heap.size w V → SpIn V V.heap.size S p1 → Calls Tryd.prog 13 #[.agg (kyArr ⟨K, [], need⟩ ⟨ka, kc, none, 0⟩), .int .i64 i, .agg (spArr S p1)] V fun e w' => e = .returned (.int .i64 x) ∧ Below V.heap.size V w') := fun need x hx V b hI => by
              have := SpCheck_wide ⟨K, [], need⟩ ⟨ka, kc, none, 0⟩ S p1 i V ⟨(HK.out.below b).mono b.size, Txs.nil _ _ _, hkc, Nat.le_refl _⟩ hI (by show K.length ≤ _; omega) HZ.out (by have := HL.out; omega) (by have := HL.out; omega) (HT.out V b)
              rw [show spCheck (Ky.sig ⟨K, [], need⟩) (Ky.need ⟨K, [], need⟩) i S = x from (sealed_check HX.out.ok HG0.out i0 i1 need).trans hx] at this
              exact this
            have C1 := Lib.hid ((CC (S.who.length : Int) 0).out (if_pos (by have := HL.out.2; omega)))
            have C2 := Lib.hid ((CC ((S.who.length : Int) + 1) 13).out (if_neg (by have := HL.out.2; omega)))
            clear CC
            go_wp2_with fail
            (with_reducible refine (CS.out wr (HT.out wr HX.out.bel)).mono ?_)
            rintro _ W3 ⟨rfl, b3⟩
            have hX3 := HX.out.below b3
            have c3 : W3.cell? ⟨w.heap.size, 3, none⟩ = some (.slice p1.wa S.who.length p1.wc) := hX3.box.cell 3
            have y2 := hX3.key.cell 2
            have f2 := hX3.key.free 2
            have hst := Lib.hid (hX3.need (m := (S.who.length : Int)) hx1 hx2)
            clear hX3 CS
            go_upto_region 14 with fail
            refine wp_forget (Zs w q2 i s K (S.who.length : Int) ka kc S p1) (by exact hst.out) ?_
            clear hst c3 y2 f2 b3 W3
            intro W4 hX4
            go_wp2_with (first
              | refine wpList_load_row rfl 39 _ rfl q2 rfl 39 _ (0, 0) _ hX4.key Tryd.underlying39 rfl (kyInfo _ _) ?_
              | refine wpList_load_row rfl 25 _ rfl w.heap.size rfl 25 _ (0, 0) _ hX4.box Tryd.underlying25 rfl (spInfo _ _) ?_)
            (with_reducible refine (C1.out W4 hX4.bel hX4.inn).mono ?_)
            clear C1
            rintro _ W5 ⟨rfl, b5⟩
            have hX5 := hX4.below b5
            clear hX4 b5
            have y2 : W5.cell? ⟨q2, 2, none⟩ = some (.int .i64 (S.who.length : Int)) := hX5.key.cell 2
            have f2 := hX5.key.free 2
            have hst := Lib.hid (hX5.need (m := (S.who.length : Int) + 1) hx1 hx2)
            clear hX5
            go_upto_region 17 with fail
            refine wp_forget (Zs w q2 i s K ((S.who.length : Int) + 1) ka kc S p1) (by exact hst.out) ?_
            clear hst y2 f2 W5 W4
            intro W6 hX6
            go_wp2_with (first
              | refine wpList_load_row rfl 39 _ rfl q2 rfl 39 _ (0, 0) _ hX6.key Tryd.underlying39 rfl (kyInfo _ _) ?_
              | refine wpList_load_row rfl 25 _ rfl w.heap.size rfl 25 _ (0, 0) _ hX6.box Tryd.underlying25 rfl (spInfo _ _) ?_)
            (with_reducible refine (C2.out W6 hX6.bel hX6.inn).mono ?_)
            clear C2
            rintro _ W7 ⟨rfl, b7⟩
            have hX7 := hX6.below b7
            clear hX6 b7
            have c3 : W7.cell? ⟨w.heap.size, 3, none⟩ = some (.slice p1.wa S.who.length p1.wc) := hX7.box.cell 3
            by_cases hj0 : j < 0
            · go_wp2_with fail
              go_ret
              exact ⟨rfl, hX7.bel⟩
            · by_cases hj1 : (200 : Int) ≤ j
              · go_wp2_with fail
                go_ret
                exact ⟨rfl, hX7.bel⟩
              · by_cases hij : j = i
                · subst hij
                  go_wp2_with fail
                  go_ret
                  exact ⟨rfl, hX7.bel⟩
                · by_cases hz0 : S.who.length = 0
                  · rw [hz0] at c3
                    go_wp2_with fail
                    go_ret
                    exact ⟨rfl, hX7.bel⟩
                  · have hz1 : ¬ ((S.who.length : Int) = 0) := by omega
                    have y2 := hX7.key.cell 2
                    have f2 := hX7.key.free 2
                    have hst := Lib.hid (hX7.need (m := 0) hx1 hx2)
                    have j0 : 0 ≤ j := by omega
                    have j1 : j ≤ 199 := by omega
                    obtain ⟨x, hx⟩ : ∃ x, S.who[0]? = some x := ⟨_, List.getElem?_eq_getElem (by omega)⟩
                    obtain ⟨m, key, hxm, hkm, hor⟩ := sealed_other HX.out.ok HG0.out j0 j1 hx
                    subst hxm
                    obtain ⟨wa1, wc1, sa1, sc1⟩ := p1
                    obtain ⟨wad, hwad, hwb, hwc⟩ := HX.out.inn.nums 0 _ hx
                    simp only at hwad
                    subst hwad
                    obtain ⟨kad, rfl, hkb, hkc2⟩ := HK.out m key hkm
                    have hmK : m < K.length := (List.getElem?_eq_some_iff.1 hkm).1
                    have hky : key.size ≤ 140737488355328 := HZ.out key (List.mem_of_getElem? hkm)
                    have hgi := gb_ok HS.out i0 i1
                    have hgj := gb_ok HS.out j0 j1
                    have hsi := spGB_small i S (by rw [hgi])
                    have hsj := spGB_small j S (by rw [hgj])
                    have hbi := hgi
                    have hbj := hgj
                    unfold spGB at hbi hbj
                    rw [if_neg (by rw [HS.out]; simp)] at hbi hbj
                    rw [hgi] at hsi
                    rw [hgj] at hsj
                    simp only at hsi hsj
                    have hab : bs (spBodyL i.toNat S) ≠ bs (spBodyL j.toNat S) := fun h => by
                      have h2 : spBodyL i.toNat S = spBodyL j.toNat S := congrArg (fun b : ByteArray => b.data.toList) h
                      have := body_inj (by omega) (by omega) h2
                      omega
                    have CB := Lib.hid (Body_any i S ⟨some wad, wc1, sa1, sc1⟩)
                    have CJ := Lib.hid (Body_any j S ⟨some wad, wc1, sa1, sc1⟩)
                    rw [hbi] at CB
                    rw [hbj] at CJ
                    have CK : Hid (∀ V, Below w.heap.size w V → SpIn V V.heap.size S ⟨some wad, wc1, sa1, sc1⟩ → Calls Tryd.prog 13 #[.agg #[.slice (some kad) K.length kc, .slice none 0 0, .int .i64 0], .int .i64 j, .agg #[.string S.ref, .string S.old, .string S.new, .slice (some wad) S.who.length wc1, .slice sa1 S.seals.length sc1]] V fun e w' => e = .returned (.int .i64 (spCheck K 0 j S)) ∧ Below V.heap.size V w') := fun V b hI =>
                      SpCheck_wide ⟨K, [], 0⟩ ⟨some kad, kc, none, 0⟩ S ⟨some wad, wc1, sa1, sc1⟩ j V ⟨(HK.out.below b).mono b.size, Txs.nil _ _ _, hkc, Nat.le_refl _⟩ hI (by show K.length ≤ _; omega) HZ.out (by have := HL.out; omega) (by have := HL.out; omega) (HT.out V b)
                    have CSa : Hid (∀ V, Tab V → Calls Tryd.prog 15 #[.string key, .string (bs (spBodyL i.toNat S))] V fun e w' => e = .returned (.string (sealB key (bs (spBodyL i.toNat S)))) ∧ Below V.heap.size V w') := fun V h => Seal_any key _ hky (by omega) V h
                    have CSb : Hid (∀ V, Tab V → Calls Tryd.prog 15 #[.string key, .string (bs (spBodyL j.toNat S))] V fun e w' => e = .returned (.string (sealB key (bs (spBodyL j.toNat S)))) ∧ Below V.heap.size V w') := fun V h => Seal_any key _ hky (by omega) V h
                    have Hx0 := Lib.hid hx
                    clear hgi hgj hsi hsj hbi hbj hky hkm hx
                    generalize bs (spBodyL i.toNat S) = a at *
                    generalize bs (spBodyL j.toNat S) = b at *
                    generalize spCheck K 0 j S = z at *
                    generalize sealB key a = ta at *
                    generalize sealB key b = tb at *
                    simp only at CB CJ
                    have hab2 : (a.toList == b.toList) = false := (same_lists a b).trans (decide_eq_false hab)
                    have hab1 : ¬ a.toList = b.toList := beq_eq_false_iff_ne.1 hab2
                    have hwc0 := hwc
                    have Hwb := Lib.hid hwb
                    have hlt0 := Lib.hid (Nat.pos_of_ne_zero hz0)
                    simp only at c3
                    clear HX hwb hwc hz0
                    have hX8 := hst.out
                    have hcond : (decide (j < 0) || decide (200 ≤ j) || j == i || ((S.who.length : Int) == 0)) = false := by
                      rw [decide_eq_false hj0, decide_eq_false hj1, beq_eq_false_iff_ne.2 hij, beq_eq_false_iff_ne.2 hz1]
                      rfl
                    go_wp2_with (refine wpList_load_row rfl 25 _ rfl w.heap.size rfl 25 _ (0, 0) _ hX8.box Tryd.underlying25 rfl (spInfo _ _) ?_)
                    (with_reducible refine (CB.out (W7.setCell ⟨q2, 2, none⟩ (.int .i64 0))).mono ?_)
                    rintro _ W9 ⟨rfl, b9⟩
                    have hX9 := hX8.below b9
                    clear hst y2 f2 c3 hz1 hX8 b9 CB
                    go_wp2_with (refine wpList_load_row rfl 25 _ rfl w.heap.size rfl 25 _ (0, 0) _ hX9.box Tryd.underlying25 rfl (spInfo _ _) ?_)
                    (with_reducible refine (CJ.out W9).mono ?_)
                    rintro _ W10 ⟨rfl, b10⟩
                    have hXA := hX9.below b10
                    clear hX9 b10 CJ
                    have hcell : W10.cell? ⟨q2, 0, none⟩ = some (.slice (some kad) K.length kc) ∧ W10.cell? ⟨q2, 1, none⟩ = some (.slice none 0 0) ∧ W10.cell? ⟨q2, 2, none⟩ = some (.int .i64 0) ∧ W10.cell? ⟨w.heap.size, 0, none⟩ = some (.string S.ref) ∧ W10.cell? ⟨w.heap.size, 1, none⟩ = some (.string S.old) ∧ W10.cell? ⟨w.heap.size, 2, none⟩ = some (.string S.new) ∧ W10.cell? ⟨w.heap.size, 3, none⟩ = some (.slice (some wad) S.who.length wc1) ∧ W10.cell? ⟨w.heap.size, 4, none⟩ = some (.slice sa1 S.seals.length sc1) := ⟨hXA.key.cell 0, hXA.key.cell 1, hXA.key.cell 2, hXA.box.cell 0, hXA.box.cell 1, hXA.box.cell 2, hXA.box.cell 3, hXA.box.cell 4⟩
                    have hxw : W10.cell? (wad.add 0) = some (.int .i64 (m : Int)) := by
                      obtain ⟨ad, e, _, hc⟩ := hXA.inn.nums 0 (m : Int) Hx0.out
                      simp only [Option.some.injEq] at e
                      subst e
                      exact hc
                    have hxk : W10.cell? (kad.add m) = some (.string key) := (hXA.bel.cell hkb).trans hkc2
                    have CK2 := Lib.hid (CK.out W10.drew (hXA.bel.trans ((Below.refl _ W10).drew.mono hXA.bel.size)) (hXA.inn.up (Below.refl _ W10).drew))
                    have HXA := Lib.hid hXA
                    clear hXA CK
                    by_cases hz13 : z = 13
                    · as_aux_lemma =>
                      subst hz13
                      have hd : W10.drew.cell? ⟨q2, 0, none⟩ = some (.slice (some kad) K.length kc) ∧ W10.drew.cell? ⟨q2, 1, none⟩ = some (.slice none 0 0) ∧ W10.drew.cell? ⟨q2, 2, none⟩ = some (.int .i64 0) ∧ W10.drew.cell? ⟨w.heap.size, 0, none⟩ = some (.string S.ref) ∧ W10.drew.cell? ⟨w.heap.size, 1, none⟩ = some (.string S.old) ∧ W10.drew.cell? ⟨w.heap.size, 2, none⟩ = some (.string S.new) ∧ W10.drew.cell? ⟨w.heap.size, 3, none⟩ = some (.slice (some wad) S.who.length wc1) ∧ W10.drew.cell? ⟨w.heap.size, 4, none⟩ = some (.slice sa1 S.seals.length sc1) := hcell
                      go_upto_region 24 with fail
                      refine wp_region_held_drew (S := fun w' => w'.cell? ⟨q2, 0, none⟩ = some (.slice (some kad) K.length kc) ∧ w'.cell? ⟨q2, 1, none⟩ = some (.slice none 0 0) ∧ w'.cell? ⟨q2, 2, none⟩ = some (.int .i64 0) ∧ w'.cell? ⟨w.heap.size, 0, none⟩ = some (.string S.ref) ∧ w'.cell? ⟨w.heap.size, 1, none⟩ = some (.string S.old) ∧ w'.cell? ⟨w.heap.size, 2, none⟩ = some (.string S.new) ∧ w'.cell? ⟨w.heap.size, 3, none⟩ = some (.slice (some wad) S.who.length wc1) ∧ w'.cell? ⟨w.heap.size, 4, none⟩ = some (.slice sa1 S.seals.length sc1)) (by kernel_rfl) hd (fun hHeld => ?_)
                      refine takeY 0 137 (.string a) rfl rfl (by kernel_rfl) (by kernel_rfl) (by kernel_rfl) (fun _ _ _ h => h) (by rfl) (fun w hSw => ?_) hHeld ?_
                      · obtain ⟨e0, e1, e2, e3, e4, e5, e6, e7⟩ := hSw
                        first
                        | (go_simp; done)
                        | (go_simp; with_reducible rfl)
                      simp only [List.setIfInBounds_toArray, List.set_cons_zero, List.set_cons_succ]
                      refine takeY 1 138 (.string b) rfl rfl (by kernel_rfl) (by kernel_rfl) (by kernel_rfl) (fun _ _ _ h => h) (by rfl) (fun w hSw => ?_) hHeld ?_
                      · obtain ⟨e0, e1, e2, e3, e4, e5, e6, e7⟩ := hSw
                        first
                        | (go_simp; done)
                        | (go_simp; with_reducible rfl)
                      simp only [List.setIfInBounds_toArray, List.set_cons_zero, List.set_cons_succ]
                      refine takeY 2 139 (.bool true) rfl rfl (by kernel_rfl) (by kernel_rfl) (by kernel_rfl) (fun _ _ _ h => h) (by rfl) (fun w hSw => ?_) hHeld ?_
                      · obtain ⟨e0, e1, e2, e3, e4, e5, e6, e7⟩ := hSw
                        first
                        | (go_simp; done)
                        | (go_simp; with_reducible rfl)
                      simp only [List.setIfInBounds_toArray, List.set_cons_zero, List.set_cons_succ]
                      refine takeY 3 140 (.bool true) rfl rfl (by kernel_rfl) (by kernel_rfl) (by kernel_rfl) (fun _ _ _ h => h) (by rfl) (fun w hSw => ?_) hHeld ?_
                      · obtain ⟨e0, e1, e2, e3, e4, e5, e6, e7⟩ := hSw
                        first
                        | (go_simp; done)
                        | (go_simp; with_reducible rfl)
                      simp only [List.setIfInBounds_toArray, List.set_cons_zero, List.set_cons_succ]
                      refine takeY 4 141 (.agg #[.slice (some kad) K.length kc, .slice none 0 0, .int .i64 0]) rfl rfl (by kernel_rfl) (by kernel_rfl) (by kernel_rfl) (fun _ _ _ h => h) (by rfl) (fun w hSw => ?_) hHeld ?_
                      · obtain ⟨e0, e1, e2, e3, e4, e5, e6, e7⟩ := hSw
                        first
                        | (go_simp; done)
                        | (go_simp; with_reducible rfl)
                      simp only [List.setIfInBounds_toArray, List.set_cons_zero, List.set_cons_succ]
                      refine takeY 5 142 (.int .i64 j) rfl rfl (by kernel_rfl) (by kernel_rfl) (by kernel_rfl) (fun _ _ _ h => h) (by rfl) (fun w hSw => ?_) hHeld ?_
                      · obtain ⟨e0, e1, e2, e3, e4, e5, e6, e7⟩ := hSw
                        first
                        | (go_simp; done)
                        | (go_simp; with_reducible rfl)
                      simp only [List.setIfInBounds_toArray, List.set_cons_zero, List.set_cons_succ]
                      refine takeY 6 143 (.agg #[.string S.ref, .string S.old, .string S.new, .slice (some wad) S.who.length wc1, .slice sa1 S.seals.length sc1]) rfl rfl (by kernel_rfl) (by kernel_rfl) (by kernel_rfl) (fun _ _ _ h => h) (by rfl) (fun w hSw => ?_) hHeld ?_
                      · obtain ⟨e0, e1, e2, e3, e4, e5, e6, e7⟩ := hSw
                        first
                        | (go_simp; done)
                        | (go_simp; with_reducible rfl)
                      simp only [List.setIfInBounds_toArray, List.set_cons_zero, List.set_cons_succ]
                      refine wpAnyH_ready (rs := [7]) (by kernel_rfl) (by simp) ?_
                      refine AllReadyH.cons rfl (fun K' hK' => ?_) AllReadyH.nil
                      go_simp
                      (with_reducible refine CK2.out.mono ?_)
                      rintro _ w3 ⟨rfl, b3⟩
                      (try simp only [])
                      have hX3 := HXA.out.below ((Below.refl _ W10).drew.trans b3)
                      refine hK'.out _ _ ⟨hX3.key.cell 0, hX3.key.cell 1, hX3.key.cell 2, hX3.box.cell 0, hX3.box.cell 1, hX3.box.cell 2, hX3.box.cell 3, hX3.box.cell 4⟩ (fun hHeld => ?_)
                      clear hK' K'
                      (try simp only [Act.put, List.setIfInBounds_toArray, List.set_cons_zero, List.set_cons_succ])
                      refine takeY 8 145 (.bool true) rfl rfl (by kernel_rfl) (by kernel_rfl) (by kernel_rfl) (fun _ _ _ h => h) (by rfl) (fun w hSw => ?_) hHeld ?_
                      · obtain ⟨e0, e1, e2, e3, e4, e5, e6, e7⟩ := hSw
                        first
                        | (go_simp; done)
                        | (go_simp; with_reducible rfl)
                      simp only [List.setIfInBounds_toArray, List.set_cons_zero, List.set_cons_succ]
                      refine takeY 9 146 (.bool true) rfl rfl (by kernel_rfl) (by kernel_rfl) (by kernel_rfl) (fun _ _ _ h => h) (by rfl) (fun w hSw => ?_) hHeld ?_
                      · obtain ⟨e0, e1, e2, e3, e4, e5, e6, e7⟩ := hSw
                        first
                        | (go_simp; done)
                        | (go_simp; with_reducible rfl)
                      simp only [List.setIfInBounds_toArray, List.set_cons_zero, List.set_cons_succ]
                      refine takeN 10 147 rfl rfl (by kernel_rfl) (by kernel_rfl) (by kernel_rfl) (fun _ _ _ h => h) (by rfl) hHeld ?_
                      simp only [List.setIfInBounds_toArray, List.set_cons_zero, List.set_cons_succ]
                      refine takeN 11 148 rfl rfl (by kernel_rfl) (by kernel_rfl) (by kernel_rfl) (fun _ _ _ h => h) (by rfl) hHeld ?_
                      simp only [List.setIfInBounds_toArray, List.set_cons_zero, List.set_cons_succ]
                      refine takeN 12 149 rfl rfl (by kernel_rfl) (by kernel_rfl) (by kernel_rfl) (fun _ _ _ h => h) (by rfl) hHeld ?_
                      simp only [List.setIfInBounds_toArray, List.set_cons_zero, List.set_cons_succ]
                      refine takeN 13 150 rfl rfl (by kernel_rfl) (by kernel_rfl) (by kernel_rfl) (fun _ _ _ h => h) (by rfl) hHeld ?_
                      simp only [List.setIfInBounds_toArray, List.set_cons_zero, List.set_cons_succ]
                      refine takeN 14 151 rfl rfl (by kernel_rfl) (by kernel_rfl) (by kernel_rfl) (fun _ _ _ h => h) (by rfl) hHeld ?_
                      simp only [List.setIfInBounds_toArray, List.set_cons_zero, List.set_cons_succ]
                      refine takeN 15 152 rfl rfl (by kernel_rfl) (by kernel_rfl) (by kernel_rfl) (fun _ _ _ h => h) (by rfl) hHeld ?_
                      simp only [List.setIfInBounds_toArray, List.set_cons_zero, List.set_cons_succ]
                      refine takeN 16 153 rfl rfl (by kernel_rfl) (by kernel_rfl) (by kernel_rfl) (fun _ _ _ h => h) (by rfl) hHeld ?_
                      simp only [List.setIfInBounds_toArray, List.set_cons_zero, List.set_cons_succ]
                      refine takeN 17 154 rfl rfl (by kernel_rfl) (by kernel_rfl) (by kernel_rfl) (fun _ _ _ h => h) (by rfl) hHeld ?_
                      simp only [List.setIfInBounds_toArray, List.set_cons_zero, List.set_cons_succ]
                      refine takeN 18 155 rfl rfl (by kernel_rfl) (by kernel_rfl) (by kernel_rfl) (fun _ _ _ h => h) (by rfl) hHeld ?_
                      simp only [List.setIfInBounds_toArray, List.set_cons_zero, List.set_cons_succ]
                      refine takeN 19 156 rfl rfl (by kernel_rfl) (by kernel_rfl) (by kernel_rfl) (fun _ _ _ h => h) (by rfl) hHeld ?_
                      simp only [List.setIfInBounds_toArray, List.set_cons_zero, List.set_cons_succ]
                      refine takeN 20 157 rfl rfl (by kernel_rfl) (by kernel_rfl) (by kernel_rfl) (fun _ _ _ h => h) (by rfl) hHeld ?_
                      simp only [List.setIfInBounds_toArray, List.set_cons_zero, List.set_cons_succ]
                      refine takeN 21 158 rfl rfl (by kernel_rfl) (by kernel_rfl) (by kernel_rfl) (fun _ _ _ h => h) (by rfl) hHeld ?_
                      simp only [List.setIfInBounds_toArray, List.set_cons_zero, List.set_cons_succ]
                      refine takeN 22 159 rfl rfl (by kernel_rfl) (by kernel_rfl) (by kernel_rfl) (fun _ _ _ h => h) (by rfl) hHeld ?_
                      simp only [List.setIfInBounds_toArray, List.set_cons_zero, List.set_cons_succ]
                      refine takeN 23 160 rfl rfl (by kernel_rfl) (by kernel_rfl) (by kernel_rfl) (fun _ _ _ h => h) (by rfl) hHeld ?_
                      simp only [List.setIfInBounds_toArray, List.set_cons_zero, List.set_cons_succ]
                      refine takeN 24 161 rfl rfl (by kernel_rfl) (by kernel_rfl) (by kernel_rfl) (fun _ _ _ h => h) (by rfl) hHeld ?_
                      simp only [List.setIfInBounds_toArray, List.set_cons_zero, List.set_cons_succ]
                      refine takeN 25 162 rfl rfl (by kernel_rfl) (by kernel_rfl) (by kernel_rfl) (fun _ _ _ h => h) (by rfl) hHeld ?_
                      simp only [List.setIfInBounds_toArray, List.set_cons_zero, List.set_cons_succ]
                      refine takeN 26 163 rfl rfl (by kernel_rfl) (by kernel_rfl) (by kernel_rfl) (fun _ _ _ h => h) (by rfl) hHeld ?_
                      simp only [List.setIfInBounds_toArray, List.set_cons_zero, List.set_cons_succ]
                      refine takeN 27 164 rfl rfl (by kernel_rfl) (by kernel_rfl) (by kernel_rfl) (fun _ _ _ h => h) (by rfl) hHeld ?_
                      simp only [List.setIfInBounds_toArray, List.set_cons_zero, List.set_cons_succ]
                      refine takeN 28 165 rfl rfl (by kernel_rfl) (by kernel_rfl) (by kernel_rfl) (fun _ _ _ h => h) (by rfl) hHeld ?_
                      simp only [List.setIfInBounds_toArray, List.set_cons_zero, List.set_cons_succ]
                      refine takeY 29 166 (.bool true) rfl rfl (by kernel_rfl) (by kernel_rfl) (by kernel_rfl) (fun _ _ _ h => h) (by rfl) (fun w hSw => ?_) hHeld ?_
                      · obtain ⟨e0, e1, e2, e3, e4, e5, e6, e7⟩ := hSw
                        first
                        | (go_simp; done)
                        | (go_simp; with_reducible rfl)
                      simp only [List.setIfInBounds_toArray, List.set_cons_zero, List.set_cons_succ]
                      refine takeY 30 167 (.bool true) rfl rfl (by kernel_rfl) (by kernel_rfl) (by kernel_rfl) (fun _ _ _ h => h) (by rfl) (fun w hSw => ?_) hHeld ?_
                      · obtain ⟨e0, e1, e2, e3, e4, e5, e6, e7⟩ := hSw
                        first
                        | (go_simp; done)
                        | (go_simp; with_reducible rfl)
                      simp only [List.setIfInBounds_toArray, List.set_cons_zero, List.set_cons_succ]
                      refine takeY 31 10 (.bool true) rfl rfl (by kernel_rfl) (by kernel_rfl) (by kernel_rfl) (fun _ _ _ h => h) (by rfl) (fun w hSw => ?_) hHeld ?_
                      · obtain ⟨e0, e1, e2, e3, e4, e5, e6, e7⟩ := hSw
                        first
                        | (go_simp; done)
                        | (go_simp; with_reducible rfl)
                      simp only [List.setIfInBounds_toArray, List.set_cons_zero, List.set_cons_succ]
                      refine wpAnyH_done (by kernel_rfl) ?_ _
                      go_wp2_with fail
                      go_ret
                      exact ⟨rfl, hX3.bel⟩
                    · as_aux_lemma =>
                      have htt : ta = tb := hor.resolve_left hz13
                      subst htt
                      have hz2 : (z == 13) = false := by rw [beq_eq_false_iff_ne]; exact hz13
                      clear hor
                      have hz5 : (0 : Int) < (S.who.length : Int) := by have := hlt0.out; omega
                      have hne : ¬ S.who = [] := fun h => by rw [h] at hz5; exact absurd hz5 (by decide)
                      have hz6 : (m : Int) < (K.length : Int) := by omega
                      have hwz : wad.add 0 = wad := if_pos rfl
                      rw [hwz] at hxw
                      have hd : W10.drew.cell? ⟨q2, 0, none⟩ = some (.slice (some kad) K.length kc) ∧ W10.drew.cell? ⟨q2, 1, none⟩ = some (.slice none 0 0) ∧ W10.drew.cell? ⟨q2, 2, none⟩ = some (.int .i64 0) ∧ W10.drew.cell? ⟨w.heap.size, 0, none⟩ = some (.string S.ref) ∧ W10.drew.cell? ⟨w.heap.size, 1, none⟩ = some (.string S.old) ∧ W10.drew.cell? ⟨w.heap.size, 2, none⟩ = some (.string S.new) ∧ W10.drew.cell? ⟨w.heap.size, 3, none⟩ = some (.slice (some wad) S.who.length wc1) ∧ W10.drew.cell? ⟨w.heap.size, 4, none⟩ = some (.slice sa1 S.seals.length sc1) ∧ W10.drew.cell? wad = some (.int .i64 (m : Int)) ∧ W10.drew.cell? (kad.add m) = some (.string key) := ⟨hcell.1, hcell.2.1, hcell.2.2.1, hcell.2.2.2.1, hcell.2.2.2.2.1, hcell.2.2.2.2.2.1, hcell.2.2.2.2.2.2.1, hcell.2.2.2.2.2.2.2, hxw, hxk⟩
                      have hgo : Hid (∀ V, Zs w q2 i s K 0 (some kad) kc S ⟨some wad, wc1, sa1, sc1⟩ V → V.cell? ⟨q2, 0, none⟩ = some (.slice (some kad) K.length kc) ∧ V.cell? ⟨q2, 1, none⟩ = some (.slice none 0 0) ∧ V.cell? ⟨q2, 2, none⟩ = some (.int .i64 0) ∧ V.cell? ⟨w.heap.size, 0, none⟩ = some (.string S.ref) ∧ V.cell? ⟨w.heap.size, 1, none⟩ = some (.string S.old) ∧ V.cell? ⟨w.heap.size, 2, none⟩ = some (.string S.new) ∧ V.cell? ⟨w.heap.size, 3, none⟩ = some (.slice (some wad) S.who.length wc1) ∧ V.cell? ⟨w.heap.size, 4, none⟩ = some (.slice sa1 S.seals.length sc1) ∧ V.cell? wad = some (.int .i64 (m : Int)) ∧ V.cell? (kad.add m) = some (.string key)) := fun V hX => by
                        obtain ⟨ad, e, _, hc⟩ := hX.inn.nums 0 (m : Int) Hx0.out
                        simp only [Option.some.injEq] at e
                        subst e
                        rw [show wad.add 0 = wad from if_pos rfl] at hc
                        exact ⟨hX.key.cell 0, hX.key.cell 1, hX.key.cell 2, hX.box.cell 0, hX.box.cell 1, hX.box.cell 2, hX.box.cell 3, hX.box.cell 4, hc, (hX.bel.cell hkb).trans hkc2⟩
                      clear hcell hxw hxk hwz
                      go_upto_region 24 with fail
                      refine wp_region_held_drew (S := fun w' => w'.cell? ⟨q2, 0, none⟩ = some (.slice (some kad) K.length kc) ∧ w'.cell? ⟨q2, 1, none⟩ = some (.slice none 0 0) ∧ w'.cell? ⟨q2, 2, none⟩ = some (.int .i64 0) ∧ w'.cell? ⟨w.heap.size, 0, none⟩ = some (.string S.ref) ∧ w'.cell? ⟨w.heap.size, 1, none⟩ = some (.string S.old) ∧ w'.cell? ⟨w.heap.size, 2, none⟩ = some (.string S.new) ∧ w'.cell? ⟨w.heap.size, 3, none⟩ = some (.slice (some wad) S.who.length wc1) ∧ w'.cell? ⟨w.heap.size, 4, none⟩ = some (.slice sa1 S.seals.length sc1) ∧ w'.cell? wad = some (.int .i64 (m : Int)) ∧ w'.cell? (kad.add m) = some (.string key)) (by kernel_rfl) hd (fun hHeld => ?_)
                      refine takeY 0 137 (.string a) rfl rfl (by kernel_rfl) (by kernel_rfl) (by kernel_rfl) (fun _ _ _ h => h) (by rfl) (fun w hSw => ?_) hHeld ?_
                      · obtain ⟨e0, e1, e2, e3, e4, e5, e6, e7, e8, e9⟩ := hSw
                        first
                        | (go_simp; done)
                        | (go_simp; with_reducible rfl)
                      simp only [List.setIfInBounds_toArray, List.set_cons_zero, List.set_cons_succ]
                      refine takeY 1 138 (.string b) rfl rfl (by kernel_rfl) (by kernel_rfl) (by kernel_rfl) (fun _ _ _ h => h) (by rfl) (fun w hSw => ?_) hHeld ?_
                      · obtain ⟨e0, e1, e2, e3, e4, e5, e6, e7, e8, e9⟩ := hSw
                        first
                        | (go_simp; done)
                        | (go_simp; with_reducible rfl)
                      simp only [List.setIfInBounds_toArray, List.set_cons_zero, List.set_cons_succ]
                      refine takeY 2 139 (.bool true) rfl rfl (by kernel_rfl) (by kernel_rfl) (by kernel_rfl) (fun _ _ _ h => h) (by rfl) (fun w hSw => ?_) hHeld ?_
                      · obtain ⟨e0, e1, e2, e3, e4, e5, e6, e7, e8, e9⟩ := hSw
                        first
                        | (go_simp; done)
                        | (go_simp; with_reducible rfl)
                      simp only [List.setIfInBounds_toArray, List.set_cons_zero, List.set_cons_succ]
                      refine takeY 3 140 (.bool true) rfl rfl (by kernel_rfl) (by kernel_rfl) (by kernel_rfl) (fun _ _ _ h => h) (by rfl) (fun w hSw => ?_) hHeld ?_
                      · obtain ⟨e0, e1, e2, e3, e4, e5, e6, e7, e8, e9⟩ := hSw
                        first
                        | (go_simp; done)
                        | (go_simp; with_reducible rfl)
                      simp only [List.setIfInBounds_toArray, List.set_cons_zero, List.set_cons_succ]
                      refine takeY 4 141 (.agg #[.slice (some kad) K.length kc, .slice none 0 0, .int .i64 0]) rfl rfl (by kernel_rfl) (by kernel_rfl) (by kernel_rfl) (fun _ _ _ h => h) (by rfl) (fun w hSw => ?_) hHeld ?_
                      · obtain ⟨e0, e1, e2, e3, e4, e5, e6, e7, e8, e9⟩ := hSw
                        first
                        | (go_simp; done)
                        | (go_simp; with_reducible rfl)
                      simp only [List.setIfInBounds_toArray, List.set_cons_zero, List.set_cons_succ]
                      refine takeY 5 142 (.int .i64 j) rfl rfl (by kernel_rfl) (by kernel_rfl) (by kernel_rfl) (fun _ _ _ h => h) (by rfl) (fun w hSw => ?_) hHeld ?_
                      · obtain ⟨e0, e1, e2, e3, e4, e5, e6, e7, e8, e9⟩ := hSw
                        first
                        | (go_simp; done)
                        | (go_simp; with_reducible rfl)
                      simp only [List.setIfInBounds_toArray, List.set_cons_zero, List.set_cons_succ]
                      refine takeY 6 143 (.agg #[.string S.ref, .string S.old, .string S.new, .slice (some wad) S.who.length wc1, .slice sa1 S.seals.length sc1]) rfl rfl (by kernel_rfl) (by kernel_rfl) (by kernel_rfl) (fun _ _ _ h => h) (by rfl) (fun w hSw => ?_) hHeld ?_
                      · obtain ⟨e0, e1, e2, e3, e4, e5, e6, e7, e8, e9⟩ := hSw
                        first
                        | (go_simp; done)
                        | (go_simp; with_reducible rfl)
                      simp only [List.setIfInBounds_toArray, List.set_cons_zero, List.set_cons_succ]
                      refine wpAnyH_ready (rs := [7]) (by kernel_rfl) (by simp) ?_
                      refine AllReadyH.cons rfl (fun K' hK' => ?_) AllReadyH.nil
                      go_simp
                      (with_reducible refine CK2.out.mono ?_)
                      rintro _ w3 ⟨rfl, b3⟩
                      (try simp only [])
                      have hX3 := HXA.out.below ((Below.refl _ W10).drew.trans b3)
                      have hV3 := hgo.out w3 hX3
                      refine hK'.out _ _ hV3 (fun hHeld => ?_)
                      clear hK' K'
                      (try simp only [Act.put, List.setIfInBounds_toArray, List.set_cons_zero, List.set_cons_succ])
                      refine takeY 8 145 (.bool false) rfl rfl (by kernel_rfl) (by kernel_rfl) (by kernel_rfl) (fun _ _ _ h => h) (by rfl) (fun w hSw => ?_) hHeld ?_
                      · obtain ⟨e0, e1, e2, e3, e4, e5, e6, e7, e8, e9⟩ := hSw
                        first
                        | (go_simp; done)
                        | (go_simp; with_reducible rfl)
                      simp only [List.setIfInBounds_toArray, List.set_cons_zero, List.set_cons_succ]
                      refine takeY 9 146 (.bool false) rfl rfl (by kernel_rfl) (by kernel_rfl) (by kernel_rfl) (fun _ _ _ h => h) (by rfl) (fun w hSw => ?_) hHeld ?_
                      · obtain ⟨e0, e1, e2, e3, e4, e5, e6, e7, e8, e9⟩ := hSw
                        first
                        | (go_simp; done)
                        | (go_simp; with_reducible rfl)
                      simp only [List.setIfInBounds_toArray, List.set_cons_zero, List.set_cons_succ]
                      refine takeY 10 147 (.slice (some kad) K.length kc) rfl rfl (by kernel_rfl) (by kernel_rfl) (by kernel_rfl) (fun _ _ _ h => h) (by rfl) (fun w hSw => ?_) hHeld ?_
                      · obtain ⟨e0, e1, e2, e3, e4, e5, e6, e7, e8, e9⟩ := hSw
                        first
                        | (go_simp; done)
                        | (go_simp; with_reducible rfl)
                      simp only [List.setIfInBounds_toArray, List.set_cons_zero, List.set_cons_succ]
                      refine takeY 11 148 (.pointer (some ⟨w.heap.size, 3, none⟩)) rfl rfl (by kernel_rfl) (by kernel_rfl) (by kernel_rfl) (fun _ _ _ h => h) (by rfl) (fun w hSw => ?_) hHeld ?_
                      · obtain ⟨e0, e1, e2, e3, e4, e5, e6, e7, e8, e9⟩ := hSw
                        first
                        | (go_simp; done)
                        | (go_simp; with_reducible rfl)
                      simp only [List.setIfInBounds_toArray, List.set_cons_zero, List.set_cons_succ]
                      refine takeY 12 149 (.slice (some wad) S.who.length wc1) rfl rfl (by kernel_rfl) (by kernel_rfl) (by kernel_rfl) (fun _ _ _ h => h) (by rfl) (fun w hSw => ?_) hHeld ?_
                      · obtain ⟨e0, e1, e2, e3, e4, e5, e6, e7, e8, e9⟩ := hSw
                        first
                        | (go_simp; done)
                        | (go_simp; with_reducible rfl)
                      simp only [List.setIfInBounds_toArray, List.set_cons_zero, List.set_cons_succ]
                      refine takeY 13 150 (.pointer (some wad)) rfl rfl (by kernel_rfl) (by kernel_rfl) (by kernel_rfl) (fun _ _ _ h => h) (by rfl) (fun w hSw => ?_) hHeld ?_
                      · obtain ⟨e0, e1, e2, e3, e4, e5, e6, e7, e8, e9⟩ := hSw
                        first
                        | (go_simp; done)
                        | (go_simp; with_reducible rfl)
                        | (go_simp; intro hnil; exact absurd hnil hne)
                      simp only [List.setIfInBounds_toArray, List.set_cons_zero, List.set_cons_succ]
                      refine takeY 14 151 (.int .i64 (m : Int)) rfl rfl (by kernel_rfl) (by kernel_rfl) (by kernel_rfl) (fun _ _ _ h => h) (by rfl) (fun w hSw => ?_) hHeld ?_
                      · obtain ⟨e0, e1, e2, e3, e4, e5, e6, e7, e8, e9⟩ := hSw
                        first
                        | (go_simp; done)
                        | (go_simp; with_reducible rfl)
                      simp only [List.setIfInBounds_toArray, List.set_cons_zero, List.set_cons_succ]
                      refine takeY 15 152 (.pointer (some (kad.add m))) rfl rfl (by kernel_rfl) (by kernel_rfl) (by kernel_rfl) (fun _ _ _ h => h) (by rfl) (fun w hSw => ?_) hHeld ?_
                      · obtain ⟨e0, e1, e2, e3, e4, e5, e6, e7, e8, e9⟩ := hSw
                        first
                        | (go_simp; done)
                        | (go_simp; with_reducible rfl)
                      simp only [List.setIfInBounds_toArray, List.set_cons_zero, List.set_cons_succ]
                      refine takeY 16 153 (.string key) rfl rfl (by kernel_rfl) (by kernel_rfl) (by kernel_rfl) (fun _ _ _ h => h) (by rfl) (fun w hSw => ?_) hHeld ?_
                      · obtain ⟨e0, e1, e2, e3, e4, e5, e6, e7, e8, e9⟩ := hSw
                        first
                        | (go_simp; done)
                        | (go_simp; with_reducible rfl)
                      simp only [List.setIfInBounds_toArray, List.set_cons_zero, List.set_cons_succ]
                      refine takeY 17 154 (.string a) rfl rfl (by kernel_rfl) (by kernel_rfl) (by kernel_rfl) (fun _ _ _ h => h) (by rfl) (fun w hSw => ?_) hHeld ?_
                      · obtain ⟨e0, e1, e2, e3, e4, e5, e6, e7, e8, e9⟩ := hSw
                        first
                        | (go_simp; done)
                        | (go_simp; with_reducible rfl)
                      simp only [List.setIfInBounds_toArray, List.set_cons_zero, List.set_cons_succ]
                      refine takeY 19 156 (.slice (some kad) K.length kc) rfl rfl (by kernel_rfl) (by kernel_rfl) (by kernel_rfl) (fun _ _ _ h => h) (by rfl) (fun w hSw => ?_) hHeld ?_
                      · obtain ⟨e0, e1, e2, e3, e4, e5, e6, e7, e8, e9⟩ := hSw
                        first
                        | (go_simp; done)
                        | (go_simp; with_reducible rfl)
                      simp only [List.setIfInBounds_toArray, List.set_cons_zero, List.set_cons_succ]
                      refine takeY 20 157 (.pointer (some ⟨w.heap.size, 3, none⟩)) rfl rfl (by kernel_rfl) (by kernel_rfl) (by kernel_rfl) (fun _ _ _ h => h) (by rfl) (fun w hSw => ?_) hHeld ?_
                      · obtain ⟨e0, e1, e2, e3, e4, e5, e6, e7, e8, e9⟩ := hSw
                        first
                        | (go_simp; done)
                        | (go_simp; with_reducible rfl)
                      simp only [List.setIfInBounds_toArray, List.set_cons_zero, List.set_cons_succ]
                      refine takeY 21 158 (.slice (some wad) S.who.length wc1) rfl rfl (by kernel_rfl) (by kernel_rfl) (by kernel_rfl) (fun _ _ _ h => h) (by rfl) (fun w hSw => ?_) hHeld ?_
                      · obtain ⟨e0, e1, e2, e3, e4, e5, e6, e7, e8, e9⟩ := hSw
                        first
                        | (go_simp; done)
                        | (go_simp; with_reducible rfl)
                      simp only [List.setIfInBounds_toArray, List.set_cons_zero, List.set_cons_succ]
                      refine takeY 22 159 (.pointer (some wad)) rfl rfl (by kernel_rfl) (by kernel_rfl) (by kernel_rfl) (fun _ _ _ h => h) (by rfl) (fun w hSw => ?_) hHeld ?_
                      · obtain ⟨e0, e1, e2, e3, e4, e5, e6, e7, e8, e9⟩ := hSw
                        first
                        | (go_simp; done)
                        | (go_simp; with_reducible rfl)
                        | (go_simp; intro hnil; exact absurd hnil hne)
                      simp only [List.setIfInBounds_toArray, List.set_cons_zero, List.set_cons_succ]
                      refine takeY 23 160 (.int .i64 (m : Int)) rfl rfl (by kernel_rfl) (by kernel_rfl) (by kernel_rfl) (fun _ _ _ h => h) (by rfl) (fun w hSw => ?_) hHeld ?_
                      · obtain ⟨e0, e1, e2, e3, e4, e5, e6, e7, e8, e9⟩ := hSw
                        first
                        | (go_simp; done)
                        | (go_simp; with_reducible rfl)
                      simp only [List.setIfInBounds_toArray, List.set_cons_zero, List.set_cons_succ]
                      refine takeY 24 161 (.pointer (some (kad.add m))) rfl rfl (by kernel_rfl) (by kernel_rfl) (by kernel_rfl) (fun _ _ _ h => h) (by rfl) (fun w hSw => ?_) hHeld ?_
                      · obtain ⟨e0, e1, e2, e3, e4, e5, e6, e7, e8, e9⟩ := hSw
                        first
                        | (go_simp; done)
                        | (go_simp; with_reducible rfl)
                      simp only [List.setIfInBounds_toArray, List.set_cons_zero, List.set_cons_succ]
                      refine takeY 25 162 (.string key) rfl rfl (by kernel_rfl) (by kernel_rfl) (by kernel_rfl) (fun _ _ _ h => h) (by rfl) (fun w hSw => ?_) hHeld ?_
                      · obtain ⟨e0, e1, e2, e3, e4, e5, e6, e7, e8, e9⟩ := hSw
                        first
                        | (go_simp; done)
                        | (go_simp; with_reducible rfl)
                      simp only [List.setIfInBounds_toArray, List.set_cons_zero, List.set_cons_succ]
                      refine takeY 26 163 (.string b) rfl rfl (by kernel_rfl) (by kernel_rfl) (by kernel_rfl) (fun _ _ _ h => h) (by rfl) (fun w hSw => ?_) hHeld ?_
                      · obtain ⟨e0, e1, e2, e3, e4, e5, e6, e7, e8, e9⟩ := hSw
                        first
                        | (go_simp; done)
                        | (go_simp; with_reducible rfl)
                      simp only [List.setIfInBounds_toArray, List.set_cons_zero, List.set_cons_succ]
                      refine wpAnyH_ready (rs := [18]) (by kernel_rfl) (by simp) ?_
                      refine AllReadyH.cons rfl (fun K' hK' => ?_) AllReadyH.nil
                      go_simp
                      (with_reducible refine (CSa.out w3 (HT.out w3 hX3.bel)).mono ?_)
                      rintro _ w4 ⟨rfl, b4⟩
                      (try simp only [])
                      have hX4 := hX3.below b4
                      have hV4 := hgo.out w4 hX4
                      refine hK'.out _ _ hV4 (fun hHeld => ?_)
                      clear hK' K'
                      (try simp only [Act.put, List.setIfInBounds_toArray, List.set_cons_zero, List.set_cons_succ])
                      refine wpAnyH_ready (rs := [27]) (by kernel_rfl) (by simp) ?_
                      refine AllReadyH.cons rfl (fun K' hK' => ?_) AllReadyH.nil
                      go_simp
                      (with_reducible refine (CSb.out w4 (HT.out w4 hX4.bel)).mono ?_)
                      rintro _ w5 ⟨rfl, b5⟩
                      (try simp only [])
                      have hX5 := hX4.below b5
                      have hV5 := hgo.out w5 hX5
                      refine hK'.out _ _ hV5 (fun hHeld => ?_)
                      clear hK' K'
                      (try simp only [Act.put, List.setIfInBounds_toArray, List.set_cons_zero, List.set_cons_succ])
                      refine takeY 28 165 (.bool true) rfl rfl (by kernel_rfl) (by kernel_rfl) (by kernel_rfl) (fun _ _ _ h => h) (by rfl) (fun w hSw => ?_) hHeld ?_
                      · obtain ⟨e0, e1, e2, e3, e4, e5, e6, e7, e8, e9⟩ := hSw
                        first
                        | (go_simp; done)
                        | (go_simp; with_reducible rfl)
                      simp only [List.setIfInBounds_toArray, List.set_cons_zero, List.set_cons_succ]
                      refine takeY 29 166 (.bool true) rfl rfl (by kernel_rfl) (by kernel_rfl) (by kernel_rfl) (fun _ _ _ h => h) (by rfl) (fun w hSw => ?_) hHeld ?_
                      · obtain ⟨e0, e1, e2, e3, e4, e5, e6, e7, e8, e9⟩ := hSw
                        first
                        | (go_simp; done)
                        | (go_simp; with_reducible rfl)
                      simp only [List.setIfInBounds_toArray, List.set_cons_zero, List.set_cons_succ]
                      refine takeY 30 167 (.bool true) rfl rfl (by kernel_rfl) (by kernel_rfl) (by kernel_rfl) (fun _ _ _ h => h) (by rfl) (fun w hSw => ?_) hHeld ?_
                      · obtain ⟨e0, e1, e2, e3, e4, e5, e6, e7, e8, e9⟩ := hSw
                        first
                        | (go_simp; done)
                        | (go_simp; with_reducible rfl)
                      simp only [List.setIfInBounds_toArray, List.set_cons_zero, List.set_cons_succ]
                      refine takeY 31 10 (.bool true) rfl rfl (by kernel_rfl) (by kernel_rfl) (by kernel_rfl) (fun _ _ _ h => h) (by rfl) (fun w hSw => ?_) hHeld ?_
                      · obtain ⟨e0, e1, e2, e3, e4, e5, e6, e7, e8, e9⟩ := hSw
                        first
                        | (go_simp; done)
                        | (go_simp; with_reducible rfl)
                      simp only [List.setIfInBounds_toArray, List.set_cons_zero, List.set_cons_succ]
                      refine wpAnyH_done (by kernel_rfl) ?_ _
                      go_wp2_with fail
                      go_ret
                      exact ⟨rfl, hX5.bel⟩
end Go.Proofs.YtchpgngphgjmnaaDoor
