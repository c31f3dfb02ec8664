/- Texts in one: SpRepR, SpCps. -/
import Derived.Test.YtbpmgpbmeganoaaDoorSpRep
import Derived.Test.YtbpmgpbmeganoaaDoorSpCat
import Derived.Test.YtbpmgpbmeganoaaDoorRfSame
import Derived.Test.YtbpmgpbmeganoaaDoorSpCopy
import Derived.Test.YtbpmgpbmeganoaaDoorSpPartP
/- ref.Replay: its contract. -/
namespace Go.Proofs.YtbpmgpbmeganoaaDoor
open Go.RowKit

set_option maxRecDepth 100000 in
set_option maxHeartbeats 4000000 in
theorem RefReplay_any (k : Ky) (q : KyAt) (LL : List SpL) (A : Option Addr) (c : Nat) (w : World) (hK : KyIn w w.heap.size k q) (hP : Spx w w.heap.size A LL)
    (hkz : KySz k) (hz : SzL LL) (hl : LL.length ≤ 140737488355328) (ht : Tab w) :
    Calls Tryd.prog 31 #[.agg (kyArr k q), .slice A LL.length c] w (SqEnd w (spReplay k.sig k.need (plS LL))) := by
  have h1 := Lib.hid (Sq0.start w k q)
  have CK : Hid (∀ V (i : Int) (x : SpL), x ∈ LL → Below w.heap.size w V → SpIn w w.heap.size x.1 x.2 →
      Calls Tryd.prog 28 #[.agg (kyArr k q), .int .i64 i, .agg (spArr x.1 x.2)] V fun e w' => e = .returned (.int .i64 (spCheck k.sig k.need i x.1)) ∧ Below V.heap.size V w') := fun V i x hx b hI =>
    RefCheckStep_any k q x.1 x.2 i V (hK.up b) (hI.up b) hkz (by have := (hz x hx).who; omega) (by have := (hz x hx).seals; omega) (by have := (hz x hx).ref; omega) (ht.below b ht.1)
  have CS : Hid (∀ V (L : List Rf) (B : Option Addr) (d : Nat) (x : SpL), x ∈ LL → Rfs V V.heap.size B L → goodR L = true →
      Calls Tryd.prog 64 #[.slice B L.length d, .string x.1.ref, .string x.1.old, .string x.1.new] V (SrEnd V (setR L x.1.ref x.1.old x.1.new))) := fun V L B d x hx hR hg =>
    SetRef_any L x.1.ref x.1.old x.1.new B d V hR (goodR_small hg).2 (by have := (goodR_small hg).1; omega) (by have := (hz x hx).ref; omega)
  have hlen := plS_len LL
  have HP := Lib.hid hP
  have HLn := Lib.hid hlen
  obtain ⟨ka, kc, ka2, kc2⟩ := q
  generalize hA2 : kyArr k ⟨ka, kc, ka2, kc2⟩ = arr2 at *
  have HA2 := Lib.hid hA2
  clear hA2 hK hP hlen ht hkz hz
  by_cases hq : (200 : Int) < (LL.length : Int)
  · rw [spReplay_long (by rw [HLn.out]; omega)]
    go_enter Tryd.func31, Tryd.ntmps31
    go_wp2_with fail
    go_ret3
    rw [← HA2.out]
    exact sq_no _ _ _ _ (Sq0.start w k ⟨ka, kc, ka2, kc2⟩).2
  · rw [spReplay_go (by rw [HLn.out]; omega)]
    have hS := HLn.out
    generalize hG : spGo k.sig k.need 0 [] (plS LL) = R at *
    have h2 : Hid (SqRel w k ⟨ka, kc, ka2, kc2⟩ (plS LL) (.int .i64 0) (.slice none 0 0) (w.alloc (.cells arr2 41))) := by
      show SqRel _ _ _ _ _ _ _
      rw [← HA2.out]
      exact ⟨0, [], none, 0, Nat.zero_le _, rfl, rfl, Rfs.nil _ _ _, Nat.le_refl _, rfl, Sq0.start w k ⟨ka, kc, ka2, kc2⟩, rfl⟩
    have HG := Lib.hid hG
    clear h1 hS hG
    go_enter Tryd.func31, Tryd.ntmps31
    go_wp2_with fail
    go_loopw [16, 7] (fun i v wr => SqRel w k ⟨ka, kc, ka2, kc2⟩ (plS LL) i v wr) (fun i _ _ => LL.length - (intOf i).toNat)
    case atStart => exact h2.out
    case round =>
      clear h2
      obtain ⟨j, cur, B, d, hj, rfl, rfl, hR, hd, hg, hX, he⟩ := hrel
      rw [HLn.out] at hj
      by_cases hlt : j < LL.length
      · have hji : (j : Int) < LL.length := by omega
        have hx : LL[j]? = some LL[j] := List.getElem?_eq_getElem hlt
        have hm := Lib.hid (List.mem_of_getElem? hx)
        obtain ⟨ad, rfl, hb, g0, g1, g2, g3, g4, hI⟩ := HP.out j LL[j] hx
        replace g0 := (hX.2.cell hb).trans g0
        replace g1 := (hX.2.cell (p := ⟨(ad.add (j * 5)).block, (ad.add (j * 5)).off + 1, none⟩) hb).trans g1
        replace g2 := (hX.2.cell (p := ⟨(ad.add (j * 5)).block, (ad.add (j * 5)).off + 2, none⟩) hb).trans g2
        replace g3 := (hX.2.cell (p := ⟨(ad.add (j * 5)).block, (ad.add (j * 5)).off + 3, none⟩) hb).trans g3
        replace g4 := (hX.2.cell (p := ⟨(ad.add (j * 5)).block, (ad.add (j * 5)).off + 4, none⟩) hb).trans g4
        have hdr : (plS LL).drop j = LL[j].1 :: (plS LL).drop (j + 1) := by
          rw [← plS_drop, List.drop_eq_getElem_cons hlt, ← plS_drop]
          rfl
        rw [hdr, spGo_cons] at he
        have HEq := Lib.hid he
        clear he hx hdr
        generalize LL[j] = x at *
        have hAC : Hid (Sq0 w k ⟨ka, kc, ka2, kc2⟩ ((wr.alloc (.cells spZero 25)).setRow wr.heap.size (spArr x.1 x.2)) ∧ Arr ((wr.alloc (.cells spZero 25)).setRow wr.heap.size (spArr x.1 x.2)) wr.heap.size 25 (spArr x.1 x.2) ∧ Rfs ((wr.alloc (.cells spZero 25)).setRow wr.heap.size (spArr x.1 x.2)) ((wr.alloc (.cells spZero 25)).setRow wr.heap.size (spArr x.1 x.2)).heap.size B cur) := by
          have bb : Below wr.heap.size wr ((wr.alloc (.cells spZero 25)).setRow wr.heap.size (spArr x.1 x.2)) := below_setRow ((Below.refl _ _).alloc (Nat.le_refl _) _) (Nat.le_refl _) _
          exact ⟨hX.below bb, (Arr.new _ _ _).row _, hR.up bb⟩
        clear hR
        go_upto_region 7 with (refine wpList_store_row rfl 25 _ _ rfl wr.heap.size (spArr x.1 x.2) rfl rfl 25 spZero (Arr.new wr _ _) (spInfo _ _) rfl (spArr_one _ _) ?_)
        refine wp_forget (fun V => Sq0 w k ⟨ka, kc, ka2, kc2⟩ V ∧ Arr V wr.heap.size 25 (spArr x.1 x.2) ∧ Rfs V V.heap.size B cur) (by exact hAC.out) ?_
        clear hAC g0 g1 g2 g3 g4 hX
        generalize wr.heap.size = y
        rintro V ⟨hX, AX, hR⟩
        have C := Lib.hid (CK.out V (j : Int) x hm.out hX.2 hI)
        have C2 := Lib.hid (fun V (h : Rfs V V.heap.size B cur) => CS.out V cur B d x hm.out h hg)
        have hgd : Hid ((setR cur x.1.ref x.1.old x.1.new).2 = 0 → goodR (setR cur x.1.ref x.1.old x.1.new).1 = true) := fun h => by
          obtain ⟨h3, h4, _, h6, _, h7, h8⟩ := setR_ok h
          rw [h8]
          exact changed_good h3 h4 h6 h7
        have AK := hX.1
        rw [← HA2.out] at C
        clear hI hm
        generalize spCheck k.sig k.need (j : Int) x.1 = z1 at *
        generalize setR cur x.1.ref x.1.old x.1.new = G at *
        obtain ⟨nx, z⟩ := G
        simp only at HEq hgd
        obtain ⟨s, wa, wc, sa, sc⟩ := x
        go_wp2_with (first
          | refine wpList_load_row rfl 41 _ rfl w.heap.size rfl 41 _ (0, 0) _ AK Tryd.underlying41 rfl (kyInfo _ _) ?_
          | refine wpList_load_row rfl 25 _ rfl y rfl 25 _ (0, 0) _ AX Tryd.underlying25 rfl (spInfo _ _) ?_)
        (with_reducible refine C.out.mono ?_)
        clear C
        rintro _ V2 ⟨rfl, b2⟩
        replace hX := hX.below b2
        replace hR := hR.up b2
        replace AX := AX.below b2 AX.lt
        clear AK b2
        by_cases hz1 : z1 = 0
        · subst hz1
          rw [if_neg (by simp)] at HEq
          have c0 : V2.cell? ⟨y, 0, none⟩ = some (.string s.ref) := AX.cell 0
          have c1 : V2.cell? ⟨y, 1, none⟩ = some (.string s.old) := AX.cell 1
          have c2 : V2.cell? ⟨y, 2, none⟩ = some (.string s.new) := AX.cell 2
          have C3 := Lib.hid (C2.out V2 hR)
          clear C2 AX hR
          go_wp2_with fail
          (with_reducible refine C3.out.mono ?_)
          clear C3 c0 c1 c2
          rintro _ V3 ⟨A2, c2, rfl, hR2, hc2, b3⟩
          replace hX := hX.below b3
          clear b3
          by_cases hz : z = 0
          · subst hz
            rw [if_neg (by simp)] at HEq
            have hg2 := hgd.out rfl
            clear hgd
            go_wp2_with fail
            go_roundw
            case rel => exact ⟨j + 1, nx, A2, c2, by rw [HLn.out]; omega, by rw [Int.natCast_add]; rfl, rfl, hR2, hc2, hg2, hX, HEq.out⟩
            case measure => simp [intOf]; omega
          · rw [if_pos hz] at HEq
            have hz2 : (z != 0) = true := by rw [bne_iff_ne]; exact hz
            have HH : Hid (SqEnd w R (.returned (.tuple #[.slice none 0 0, .int .i64 (j : Int), .int .i64 z])) V3) := by
              show SqEnd _ _ _ _
              rw [← HG.out, HEq.out]
              exact sq_no _ _ _ _ hX.2
            clear hgd HEq hX hR2 hc2
            go_wp2_with fail
            go_ret3
            exact HH.out
        · rw [if_pos hz1] at HEq
          have hz2 : (z1 == 0) = false := by rw [beq_eq_false_iff_ne]; exact hz1
          have hz3 : (z1 != 0) = true := by rw [bne_iff_ne]; exact hz1
          have HH : Hid (SqEnd w R (.returned (.tuple #[.slice none 0 0, .int .i64 (j : Int), .int .i64 z1])) V2) := by
            show SqEnd _ _ _ _
            rw [← HG.out, HEq.out]
            exact sq_no _ _ _ _ hX.2
          clear hgd HEq hX hR C2 AX
          go_wp2_with fail
          go_ret3
          exact HH.out
      · obtain rfl : j = LL.length := by omega
        have hd0 : (plS LL).drop LL.length = [] := by rw [← HLn.out]; exact List.drop_length
        rw [hd0, spGo_nil] at he
        have HH : Hid (SqEnd w R (.returned (.tuple #[.slice B cur.length d, .int .i64 0, .int .i64 0])) wr) := by
          show SqEnd _ _ _ _
          rw [← HG.out, he]
          exact ⟨B, d, rfl, hR, hd, hX.2⟩
        clear hd0 he hR hX
        go_wp2_with fail
        go_ret3
        exact HH.out
end Go.Proofs.YtbpmgpbmeganoaaDoor

/- ref.CopySteps: its contract. -/
namespace Go.Proofs.YtbpmgpbmeganoaaDoor
open Go.RowKit

section
variable {P : Program} (w : World)
/-- append onto a row of one's own, told where the row lies behind it -/
theorem wp_appO {o : Oper} {a : Act} {K : Act → World → Prop} {Q : Exit → Act → World → Prop} (s x : Operand) (t : TypeId)
    (ho : o.op = .call { callee := .builtin .append, args := #[s, x], argTypes := #[t, t] })
    (base : Nat) (e : TypeId) (i : TypeInfo) (z : Value) (size bytes : Nat) (ht : P.underlying t = some (.slice e)) (hi : P.info? e = some i) (hz : i.zero = some z)
    (hsize : i.size = size) (hby : i.bytes = bytes) (hzs : z.cells.size = size) (hsz : 0 < size)
    (v : Value) (n : Nat) (xs : List Value) (hs : a.eval s = v) (hown : w.ownsRow base e size v n xs)
    (ad : Addr) (m c : Nat) (news : List Value) (hx : a.eval x = .slice (some ad) m c) (hl : news.length = m * size) (hnews : ∀ j u, news[j]? = some u → w.cell? (ad.add j) = some u) (h1 : ∀ u ∈ news, u.oneCell' = true)
    (h63 : n + m ≤ maxLen) (hbytes : (n + m) * bytes ≤ 140737488355328) (hbase : base ≤ w.heap.size)
    (h : ∀ v' w', w'.ownsRow base e size v' (n + m) (xs ++ news) → w.grownBy w' v.ownBlock → (v'.ownBlock = v.ownBlock ∨ v'.ownBlock = some w.heap.size) → K (a.put o.dst v') w') : o.wp P a w K Q := by
  obtain ⟨v', w', hr, h2, h3, _, h5⟩ := run_append_own_at (P := P) w base t o.type e i z size bytes ht hi hz hsize hby hzs hsz v n xs hown ad m c news hl hnews h1 h63 hbytes hbase
  unfold Oper.wp execOp
  simp only [ho, resolve, invoke, builtin, Sem.run_bind, Sem.run_pure, Result.andThen_ok, List.map_toArray, List.map_cons, List.map_nil, hs, hx, hr]
  exact h v' w' h2 h3 h5
theorem wpList_appO {ops : Array Oper} {rest : List Oper} {o : Oper} {a : Act} {Q : Exit → Act → World → Prop} (hgd : o.guard = none) (s x : Operand) (t : TypeId)
    (ho : o.op = .call { callee := .builtin .append, args := #[s, x], argTypes := #[t, t] })
    (base : Nat) (e : TypeId) (i : TypeInfo) (z : Value) (size bytes : Nat) (ht : P.underlying t = some (.slice e)) (hi : P.info? e = some i) (hz : i.zero = some z)
    (hsize : i.size = size) (hby : i.bytes = bytes) (hzs : z.cells.size = size) (hsz : 0 < size)
    (v : Value) (n : Nat) (xs : List Value) (hs : a.eval s = v) (hown : w.ownsRow base e size v n xs)
    (ad : Addr) (m c : Nat) (news : List Value) (hx : a.eval x = .slice (some ad) m c) (hl : news.length = m * size) (hnews : ∀ j u, news[j]? = some u → w.cell? (ad.add j) = some u) (h1 : ∀ u ∈ news, u.oneCell' = true)
    (h63 : n + m ≤ maxLen) (hbytes : (n + m) * bytes ≤ 140737488355328) (hbase : base ≤ w.heap.size)
    (h : ∀ v' w', w'.ownsRow base e size v' (n + m) (xs ++ news) → w.grownBy w' v.ownBlock → (v'.ownBlock = v.ownBlock ∨ v'.ownBlock = some w.heap.size) → wpList P ops Q rest (a.put o.dst v') w') : wpList P ops Q (o :: rest) a w :=
  wpList_plain hgd fun _ hK => wp_appO w s x t ho base e i z size bytes ht hi hz hsize hby hzs hsz v n xs hs hown ad m c news hx hl hnews h1 h63 hbytes hbase fun v' w' h2 h3 h5 => hK _ _ (h v' w' h2 h3 h5)
end
/-- a step's slices lie not in the row that grows -/
def OffP (p : SpAt) (r : Option Nat) : Prop := (∀ ad, p.wa = some ad → r ≠ some ad.block) ∧ ∀ ad, p.sa = some ad → r ≠ some ad.block
theorem SpIn.gb {w w' : World} {s : Sp} {p : SpAt} {r : Option Nat} (h : SpIn w w.heap.size s p) (k : w.grownBy w' r) (f : OffP p r) : SpIn w' w'.heap.size s p := by
  refine ⟨fun j x hx' => ?_, fun j x hx' => ?_, h.wroom, h.sroom⟩
  · obtain ⟨ad, e, hb, hc⟩ := h.nums j x hx'
    have e3 : (ad.add j).block = ad.block := by unfold Addr.add; split <;> rfl
    exact ⟨ad, e, Nat.lt_of_lt_of_le hb k.size, (World.cell?_of_block (k.block _ hb (fun e2 => f.1 ad e (by rw [← e3]; exact e2.symm)))).trans hc⟩
  · obtain ⟨ad, e, hb, hc⟩ := h.txs j x hx'
    have e3 : (ad.add j).block = ad.block := by unfold Addr.add; split <;> rfl
    exact ⟨ad, e, Nat.lt_of_lt_of_le hb k.size, (World.cell?_of_block (k.block _ hb (fun e2 => f.2 ad e (by rw [← e3]; exact e2.symm)))).trans hc⟩
/-- the copies so far: a row of one's own, and what the copies hold lies off it -/
structure Cs (w : World) (M : List SpL) (v : Value) (W : World) : Prop where
  own : W.ownsRow w.heap.size 25 5 v M.length (spCells M)
  inn : ∀ x ∈ M, SpIn W W.heap.size x.1 x.2 ∧ OffP x.2 v.ownBlock ∧ ∀ ad, (x.2.wa = some ad ∨ x.2.sa = some ad) → ad.block < W.heap.size
  bel : Below w.heap.size w W
theorem Cs.start (w : World) : Cs w [] (.slice none 0 0) w := ⟨own_nil _ _ _ _, fun _ hx => absurd hx List.not_mem_nil, Below.refl _ _⟩
theorem Cs.below {w W W' : World} {M : List SpL} {v : Value} (h : Cs w M v W) (b : Below W.heap.size W W') : Cs w M v W' := by
  refine ⟨?_, fun x hx => ?_, h.bel.trans (b.mono h.bel.size)⟩
  · refine ⟨h.own.1, ?_⟩
    rcases h.own.2 with hn | ⟨g, cap, cur, hv, hbs, hg, rest⟩
    · exact .inl hn
    · exact .inr ⟨g, cap, cur, hv, hbs, (b.block g (Array.getElem?_eq_some_iff.1 hg).1).trans hg, rest⟩
  · obtain ⟨h1, h2, h3⟩ := h.inn x hx
    exact ⟨h1.up b, h2, fun ad e => Nat.lt_of_lt_of_le (h3 ad e) b.size⟩
def CsRel (w : World) (LL : List SpL) (v i : Value) (wr : World) : Prop :=
  ∃ (j : Nat) (M : List SpL) (v0 : Value), j ≤ LL.length ∧ i = .int .i64 (j : Int) ∧ v0 = v ∧ Cs w M v0 wr ∧ plS M = (plS LL).take j
/-- what CopySteps answers, in memory -/
def CcEnd (w : World) (L : List Sp) (e : Ending) (w' : World) : Prop :=
  ∃ (M : List SpL) (A : Option Addr) (c : Nat), e = .returned (.slice A M.length c) ∧ plS M = L ∧ M.length ≤ c ∧ Spx w' w'.heap.size A M ∧ Below w.heap.size w w'
theorem spArr_ones (s : Sp) (p : SpAt) : ∀ u ∈ (spArr s p).toList, u.oneCell' = true := fun u hu => by
  simp [spArr] at hu
  rcases hu with rfl | rfl | rfl | rfl | rfl <;> rfl
/-- one copy more: the copy in a block of its own, then behind the row -/
theorem app_sp {w W V : World} {v : Value} {M : List SpL} {s : Sp} {p : SpAt} (h : Cs w M v W) (hI : SpIn V V.heap.size s p) (b : Below W.heap.size W V) (f1 : ∀ ad, p.wa = some ad → W.heap.size ≤ ad.block ∧ ad.block < V.heap.size) (f2 : ∀ ad, p.sa = some ad → W.heap.size ≤ ad.block ∧ ad.block < V.heap.size) :
    (∀ j u, (spArr s p).toList[j]? = some u → (V.alloc (.cells (spArr s p) 25)).cell? ((⟨V.heap.size, 0, none⟩ : Addr).add j) = some u) ∧ (V.alloc (.cells (spArr s p) 25)).ownsRow w.heap.size 25 5 v M.length (spCells M) ∧
      w.heap.size ≤ (V.alloc (.cells (spArr s p) 25)).heap.size ∧
      ∀ v' w', w'.ownsRow w.heap.size 25 5 v' (M.length + 1) (spCells M ++ (spArr s p).toList) → (V.alloc (.cells (spArr s p) 25)).grownBy w' v.ownBlock →
        (v'.ownBlock = v.ownBlock ∨ v'.ownBlock = some (V.heap.size + 1)) → Cs w (M ++ [(s, p)]) v' w' := by
  have hsa : (V.alloc (.cells (spArr s p) 25)).heap.size = V.heap.size + 1 := World.size_alloc _ _
  have A0 : Arr (V.alloc (.cells (spArr s p) 25)) V.heap.size 25 (spArr s p) := Arr.new _ _ _
  have bq : Below V.heap.size V (V.alloc (.cells (spArr s p) 25)) := (Below.refl _ _).alloc (Nat.le_refl _) _
  have hlt : ∀ q, v.ownBlock = some q → q < W.heap.size := fun q hq => own_top h.own q hq
  have h0 := h.below b
  have h2 := h0.below bq
  have hI2 : SpIn (V.alloc (.cells (spArr s p) 25)) (V.alloc (.cells (spArr s p) 25)).heap.size s p := hI.up bq
  refine ⟨fun j u hu => ?_, h2.own, h2.bel.size, fun v' w' h3 h4 h5 => ⟨?_, fun x hx => ?_, h2.bel.grown h4 h2.bel.size (fun q hq => own_row_ge h.own q hq)⟩⟩
  · rw [zero_add, A0.cell j, ← Array.getElem?_toList]
    exact hu
  · rw [List.length_append, spCells_app]
    simp only [spCells, List.append_nil, List.length_singleton]
    exact h3
  · have hs := h4.size
    have hsz := bq.size
    have hsb := b.size
    rcases List.mem_append.1 hx with hm | hm
    · obtain ⟨k1, k2, k3⟩ := h2.inn x hm
      refine ⟨k1.gb h4 k2, ?_, fun ad e => Nat.lt_of_lt_of_le (k3 ad e) hs⟩
      rcases h5 with h5 | h5
      · rw [h5]; exact k2
      · rw [h5]
        exact ⟨fun ad e e2 => by have := k3 ad (.inl e); have := Option.some.inj e2; omega, fun ad e e2 => by have := k3 ad (.inr e); have := Option.some.inj e2; omega⟩
    · obtain rfl := List.mem_singleton.1 hm
      have ho : OffP p v.ownBlock := ⟨fun ad e e2 => by have := (f1 ad e).1; have := hlt _ e2; omega, fun ad e e2 => by have := (f2 ad e).1; have := hlt _ e2; omega⟩
      refine ⟨hI2.gb h4 ho, ?_, fun ad e => ?_⟩
      · rcases h5 with h5 | h5
        · rw [h5]; exact ho
        · rw [h5]
          exact ⟨fun ad e e2 => by have := (f1 ad e).2; have := Option.some.inj e2; omega, fun ad e e2 => by have := (f2 ad e).2; have := Option.some.inj e2; omega⟩
      · rcases e with e | e
        · have := (f1 ad e).2; omega
        · have := (f2 ad e).2; omega
set_option maxRecDepth 100000 in
set_option maxHeartbeats 4000000 in
theorem CopySteps_any (LL : List SpL) (A : Option Addr) (c : Nat) (w : World) (hP : Spx w w.heap.size A LL) (hz : SzL LL) (hl : LL.length * 96 ≤ 140737488351232) :
    Calls Tryd.prog 30 #[.slice A LL.length c] w (CcEnd w (plS LL)) := by
  have CC : Hid (∀ V x, x ∈ LL → Below w.heap.size w V → SpIn w w.heap.size x.1 x.2 → Calls Tryd.prog 14 #[.agg (spArr x.1 x.2)] V (CpEndF V x.1)) := fun V x hx b hI => CopyStep_far x.1 x.2 V (hI.up b) (hz x hx)
  obtain ⟨si, hsi, sz0, sz1, sz2⟩ := info_parts info_step
  have Hsi := Lib.hid hsi
  have Sz0 := Lib.hid sz0
  have Sz1 := Lib.hid sz1
  have Sz2 := Lib.hid sz2
  have HP := Lib.hid hP
  have HLn := Lib.hid (plS_len LL)
  have h2 : Hid (CsRel w LL (.slice none 0 0) (.int .i64 0) w) := ⟨0, [], _, Nat.zero_le _, rfl, rfl, Cs.start w, by rw [List.take_zero]; rfl⟩
  clear hP hz hsi sz0 sz1 sz2
  go_enter Tryd.func30, Tryd.ntmps30
  go_wp2_with fail
  go_loopw [3, 8] (fun v i wr => CsRel w LL v i wr) (fun _ i _ => LL.length - (intOf i).toNat)
  case atStart => exact h2.out
  case round =>
    clear h2
    obtain ⟨j, M, v, hj, rfl, rfl, hX, he⟩ := hrel
    by_cases hlt : j < LL.length
    · have hji : (j : Int) < LL.length := by omega
      have hx : LL[j]? = some LL[j] := List.getElem?_eq_getElem hlt
      have hm := Lib.hid (List.mem_of_getElem? hx)
      obtain ⟨ad, rfl, hb, g0, g1, g2, g3, g4, hI⟩ := HP.out j LL[j] hx
      replace g0 := (hX.bel.cell hb).trans g0
      replace g1 := (hX.bel.cell (p := ⟨(ad.add (j * 5)).block, (ad.add (j * 5)).off + 1, none⟩) hb).trans g1
      replace g2 := (hX.bel.cell (p := ⟨(ad.add (j * 5)).block, (ad.add (j * 5)).off + 2, none⟩) hb).trans g2
      replace g3 := (hX.bel.cell (p := ⟨(ad.add (j * 5)).block, (ad.add (j * 5)).off + 3, none⟩) hb).trans g3
      replace g4 := (hX.bel.cell (p := ⟨(ad.add (j * 5)).block, (ad.add (j * 5)).off + 4, none⟩) hb).trans g4
      have hpl : (plS LL)[j]? = some LL[j].1 := by unfold plS; rw [List.getElem?_map, hx]; rfl
      have hnx : Hid (∀ p, plS (M ++ [(LL[j].1, p)]) = (plS LL).take (j + 1)) := fun p => by
        rw [List.take_add_one, hpl, ← he]
        unfold plS
        rw [List.map_append]
        rfl
      have hML : Hid (M.length ≤ j) := by
        have := congrArg List.length he
        rw [plS_len, List.length_take] at this
        show _ ≤ _
        omega
      clear he hx hpl
      generalize LL[j] = x at *
      obtain ⟨s, wa, wc, sa, sc⟩ := x
      have hAC : Hid (Cs w M v ((wr.alloc (.cells spZero 25)).setRow wr.heap.size (spArr s ⟨wa, wc, sa, sc⟩)) ∧ Arr ((wr.alloc (.cells spZero 25)).setRow wr.heap.size (spArr s ⟨wa, wc, sa, sc⟩)) wr.heap.size 25 (spArr s ⟨wa, wc, sa, sc⟩)) := by
        have bb : Below wr.heap.size wr ((wr.alloc (.cells spZero 25)).setRow wr.heap.size (spArr s ⟨wa, wc, sa, sc⟩)) := below_setRow ((Below.refl _ _).alloc (Nat.le_refl _) _) (Nat.le_refl _) _
        exact ⟨hX.below bb, (Arr.new _ _ _).row _⟩
      clear hX
      go_upto_region 5 with (refine wpList_store_row rfl 25 _ _ rfl wr.heap.size (spArr s ⟨wa, wc, sa, sc⟩) rfl rfl 25 spZero (Arr.new wr _ _) (spInfo _ _) rfl (spArr_one _ _) ?_)
      refine wp_forget (fun V => Cs w M v V ∧ Arr V wr.heap.size 25 (spArr s ⟨wa, wc, sa, sc⟩)) (by exact hAC.out) ?_
      clear hAC g0 g1 g2 g3 g4
      generalize wr.heap.size = y
      rintro V ⟨hX, AX⟩
      have C := Lib.hid (CC.out V (s, ⟨wa, wc, sa, sc⟩) hm.out hX.bel hI)
      clear hI hm
      go_wp2_with (refine wpList_load_row rfl 25 _ rfl y rfl 25 _ (0, 0) _ AX Tryd.underlying25 rfl (spInfo _ _) ?_)
      (with_reducible refine C.out.mono ?_)
      clear C
      rintro _ V2 ⟨p, rfl, hI2, b2, f1, f2⟩
      obtain ⟨n1, n2, n3, n4⟩ := app_sp hX hI2 b2 f1 f2
      have N1 := Lib.hid n1
      have N2 := Lib.hid n2
      have N3 := Lib.hid n3
      have N4 := Lib.hid n4
      have hle := hML.out
      clear n1 n2 n3 n4 AX hX f1 f2
      have hs5 : (spArr s p).size = 5 := rfl
      go_wp2_with (at_builtin; refine wpList_appO _ rfl _ _ 45 rfl w.heap.size 25 si _ 5 96 Tryd.underlying45 Hsi.out Sz0.out Sz1.out Sz2.out rfl (by decide) _ _ _ rfl N2.out ⟨V2.heap.size, 0, none⟩ 1 1 (spArr s p).toList rfl rfl N1.out (spArr_ones s p) (by unfold maxLen; omega) (by omega) N3.out ?_)
      intro v' w' h1 h2 h3
      have H4 := Lib.hid (N4.out v' w' h1 h2 h3)
      clear h1 h2 h3 N1 N2 N3 N4 hI2 b2
      go_wp2_with fail
      go_roundw
      case rel => exact ⟨j + 1, _, _, hlt, by rw [Int.natCast_add]; rfl, rfl, H4.out, hnx.out p⟩
      case measure => simp [intOf]; omega
    · obtain rfl : j = LL.length := by omega
      have e2 : plS M = plS LL := by rw [he, ← HLn.out, List.take_length]
      obtain ⟨A2, c2, rfl, hc2, hS⟩ := own_steps hX.own (Nat.le_refl _) (fun k x hx => (hX.inn x (List.mem_of_getElem? hx)).1)
      have HH : Hid (CcEnd w (plS LL) (.returned (.slice A2 M.length c2)) wr) := ⟨M, A2, c2, rfl, e2, hc2, hS, hX.bel⟩
      clear he e2 hX hS
      go_wp2_with fail
      go_ret
      exact HH.out
end Go.Proofs.YtbpmgpbmeganoaaDoor
