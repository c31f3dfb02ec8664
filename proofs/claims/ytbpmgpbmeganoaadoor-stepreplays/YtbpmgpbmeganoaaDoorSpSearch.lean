/- Texts in one: SpCps, SpKeys, SpPlain, SpSearch. -/
import Derived.Test.YtbpmgpbmeganoaaDoorSpCopy
import Derived.Test.YtbpmgpbmeganoaaDoorSpPartP
import Derived.Test.YtbpmgpbmeganoaaDoorSpMath
import Derived.Test.YtbpmgpbmeganoaaDoorRfSets
import Derived.Test.YtbpmgpbmeganoaaDoorSpMem
/- ref.CopySteps: its contract. -/
namespace Go.Proofs.YtbpmgpbmeganoaaDoor
open Go.RowKit

section
variable {P : Program} (w : World)
/-- append onto a row of one's own, told where the row lies behind it -/
theorem wp_appO {o : Oper} {a : Act} {K : Act → World → Prop} {Q : Exit → Act → World → Prop} (s x : Operand) (t : TypeId)
    (ho : o.op = .call { callee := .builtin .append, args := #[s, x], argTypes := #[t, t] })
    (base : Nat) (e : TypeId) (i : TypeInfo) (z : Value) (size bytes : Nat) (ht : P.underlying t = some (.slice e)) (hi : P.info? e = some i) (hz : i.zero = some z)
    (hsize : i.size = size) (hby : i.bytes = bytes) (hzs : z.cells.size = size) (hsz : 0 < size)
    (v : Value) (n : Nat) (xs : List Value) (hs : a.eval s = v) (hown : w.ownsRow base e size v n xs)
    (ad : Addr) (m c : Nat) (news : List Value) (hx : a.eval x = .slice (some ad) m c) (hl : news.length = m * size) (hnews : ∀ j u, news[j]? = some u → w.cell? (ad.add j) = some u) (h1 : ∀ u ∈ news, u.oneCell' = true)
    (h63 : n + m ≤ maxLen) (hbytes : (n + m) * bytes ≤ 140737488355328) (hbase : base ≤ w.heap.size)
    (h : ∀ v' w', w'.ownsRow base e size v' (n + m) (xs ++ news) → w.grownBy w' v.ownBlock → (v'.ownBlock = v.ownBlock ∨ v'.ownBlock = some w.heap.size) → K (a.put o.dst v') w') : o.wp P a w K Q := by
  obtain ⟨v', w', hr, h2, h3, _, h5⟩ := run_append_own_at (P := P) w base t o.type e i z size bytes ht hi hz hsize hby hzs hsz v n xs hown ad m c news hl hnews h1 h63 hbytes hbase
  unfold Oper.wp execOp
  simp only [ho, resolve, invoke, builtin, Sem.run_bind, Sem.run_pure, Result.andThen_ok, List.map_toArray, List.map_cons, List.map_nil, hs, hx, hr]
  exact h v' w' h2 h3 h5
theorem wpList_appO {ops : Array Oper} {rest : List Oper} {o : Oper} {a : Act} {Q : Exit → Act → World → Prop} (hgd : o.guard = none) (s x : Operand) (t : TypeId)
    (ho : o.op = .call { callee := .builtin .append, args := #[s, x], argTypes := #[t, t] })
    (base : Nat) (e : TypeId) (i : TypeInfo) (z : Value) (size bytes : Nat) (ht : P.underlying t = some (.slice e)) (hi : P.info? e = some i) (hz : i.zero = some z)
    (hsize : i.size = size) (hby : i.bytes = bytes) (hzs : z.cells.size = size) (hsz : 0 < size)
    (v : Value) (n : Nat) (xs : List Value) (hs : a.eval s = v) (hown : w.ownsRow base e size v n xs)
    (ad : Addr) (m c : Nat) (news : List Value) (hx : a.eval x = .slice (some ad) m c) (hl : news.length = m * size) (hnews : ∀ j u, news[j]? = some u → w.cell? (ad.add j) = some u) (h1 : ∀ u ∈ news, u.oneCell' = true)
    (h63 : n + m ≤ maxLen) (hbytes : (n + m) * bytes ≤ 140737488355328) (hbase : base ≤ w.heap.size)
    (h : ∀ v' w', w'.ownsRow base e size v' (n + m) (xs ++ news) → w.grownBy w' v.ownBlock → (v'.ownBlock = v.ownBlock ∨ v'.ownBlock = some w.heap.size) → wpList P ops Q rest (a.put o.dst v') w') : wpList P ops Q (o :: rest) a w :=
  wpList_plain hgd fun _ hK => wp_appO w s x t ho base e i z size bytes ht hi hz hsize hby hzs hsz v n xs hs hown ad m c news hx hl hnews h1 h63 hbytes hbase fun v' w' h2 h3 h5 => hK _ _ (h v' w' h2 h3 h5)
end
/-- a step's slices lie not in the row that grows -/
def OffP (p : SpAt) (r : Option Nat) : Prop := (∀ ad, p.wa = some ad → r ≠ some ad.block) ∧ ∀ ad, p.sa = some ad → r ≠ some ad.block
theorem SpIn.gb {w w' : World} {s : Sp} {p : SpAt} {r : Option Nat} (h : SpIn w w.heap.size s p) (k : w.grownBy w' r) (f : OffP p r) : SpIn w' w'.heap.size s p := by
  refine ⟨fun j x hx' => ?_, fun j x hx' => ?_, h.wroom, h.sroom⟩
  · obtain ⟨ad, e, hb, hc⟩ := h.nums j x hx'
    have e3 : (ad.add j).block = ad.block := by unfold Addr.add; split <;> rfl
    exact ⟨ad, e, Nat.lt_of_lt_of_le hb k.size, (World.cell?_of_block (k.block _ hb (fun e2 => f.1 ad e (by rw [← e3]; exact e2.symm)))).trans hc⟩
  · obtain ⟨ad, e, hb, hc⟩ := h.txs j x hx'
    have e3 : (ad.add j).block = ad.block := by unfold Addr.add; split <;> rfl
    exact ⟨ad, e, Nat.lt_of_lt_of_le hb k.size, (World.cell?_of_block (k.block _ hb (fun e2 => f.2 ad e (by rw [← e3]; exact e2.symm)))).trans hc⟩
/-- the copies so far: a row of one's own, and what the copies hold lies off it -/
structure Cs (w : World) (M : List SpL) (v : Value) (W : World) : Prop where
  own : W.ownsRow w.heap.size 25 5 v M.length (spCells M)
  inn : ∀ x ∈ M, SpIn W W.heap.size x.1 x.2 ∧ OffP x.2 v.ownBlock ∧ ∀ ad, (x.2.wa = some ad ∨ x.2.sa = some ad) → ad.block < W.heap.size
  bel : Below w.heap.size w W
theorem Cs.start (w : World) : Cs w [] (.slice none 0 0) w := ⟨own_nil _ _ _ _, fun _ hx => absurd hx List.not_mem_nil, Below.refl _ _⟩
theorem Cs.below {w W W' : World} {M : List SpL} {v : Value} (h : Cs w M v W) (b : Below W.heap.size W W') : Cs w M v W' := by
  refine ⟨?_, fun x hx => ?_, h.bel.trans (b.mono h.bel.size)⟩
  · refine ⟨h.own.1, ?_⟩
    rcases h.own.2 with hn | ⟨g, cap, cur, hv, hbs, hg, rest⟩
    · exact .inl hn
    · exact .inr ⟨g, cap, cur, hv, hbs, (b.block g (Array.getElem?_eq_some_iff.1 hg).1).trans hg, rest⟩
  · obtain ⟨h1, h2, h3⟩ := h.inn x hx
    exact ⟨h1.up b, h2, fun ad e => Nat.lt_of_lt_of_le (h3 ad e) b.size⟩
def CsRel (w : World) (LL : List SpL) (v i : Value) (wr : World) : Prop :=
  ∃ (j : Nat) (M : List SpL) (v0 : Value), j ≤ LL.length ∧ i = .int .i64 (j : Int) ∧ v0 = v ∧ Cs w M v0 wr ∧ plS M = (plS LL).take j
/-- what CopySteps answers, in memory -/
def CcEnd (w : World) (L : List Sp) (e : Ending) (w' : World) : Prop :=
  ∃ (M : List SpL) (A : Option Addr) (c : Nat), e = .returned (.slice A M.length c) ∧ plS M = L ∧ M.length ≤ c ∧ Spx w' w'.heap.size A M ∧ Below w.heap.size w w'
theorem spArr_ones (s : Sp) (p : SpAt) : ∀ u ∈ (spArr s p).toList, u.oneCell' = true := fun u hu => by
  simp [spArr] at hu
  rcases hu with rfl | rfl | rfl | rfl | rfl <;> rfl
/-- one copy more: the copy in a block of its own, then behind the row -/
theorem app_sp {w W V : World} {v : Value} {M : List SpL} {s : Sp} {p : SpAt} (h : Cs w M v W) (hI : SpIn V V.heap.size s p) (b : Below W.heap.size W V) (f1 : ∀ ad, p.wa = some ad → W.heap.size ≤ ad.block ∧ ad.block < V.heap.size) (f2 : ∀ ad, p.sa = some ad → W.heap.size ≤ ad.block ∧ ad.block < V.heap.size) :
    (∀ j u, (spArr s p).toList[j]? = some u → (V.alloc (.cells (spArr s p) 25)).cell? ((⟨V.heap.size, 0, none⟩ : Addr).add j) = some u) ∧ (V.alloc (.cells (spArr s p) 25)).ownsRow w.heap.size 25 5 v M.length (spCells M) ∧
      w.heap.size ≤ (V.alloc (.cells (spArr s p) 25)).heap.size ∧
      ∀ v' w', w'.ownsRow w.heap.size 25 5 v' (M.length + 1) (spCells M ++ (spArr s p).toList) → (V.alloc (.cells (spArr s p) 25)).grownBy w' v.ownBlock →
        (v'.ownBlock = v.ownBlock ∨ v'.ownBlock = some (V.heap.size + 1)) → Cs w (M ++ [(s, p)]) v' w' := by
  have hsa : (V.alloc (.cells (spArr s p) 25)).heap.size = V.heap.size + 1 := World.size_alloc _ _
  have A0 : Arr (V.alloc (.cells (spArr s p) 25)) V.heap.size 25 (spArr s p) := Arr.new _ _ _
  have bq : Below V.heap.size V (V.alloc (.cells (spArr s p) 25)) := (Below.refl _ _).alloc (Nat.le_refl _) _
  have hlt : ∀ q, v.ownBlock = some q → q < W.heap.size := fun q hq => own_top h.own q hq
  have h0 := h.below b
  have h2 := h0.below bq
  have hI2 : SpIn (V.alloc (.cells (spArr s p) 25)) (V.alloc (.cells (spArr s p) 25)).heap.size s p := hI.up bq
  refine ⟨fun j u hu => ?_, h2.own, h2.bel.size, fun v' w' h3 h4 h5 => ⟨?_, fun x hx => ?_, h2.bel.grown h4 h2.bel.size (fun q hq => own_row_ge h.own q hq)⟩⟩
  · rw [zero_add, A0.cell j, ← Array.getElem?_toList]
    exact hu
  · rw [List.length_append, spCells_app]
    simp only [spCells, List.append_nil, List.length_singleton]
    exact h3
  · have hs := h4.size
    have hsz := bq.size
    have hsb := b.size
    rcases List.mem_append.1 hx with hm | hm
    · obtain ⟨k1, k2, k3⟩ := h2.inn x hm
      refine ⟨k1.gb h4 k2, ?_, fun ad e => Nat.lt_of_lt_of_le (k3 ad e) hs⟩
      rcases h5 with h5 | h5
      · rw [h5]; exact k2
      · rw [h5]
        exact ⟨fun ad e e2 => by have := k3 ad (.inl e); have := Option.some.inj e2; omega, fun ad e e2 => by have := k3 ad (.inr e); have := Option.some.inj e2; omega⟩
    · obtain rfl := List.mem_singleton.1 hm
      have ho : OffP p v.ownBlock := ⟨fun ad e e2 => by have := (f1 ad e).1; have := hlt _ e2; omega, fun ad e e2 => by have := (f2 ad e).1; have := hlt _ e2; omega⟩
      refine ⟨hI2.gb h4 ho, ?_, fun ad e => ?_⟩
      · rcases h5 with h5 | h5
        · rw [h5]; exact ho
        · rw [h5]
          exact ⟨fun ad e e2 => by have := (f1 ad e).2; have := Option.some.inj e2; omega, fun ad e e2 => by have := (f2 ad e).2; have := Option.some.inj e2; omega⟩
      · rcases e with e | e
        · have := (f1 ad e).2; omega
        · have := (f2 ad e).2; omega
set_option maxRecDepth 100000 in
set_option maxHeartbeats 4000000 in
theorem CopySteps_any (LL : List SpL) (A : Option Addr) (c : Nat) (w : World) (hP : Spx w w.heap.size A LL) (hz : SzL LL) (hl : LL.length * 96 ≤ 140737488351232) :
    Calls Tryd.prog 30 #[.slice A LL.length c] w (CcEnd w (plS LL)) := by
  have CC : Hid (∀ V x, x ∈ LL → Below w.heap.size w V → SpIn w w.heap.size x.1 x.2 → Calls Tryd.prog 14 #[.agg (spArr x.1 x.2)] V (CpEndF V x.1)) := fun V x hx b hI => CopyStep_far x.1 x.2 V (hI.up b) (hz x hx)
  obtain ⟨si, hsi, sz0, sz1, sz2⟩ := info_parts info_step
  have Hsi := Lib.hid hsi
  have Sz0 := Lib.hid sz0
  have Sz1 := Lib.hid sz1
  have Sz2 := Lib.hid sz2
  have HP := Lib.hid hP
  have HLn := Lib.hid (plS_len LL)
  have h2 : Hid (CsRel w LL (.slice none 0 0) (.int .i64 0) w) := ⟨0, [], _, Nat.zero_le _, rfl, rfl, Cs.start w, by rw [List.take_zero]; rfl⟩
  clear hP hz hsi sz0 sz1 sz2
  go_enter Tryd.func30, Tryd.ntmps30
  go_wp2_with fail
  go_loopw [3, 8] (fun v i wr => CsRel w LL v i wr) (fun _ i _ => LL.length - (intOf i).toNat)
  case atStart => exact h2.out
  case round =>
    clear h2
    obtain ⟨j, M, v, hj, rfl, rfl, hX, he⟩ := hrel
    by_cases hlt : j < LL.length
    · have hji : (j : Int) < LL.length := by omega
      have hx : LL[j]? = some LL[j] := List.getElem?_eq_getElem hlt
      have hm := Lib.hid (List.mem_of_getElem? hx)
      obtain ⟨ad, rfl, hb, g0, g1, g2, g3, g4, hI⟩ := HP.out j LL[j] hx
      replace g0 := (hX.bel.cell hb).trans g0
      replace g1 := (hX.bel.cell (p := ⟨(ad.add (j * 5)).block, (ad.add (j * 5)).off + 1, none⟩) hb).trans g1
      replace g2 := (hX.bel.cell (p := ⟨(ad.add (j * 5)).block, (ad.add (j * 5)).off + 2, none⟩) hb).trans g2
      replace g3 := (hX.bel.cell (p := ⟨(ad.add (j * 5)).block, (ad.add (j * 5)).off + 3, none⟩) hb).trans g3
      replace g4 := (hX.bel.cell (p := ⟨(ad.add (j * 5)).block, (ad.add (j * 5)).off + 4, none⟩) hb).trans g4
      have hpl : (plS LL)[j]? = some LL[j].1 := by unfold plS; rw [List.getElem?_map, hx]; rfl
      have hnx : Hid (∀ p, plS (M ++ [(LL[j].1, p)]) = (plS LL).take (j + 1)) := fun p => by
        rw [List.take_add_one, hpl, ← he]
        unfold plS
        rw [List.map_append]
        rfl
      have hML : Hid (M.length ≤ j) := by
        have := congrArg List.length he
        rw [plS_len, List.length_take] at this
        show _ ≤ _
        omega
      clear he hx hpl
      generalize LL[j] = x at *
      obtain ⟨s, wa, wc, sa, sc⟩ := x
      have hAC : Hid (Cs w M v ((wr.alloc (.cells spZero 25)).setRow wr.heap.size (spArr s ⟨wa, wc, sa, sc⟩)) ∧ Arr ((wr.alloc (.cells spZero 25)).setRow wr.heap.size (spArr s ⟨wa, wc, sa, sc⟩)) wr.heap.size 25 (spArr s ⟨wa, wc, sa, sc⟩)) := by
        have bb : Below wr.heap.size wr ((wr.alloc (.cells spZero 25)).setRow wr.heap.size (spArr s ⟨wa, wc, sa, sc⟩)) := below_setRow ((Below.refl _ _).alloc (Nat.le_refl _) _) (Nat.le_refl _) _
        exact ⟨hX.below bb, (Arr.new _ _ _).row _⟩
      clear hX
      go_upto_region 5 with (refine wpList_store_row rfl 25 _ _ rfl wr.heap.size (spArr s ⟨wa, wc, sa, sc⟩) rfl rfl 25 spZero (Arr.new wr _ _) (spInfo _ _) rfl (spArr_one _ _) ?_)
      refine wp_forget (fun V => Cs w M v V ∧ Arr V wr.heap.size 25 (spArr s ⟨wa, wc, sa, sc⟩)) (by exact hAC.out) ?_
      clear hAC g0 g1 g2 g3 g4
      generalize wr.heap.size = y
      rintro V ⟨hX, AX⟩
      have C := Lib.hid (CC.out V (s, ⟨wa, wc, sa, sc⟩) hm.out hX.bel hI)
      clear hI hm
      go_wp2_with (refine wpList_load_row rfl 25 _ rfl y rfl 25 _ (0, 0) _ AX Tryd.underlying25 rfl (spInfo _ _) ?_)
      (with_reducible refine C.out.mono ?_)
      clear C
      rintro _ V2 ⟨p, rfl, hI2, b2, f1, f2⟩
      obtain ⟨n1, n2, n3, n4⟩ := app_sp hX hI2 b2 f1 f2
      have N1 := Lib.hid n1
      have N2 := Lib.hid n2
      have N3 := Lib.hid n3
      have N4 := Lib.hid n4
      have hle := hML.out
      clear n1 n2 n3 n4 AX hX f1 f2
      have hs5 : (spArr s p).size = 5 := rfl
      go_wp2_with (at_builtin; refine wpList_appO _ rfl _ _ 45 rfl w.heap.size 25 si _ 5 96 Tryd.underlying45 Hsi.out Sz0.out Sz1.out Sz2.out rfl (by decide) _ _ _ rfl N2.out ⟨V2.heap.size, 0, none⟩ 1 1 (spArr s p).toList rfl rfl N1.out (spArr_ones s p) (by unfold maxLen; omega) (by omega) N3.out ?_)
      intro v' w' h1 h2 h3
      have H4 := Lib.hid (N4.out v' w' h1 h2 h3)
      clear h1 h2 h3 N1 N2 N3 N4 hI2 b2
      go_wp2_with fail
      go_roundw
      case rel => exact ⟨j + 1, _, _, hlt, by rw [Int.natCast_add]; rfl, rfl, H4.out, hnx.out p⟩
      case measure => simp [intOf]; omega
    · obtain rfl : j = LL.length := by omega
      have e2 : plS M = plS LL := by rw [he, ← HLn.out, List.take_length]
      obtain ⟨A2, c2, rfl, hc2, hS⟩ := own_steps hX.own (Nat.le_refl _) (fun k x hx => (hX.inn x (List.mem_of_getElem? hx)).1)
      have HH : Hid (CcEnd w (plS LL) (.returned (.slice A2 M.length c2)) wr) := ⟨M, A2, c2, rfl, e2, hc2, hS, hX.bel⟩
      clear he e2 hX hS
      go_wp2_with fail
      go_ret
      exact HH.out
end Go.Proofs.YtbpmgpbmeganoaaDoor

/- law.strings, law.keys: contracts. -/
namespace Go.Proofs.YtbpmgpbmeganoaaDoor
open Go.RowKit

def SrEndS (w : World) (T : List ByteArray) (x : Ending) (w' : World) : Prop := ∃ A c, x = .returned (.slice A T.length c) ∧ Txs w' w'.heap.size A T ∧ T.length ≤ c ∧ Below w.heap.size w w' ∧ ∀ ad, A = some ad → w.heap.size ≤ ad.block
theorem strings_sp (T : List ByteArray) (A : Option Addr) (c : Nat) (w : World) (hT : Txs w w.heap.size A T) (hl : T.length * 16 ≤ 140737488355328) :
    Calls Tryd.prog 62 #[.slice A T.length c] w (SrEndS w T) := by
  obtain ⟨si, hsi, sz0, sz1, sz2⟩ := info_parts info_str
  have Hsi := Lib.hid hsi
  have Sz0 := Lib.hid sz0
  have Sz1 := Lib.hid sz1
  have Sz2 := Lib.hid sz2
  clear hsi sz0 sz1 sz2
  go_enter Tryd.func62, Tryd.ntmps62
  go_wp2_with (at_builtin; refine wpList_app _ rfl _ _ 23 rfl w.heap.size 9 si _ 1 16 Tryd.underlying23 Hsi.out Sz0.out Sz1.out Sz2.out rfl (by decide) _ _ _ rfl (own_nil _ _ _ _) A T.length c (T.map sv) rfl (by rw [List.length_map]; omega) hT.news (sv_one _) (by unfold maxLen; omega) (by omega) (Nat.le_refl _) ?_)
  intro v1 w1 hown hgrow
  obtain ⟨A1, c1, rfl, hc1, hx, hf⟩ := own_texts hown
  go_wp2_with fail
  go_ret
  exact ⟨A1, c1, rfl, hx, hc1, (Below.refl _ _).grown hgrow (Nat.le_refl _) (by intro k hk; cases hk), hf⟩
def kyZero : Array Value := #[.slice none 0 0, .slice none 0 0, .int .i64 0]
theorem kyInfo2 (k : Ky) (q : KyAt) : (Tryd.prog.info? 41).map (·.size) = some (kyArr k q).size := by
  rw [show (kyArr k q).size = 3 from rfl]
  kernel_rfl
/-- where keys() stands -/
structure Kx (w : World) (k : Ky) (q : KyAt) (W : World) : Prop where
  box : Arr W w.heap.size 41 (kyArr k q)
  res : Arr W (w.heap.size + 1) 41 kyZero
  ky : KyIn W w.heap.size k q
  bel : Below w.heap.size w W
theorem Kx.below {w W W' : World} {k : Ky} {q : KyAt} (h : Kx w k q W) (b : Below W.heap.size W W') : Kx w k q W' :=
  ⟨h.box.below b h.box.lt, h.res.below b h.res.lt, h.ky.below (b.mono h.bel.size), h.bel.trans (b.mono h.bel.size)⟩
def KpEnd (w : World) (k : Ky) (x : Ending) (w' : World) : Prop := ∃ q, x = .returned (.agg (kyArr k q)) ∧ KyIn w' w'.heap.size k q ∧ Below w.heap.size w w'
/-- the result is laid -/
structure Kr (w : World) (k : Ky) (q : KyAt) (W : World) : Prop where
  res : Arr W (w.heap.size + 1) 41 (kyArr k q)
  ky : KyIn W W.heap.size k q
  bel : Below w.heap.size w W
theorem Kx.laid {w W : World} {k : Ky} {q : KyAt} (h : Kx w k q W) {A1 A2 : Option Addr} {c1 c2 : Nat} (t1 : Txs W W.heap.size A1 k.sig) (t2 : Txs W W.heap.size A2 k.wit) (r1 : k.sig.length ≤ c1) (r2 : k.wit.length ≤ c2)
    (f1 : ∀ ad, A1 = some ad → w.heap.size + 1 < ad.block) (f2 : ∀ ad, A2 = some ad → w.heap.size + 1 < ad.block) :
    Kr w k ⟨A1, c1, A2, c2⟩ (((W.setCell ⟨w.heap.size + 1, 0, none⟩ (.slice A1 k.sig.length c1)).setCell ⟨w.heap.size + 1, 1, none⟩ (.slice A2 k.wit.length c2)).setCell ⟨w.heap.size + 1, 2, none⟩ (.int .i64 k.need)) := by
  have s := gb_trans (gb_trans (gb_set (w := W) (w.heap.size + 1) 0 (.slice A1 k.sig.length c1)) (gb_set _ 1 (.slice A2 k.wit.length c2))) (gb_set _ 2 (.int .i64 k.need))
  have hk : ∀ {A : Option Addr} {T : List ByteArray}, Txs W W.heap.size A T → (∀ ad, A = some ad → w.heap.size + 1 < ad.block) → ∀ V, W.grownBy V (some (w.heap.size + 1)) → Txs V V.heap.size A T := fun ht hf V g j x hx => by
    obtain ⟨ad, e, hb, hc⟩ := ht j x hx
    have e3 : (ad.add j).block = ad.block := by unfold Addr.add; split <;> rfl
    have := hf ad e
    exact ⟨ad, e, Nat.lt_of_lt_of_le hb g.size, (World.cell?_of_block (g.block _ hb (fun e2 => by have := Option.some.inj e2; omega))).trans hc⟩
  exact ⟨((h.res.put 0 _).put 1 _).put 2 _, ⟨hk t1 f1 _ s, hk t2 f2 _ s, r1, r2⟩, below_gb h.bel s (by omega) h.bel.size⟩
set_option maxRecDepth 100000 in
set_option maxHeartbeats 8000000 in
theorem keys_law (k : Ky) (q : KyAt) (w : World) (hK : KyIn w w.heap.size k q) (hz : KySz k) : Calls Tryd.prog 27 #[.agg (kyArr k q)] w (KpEnd w k) := by
  obtain ⟨ka, kc, ka2, kc2⟩ := q
  have hz1 := hz.sig
  have hz2 := hz.wit
  have h1 : Hid (Kx w k ⟨ka, kc, ka2, kc2⟩ ((w.alloc (.cells (kyArr k ⟨ka, kc, ka2, kc2⟩) 41)).alloc (.cells kyZero 41))) := by
    have A0 : Arr (w.alloc (.cells (kyArr k ⟨ka, kc, ka2, kc2⟩) 41)) w.heap.size 41 (kyArr k ⟨ka, kc, ka2, kc2⟩) := Arr.new _ _ _
    have b0 : Below w.heap.size w (w.alloc (.cells (kyArr k ⟨ka, kc, ka2, kc2⟩) 41)) := (Below.refl _ _).alloc (Nat.le_refl _) _
    have hz : (w.alloc (.cells (kyArr k ⟨ka, kc, ka2, kc2⟩) 41)).heap.size = w.heap.size + 1 := World.size_alloc _ _
    generalize w.alloc (.cells (kyArr k ⟨ka, kc, ka2, kc2⟩) 41) = V at *
    have A1 : Arr (V.alloc (.cells kyZero 41)) V.heap.size 41 kyZero := Arr.new _ _ _
    have b1 : Below V.heap.size V (V.alloc (.cells kyZero 41)) := (Below.refl _ _).alloc (Nat.le_refl _) _
    have bb := b0.trans (b1.mono b0.size)
    rw [hz] at A1
    exact ⟨A0.below b1 A0.lt, A1, hK.below bb, bb⟩
  have C1 : Hid (∀ {V}, Kx w k ⟨ka, kc, ka2, kc2⟩ V → Calls Tryd.prog 62 #[.slice ka k.sig.length kc] V (SrEndS V k.sig)) := fun h => strings_sp k.sig ka kc _ (h.ky.sig.mono h.bel.size) (by omega)
  have C2 : Hid (∀ {V}, Kx w k ⟨ka, kc, ka2, kc2⟩ V → Calls Tryd.prog 62 #[.slice ka2 k.wit.length kc2] V (SrEndS V k.wit)) := fun h => strings_sp k.wit ka2 kc2 _ (h.ky.wit.mono h.bel.size) (by omega)
  clear hK hz
  generalize hA : kyArr k ⟨ka, kc, ka2, kc2⟩ = arr at *
  have HA := Lib.hid hA
  clear hA
  go_enter Tryd.func27, Tryd.ntmps27
  go_upto_region 1 with fail
  refine wp_forget (Kx w k ⟨ka, kc, ka2, kc2⟩) h1.out ?_
  clear h1
  intro W hW0
  clear HA
  have hW : Kx w k ⟨ka, kc, ka2, kc2⟩ W.drew := hW0.below (Below.refl _ W).drew
  have HW := Lib.hid hW
  have HW0 := Lib.hid hW0
  have d0 : W.drew.cell? ⟨w.heap.size, 0, none⟩ = some (.slice ka k.sig.length kc) := hW.box.cell 0
  have d1 : W.drew.cell? ⟨w.heap.size, 1, none⟩ = some (.slice ka2 k.wit.length kc2) := hW.box.cell 1
  have d2 : W.drew.cell? ⟨w.heap.size, 2, none⟩ = some (.int .i64 k.need) := hW.box.cell 2
  have hs0 : w.heap.size + 1 < W.heap.size := hW0.res.lt
  have hs1 : w.heap.size + 1 < W.drew.heap.size := hs0
  clear hW hW0
  apply wp_four (R := fun A c A2 c2 V => Kr w k ⟨A, c, A2, c2⟩ V)
  case h =>
    intro K' hK'
    go_region_law (first
      | (go_simp; go_at_call 62; (with_reducible refine (C1.out HW.out).mono ?_); rintro _ W4 ⟨A9, c9, rfl, t9, r9, b4, f9⟩
         have b5 : Below W.heap.size W W4 := (Below.refl _ W).drew.trans b4
         have h5 := HW0.out.below b5
         have y0 : W4.cell? ⟨w.heap.size, 0, none⟩ = some (.slice ka k.sig.length kc) := h5.box.cell 0
         have y1 : W4.cell? ⟨w.heap.size, 1, none⟩ = some (.slice ka2 k.wit.length kc2) := h5.box.cell 1
         have y2 : W4.cell? ⟨w.heap.size, 2, none⟩ = some (.int .i64 k.need) := h5.box.cell 2
         have s5 : W.heap.size ≤ W4.heap.size := b5.size)
      | (go_simp; go_at_call 62; (with_reducible refine (C2.out h5).mono ?_); rintro _ W6 ⟨A8, c8, rfl, t8, r8, b6, f8⟩
         have h6 := h5.below b6
         have z0 : W6.cell? ⟨w.heap.size, 0, none⟩ = some (.slice ka k.sig.length kc) := h6.box.cell 0
         have z1 : W6.cell? ⟨w.heap.size, 1, none⟩ = some (.slice ka2 k.wit.length kc2) := h6.box.cell 1
         have z2 : W6.cell? ⟨w.heap.size, 2, none⟩ = some (.int .i64 k.need) := h6.box.cell 2
         have hfin := Lib.hid (h6.laid (A1 := A9) (c1 := c9) (A2 := A8) (c2 := c8) ((t9.below b6).mono b6.size) t8 r9 r8 (fun ad e => by have := f9 ad e; omega) (fun ad e => by have := f8 ad e; omega))
         have q0 : W6.cell? ⟨w.heap.size + 1, 0, none⟩ = some (.slice none 0 0) := h6.res.cell 0
         have e0 := h6.res.free 0
         have R1 := h6.res.put 0 (.slice A9 k.sig.length c9)
         have q1 : (W6.setCell ⟨w.heap.size + 1, 0, none⟩ (.slice A9 k.sig.length c9)).cell? ⟨w.heap.size + 1, 1, none⟩ = some (.slice none 0 0) := R1.cell 1
         have e1 := R1.free 1
         have R2 := R1.put 1 (.slice A8 k.wit.length c8)
         have q2 : ((W6.setCell ⟨w.heap.size + 1, 0, none⟩ (.slice A9 k.sig.length c9)).setCell ⟨w.heap.size + 1, 1, none⟩ (.slice A8 k.wit.length c8)).cell? ⟨w.heap.size + 1, 2, none⟩ = some (.int .i64 0) := R2.cell 2
         have e2 := R2.free 2)
      | (go_simp; go_at_call 62; (with_reducible refine (C2.out HW.out).mono ?_); rintro _ W4 ⟨A8, c8, rfl, t8, r8, b4, f8⟩
         have b5 : Below W.heap.size W W4 := (Below.refl _ W).drew.trans b4
         have h5 := HW0.out.below b5
         have y0 : W4.cell? ⟨w.heap.size, 0, none⟩ = some (.slice ka k.sig.length kc) := h5.box.cell 0
         have y1 : W4.cell? ⟨w.heap.size, 1, none⟩ = some (.slice ka2 k.wit.length kc2) := h5.box.cell 1
         have y2 : W4.cell? ⟨w.heap.size, 2, none⟩ = some (.int .i64 k.need) := h5.box.cell 2
         have s5 : W.heap.size ≤ W4.heap.size := b5.size)
      | (go_simp; go_at_call 62; (with_reducible refine (C1.out h5).mono ?_); rintro _ W6 ⟨A9, c9, rfl, t9, r9, b6, f9⟩
         have h6 := h5.below b6
         have z0 : W6.cell? ⟨w.heap.size, 0, none⟩ = some (.slice ka k.sig.length kc) := h6.box.cell 0
         have z1 : W6.cell? ⟨w.heap.size, 1, none⟩ = some (.slice ka2 k.wit.length kc2) := h6.box.cell 1
         have z2 : W6.cell? ⟨w.heap.size, 2, none⟩ = some (.int .i64 k.need) := h6.box.cell 2
         have hfin := Lib.hid (h6.laid (A1 := A9) (c1 := c9) (A2 := A8) (c2 := c8) t9 ((t8.below b6).mono b6.size) r9 r8 (fun ad e => by have := f9 ad e; omega) (fun ad e => by have := f8 ad e; omega))
         have q0 : W6.cell? ⟨w.heap.size + 1, 0, none⟩ = some (.slice none 0 0) := h6.res.cell 0
         have e0 := h6.res.free 0
         have R1 := h6.res.put 0 (.slice A9 k.sig.length c9)
         have q1 : (W6.setCell ⟨w.heap.size + 1, 0, none⟩ (.slice A9 k.sig.length c9)).cell? ⟨w.heap.size + 1, 1, none⟩ = some (.slice none 0 0) := R1.cell 1
         have e1 := R1.free 1
         have R2 := R1.put 1 (.slice A8 k.wit.length c8)
         have q2 : ((W6.setCell ⟨w.heap.size + 1, 0, none⟩ (.slice A9 k.sig.length c9)).setCell ⟨w.heap.size + 1, 1, none⟩ (.slice A8 k.wit.length c8)).cell? ⟨w.heap.size + 1, 2, none⟩ = some (.int .i64 0) := R2.cell 2
         have e2 := R2.free 2))
    all_goals (go_simp; exact hK' A9 c9 A8 c8 _ hfin.out)
  case k =>
    intro A9 c9 A8 c8 V hV
    go_wp2_with fail
    refine bodyPost_ret (v := .agg (kyArr k ⟨A9, c9, A8, c8⟩)) ?_ rfl ⟨⟨A9, c9, A8, c8⟩, rfl, hV.ky, hV.bel⟩
    exact results_cell_row Tryd.results27 _ _ (w.heap.size + 1) 41 _ (0, 0) _ rfl hV.res Tryd.underlying41 rfl (kyInfo2 k _)
end Go.Proofs.YtbpmgpbmeganoaaDoor

/- What Sign and Check answer of valid steps: plain. -/
namespace Go.Proofs.YtbpmgpbmeganoaaDoor
open Go.RowKit

section
variable {s : Sp} {i x : Int} {key t : ByteArray} {K : List ByteArray} {need : Int}
theorem gb_ok (h : spGood s = 0) (h0 : 0 ≤ i) (h1 : i ≤ 199) : spGB i s = (bs (spBodyL i.toNat s), 0) := by
  unfold spGB spBody
  rw [if_neg (by simp [h]), if_neg (by omega), if_neg (spGood_long h)]
theorem gb_no (h : spGood s = 0) (h0 : i < 0 ∨ 199 < i) : spGB i s = (⟨#[]⟩, 3) := by
  unfold spGB spBody
  rw [if_neg (by simp [h]), if_pos h0]
theorem sign_ok (h : spGood s = 0) (h0 : 0 ≤ i) (h1 : i ≤ 199) (hx : 0 ≤ x) (hx7 : x ≤ 7) (hn : x ∉ s.who) : spSign s i x key = (spPut s x (sealB key (bs (spBodyL i.toNat s))), 0) := by
  unfold spSign
  rw [gb_ok h h0 h1, if_neg (by simp), if_neg (by omega), if_neg hn]
theorem sign_ok_iff : (spSign s i x key).2 = 0 → spGood s = 0 ∧ 0 ≤ i ∧ i ≤ 199 ∧ 0 ≤ x ∧ x ≤ 7 ∧ x ∉ s.who := by
  intro h
  unfold spSign at h
  by_cases hg : (spGB i s).2 = 0
  · rw [if_neg (by simp [hg])] at h
    by_cases hx : x < 0 ∨ 7 < x
    · rw [if_pos hx] at h; cases h
    · rw [if_neg hx] at h
      by_cases hm : x ∈ s.who
      · rw [if_pos hm] at h; cases h
      · have hgd := spGB_good hg
        by_cases hi : i < 0 ∨ 199 < i
        · rw [gb_no hgd hi] at hg; cases hg
        · exact ⟨hgd, by omega, by omega, by omega, by omega, hm⟩
  · rw [if_pos hg] at h
    exact absurd h hg
theorem check_eq (h : spGood s = 0) (h0 : 0 ≤ i) (h1 : i ≤ 199) : spCheck K need i s = if s.prs.all (okSg K (bs (spBodyL i.toNat s))) && decide (need ≤ s.seals.length) then 0 else 13 := by
  unfold spCheck
  rw [gb_ok h h0 h1, if_neg (by simp)]
theorem sealB_size (key b : ByteArray) : (sealB key b).size = 32 := by
  unfold sealB
  rw [bs_size]
  exact sha_length _
theorem put_body (j : Nat) : spBodyL j (spPut s x t) = spBodyL j s := rfl
/-- Sign keeps a step valid -/
theorem sign_good (h : spGood s = 0) (hx : 0 ≤ x) (hx7 : x ≤ 7) (hn : x ∉ s.who) (b : ByteArray) : spGood (spPut s x (sealB key b)) = 0 ∧ (spPut s x (sealB key b)).prs = putP x (sealB key b) s.prs ∧ (spPut s x (sealB key b)).who.length = s.who.length + 1 ∧ (spPut s x (sealB key b)).seals.length = s.who.length + 1 :=
  put_good h hx hx7 (sealB_size _ _) hn
end
/-- the step, the keys that steps() asks -/
def sp0 : Sp := ⟨⟨#[97]⟩, ⟨#[]⟩, ⟨#[48, 49, 50, 51, 52, 53, 54, 55, 56, 57, 97, 98, 99, 100, 101, 102, 48, 49, 50, 51, 52, 53, 54, 55, 56, 57, 97, 98, 99, 100, 101, 102]⟩, [], []⟩
theorem sp0_good : spGood sp0 = 0 := by decide +kernel
theorem steps_sign : spSign sp0 0 1 ⟨#[107]⟩ = (spPut sp0 1 (sealB ⟨#[107]⟩ (bs (spBodyL 0 sp0))), 0) := sign_ok sp0_good (by decide) (by decide) (by decide) (by decide) (by decide)
theorem steps_check : spCheck [⟨#[]⟩, ⟨#[107]⟩] 1 0 (spPut sp0 1 (sealB ⟨#[107]⟩ (bs (spBodyL 0 sp0)))) = 0 := by
  obtain ⟨h1, h2, _, h4⟩ := sign_good (key := ⟨#[107]⟩) sp0_good (x := 1) (by decide) (by decide) (by decide) (bs (spBodyL 0 sp0))
  rw [check_eq h1 (by decide) (by decide), h2, h4]
  rw [put_body]
  have e : sp0.prs = [] := rfl
  rw [e]
  show (if ([((1 : Int), sealB ⟨#[107]⟩ (bs (spBodyL 0 sp0)))].all (okSg [⟨#[]⟩, ⟨#[107]⟩] (bs (spBodyL (0 : Int).toNat sp0))) && decide ((1 : Int) ≤ ((0 + 1 : Nat) : Int))) = true then (0 : Int) else 13) = 0
  simp [okSg]
end Go.Proofs.YtbpmgpbmeganoaaDoor

/- slices.BinarySearch at rising numbers: its contract. -/
namespace Go.Proofs.YtbpmgpbmeganoaaDoor
open Go.RowKit

theorem cNaN_any (x : Int) (w : World) : Calls Tryd.prog 97 #[.int .i64 x] w fun e w' => e = .returned (.bool false) ∧ w' = w := by
  go_enter Tryd.func97, Tryd.ntmps97
  go_wp2_with fail
  go_ret
  exact ⟨by simp, rfl⟩
theorem sNaN_any (x : Int) (w : World) : Calls Tryd.prog 81 #[.int .i64 x] w fun e w' => e = .returned (.bool false) ∧ w' = w := by
  go_enter Tryd.func81, Tryd.ntmps81
  go_wp2_with fail
  go_ret
  exact ⟨by simp, rfl⟩
theorem lessI_any (x y : Int) (w : World) : Calls Tryd.prog 80 #[.int .i64 x, .int .i64 y] w fun e w' => e = .returned (.bool (decide (x < y))) ∧ w' = w := by
  go_enter Tryd.func80, Tryd.ntmps80
  go_wp2_with fail
  (with_reducible refine (cNaN_any x w).mono ?_)
  rintro _ _ ⟨rfl, rfl⟩
  go_wp2_with fail
  go_ret
  exact ⟨rfl, rfl⟩
def IbRel (N : List Int) (x : Int) (w : World) (i j : Value) (wr : World) : Prop :=
  ∃ a b : Nat, i = .int .i64 (a : Int) ∧ j = .int .i64 (b : Int) ∧ a ≤ lowI x N ∧ lowI x N ≤ b ∧ b ≤ N.length ∧ w = wr
set_option maxRecDepth 100000 in
set_option maxHeartbeats 1000000 in
theorem intSearch_any (N : List Int) (x : Int) (A : Option Addr) (c : Nat) (w : World) (hP : NumsA w w.heap.size A N) (hl : N.length ≤ 100000) (hr : risI (-1) N) :
    Calls Tryd.prog 58 #[.slice A N.length c, .int .i64 x] w fun e w' => e = .returned (.tuple #[.int .i64 (lowI x N : Int), .bool (decide (x ∈ N))]) ∧ w' = w := by
  have hle := lowI_le x N
  have HG := Lib.hid (lowI_mem x N _ hr)
  have HS := Lib.hid (lowI_split x N _ hr)
  have h1 : Hid (IbRel N x w (.int .i64 0) (.int .i64 (N.length : Int)) w) := ⟨0, N.length, rfl, rfl, Nat.zero_le _, hle, Nat.le_refl _, rfl⟩
  have hlw : lowI x N ≤ 100000 := by omega
  go_enter Tryd.func58, Tryd.ntmps58
  go_wp2_with fail
  go_loopw [7, 8] (fun i j wr => IbRel N x w i j wr) (fun i j _ => (intOf j - intOf i).toNat)
  case atStart => exact h1.out
  case round =>
    clear h1
    obtain ⟨a, b, rfl, rfl, ha, hb, hbl, rfl⟩ := hrel
    by_cases hlt : a < b
    · have hj : (a : Int) < b := by omega
      have hml : (a + b) / 2 < N.length := by omega
      have hmi : ((a : Int) + b) / 2 < N.length := by omega
      have hx : N[(a + b) / 2]? = some N[(a + b) / 2] := List.getElem?_eq_getElem hml
      obtain ⟨ad, rfl, hbk, h0⟩ := hP _ _ hx
      have hsx := HS.out _ _ hx
      clear hx
      generalize N[(a + b) / 2] = y at *
      have C := Lib.hid (lessI_any y x w)
      go_wp2_with fail
      (with_reducible refine C.out.mono ?_)
      clear C h0
      rintro _ w2 ⟨rfl, rfl⟩
      by_cases hz : y < x
      · have hlo := hsx.1 hz
        clear hsx
        go_wp2_with fail
        go_roundw
        case rel => exact ⟨(a + b) / 2 + 1, b, by congr 1, rfl, by omega, hb, hbl, rfl⟩
        case measure => simp [intOf]; omega
      · have hlo : ¬ (a + b) / 2 < lowI x N := fun h => hz (hsx.2 h)
        clear hsx
        go_wp2_with fail
        go_roundw
        case rel => exact ⟨a, (a + b) / 2, rfl, by congr 1, ha, by omega, by omega, rfl⟩
        case measure => simp [intOf]; omega
    · have ea : a = lowI x N := by omega
      have eb : b = lowI x N := by omega
      subst eb
      rw [ea]
      have hj : ¬ (lowI x N : Int) < lowI x N := by omega
      clear hlt ea ha hb hbl
      have CN := Lib.hid (fun z => sNaN_any z w)
      cases hx : N[lowI x N]? with
      | none =>
        have hge := List.getElem?_eq_none_iff.1 hx
        have hj2 : ¬ (lowI x N : Int) < N.length := by omega
        have HN : Hid (decide (x ∈ N) = false) := by show _ = _; rw [decide_eq_false_iff_not, HG.out, hx]; simp
        clear HG HS hx
        go_wp2_with fail
        go_ret2
        exact ⟨by rw [HN.out]; rfl, rfl⟩
      | some y =>
        obtain ⟨hlt, _⟩ := List.getElem?_eq_some_iff.1 hx
        have hj2 : (lowI x N : Int) < N.length := by omega
        obtain ⟨ad, rfl, hbk, h0⟩ := hP _ _ hx
        have HN : Hid (decide (x ∈ N) = (y == x)) := by
          show _ = _
          by_cases e : y = x
          · rw [decide_eq_true (HG.out.2 (by rw [hx, e])), e]; simp
          · rw [decide_eq_false (fun h => e (by have := HG.out.1 h; rw [hx] at this; exact Option.some.inj this))]
            symm
            rw [beq_eq_false_iff_ne]; exact e
        clear HG HS hx
        by_cases hz : y = x
        · subst hz
          go_wp2_with fail
          go_ret2
          exact ⟨by rw [HN.out, beq_self_eq_true]; rfl, rfl⟩
        · have hz' : (y == x) = false := by rw [beq_eq_false_iff_ne]; exact hz
          go_wp2_with fail
          (with_reducible refine (CN.out y).mono ?_)
          rintro _ _ ⟨rfl, rfl⟩
          go_wp2_with fail
          go_ret2
          exact ⟨by rw [HN.out, hz']; rfl, rfl⟩
end Go.Proofs.YtbpmgpbmeganoaaDoor
