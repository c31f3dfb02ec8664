/- Texts in one: DkFind, OApp. -/
import Derived.Test.YtilolbefeoibhaaDoorDkGood
import Derived.Lib.Bytealg
import Derived.Laws.Externs
import Derived.Test.YtilolbefeoibhaaDoorDkMem
import Derived.Deep.RegionLaw
/- disk.find and what it calls: contracts. -/
namespace Go.Proofs.YtilolbefeoibhaaDoor
open Go.RowKit

theorem cmp_less : ∀ a b : List UInt8, Lib.compareBytes a b < 0 ↔ Op.bytesLess a b = true
  | [], [] => by simp [Lib.compareBytes, Op.bytesLess]
  | [], _ :: _ => by simp [Lib.compareBytes, Op.bytesLess]
  | _ :: _, [] => by simp [Lib.compareBytes, Op.bytesLess]
  | a :: x, b :: y => by
    have ih := cmp_less x y
    simp only [Lib.compareBytes, Op.bytesLess, Bool.or_eq_true, Bool.and_eq_true, decide_eq_true_eq, beq_iff_eq]
    by_cases h : a < b
    · simp [h]
    · by_cases h2 : b < a
      · have : ¬ a = b := fun e => by rw [e] at h2; exact absurd h2 (by rw [UInt8.lt_iff_toNat_lt]; omega)
        simp [h, h2, this]
      · have e : a = b := UInt8.toNat_inj.1 (by rw [UInt8.lt_iff_toNat_lt] at h h2; omega)
        subst e
        simp [h, ih]
theorem cmp_zero : ∀ a b : List UInt8, Lib.compareBytes a b = 0 ↔ a = b
  | [], [] => by simp [Lib.compareBytes]
  | [], _ :: _ => by simp [Lib.compareBytes]
  | _ :: _, [] => by simp [Lib.compareBytes]
  | a :: x, b :: y => by
    have ih := cmp_zero x y
    simp only [Lib.compareBytes, List.cons.injEq]
    by_cases h : a < b
    · have : ¬ a = b := fun e => by rw [e] at h; exact absurd h (by rw [UInt8.lt_iff_toNat_lt]; omega)
      simp [h, this]
    · by_cases h2 : b < a
      · have : ¬ a = b := fun e => by rw [e] at h2; exact absurd h2 (by rw [UInt8.lt_iff_toNat_lt]; omega)
        simp [h, h2, this]
      · have e : a = b := UInt8.toNat_inj.1 (by rw [UInt8.lt_iff_toNat_lt] at h h2; omega)
        subst e
        simp [h, ih]
def cmpB (a b : ByteArray) : Int := Lib.compareBytes a.data.toList b.data.toList
theorem cmpB_less (a b : ByteArray) : cmpB a b < 0 ↔ ltB a b = true := by
  unfold cmpB ltB
  rw [toList_data, toList_data]
  exact cmp_less _ _
theorem cmpB_zero (a b : ByteArray) : cmpB a b = 0 ↔ a = b := by
  unfold cmpB
  rw [cmp_zero]
  exact ⟨bytes_eq, fun h => by rw [h]⟩
theorem run_cmp (a b : ByteArray) (w : World) : (callFunc 86 #[.string a, .string b]).run Tryd.prog w = .ok (.value (.int .i64 (cmpB a b))) w := by
  rw [run_callFunc_extern Tryd.func86 (by kernel_rfl) (by kernel_rfl) (by kernel_rfl) (e := Extern.BytealgCompare.compare) (by kernel_rfl), Lib.run_compareString]
  rfl
set_option maxRecDepth 100000 in
theorem CompareString_any (a b : ByteArray) (w : World) : Calls Tryd.prog 76 #[.string a, .string b] w fun e w' => e = .returned (.int .i64 (cmpB a b)) ∧ w' = w := by
  have h := run_cmp a b
  go_enter Tryd.func76, Tryd.ntmps76
  go_wp2_with (simp only [h])
  go_ret
  exact ⟨rfl, rfl⟩
set_option maxRecDepth 100000 in
theorem Compare_any (a b : ByteArray) (w : World) : Calls Tryd.prog 60 #[.string a, .string b] w fun e w' => e = .returned (.int .i64 (cmpB a b)) ∧ w' = w := by
  have C := Lib.hid (CompareString_any a b w)
  go_enter Tryd.func60, Tryd.ntmps60
  go_wp2_with fail
  (with_reducible refine C.out.mono ?_)
  rintro _ _ ⟨rfl, rfl⟩
  go_wp2_with fail
  go_ret
  exact ⟨rfl, rfl⟩
set_option maxRecDepth 100000 in
theorem byName_any (f : Fl) (n : ByteArray) (w : World) : Calls Tryd.prog 59 #[.agg #[.string f.name, .string f.safe, .string f.tail], .string n] w fun e w' => e = .returned (.int .i64 (cmpB f.name n)) ∧ Below w.heap.size w w' := by
  have A0 : Arr (w.alloc (.cells (flArr f) 52)) w.heap.size 52 (flArr f) := Arr.new _ _ _
  have b0 : Below w.heap.size w (w.alloc (.cells (flArr f) 52)) := (Below.refl _ _).alloc (Nat.le_refl _) _
  go_enter Tryd.func59, Tryd.ntmps59
  go_upto_region 1 with fail
  refine wp_forget (fun V => Arr V w.heap.size 52 (flArr f) ∧ Below w.heap.size w V) (by exact ⟨A0, b0⟩) ?_
  clear A0 b0
  rintro V ⟨A0, b0⟩
  have c0 : V.cell? ⟨w.heap.size, 0, none⟩ = some (.string f.name) := A0.cell 0
  have C := Lib.hid (Compare_any f.name n V)
  go_wp2_with fail
  (with_reducible refine C.out.mono ?_)
  rintro _ _ ⟨rfl, rfl⟩
  go_wp2_with fail
  go_ret
  exact ⟨rfl, b0⟩
/-- where the search stands -/
def DkBsRel (L : List Fl) (n : ByteArray) (w : World) (i j : Value) (wr : World) : Prop :=
  ∃ a b : Nat, i = .int .i64 (a : Int) ∧ j = .int .i64 (b : Int) ∧ a ≤ low n L ∧ low n L ≤ b ∧ b ≤ L.length ∧ Below w.heap.size w wr
def hasN (n : ByteArray) (L : List Fl) : Bool := (getF n L).isSome
set_option maxRecDepth 100000 in
set_option maxHeartbeats 1000000 in
theorem search_any (L : List Fl) (n : ByteArray) (A : Option Addr) (c : Nat) (w : World) (hP : Fls w w.heap.size A L) (hl : L.length ≤ 100000) (hr : ris ⟨#[]⟩ L) :
    Calls Tryd.prog 58 #[.slice A L.length c, .string n, .func (.func 59) #[] #[]] w fun e w' => e = .returned (.tuple #[.int .i64 (low n L : Int), .bool (hasN n L)]) ∧ Below w.heap.size w w' := by
  have hle := low_le n L
  have HG := Lib.hid (getF_low n L _ hr)
  have HS := Lib.hid (low_split n L _ hr)
  have h1 : Hid (DkBsRel L n w (.int .i64 0) (.int .i64 (L.length : Int)) w) := ⟨0, L.length, rfl, rfl, Nat.zero_le _, hle, Nat.le_refl _, Below.refl _ _⟩
  have hlw : low n L ≤ 100000 := by omega
  go_enter Tryd.func58, Tryd.ntmps58
  go_wp2_with fail
  go_loopw [9, 10] (fun i j wr => DkBsRel L n w i j wr) (fun i j _ => (intOf j - intOf i).toNat)
  case atStart => exact h1.out
  case round =>
    clear h1
    obtain ⟨a, b, rfl, rfl, ha, hb, hbl, bel⟩ := hrel
    by_cases hlt : a < b
    · have hj : (a : Int) < b := by omega
      have hml : (a + b) / 2 < L.length := by omega
      have hmi : ((a : Int) + b) / 2 < L.length := by omega
      have hx : L[(a + b) / 2]? = some L[(a + b) / 2] := List.getElem?_eq_getElem hml
      obtain ⟨ad, rfl, hbk, h0, h1, h2⟩ := hP _ _ hx
      have g0 := (bel.cell hbk).trans h0
      have g1 := (bel.cell (p := ⟨(ad.add ((a + b) / 2 * 3)).block, (ad.add ((a + b) / 2 * 3)).off + 1, none⟩) hbk).trans h1
      have g2 := (bel.cell (p := ⟨(ad.add ((a + b) / 2 * 3)).block, (ad.add ((a + b) / 2 * 3)).off + 2, none⟩) hbk).trans h2
      have hsx := HS.out _ _ hx
      clear h0 h1 h2 hx
      generalize L[(a + b) / 2] = x at *
      rw [← cmpB_less] at hsx
      have C := Lib.hid (byName_any x n wr)
      generalize cmpB x.name n = z at *
      go_wp2_with fail
      (with_reducible refine C.out.mono ?_)
      clear C g0 g1 g2
      rintro _ w2 ⟨rfl, b2⟩
      have bel2 := bel.trans (b2.mono bel.size)
      clear bel b2
      by_cases hz : z < 0
      · have hlo := hsx.1 hz
        clear hsx
        go_wp2_with fail
        go_roundw
        case rel => exact ⟨(a + b) / 2 + 1, b, by congr 1, rfl, by omega, hb, hbl, bel2⟩
        case measure => simp [intOf]; omega
      · have hlo : ¬ (a + b) / 2 < low n L := fun h => hz (hsx.2 h)
        clear hsx
        go_wp2_with fail
        go_roundw
        case rel => exact ⟨a, (a + b) / 2, rfl, by congr 1, ha, by omega, by omega, bel2⟩
        case measure => simp [intOf]; omega
    · have ea : a = low n L := by omega
      have eb : b = low n L := by omega
      subst eb
      rw [ea]
      have hj : ¬ (low n L : Int) < low n L := by omega
      clear hlt ea ha hb hbl
      cases hx : L[low n L]? with
      | none =>
        have hge := List.getElem?_eq_none_iff.1 hx
        have hj2 : ¬ (low n L : Int) < L.length := by omega
        have hg := HG.out
        rw [hx] at hg
        have HN : Hid (hasN n L = false) := by show _ = _; unfold hasN; rw [hg]; rfl
        clear hg HG HS hx
        go_wp2_with fail
        go_ret2
        exact ⟨by rw [HN.out]; rfl, bel⟩
      | some x =>
        obtain ⟨hlt, _⟩ := List.getElem?_eq_some_iff.1 hx
        have hj2 : (low n L : Int) < L.length := by omega
        have hg := HG.out
        rw [hx] at hg
        obtain ⟨ad, rfl, hbk, h0, h1, h2⟩ := hP _ _ hx
        have g0 := (bel.cell hbk).trans h0
        have g1 := (bel.cell (p := ⟨(ad.add (low n L * 3)).block, (ad.add (low n L * 3)).off + 1, none⟩) hbk).trans h1
        have g2 := (bel.cell (p := ⟨(ad.add (low n L * 3)).block, (ad.add (low n L * 3)).off + 2, none⟩) hbk).trans h2
        have C := Lib.hid (byName_any x n wr)
        have HN : Hid (hasN n L = (cmpB x.name n == 0)) := by
          show _ = _
          unfold hasN
          rw [hg]
          simp only
          by_cases e : x.name = n
          · rw [if_pos e, show cmpB x.name n = 0 from (cmpB_zero _ _).2 e]; rfl
          · rw [if_neg e]
            have : ¬ cmpB x.name n = 0 := fun q => e ((cmpB_zero _ _).1 q)
            simp [this]
        clear h0 h1 h2 hx hg HG HS
        generalize cmpB x.name n = z at *
        go_wp2_with fail
        (with_reducible refine C.out.mono ?_)
        clear C g0 g1 g2
        rintro _ w2 ⟨rfl, b2⟩
        have bel2 := bel.trans (b2.mono bel.size)
        by_cases hz : z = 0
        · subst hz
          go_wp2_with fail
          go_ret2
          exact ⟨by rw [HN.out]; rfl, bel2⟩
        · have hz' : (z == 0) = false := by rw [beq_eq_false_iff_ne]; exact hz
          go_wp2_with fail
          go_ret2
          exact ⟨by rw [HN.out, hz']; rfl, bel2⟩
set_option maxRecDepth 100000 in
theorem find_any (L : List Fl) (n : ByteArray) (A : Option Addr) (c : Nat) (w : World) (hP : Fls w w.heap.size A L) (hl : L.length ≤ 100000) (hr : ris ⟨#[]⟩ L) :
    Calls Tryd.prog 33 #[.slice A L.length c, .string n] w fun e w' => e = .returned (.tuple #[.int .i64 (low n L : Int), .bool (hasN n L)]) ∧ Below w.heap.size w w' := by
  have C := Lib.hid (search_any L n A c w hP hl hr)
  go_enter Tryd.func33, Tryd.ntmps33
  go_wp2_with fail
  (with_reducible refine C.out.mono ?_)
  rintro _ w2 ⟨rfl, b2⟩
  go_wp2_with fail
  go_ret2
  exact ⟨rfl, b2⟩
end Go.Proofs.YtilolbefeoibhaaDoor

/- append of a slice that may be nil or empty, onto a slice of the call's own: laws for the walk. -/
namespace Go.Proofs.YtilolbefeoibhaaDoor
open Go.RowKit

section
variable {P : Program} (w : World)
theorem run_app_none (base : Nat) (t ty e : TypeId) (i : TypeInfo) (size : Nat) (ht : P.underlying t = some (.slice e)) (hi : P.info? e = some i)
    (v : Value) (n c : Nat) (xs : List Value) (hown : w.ownsRow base e size v n xs) :
    (Builtin.append_ #[t, t] ty #[v, .slice none 0 c]).run P w = .ok v w := by
  rcases hown.2 with ⟨rfl, rfl⟩ | ⟨g, cap, cur, rfl, _, _, hnc, _⟩
  · simp [Builtin.append_, run_underlying ht, sizeOf, typeInfo, hi, Builtin.lenOf, Builtin.firstCells]
  · simp [Builtin.append_, run_underlying ht, sizeOf, typeInfo, hi, Builtin.lenOf, Builtin.firstCells, hnc, storeCells]
/-- what a slice that is appended holds: m elements, news -/
def News (A : Option Addr) (m : Nat) (news : List Value) : Prop := (A = none → m = 0) ∧ ∀ ad, A = some ad → ∀ j u, news[j]? = some u → w.cell? (ad.add j) = some u
theorem run_app (t ty : TypeId) (base : Nat) (e : TypeId) (i : TypeInfo) (z : Value) (size bytes : Nat) (ht : P.underlying t = some (.slice e)) (hi : P.info? e = some i) (hz : i.zero = some z)
    (hsize : i.size = size) (hby : i.bytes = bytes) (hzs : z.cells.size = size) (hsz : 0 < size)
    (v : Value) (n : Nat) (xs : List Value) (hown : w.ownsRow base e size v n xs)
    (A : Option Addr) (m c : Nat) (news : List Value) (hl : news.length = m * size) (hnews : News w A m news) (h1 : ∀ u ∈ news, u.oneCell' = true)
    (h63 : n + m ≤ maxLen) (hbytes : (n + m) * bytes ≤ 140737488355328) (hbase : base ≤ w.heap.size) :
    ∃ v' w', (Builtin.append_ #[t, t] ty #[v, .slice A m c]).run P w = .ok v' w' ∧ w'.ownsRow base e size v' (n + m) (xs ++ news) ∧ w.grownBy w' v.ownBlock := by
  cases A with
  | none =>
    obtain rfl := hnews.1 rfl
    have e0 : news = [] := List.eq_nil_of_length_eq_zero (by rw [hl]; omega)
    subst e0
    exact ⟨v, w, run_app_none w base t ty e i size ht hi v n c xs hown, by rw [List.append_nil]; exact hown, World.grownBy.refl _ _⟩
  | some ad =>
    obtain ⟨v', w', h2, h3, h4, _⟩ := run_append_own_at (P := P) w base t ty e i z size bytes ht hi hz hsize hby hzs hsz v n xs hown ad m c news hl (hnews.2 ad rfl) h1 h63 hbytes hbase
    exact ⟨v', w', h2, h3, h4⟩
theorem wp_app {o : Oper} {a : Act} {K : Act → World → Prop} {Q : Exit → Act → World → Prop} (s x : Operand) (t : TypeId)
    (ho : o.op = .call { callee := .builtin .append, args := #[s, x], argTypes := #[t, t] })
    (base : Nat) (e : TypeId) (i : TypeInfo) (z : Value) (size bytes : Nat) (ht : P.underlying t = some (.slice e)) (hi : P.info? e = some i) (hz : i.zero = some z)
    (hsize : i.size = size) (hby : i.bytes = bytes) (hzs : z.cells.size = size) (hsz : 0 < size)
    (v : Value) (n : Nat) (xs : List Value) (hs : a.eval s = v) (hown : w.ownsRow base e size v n xs)
    (A : Option Addr) (m c : Nat) (news : List Value) (hx : a.eval x = .slice A m c) (hl : news.length = m * size) (hnews : News w A m news) (h1 : ∀ u ∈ news, u.oneCell' = true)
    (h63 : n + m ≤ maxLen) (hbytes : (n + m) * bytes ≤ 140737488355328) (hbase : base ≤ w.heap.size)
    (h : ∀ v' w', w'.ownsRow base e size v' (n + m) (xs ++ news) → w.grownBy w' v.ownBlock → K (a.put o.dst v') w') : o.wp P a w K Q := by
  obtain ⟨v', w', hr, h2, h3⟩ := run_app (P := P) w t o.type base e i z size bytes ht hi hz hsize hby hzs hsz v n xs hown A m c news hl hnews h1 h63 hbytes hbase
  unfold Oper.wp execOp
  simp only [ho, resolve, invoke, builtin, Sem.run_bind, Sem.run_pure, Result.andThen_ok, List.map_toArray, List.map_cons, List.map_nil, hs, hx, hr]
  exact h v' w' h2 h3
theorem wpList_app {ops : Array Oper} {rest : List Oper} {o : Oper} {a : Act} {Q : Exit → Act → World → Prop} (hgd : o.guard = none) (s x : Operand) (t : TypeId)
    (ho : o.op = .call { callee := .builtin .append, args := #[s, x], argTypes := #[t, t] })
    (base : Nat) (e : TypeId) (i : TypeInfo) (z : Value) (size bytes : Nat) (ht : P.underlying t = some (.slice e)) (hi : P.info? e = some i) (hz : i.zero = some z)
    (hsize : i.size = size) (hby : i.bytes = bytes) (hzs : z.cells.size = size) (hsz : 0 < size)
    (v : Value) (n : Nat) (xs : List Value) (hs : a.eval s = v) (hown : w.ownsRow base e size v n xs)
    (A : Option Addr) (m c : Nat) (news : List Value) (hx : a.eval x = .slice A m c) (hl : news.length = m * size) (hnews : News w A m news) (h1 : ∀ u ∈ news, u.oneCell' = true)
    (h63 : n + m ≤ maxLen) (hbytes : (n + m) * bytes ≤ 140737488355328) (hbase : base ≤ w.heap.size)
    (h : ∀ v' w', w'.ownsRow base e size v' (n + m) (xs ++ news) → w.grownBy w' v.ownBlock → wpList P ops Q rest (a.put o.dst v') w') : wpList P ops Q (o :: rest) a w :=
  wpList_plain hgd fun _ hK => wp_app w s x t ho base e i z size bytes ht hi hz hsize hby hzs hsz v n xs hs hown A m c news hx hl hnews h1 h63 hbytes hbase fun v' w' h2 h3 => hK _ _ (h v' w' h2 h3)
/-- at a step of a region that draws -/
theorem step_app {ops : Array Oper} {o : Oper} {a : Act} {K : Act → World → Prop} {Q : Exit → Act → World → Prop} {E : Prop} (hgd : o.guard = none) (s x : Operand) (t : TypeId)
    (ho : o.op = .call { callee := .builtin .append, args := #[s, x], argTypes := #[t, t] })
    (base : Nat) (e : TypeId) (i : TypeInfo) (z : Value) (size bytes : Nat) (ht : P.underlying t = some (.slice e)) (hi : P.info? e = some i) (hz : i.zero = some z)
    (hsize : i.size = size) (hby : i.bytes = bytes) (hzs : z.cells.size = size) (hsz : 0 < size)
    (v : Value) (n : Nat) (xs : List Value) (hs : a.eval s = v) (hown : w.ownsRow base e size v n xs)
    (A : Option Addr) (m c : Nat) (news : List Value) (hx : a.eval x = .slice A m c) (hl : news.length = m * size) (hnews : News w A m news) (h1 : ∀ u ∈ news, u.oneCell' = true)
    (h63 : n + m ≤ maxLen) (hbytes : (n + m) * bytes ≤ 140737488355328) (hbase : base ≤ w.heap.size)
    (h : ∀ v' w', w'.ownsRow base e size v' (n + m) (xs ++ news) → w.grownBy w' v.ownBlock → K (a.put o.dst v') w') :
    if Region.wanted o (yielded ops a.tmps) = true then Oper.wp P o a w K Q else E := by
  have hw : Region.wanted o (yielded ops a.tmps) = true := by simp [Region.wanted, hgd]
  rw [if_pos hw]
  exact wp_app w s x t ho base e i z size bytes ht hi hz hsize hby hzs hsz v n xs hs hown A m c news hx hl hnews h1 h63 hbytes hbase h
end
theorem sv_one (T : List ByteArray) : ∀ u ∈ T.map sv, u.oneCell' = true := fun u hu => by
  obtain ⟨x, _, rfl⟩ := List.mem_map.1 hu
  rfl
theorem ent_one : ∀ (L : List Ent), ∀ u ∈ entCells L, u.oneCell' = true
  | [], u, hu => by simp [entCells] at hu
  | e :: L, u, hu => by
    simp only [entCells, List.mem_cons] at hu
    rcases hu with rfl | rfl | rfl | hu
    · rfl
    · rfl
    · rfl
    · exact ent_one L u hu
theorem own_nil (w : World) (base : Nat) (e : TypeId) (size : Nat) : w.ownsRow base e size (.slice none 0 0) 0 [] := ⟨by simp, .inl ⟨rfl, rfl⟩⟩
theorem Txs.news {w : World} {B : Nat} {A : Option Addr} {T : List ByteArray} (h : Txs w B A T) : News w A T.length (T.map sv) := by
  refine ⟨fun e => ?_, fun ad e j u hu => ?_⟩
  · cases T with
    | nil => rfl
    | cons x T =>
      obtain ⟨ad, e1, _⟩ := h 0 x rfl
      rw [e] at e1; cases e1
  · rw [List.getElem?_map] at hu
    cases hx : T[j]? with
    | none => rw [hx] at hu; cases hu
    | some x =>
      rw [hx] at hu
      obtain ⟨ad', e1, _, h2⟩ := h j x hx
      rw [e] at e1; cases e1
      rw [h2]; exact hu
theorem add_add (ad : Addr) (j k : Nat) (hk : k ≠ 0) : ad.add (j + k) = ⟨(ad.add j).block, (ad.add j).off + k, none⟩ := by
  unfold Addr.add
  rw [if_neg (by omega)]
  split
  · subst_vars; simp
  · simp [Nat.add_assoc]
theorem entCells_get : ∀ (L : List Ent) (j : Nat) (u : Value), (entCells L)[j]? = some u → ∃ x, L[j / 3]? = some x ∧ ((j % 3 = 0 ∧ u = .string x.name) ∨ (j % 3 = 1 ∧ u = .bool x.dir) ∨ (j % 3 = 2 ∧ u = .string x.id))
  | [], j, u, h => by simp [entCells] at h
  | e :: L, 0, u, h => by simp [entCells] at h; exact ⟨e, rfl, .inl ⟨rfl, h.symm⟩⟩
  | e :: L, 1, u, h => by simp [entCells] at h; exact ⟨e, rfl, .inr (.inl ⟨rfl, h.symm⟩)⟩
  | e :: L, 2, u, h => by simp [entCells] at h; exact ⟨e, rfl, .inr (.inr ⟨rfl, h.symm⟩)⟩
  | e :: L, j + 3, u, h => by
    have h2 : (entCells L)[j]? = some u := h
    obtain ⟨x, h3, h4⟩ := entCells_get L j u h2
    refine ⟨x, ?_, ?_⟩
    · rw [show (j + 3) / 3 = j / 3 + 1 from by omega, List.getElem?_cons_succ]; exact h3
    · rw [show (j + 3) % 3 = j % 3 from by omega]; exact h4
theorem Ens.news {w : World} {B : Nat} {A : Option Addr} {L : List Ent} (h : Ens w B A L) : News w A L.length (entCells L) := by
  refine ⟨fun e => ?_, fun ad e j u hu => ?_⟩
  · cases L with
    | nil => rfl
    | cons x T =>
      obtain ⟨ad, e1, _⟩ := h 0 x rfl
      rw [e] at e1; cases e1
  · obtain ⟨x, h1, h2⟩ := entCells_get L j u hu
    obtain ⟨ad', e1, _, k0, k1, k2⟩ := h (j / 3) x h1
    rw [e] at e1; cases e1
    rcases h2 with ⟨hm, rfl⟩ | ⟨hm, rfl⟩ | ⟨hm, rfl⟩
    · rw [show j = j / 3 * 3 from by omega]; exact k0
    · rw [show j = j / 3 * 3 + 1 from by omega, add_add _ _ _ (by decide)]; exact k1
    · rw [show j = j / 3 * 3 + 2 from by omega, add_add _ _ _ (by decide)]; exact k2
end Go.Proofs.YtilolbefeoibhaaDoor
