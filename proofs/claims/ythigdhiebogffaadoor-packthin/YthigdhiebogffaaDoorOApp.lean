/- Texts in one: PEncObj, OApp. -/
import Derived.Test.YthigdhiebogffaaDoorDMath
import Derived.Test.YthigdhiebogffaaDoorDMake
import Derived.Test.YthigdhiebogffaaDoorODecC
import Derived.Deep.RegionLaw
/- (base).encodeDelta, (*bases).encodeObject: their contracts. -/
namespace Go.Proofs.YthigdhiebogffaaDoor
open Go.RowKit

/-- a base that may stand in a pack -/
structure PbOk (b : Pb) : Prop where
  obj : b.obj.size ≤ 8192
  index : b.index < 4611686018427387904
  deep : b.deep ≤ 8
def EdEnd (b : Pb) (s : ByteArray) (W : World) (x : Ending) (w' : World) : Prop :=
  ∃ d : ByteArray, applyD b.obj.data.toList d.data.toList = (s.data.toList, 0) ∧ x = .returned (.tuple #[.string (encP ⟨1, b.index, ⟨#[]⟩, d⟩).1, .int .i64 (encP ⟨1, b.index, ⟨#[]⟩, d⟩).2]) ∧ Below W.heap.size W w'

set_option maxRecDepth 100000 in
set_option maxHeartbeats 1000000 in
theorem encodeDelta_any (b : Pb) (hb : PbOk b) (s : ByteArray) (hs : s.size ≤ 8192) (W : World) :
    Calls Tryd.prog 61 #[.agg (bsArr b), .string s] W (EdEnd b s W) := by
  have A0 : Arr (W.alloc (.cells (bsArr b) 76)) W.heap.size 76 (bsArr b) := Arr.new _ _ _
  have b0 : Below W.heap.size W (W.alloc (.cells (bsArr b) 76)) := (Below.refl _ _).alloc (Nat.le_refl _) _
  go_enter Tryd.func61, Tryd.ntmps61
  go_upto_region 1 with fail
  refine wp_forget (fun V => Arr V W.heap.size 76 (bsArr b) ∧ Below W.heap.size W V) (by exact ⟨A0, b0⟩) ?_
  clear A0 b0
  rintro V ⟨A0, b0⟩
  have c0 : V.cell? ⟨W.heap.size, 0, none⟩ = some (.string b.obj) := A0.cell 0
  have q := Lib.hid (Make_ok b.obj s hb.obj hs V)
  go_wp2_with fail
  (with_reducible refine q.out.mono ?_)
  clear q c0
  rintro _ W1 ⟨Lo, rfl, z1, z2, z3, z4, b1⟩
  have hap : applyD b.obj.data.toList (bs (delta b.obj.size s.size Lo)).data.toList = (s.data.toList, 0) := by
    rw [bs_list]
    exact apply_delta b.obj.data.toList s.data.toList hb.obj hs Lo z1 z2
  clear z1 z2 z3 z4
  generalize bs (delta b.obj.size s.size Lo) = d at *
  have HAp := Lib.hid hap
  have A1 := A0.below b1 A0.lt
  have b2 := b0.trans (b1.mono b0.size)
  clear hap A0 b0 b1
  have c1 : W1.cell? ⟨W.heap.size, 1, none⟩ = some (.int .i64 b.index) := A1.cell 1
  have hlt := A1.lt
  have q : Hid (Calls Tryd.prog 59 #[.agg #[.int .i64 1, .int .i64 (b.index : Int), .string ⟨#[]⟩, .string d]] W1 fun x w' => x = .returned (.tuple #[.string (encP ⟨1, b.index, ⟨#[]⟩, d⟩).1, .int .i64 (encP ⟨1, b.index, ⟨#[]⟩, d⟩).2]) ∧ Below W1.heap.size W1 w') :=
    encode_any ⟨1, b.index, ⟨#[]⟩, d⟩ (Nat.le_refl 1) (fun e => by cases e) hb.index W1
  go_wp2_with fail
  (with_reducible refine q.out.mono ?_)
  clear q
  rintro _ W2 ⟨rfl, b3⟩
  go_wp2_with fail
  go_ret2
  exact ⟨d, HAp.out, rfl, b2.trans (b3.mono b2.size)⟩
/-- a representation of an object, by these bases: its bytes, the length of its chain -/
def Enc (L : List Pb) (s : ByteArray) (n : Nat) (e : List UInt8) : Prop :=
  (e = rep0 s ∧ n = 0) ∨ ∃ b ∈ L, ∃ d : ByteArray, d.size ≤ 4096 ∧ applyD b.obj.data.toList d.data.toList = (s.data.toList, 0) ∧ n = b.deep + 1 ∧ e.length < (rep0 s).length ∧ e = rep1 b.index d
def EoEnd (L : List Pb) (s : ByteArray) (W : World) (x : Ending) (w' : World) : Prop :=
  ∃ (e : List UInt8) (n : Nat), Enc L s n e ∧ x = .returned (.tuple #[.string (bs e), .int .i64 (n : Int)]) ∧ Below W.heap.size W w'
theorem encP_delta {b : Pb} {d : ByteArray} (h : (encP ⟨1, b.index, ⟨#[]⟩, d⟩).2 = 0) : d.size ≤ 4096 ∧ (encP ⟨1, b.index, ⟨#[]⟩, d⟩).1 = bs (rep1 b.index d) := by
  unfold encP at h ⊢
  simp only at h ⊢
  rw [if_neg (by omega)] at h ⊢
  by_cases hl : 4096 < d.size
  · rw [if_pos hl] at h; cases h
  · rw [if_neg hl] at h ⊢
    exact ⟨by omega, rfl⟩
theorem encP_whole (s : ByteArray) : encP ⟨0, 0, ⟨#[]⟩, s⟩ = (bs (rep0 s), 0) := by unfold encP; rw [if_pos rfl]

set_option maxRecDepth 100000 in
set_option maxHeartbeats 1000000 in
theorem encodeObject_any {base gb gm : Nat} {L : List Pb} {v : Value} {W : World} (h : Bz base gb gm L v W) (hL : ∀ b ∈ L, PbOk b) (s : ByteArray) (hs : s.size ≤ 8192) (hl : L.length ≤ 100000) :
    Calls Tryd.prog 38 #[.pointer (some ⟨gb, 0, none⟩), .string s] W (EoEnd L s W) := by
  have q : Hid (Calls Tryd.prog 59 #[.agg #[.int .i64 0, .int .i64 0, .string ⟨#[]⟩, .string s]] W fun x w' => x = .returned (.tuple #[.string (bs (rep0 s)), .int .i64 0]) ∧ Below W.heap.size W w') := by
    have := encode_any ⟨0, 0, ⟨#[]⟩, s⟩ (by show 0 ≤ 1; decide) (fun _ => by show s.size ≤ 100000; omega) (by show 0 < 4611686018427387904; decide) W
    rw [encP_whole] at this
    exact this
  have HEnc : Hid (Enc L s 0 (rep0 s)) := .inl ⟨rfl, rfl⟩
  go_enter Tryd.func38, Tryd.ntmps38
  go_wp2_with fail
  (with_reducible refine q.out.mono ?_)
  clear q
  rintro _ W1 ⟨rfl, b1⟩
  have B1 := h.bel b1
  have q := Lib.hid (likest_any B1 s (by omega) hl)
  clear h
  have hrs : Hid ((bs (rep0 s)).size = (rep0 s).length) := bs_size _
  go_wp2_with fail
  (with_reducible refine q.out.mono ?_)
  clear q
  rintro _ W2 ⟨hx, b2⟩
  have b12 := b1.trans (b2.mono b1.size)
  rcases hx with rfl | ⟨b, hb, rfl⟩
  · clear B1 b1 b2
    have b3 : Below W2.heap.size W2 ((W2.alloc (.cells zeroPb 76)).setRow W2.heap.size (bsArr nonePb)) := below_setRow ((Below.refl _ _).alloc (Nat.le_refl _) _) (Nat.le_refl _) _
    go_upto_region 3 with (refine wpList_store_row rfl 76 _ _ rfl W2.heap.size (bsArr nonePb) rfl rfl 76 zeroPb (Arr.new W2 _ _) (bsInfo _) rfl (bsArr_one _) ?_)
    refine wp_forget (fun V => Below W.heap.size W V) (by exact b12.trans (b3.mono b12.size)) ?_
    intro V bV
    go_wp2_with fail
    go_ret2
    exact ⟨rep0 s, 0, HEnc.out, rfl, bV⟩
  · clear B1 b1 b2
    have b3 : Below W2.heap.size W2 ((W2.alloc (.cells zeroPb 76)).setRow W2.heap.size (bsArr b)) := below_setRow ((Below.refl _ _).alloc (Nat.le_refl _) _) (Nat.le_refl _) _
    have A3 : Arr ((W2.alloc (.cells zeroPb 76)).setRow W2.heap.size (bsArr b)) W2.heap.size 76 (bsArr b) := (Arr.new _ _ _).row _
    go_upto_region 3 with (refine wpList_store_row rfl 76 _ _ rfl W2.heap.size (bsArr b) rfl rfl 76 zeroPb (Arr.new W2 _ _) (bsInfo _) rfl (bsArr_one _) ?_)
    refine wp_forget (fun V => Below W.heap.size W V ∧ Arr V W2.heap.size 76 (bsArr b)) (by exact ⟨b12.trans (b3.mono b12.size), A3⟩) ?_
    clear b3 A3 b12
    generalize W2.heap.size = k
    rintro V ⟨bV, A3⟩
    clear W2
    have hok := hL b hb
    have q := Lib.hid (encodeDelta_any b hok s hs V)
    have c0 : V.cell? ⟨k, 0, none⟩ = some (.string b.obj) := A3.cell 0
    have c1 : V.cell? ⟨k, 1, none⟩ = some (.int .i64 b.index) := A3.cell 1
    have c2 : V.cell? ⟨k, 2, none⟩ = some (.int .i64 b.deep) := A3.cell 2
    unfold bsArr at q
    go_wp2_with fail
    (with_reducible refine q.out.mono ?_)
    clear q c0 c1 c2
    rintro _ V2 ⟨d, hap, rfl, b4⟩
    have HD := Lib.hid (fun e => encP_delta (b := b) (d := d) e)
    have A4 := A3.below b4 A3.lt
    have b5 := bV.trans (b4.mono bV.size)
    have HAp := Lib.hid hap
    clear hap A3 bV b4
    have hd8 : b.deep ≤ 8 := hok.deep
    generalize (encP ⟨1, b.index, ⟨#[]⟩, d⟩).1 = es at *
    generalize (encP ⟨1, b.index, ⟨#[]⟩, d⟩).2 = ee at *
    by_cases hee : ee = 0
    · subst hee
      obtain ⟨hd4, hes⟩ := HD.out rfl
      have HEs := Lib.hid hes
      clear HD hes
      have hrl : (bs (rep0 s)).size ≤ 100000 := by
        rw [hrs.out, rep0, List.length_append, List.length_append]
        have := num_len9 0 (by omega)
        have := num_len9 s.size (by omega)
        have : s.data.toList.length = s.size := rfl
        omega
      by_cases hlt : es.size < (bs (rep0 s)).size
      · have hi : ¬ ((bs (rep0 s)).size : Int) ≤ es.size := by omega
        have c1 : V2.cell? ⟨k, 2, none⟩ = some (.int .i64 b.deep) := A4.cell 2
        have hen : Hid (Enc L s (b.deep + 1) (rep1 b.index d)) := .inr ⟨b, hb, d, hd4, HAp.out, rfl, by rw [← hrs.out, ← bs_size (rep1 b.index d), ← HEs.out]; exact hlt, rfl⟩
        generalize bs (rep0 s) = R0 at *
        go_wp2_with fail
        go_quiet (fail)
        go_wp2_with fail
        go_ret2
        exact ⟨_, b.deep + 1, hen.out, by rw [← HEs.out, Int.natCast_add]; rfl, below_drewN b5 _⟩
      · have hi : ((bs (rep0 s)).size : Int) ≤ es.size := by omega
        generalize hR0 : bs (rep0 s) = R0 at *
        have HR0 := Lib.hid hR0
        clear hR0
        go_wp2_with fail
        go_ret2
        exact ⟨rep0 s, 0, HEnc.out, by rw [HR0.out]; rfl, b5⟩
    · have hi : (ee != 0) = true := by simpa using hee
      generalize hR0 : bs (rep0 s) = R0 at *
      have HR0 := Lib.hid hR0
      clear hR0 hee
      go_wp2_with fail
      go_ret2
      exact ⟨rep0 s, 0, HEnc.out, by rw [HR0.out]; rfl, b5⟩
end Go.Proofs.YthigdhiebogffaaDoor

/- append of a slice that may be nil or empty, onto a slice of the call's own: laws for the walk. -/
namespace Go.Proofs.YthigdhiebogffaaDoor
open Go.RowKit

section
variable {P : Program} (w : World)
theorem run_app_none (base : Nat) (t ty e : TypeId) (i : TypeInfo) (size : Nat) (ht : P.underlying t = some (.slice e)) (hi : P.info? e = some i)
    (v : Value) (n c : Nat) (xs : List Value) (hown : w.ownsRow base e size v n xs) :
    (Builtin.append_ #[t, t] ty #[v, .slice none 0 c]).run P w = .ok v w := by
  rcases hown.2 with ⟨rfl, rfl⟩ | ⟨g, cap, cur, rfl, _, _, hnc, _⟩
  · simp [Builtin.append_, run_underlying ht, sizeOf, typeInfo, hi, Builtin.lenOf, Builtin.firstCells]
  · simp [Builtin.append_, run_underlying ht, sizeOf, typeInfo, hi, Builtin.lenOf, Builtin.firstCells, hnc, storeCells]
/-- what a slice that is appended holds: m elements, news -/
def News (A : Option Addr) (m : Nat) (news : List Value) : Prop := (A = none → m = 0) ∧ ∀ ad, A = some ad → ∀ j u, news[j]? = some u → w.cell? (ad.add j) = some u
theorem run_app (t ty : TypeId) (base : Nat) (e : TypeId) (i : TypeInfo) (z : Value) (size bytes : Nat) (ht : P.underlying t = some (.slice e)) (hi : P.info? e = some i) (hz : i.zero = some z)
    (hsize : i.size = size) (hby : i.bytes = bytes) (hzs : z.cells.size = size) (hsz : 0 < size)
    (v : Value) (n : Nat) (xs : List Value) (hown : w.ownsRow base e size v n xs)
    (A : Option Addr) (m c : Nat) (news : List Value) (hl : news.length = m * size) (hnews : News w A m news) (h1 : ∀ u ∈ news, u.oneCell' = true)
    (h63 : n + m ≤ maxLen) (hbytes : (n + m) * bytes ≤ 140737488355328) (hbase : base ≤ w.heap.size) :
    ∃ v' w', (Builtin.append_ #[t, t] ty #[v, .slice A m c]).run P w = .ok v' w' ∧ w'.ownsRow base e size v' (n + m) (xs ++ news) ∧ w.grownBy w' v.ownBlock := by
  cases A with
  | none =>
    obtain rfl := hnews.1 rfl
    have e0 : news = [] := List.eq_nil_of_length_eq_zero (by rw [hl]; omega)
    subst e0
    exact ⟨v, w, run_app_none w base t ty e i size ht hi v n c xs hown, by rw [List.append_nil]; exact hown, World.grownBy.refl _ _⟩
  | some ad =>
    obtain ⟨v', w', h2, h3, h4, _⟩ := run_append_own_at (P := P) w base t ty e i z size bytes ht hi hz hsize hby hzs hsz v n xs hown ad m c news hl (hnews.2 ad rfl) h1 h63 hbytes hbase
    exact ⟨v', w', h2, h3, h4⟩
theorem wp_app {o : Oper} {a : Act} {K : Act → World → Prop} {Q : Exit → Act → World → Prop} (s x : Operand) (t : TypeId)
    (ho : o.op = .call { callee := .builtin .append, args := #[s, x], argTypes := #[t, t] })
    (base : Nat) (e : TypeId) (i : TypeInfo) (z : Value) (size bytes : Nat) (ht : P.underlying t = some (.slice e)) (hi : P.info? e = some i) (hz : i.zero = some z)
    (hsize : i.size = size) (hby : i.bytes = bytes) (hzs : z.cells.size = size) (hsz : 0 < size)
    (v : Value) (n : Nat) (xs : List Value) (hs : a.eval s = v) (hown : w.ownsRow base e size v n xs)
    (A : Option Addr) (m c : Nat) (news : List Value) (hx : a.eval x = .slice A m c) (hl : news.length = m * size) (hnews : News w A m news) (h1 : ∀ u ∈ news, u.oneCell' = true)
    (h63 : n + m ≤ maxLen) (hbytes : (n + m) * bytes ≤ 140737488355328) (hbase : base ≤ w.heap.size)
    (h : ∀ v' w', w'.ownsRow base e size v' (n + m) (xs ++ news) → w.grownBy w' v.ownBlock → K (a.put o.dst v') w') : o.wp P a w K Q := by
  obtain ⟨v', w', hr, h2, h3⟩ := run_app (P := P) w t o.type base e i z size bytes ht hi hz hsize hby hzs hsz v n xs hown A m c news hl hnews h1 h63 hbytes hbase
  unfold Oper.wp execOp
  simp only [ho, resolve, invoke, builtin, Sem.run_bind, Sem.run_pure, Result.andThen_ok, List.map_toArray, List.map_cons, List.map_nil, hs, hx, hr]
  exact h v' w' h2 h3
theorem wpList_app {ops : Array Oper} {rest : List Oper} {o : Oper} {a : Act} {Q : Exit → Act → World → Prop} (hgd : o.guard = none) (s x : Operand) (t : TypeId)
    (ho : o.op = .call { callee := .builtin .append, args := #[s, x], argTypes := #[t, t] })
    (base : Nat) (e : TypeId) (i : TypeInfo) (z : Value) (size bytes : Nat) (ht : P.underlying t = some (.slice e)) (hi : P.info? e = some i) (hz : i.zero = some z)
    (hsize : i.size = size) (hby : i.bytes = bytes) (hzs : z.cells.size = size) (hsz : 0 < size)
    (v : Value) (n : Nat) (xs : List Value) (hs : a.eval s = v) (hown : w.ownsRow base e size v n xs)
    (A : Option Addr) (m c : Nat) (news : List Value) (hx : a.eval x = .slice A m c) (hl : news.length = m * size) (hnews : News w A m news) (h1 : ∀ u ∈ news, u.oneCell' = true)
    (h63 : n + m ≤ maxLen) (hbytes : (n + m) * bytes ≤ 140737488355328) (hbase : base ≤ w.heap.size)
    (h : ∀ v' w', w'.ownsRow base e size v' (n + m) (xs ++ news) → w.grownBy w' v.ownBlock → wpList P ops Q rest (a.put o.dst v') w') : wpList P ops Q (o :: rest) a w :=
  wpList_plain hgd fun _ hK => wp_app w s x t ho base e i z size bytes ht hi hz hsize hby hzs hsz v n xs hs hown A m c news hx hl hnews h1 h63 hbytes hbase fun v' w' h2 h3 => hK _ _ (h v' w' h2 h3)
/-- at a step of a region that draws -/
theorem step_app {ops : Array Oper} {o : Oper} {a : Act} {K : Act → World → Prop} {Q : Exit → Act → World → Prop} {E : Prop} (hgd : o.guard = none) (s x : Operand) (t : TypeId)
    (ho : o.op = .call { callee := .builtin .append, args := #[s, x], argTypes := #[t, t] })
    (base : Nat) (e : TypeId) (i : TypeInfo) (z : Value) (size bytes : Nat) (ht : P.underlying t = some (.slice e)) (hi : P.info? e = some i) (hz : i.zero = some z)
    (hsize : i.size = size) (hby : i.bytes = bytes) (hzs : z.cells.size = size) (hsz : 0 < size)
    (v : Value) (n : Nat) (xs : List Value) (hs : a.eval s = v) (hown : w.ownsRow base e size v n xs)
    (A : Option Addr) (m c : Nat) (news : List Value) (hx : a.eval x = .slice A m c) (hl : news.length = m * size) (hnews : News w A m news) (h1 : ∀ u ∈ news, u.oneCell' = true)
    (h63 : n + m ≤ maxLen) (hbytes : (n + m) * bytes ≤ 140737488355328) (hbase : base ≤ w.heap.size)
    (h : ∀ v' w', w'.ownsRow base e size v' (n + m) (xs ++ news) → w.grownBy w' v.ownBlock → K (a.put o.dst v') w') :
    if Region.wanted o (yielded ops a.tmps) = true then Oper.wp P o a w K Q else E := by
  have hw : Region.wanted o (yielded ops a.tmps) = true := by simp [Region.wanted, hgd]
  rw [if_pos hw]
  exact wp_app w s x t ho base e i z size bytes ht hi hz hsize hby hzs hsz v n xs hs hown A m c news hx hl hnews h1 h63 hbytes hbase h
end
theorem sv_one (T : List ByteArray) : ∀ u ∈ T.map sv, u.oneCell' = true := fun u hu => by
  obtain ⟨x, _, rfl⟩ := List.mem_map.1 hu
  rfl
theorem ent_one : ∀ (L : List Ent), ∀ u ∈ entCells L, u.oneCell' = true
  | [], u, hu => by simp [entCells] at hu
  | e :: L, u, hu => by
    simp only [entCells, List.mem_cons] at hu
    rcases hu with rfl | rfl | rfl | hu
    · rfl
    · rfl
    · rfl
    · exact ent_one L u hu
theorem own_nil (w : World) (base : Nat) (e : TypeId) (size : Nat) : w.ownsRow base e size (.slice none 0 0) 0 [] := ⟨by simp, .inl ⟨rfl, rfl⟩⟩
theorem Txs.news {w : World} {B : Nat} {A : Option Addr} {T : List ByteArray} (h : Txs w B A T) : News w A T.length (T.map sv) := by
  refine ⟨fun e => ?_, fun ad e j u hu => ?_⟩
  · cases T with
    | nil => rfl
    | cons x T =>
      obtain ⟨ad, e1, _⟩ := h 0 x rfl
      rw [e] at e1; cases e1
  · rw [List.getElem?_map] at hu
    cases hx : T[j]? with
    | none => rw [hx] at hu; cases hu
    | some x =>
      rw [hx] at hu
      obtain ⟨ad', e1, _, h2⟩ := h j x hx
      rw [e] at e1; cases e1
      rw [h2]; exact hu
theorem add_add (ad : Addr) (j k : Nat) (hk : k ≠ 0) : ad.add (j + k) = ⟨(ad.add j).block, (ad.add j).off + k, none⟩ := by
  unfold Addr.add
  rw [if_neg (by omega)]
  split
  · subst_vars; simp
  · simp [Nat.add_assoc]
theorem entCells_get : ∀ (L : List Ent) (j : Nat) (u : Value), (entCells L)[j]? = some u → ∃ x, L[j / 3]? = some x ∧ ((j % 3 = 0 ∧ u = .string x.name) ∨ (j % 3 = 1 ∧ u = .bool x.dir) ∨ (j % 3 = 2 ∧ u = .string x.id))
  | [], j, u, h => by simp [entCells] at h
  | e :: L, 0, u, h => by simp [entCells] at h; exact ⟨e, rfl, .inl ⟨rfl, h.symm⟩⟩
  | e :: L, 1, u, h => by simp [entCells] at h; exact ⟨e, rfl, .inr (.inl ⟨rfl, h.symm⟩)⟩
  | e :: L, 2, u, h => by simp [entCells] at h; exact ⟨e, rfl, .inr (.inr ⟨rfl, h.symm⟩)⟩
  | e :: L, j + 3, u, h => by
    have h2 : (entCells L)[j]? = some u := h
    obtain ⟨x, h3, h4⟩ := entCells_get L j u h2
    refine ⟨x, ?_, ?_⟩
    · rw [show (j + 3) / 3 = j / 3 + 1 from by omega, List.getElem?_cons_succ]; exact h3
    · rw [show (j + 3) % 3 = j % 3 from by omega]; exact h4
theorem Ens.news {w : World} {B : Nat} {A : Option Addr} {L : List Ent} (h : Ens w B A L) : News w A L.length (entCells L) := by
  refine ⟨fun e => ?_, fun ad e j u hu => ?_⟩
  · cases L with
    | nil => rfl
    | cons x T =>
      obtain ⟨ad, e1, _⟩ := h 0 x rfl
      rw [e] at e1; cases e1
  · obtain ⟨x, h1, h2⟩ := entCells_get L j u hu
    obtain ⟨ad', e1, _, k0, k1, k2⟩ := h (j / 3) x h1
    rw [e] at e1; cases e1
    rcases h2 with ⟨hm, rfl⟩ | ⟨hm, rfl⟩ | ⟨hm, rfl⟩
    · rw [show j = j / 3 * 3 from by omega]; exact k0
    · rw [show j = j / 3 * 3 + 1 from by omega, add_add _ _ _ (by decide)]; exact k1
    · rw [show j = j / 3 * 3 + 2 from by omega, add_add _ _ _ (by decide)]; exact k2
end Go.Proofs.YthigdhiebogffaaDoor
